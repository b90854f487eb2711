package parse

import (
	"slices"
	"strings"

	"bluebell/api"
	"bluebell/lex"
)

// Check tells what keeps a section from coming from a source (P3.2).
func Check(s api.Section) api.Errno {
	if !isQuotable(s.Name) {
		return api.ErrForm
	}
	return check(s.Decls, aSection)
}

// CheckExpr does so for an expression (P3.2).
func CheckExpr(n api.Node) api.Errno {
	return check([]api.Node{n}, anExpr)
}

// check looks at trees of a kind.
func check(l []api.Node, kind string) api.Errno {
	for _, n := range l {
		if !formed(n, kind) {
			return api.ErrForm
		}
	}
	if Size(l) > api.MaxNodes || slices.ContainsFunc(l, crowded) {
		return api.ErrLimit
	}
	for _, n := range l {
		if Levels(n) > api.MaxNest {
			return api.ErrDeep
		}
	}
	return api.OK
}

// formed reports whether a tree is of a kind and all its nodes are as said, limits aside.
func formed(n api.Node, kind string) bool {
	if !isKind(n.Op, kind) || !numberFits(n) || !textFits(n) {
		return false
	}
	kinds := partKinds(n)
	if len(kinds) != len(n.L) {
		return false
	}
	for i, part := range n.L {
		if !formed(part, kinds[i]) {
			return false
		}
	}
	return true
}

// numberFits reports whether a node's N is as said.
func numberFits(n api.Node) bool {
	switch n.Op {
	case api.ENum:
		return n.N == int(int32(n.N))
	case api.EBin, api.EUn:
		_, ok := operatorOf(n)
		return ok
	case api.CAssign, api.CLet:
		return n.N > 0 && n.N == len(n.L)/2
	case api.CFor, api.DProc:
		return n.N == 0 || n.N == 1
	}
	return n.N == 0
}

// textFits reports whether a node's S is as said.
func textFits(n api.Node) bool {
	switch n.Op {
	case api.EStr:
		return isQuotable(n.S)
	case api.EName, api.CFor, api.CGoto, api.CLabel, api.CVec, api.DConst, api.DProc:
		return lex.IsName(n.S)
	}
	return n.S == ""
}

func isQuotable(s string) bool {
	_, err := lex.Quote(s)
	return err == api.OK
}

// partKinds returns of which kinds the parts of a node have to be. It is a list of another length than the parts if they are too few or too many.
func partKinds(n api.Node) []string {
	count := len(n.L)
	switch n.Op {
	case api.ECall, api.ETable:
		return slices.Repeat([]string{anExpr}, max(count, 1))
	case api.ECond:
		return []string{anExpr, anExpr, anExpr}
	case api.CAssign:
		return slices.Repeat([]string{anExpr}, 2*n.N)
	case api.CBlock:
		return slices.Repeat([]string{anItem}, max(count, 1))
	case api.CLet:
		return append(slices.Repeat([]string{aNamed}, n.N), slices.Repeat([]string{anExpr}, n.N)...)
	case api.DManifest, api.DStatic, api.DGlobal:
		return slices.Repeat([]string{aConst}, count)
	case api.DConst:
		return []string{anExpr}
	case api.DProc:
		return append(slices.Repeat([]string{aNamed}, max(count-1, 0)), bodyKind(n))
	}
	if o, ok := operatorOf(n); ok {
		if o.isPrefix() {
			return []string{anExpr}
		}
		return []string{anExpr, anExpr}
	}
	return phraseKinds(n)
}

// bodyKind returns the kind of a procedure's body.
func bodyKind(n api.Node) string {
	if n.N == 1 {
		return aCommand
	}
	return anExpr
}

// phraseKinds returns the kinds of the parts of a node that has a phrase; all others that are left have no parts.
func phraseKinds(n api.Node) []string {
	var kinds []string
	for _, word := range wordsOf(n.Op) {
		switch {
		case word == perhapsBy && n.N == 1:
			kinds = append(kinds, anExpr)
		case strings.Contains(anExpr+aCommand+aBlock+aBasic+aCall, word):
			kinds = append(kinds, word)
		}
	}
	return kinds
}

// crowded reports whether a tree that is formed has a node with too many parts.
func crowded(n api.Node) bool {
	return tooMany(n) || slices.ContainsFunc(n.L, crowded)
}

func tooMany(n api.Node) bool {
	switch n.Op {
	case api.ECall, api.DProc:
		return len(n.L)-1 > api.MaxArgs
	case api.ETable:
		return len(n.L) > api.MaxString
	case api.CAssign, api.CLet:
		return n.N > api.MaxArgs
	}
	return false
}
