package parse

import (
	"strings"

	"bluebell/api"
)

// The levels of expressions are those of the grammar: 0 is e, 1 is e1, and so on.
const (
	wholeLevel  = 0  // between keys, commas or parentheses
	firstLevel  = 1  // the lowest one of operators
	closedLevel = 11 // with or without arguments behind it
)

// operator is a row of the table of operators. Its places on the left and on the right take expressions of the levels told there or of higher ones; a prefix has nothing on its left.
type operator struct {
	sign        string
	op, n       int // of its node
	level       int // of the expression that it makes
	left, right int
}

const noLeft = 0

var operators = [...]operator{
	{"xor", api.EBin, api.Xor, 1, 1, 2},
	{"eqv", api.EBin, api.Eqv, 1, 1, 2},
	{"|", api.EBin, api.Or, 2, 2, 3},
	{"&", api.EBin, api.And, 3, 3, 4},
	{"~", api.EUn, api.Not, 4, noLeft, 4},
	{"=", api.EBin, api.Eq, 5, 6, 6},
	{"~=", api.EBin, api.Ne, 5, 6, 6},
	{"<", api.EBin, api.Lt, 5, 6, 6},
	{"<=", api.EBin, api.Le, 5, 6, 6},
	{">", api.EBin, api.Gt, 5, 6, 6},
	{">=", api.EBin, api.Ge, 5, 6, 6},
	{"<<", api.EBin, api.Shl, 6, 6, 7},
	{">>", api.EBin, api.Shr, 6, 6, 7},
	{"-", api.EUn, api.Neg, 7, noLeft, 8},
	{"+", api.EBin, api.Add, 7, 7, 8},
	{"-", api.EBin, api.Sub, 7, 7, 8},
	{"*", api.EBin, api.Mul, 8, 8, 9},
	{"/", api.EBin, api.Div, 8, 8, 9},
	{"rem", api.EBin, api.Rem, 8, 8, 9},
	{"!", api.ESub, 0, 9, 9, 10},
	{"%", api.EByte, 0, 9, 9, 10},
	{"of", api.ESel, 0, 9, 9, 10},
	{"!", api.ELoad, 0, 10, noLeft, 10},
	{"@", api.EAddr, 0, 10, noLeft, 10},
}

func (o operator) isPrefix() bool {
	return o.left == noLeft
}

// nests reports whether the operator can stand directly before itself.
func (o operator) nests() bool {
	return o.isPrefix() && o.right == o.level
}

// operatorAt returns the operator that a token is, as a prefix or between two expressions.
func operatorAt(t api.Token, prefix bool) (operator, bool) {
	for _, o := range operators {
		if isFixed(t, o.sign) && o.isPrefix() == prefix {
			return o, true
		}
	}
	return operator{}, false
}

// operatorOf returns the operator that makes a node.
func operatorOf(n api.Node) (operator, bool) {
	for _, o := range operators {
		if o.op == n.Op && o.n == n.N {
			return o, true
		}
	}
	return operator{}, false
}

// levelOf returns the level of an expression that is in no parentheses.
func levelOf(n api.Node) int {
	if n.Op == api.ECond {
		return wholeLevel
	}
	if o, ok := operatorOf(n); ok {
		return o.level
	}
	return closedLevel
}

// phrase is a row of the table of phrases: how a node with this Op is written. Its words are keys and signs, but for the ones that stand for the node's name and parts; these words are also the kinds of nodes.
type phrase struct {
	op   int
	form string
}

// Words of phrases that stand for something.
const (
	aName     = "N" // the node's S
	anExpr    = "E"
	aCommand  = "C"
	aBlock    = "B"
	perhapsBy = "Y" // `by` and an expression, if the node's N is 1
	aBasic    = "R" // a basic with or without repeat and its like behind it
	aCall     = "F"
)

// Further kinds of nodes.
const (
	anItem   = "I"
	aNamed   = "P" // a name that is a node: a parameter, or one that is declared
	aConst   = "K"
	aSection = "D" // a declaration of a section
)

var phrases = [...]phrase{
	{api.ETrue, "true"},
	{api.EFalse, "false"},
	{api.EAny, "?"},
	{api.EValof, "valof B"},
	{api.ESlct, "slct ( E , E , E )"},
	{api.CCall, "F"},
	{api.CIf, "if E do C"},
	{api.CUnless, "unless E do C"},
	{api.CTest, "test E then C else C"},
	{api.CWhile, "while E do C"},
	{api.CUntil, "until E do C"},
	{api.CRepeat, "R repeat"},
	{api.CRepWh, "R repeatwhile E"},
	{api.CRepUn, "R repeatuntil E"},
	{api.CFor, "for N = E to E Y do C"},
	{api.CSwitch, "switchon E into B"},
	{api.CCase, "case E : C"},
	{api.CDefault, "default : C"},
	{api.CBreak, "break"},
	{api.CLoop, "loop"},
	{api.CEndcase, "endcase"},
	{api.CReturn, "return"},
	{api.CResult, "resultis E"},
	{api.CGoto, "goto N"},
	{api.CLabel, "N : C"},
	{api.CFinish, "finish"},
	{api.CVec, "let N = vec E"},
}

// begins reports whether a token is the phrase's first word.
func (p phrase) begins(t api.Token) bool {
	first, _, _ := strings.Cut(p.form, " ")
	return isFixed(t, first)
}

// wordsOf returns the words of the phrase of an Op; of an Op without a phrase there are none.
func wordsOf(op int) []string {
	for _, p := range phrases {
		if p.op == op {
			return strings.Fields(p.form)
		}
	}
	return nil
}

// isKind reports whether nodes with this Op are of a kind.
func isKind(op int, kind string) bool {
	switch kind {
	case anExpr:
		return op >= api.ENum && op <= api.ESlct
	case aCommand:
		return op >= api.CAssign && op <= api.CNull
	case anItem:
		return op >= api.CAssign && op <= api.CVec
	case aBasic:
		return isBasic(op)
	case aBlock:
		return op == api.CBlock
	case aCall:
		return op == api.ECall
	case aNamed:
		return op == api.EName
	case aConst:
		return op == api.DConst
	case aSection:
		return op == api.DManifest || op == api.DStatic || op == api.DGlobal || op == api.DProc
	}
	return false
}

// isBasic reports whether commands with this Op may be repeated.
func isBasic(op int) bool {
	switch op {
	case api.CAssign, api.CCall, api.CBlock, api.CRepeat, api.CRepWh, api.CRepUn,
		api.CBreak, api.CLoop, api.CEndcase, api.CReturn, api.CFinish, api.CResult, api.CGoto:
		return true
	}
	return false
}

// isFixed reports whether a token is a certain key or sign.
func isFixed(t api.Token, word string) bool {
	return (t.Kind == api.TKey || t.Kind == api.TSign) && t.S == word
}

// constSign returns what stands behind the names of constants in a declaration.
func constSign(op int) string {
	if op == api.DGlobal {
		return ":"
	}
	return "="
}
