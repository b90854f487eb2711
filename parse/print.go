package parse

import (
	"strings"

	"bluebell/api"
	"bluebell/lex"
)

// Print returns a section as a source (P3.3).
func Print(s api.Section) (string, api.Errno) {
	if err := Check(s); err != api.OK {
		return "", err
	}
	var p printer
	if s.Name != "" {
		p.word("section")
		p.add(api.Token{Kind: api.TString, S: s.Name})
	}
	var text strings.Builder
	for i, d := range s.Decls {
		if i > 0 {
			text.WriteString(p.line() + "\n")
		}
		p.node(d)
	}
	text.WriteString(p.line() + "\n")
	return limited(text.String())
}

// PrintExpr does so for an expression (P3.3).
func PrintExpr(n api.Node) (string, api.Errno) {
	return printOne(n, anExpr)
}

// PrintCommand does so for a command (P3.3).
func PrintCommand(n api.Node) (string, api.Errno) {
	return printOne(n, aCommand)
}

func printOne(n api.Node, kind string) (string, api.Errno) {
	if err := check([]api.Node{n}, kind); err != api.OK {
		return "", err
	}
	var p printer
	p.node(n)
	return limited(p.line())
}

func limited(text string) (string, api.Errno) {
	if len(text) > api.MaxSource {
		return "", api.ErrLimit
	}
	return text, api.OK
}

// printer gathers the tokens of a line.
type printer struct {
	tokens []api.Token
}

// line returns the line that is gathered, and begins a new one.
func (p *printer) line() string {
	text, _ := lex.Text(p.tokens) // no error: trees are printed only if they are valid
	p.tokens = nil
	return text
}

func (p *printer) add(t api.Token) {
	p.tokens = append(p.tokens, t)
}

// word adds a key or sign.
func (p *printer) word(s string) {
	kind := api.TSign
	if s[0] >= 'a' && s[0] <= 'z' {
		kind = api.TKey
	}
	p.add(api.Token{Kind: kind, S: s})
}

func (p *printer) name(s string) {
	p.add(api.Token{Kind: api.TName, S: s})
}

// node adds a node, at a place that takes it as it is.
func (p *printer) node(n api.Node) {
	switch {
	case n.Op <= api.ESlct:
		p.expr(n)
	case n.Op <= api.CVec:
		p.command(n)
	default:
		p.declaration(n)
	}
}

func (p *printer) expr(n api.Node) {
	switch n.Op {
	case api.ENum:
		p.add(api.Token{Kind: api.TNumber, N: n.N})
	case api.EStr:
		p.add(api.Token{Kind: api.TString, S: n.S})
	case api.EName:
		p.name(n.S)
	case api.ECall:
		p.place(n.L[0], closedLevel)
		p.list("(", n.L[1:], ",", ")")
	case api.ECond:
		p.place(n.L[0], firstLevel)
		p.word("->")
		p.node(n.L[1])
		p.word(",")
		p.node(n.L[2])
	case api.ETable:
		p.word("table")
		p.list("(", n.L, ",", ")")
	default:
		if o, ok := operatorOf(n); ok {
			p.operation(o, n.L)
		} else {
			p.phrase(n)
		}
	}
}

// operation adds an operator and what stands beside it.
func (p *printer) operation(o operator, parts []api.Node) {
	if !o.isPrefix() {
		p.place(parts[0], o.left)
	}
	p.word(o.sign)
	p.place(parts[len(parts)-1], o.right)
}

// place adds an expression at a place that takes expressions from a level on.
func (p *printer) place(n api.Node, least int) {
	if levelOf(n) >= least {
		p.node(n)
		return
	}
	p.list("(", []api.Node{n}, "", ")")
}

// list adds nodes with words around and between them.
func (p *printer) list(before string, l []api.Node, between, behind string) {
	p.word(before)
	p.separated(l, between)
	p.word(behind)
}

func (p *printer) separated(l []api.Node, between string) {
	for i, n := range l {
		if i > 0 {
			p.word(between)
		}
		p.node(n)
	}
}

func (p *printer) command(n api.Node) {
	switch n.Op {
	case api.CAssign:
		p.pairs(n, ":=")
	case api.CLet:
		p.word("let")
		p.pairs(n, "=")
	case api.CBlock:
		p.list("{", n.L, ";", "}")
	default:
		p.phrase(n) // CNull has none, and no tokens
	}
}

// pairs adds the lefts and rights of a node, with a sign between them.
func (p *printer) pairs(n api.Node, sign string) {
	p.separated(n.L[:n.N], ",")
	p.word(sign)
	p.separated(n.L[n.N:], ",")
}

// phrase adds the words of a node's phrase, and what they stand for.
func (p *printer) phrase(n api.Node) {
	rest := n.L
	for _, word := range wordsOf(n.Op) {
		switch word {
		case aName:
			p.name(n.S)
			continue
		case perhapsBy:
			if n.N == 0 {
				continue
			}
			p.word("by")
		case anExpr, aCommand, aBlock, aBasic, aCall:
		default:
			p.word(word)
			continue
		}
		p.node(rest[0])
		rest = rest[1:]
	}
}

func (p *printer) declaration(n api.Node) {
	switch n.Op {
	case api.DManifest:
		p.consts("manifest", n)
	case api.DStatic:
		p.consts("static", n)
	case api.DGlobal:
		p.consts("global", n)
	case api.DProc:
		p.proc(n)
	}
}

func (p *printer) consts(key string, n api.Node) {
	p.word(key)
	p.word("{")
	for i, c := range n.L {
		if i > 0 {
			p.word(";")
		}
		p.name(c.S)
		p.word(constSign(n.Op))
		p.node(c.L[0])
	}
	p.word("}")
}

func (p *printer) proc(n api.Node) {
	last := len(n.L) - 1
	p.word("let")
	p.name(n.S)
	p.list("(", n.L[:last], ",", ")")
	if n.N == 1 {
		p.word("be")
	} else {
		p.word("=")
	}
	p.node(n.L[last])
}
