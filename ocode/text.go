package ocode

import (
	"strconv"
	"strings"

	"bluebell/api"
	"bluebell/lex"
)

// Text returns the text of code (P6.2).
func Text(c api.Code) (string, api.Errno) {
	if err := Check(c); err != api.OK {
		return "", err
	}
	lines := []string{"code " + quote(c.Name)}
	for _, d := range c.Data {
		lines = append(lines, areaLine(d))
	}
	for _, e := range c.Globals {
		lines = append(lines, "entry"+numberText(e.Global)+numberText(e.Proc))
	}
	for _, o := range c.Ops {
		lines = append(lines, opLine(o))
	}
	lines = append(lines, "end", "")
	return strings.Join(lines, "\n"), api.OK
}

// quote quotes a string of code that is valid.
func quote(s string) string {
	quoted, _ := lex.Quote(s)
	return quoted
}

// numberText returns a number with the blank before it.
func numberText(n int) string {
	return " " + strconv.Itoa(n)
}

func areaLine(d api.Data) string {
	if d.IsText {
		return "text " + quote(d.Text)
	}
	var line strings.Builder
	line.WriteString("words")
	for _, w := range d.Words {
		line.WriteString(numberText(w))
	}
	return line.String()
}

func opLine(o api.Op) string {
	row := instructions[o.Op]
	line := row.name + row.n.text(o.N)
	if row.m != nothing {
		line += row.m.text(o.M)
	}
	return line
}

// isOperator reports whether numbers of a kind are written as operators' names.
func (k kind) isOperator() bool {
	return k == binary || k == unary
}

// text returns a number of a kind as it is written, with the blank before it.
func (k kind) text(n int) string {
	if k.isOperator() {
		return " " + operators[n]
	}
	return numberText(n)
}
