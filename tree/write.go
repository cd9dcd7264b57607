package tree

import (
	"strconv"
	"strings"

	"lariat/api"
)

// signs: how ops are written that have parts.
var signs = [...]string{
	api.OpNeg: "-", api.OpNot: "!",
	api.OpX: "X", api.OpF: "F", api.OpG: "G", api.OpY: "Y", api.OpZ: "Z", api.OpO: "O", api.OpH: "H",
	api.OpMul: "*", api.OpAdd: "+", api.OpSub: "-",
	api.OpEq: "=", api.OpNe: "!=", api.OpLt: "<", api.OpLe: "<=", api.OpGt: ">", api.OpGe: ">=",
	api.OpU: "U", api.OpR: "R", api.OpS: "S", api.OpT: "T",
	api.OpAnd: "&", api.OpOr: "|", api.OpImplies: "->", api.OpIff: "<->",
}

// Sign: how an op is written.
func Sign(op int) string {
	if op < 0 || op >= len(signs) {
		return ""
	}
	return signs[op]
}

// Expr: an expression as a text.
func Expr(x api.Expr) (string, api.Errno) {
	if !writable(&x) {
		return "", api.ErrTree
	}
	var b strings.Builder
	write(&b, &x)
	return b.String(), api.OK
}

func write(b *strings.Builder, x *api.Expr) {
	switch kids(x.Op) {
	case 0:
		b.WriteString(leaf(x))
	case 1:
		b.WriteString(ahead(x.Op))
		inBrackets(b, &x.Kids[0])
	case 2:
		inBrackets(b, &x.Kids[0])
		b.WriteString(" " + Sign(x.Op) + " ")
		inBrackets(b, &x.Kids[1])
	}
}

// leaf: what has no Kids, as a text.
func leaf(x *api.Expr) string {
	switch x.Op {
	case api.OpNum:
		return strconv.FormatInt(x.Num, 10)
	case api.OpBool:
		return strconv.FormatBool(x.Num == 1)
	}
	return x.Name
}

// ahead: an op's sign ahead of its one Kid; a letter would else be one name with it.
func ahead(op int) string {
	if op == api.OpNeg || op == api.OpNot {
		return Sign(op)
	}
	return Sign(op) + " "
}

func inBrackets(b *strings.Builder, x *api.Expr) {
	if len(x.Kids) == 0 {
		write(b, x)
		return
	}
	b.WriteByte('(')
	write(b, x)
	b.WriteByte(')')
}
