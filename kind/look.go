package kind

import "lariat/api"

// furthest is how far from 0 a whole number may be.
const furthest = 100000000

// look: an expression without its names, and the values that it may have. Words of time stand where they are let.
func (k *known) look(x *api.Expr, timed bool) (api.Expr, values) {
	y := api.Expr{Line: x.Line, Col: x.Col}
	var kids []values
	for i := range x.Kids {
		kid, of := k.look(&x.Kids[i], timed && x.Op != api.OpEq && x.Op != api.OpNe)
		y.Kids, kids = append(y.Kids, kid), append(kids, of)
	}
	means := k.meaning(x)
	if !fits(x.Op, kids, timed) {
		refuse(api.ErrKind, x)
	}
	y.Op, y.Num = means.op, means.num
	of := means.values
	if of.kind == api.KindNum && len(kids) > 0 {
		of.low, of.high = ends(x.Op, kids)
	}
	if of.kind == api.KindNum && (of.low < -furthest || of.high > furthest) {
		refuse(api.ErrMany, x)
	}
	return y, of
}

// meaning: what an expression means, whatever its Kids are.
func (k *known) meaning(x *api.Expr) meaning {
	switch x.Op {
	case api.OpName, api.OpVar:
		return k.named(x)
	case api.OpNum:
		return meaning{x.Op, x.Num, values{sort{kind: api.KindNum}, x.Num, x.Num}}
	case api.OpNeg, api.OpMul, api.OpAdd, api.OpSub:
		return meaning{op: x.Op, num: x.Num, values: values{sort: sort{kind: api.KindNum}}}
	}
	return meaning{op: x.Op, num: x.Num, values: values{sort: sort{kind: api.KindBool}}}
}

// named: what a name, or a variable by its number, means.
func (k *known) named(x *api.Expr) meaning {
	if x.Op == api.OpVar && 0 <= x.Num && x.Num < int64(len(k.model.Vars)) {
		return meaning{api.OpVar, x.Num, valuesOf(k.model.Vars[x.Num])}
	}
	named := k.names[x.Name]
	if x.Op == api.OpVar || named.op == 0 {
		refuse(api.ErrName, x)
	}
	return named
}

// fits: are the Kids of the sorts that an op wants?
func fits(op int, kids []values, timed bool) bool {
	switch op {
	case api.OpNum, api.OpBool, api.OpName, api.OpVar:
		return len(kids) == 0
	case api.OpNeg:
		return are(kids, 1, api.KindNum)
	case api.OpMul, api.OpAdd, api.OpSub, api.OpLt, api.OpLe, api.OpGt, api.OpGe:
		return are(kids, 2, api.KindNum)
	case api.OpEq, api.OpNe:
		return len(kids) == 2 && kids[0].sort == kids[1].sort
	case api.OpNot:
		return are(kids, 1, api.KindBool)
	case api.OpAnd, api.OpOr, api.OpImplies, api.OpIff:
		return are(kids, 2, api.KindBool)
	case api.OpX, api.OpF, api.OpG, api.OpY, api.OpZ, api.OpO, api.OpH:
		return timed && are(kids, 1, api.KindBool)
	case api.OpU, api.OpR, api.OpS, api.OpT:
		return timed && are(kids, 2, api.KindBool)
	}
	return false
}

// are: are there so many, all of a kind?
func are(kids []values, many, kind int) bool {
	for _, k := range kids {
		if k.kind != kind {
			return false
		}
	}
	return len(kids) == many
}

// ends: the least and the greatest whole number that come of the ends of the Kids.
func ends(op int, kids []values) (low, high int64) {
	if op == api.OpNeg {
		return -kids[0].high, -kids[0].low
	}
	a, b := kids[0], kids[1]
	switch op {
	case api.OpAdd:
		return a.low + b.low, a.high + b.high
	case api.OpSub:
		return a.low - b.high, a.high - b.low
	}
	one, two, three, four := a.low*b.low, a.low*b.high, a.high*b.low, a.high*b.high
	return min(one, two, three, four), max(one, two, three, four)
}
