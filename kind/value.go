package kind

import "lariat/api"

// variable: the first variable in an expression without names, nil, if there is none.
func variable(x *api.Expr) *api.Expr {
	if x.Op == api.OpVar {
		return x
	}
	for i := range x.Kids {
		if v := variable(&x.Kids[i]); v != nil {
			return v
		}
	}
	return nil
}

// value: what an expression of a model is that has no variables in it.
func value(x *api.Expr) int64 {
	switch len(x.Kids) {
	case 1:
		return ofOne(x.Op, value(&x.Kids[0]))
	case 2:
		return ofTwo(x.Op, value(&x.Kids[0]), value(&x.Kids[1]))
	}
	return x.Num
}

func ofOne(op int, a int64) int64 {
	if op == api.OpNeg {
		return -a
	}
	return 1 - a
}

func ofTwo(op int, a, b int64) int64 {
	switch op {
	case api.OpMul:
		return a * b
	case api.OpAdd:
		return a + b
	case api.OpSub:
		return a - b
	case api.OpNe:
		return bit(a != b)
	case api.OpLt:
		return bit(a < b)
	case api.OpLe, api.OpImplies: // of bools, what is false is below what is true
		return bit(a <= b)
	case api.OpGt:
		return bit(a > b)
	case api.OpGe:
		return bit(a >= b)
	case api.OpAnd:
		return a & b
	case api.OpOr:
		return a | b
	}
	return bit(a == b) // OpEq, OpIff
}

func bit(b bool) int64 {
	if b {
		return 1
	}
	return 0
}
