package parse

import (
	"lariat/api"
	"lariat/tree"
)

// How close signs between two values bind.
const (
	loosest  = iota // <->
	implying        // the last one is the inner one
	either
	both
	inTime // the last one is the inner one
	comparing
	adding
	closest // *
)

// bindings: how close the ops bind whose signs stand between two values.
var bindings = [...]int{
	api.OpMul: closest, api.OpAdd: adding, api.OpSub: adding,
	api.OpEq: comparing, api.OpNe: comparing, api.OpLt: comparing, api.OpLe: comparing, api.OpGt: comparing, api.OpGe: comparing,
	api.OpU: inTime, api.OpR: inTime, api.OpS: inTime, api.OpT: inTime,
	api.OpAnd: both, api.OpOr: either, api.OpImplies: implying, api.OpIff: loosest,
}

// signed: the op with that sign, of those from one to another one, or 0.
func signed(text string, from, to int) int {
	for op := from; op <= to; op++ {
		if tree.Sign(op) == text {
			return op
		}
	}
	return 0
}

// whole: an expression that isn't a part of another one.
func (r *reader) whole() api.Expr {
	first := r.ahead()
	x := r.expr(loosest)
	if !tree.Right(x) {
		fail(first)
	}
	return x
}

// expr: an expression up to a sign that binds less close than the least.
func (r *reader) expr(least int) api.Expr {
	x := r.prefixed()
	for most := closest; ; {
		t := r.ahead()
		op := signed(t.Text, api.OpMul, api.OpIff)
		if op == 0 || bindings[op] < least || bindings[op] > most {
			return x
		}
		r.take()
		x = api.Expr{Op: op, Kids: []api.Expr{x, r.expr(leastWithin(bindings[op]))}, Line: t.Line, Col: t.Col}
		most = mostBehind(bindings[op])
	}
}

// leastWithin: how close signs bind at least in the second Kid of an op of that binding.
func leastWithin(binding int) int {
	if binding == implying || binding == inTime {
		return binding
	}
	return binding + 1
}

// mostBehind: how close signs bind at most behind both Kids of an op of that binding: a second comparison can't stand there.
func mostBehind(binding int) int {
	if binding == comparing {
		return binding - 1
	}
	return binding
}

// prefixed: a value, with the signs ahead of it.
func (r *reader) prefixed() api.Expr {
	t := r.ahead()
	op := signed(t.Text, api.OpNeg, api.OpH)
	if op == 0 {
		return r.value()
	}
	r.take()
	r.enter()
	x := r.prefixed()
	r.leave()
	return api.Expr{Op: op, Kids: []api.Expr{x}, Line: t.Line, Col: t.Col}
}

func (r *reader) value() api.Expr {
	if r.is("(") {
		return r.inBrackets()
	}
	t := r.ahead()
	x := api.Expr{Line: t.Line, Col: t.Col}
	switch {
	case t.Kind == api.TokNumber:
		x.Op, x.Num = api.OpNum, t.Num
	case t.Kind == api.TokName:
		x.Op, x.Name = api.OpName, t.Text
	case t.Text == "false":
		x.Op = api.OpBool
	case t.Text == "true":
		x.Op, x.Num = api.OpBool, 1
	default:
		fail(t)
	}
	r.take()
	return x
}

func (r *reader) inBrackets() api.Expr {
	r.must("(")
	r.enter()
	x := r.expr(loosest)
	r.must(")")
	r.leave()
	return x
}
