package kind

import (
	"slices"

	"lariat/api"
)

// A sort is what values have in common that can be held against one another.
type sort struct {
	kind int
	enum string
}

// values are those that an expression may have: the ends are told of whole numbers alone.
type values struct {
	sort
	low, high int64
}

// A meaning is what a name, or another expression, says. An enum or a process says nothing, and has no op.
type meaning struct {
	op  int
	num int64
	values
}

// known is what is known of a model so far, and what its names mean.
type known struct {
	model api.Model
	names map[string]meaning
}

func newKnown() *known { return &known{names: map[string]meaning{}} }

// formula: a formula that fits what is known of its model.
func formula(m *api.Model, x *api.Expr) api.Expr {
	k := newKnown()
	for i := range m.Enums {
		k.nameValues(&m.Enums[i])
	}
	for i := range m.Vars {
		k.addVar(m.Vars[i])
	}
	y, of := k.look(x, true)
	if of.kind != api.KindBool {
		refuse(api.ErrKind, x)
	}
	return y
}

// means: has a name a meaning?
func (k *known) means(name string) bool {
	_, ok := k.names[name]
	return ok
}

// nameNew gives a meaning to a name that has none, and can't stand as an expression.
func (k *known) nameNew(name string, line, col int) {
	if k.means(name) {
		throw(api.ErrTwice, line, col)
	}
	k.names[name] = meaning{}
}

// nameValues gives an enum's values their meanings.
func (k *known) nameValues(e *api.Enum) {
	of := values{sort: sort{api.KindEnum, e.Name}}
	for i, name := range e.Values {
		k.names[name] = meaning{op: api.OpNum, num: int64(i), values: of}
	}
}

// addVar makes a variable known.
func (k *known) addVar(v api.Var) {
	k.names[v.Name] = meaning{op: api.OpVar, num: int64(len(k.model.Vars)), values: valuesOf(v)}
	k.model.Vars = append(k.model.Vars, v)
}

func valuesOf(v api.Var) values {
	return values{sort: sort{v.Kind, v.Enum}, low: v.Low, high: v.High}
}

// find: the place of an enum, -1, if there is none of that name.
func find(enums []api.Enum, name string) int {
	return slices.IndexFunc(enums, func(e api.Enum) bool { return e.Name == name })
}
