package kind

import (
	"slices"

	"lariat/api"
)

// mostStates is how many all variables may have together.
const mostStates = 1 << 48

// build: the model that a source is.
func build(s *api.Source) api.Model {
	k := newKnown()
	for i := range s.Enums {
		k.enum(&s.Enums[i])
	}
	states := int64(1)
	for i := range s.Vars {
		states *= k.decl(&s.Vars[i], mostStates/states)
	}
	for i := range s.Processes {
		k.process(&s.Processes[i])
	}
	return k.model
}

func (k *known) enum(e *api.Enum) {
	k.nameNew(e.Name, e.Line, e.Col)
	for _, name := range e.Values {
		k.nameNew(name, e.Line, e.Col)
	}
	k.nameValues(e)
	k.model.Enums = append(k.model.Enums, api.Enum{Name: e.Name, Values: slices.Clone(e.Values), Line: e.Line, Col: e.Col})
}

// decl makes a variable known, and tells how many values it has: no more than so many.
func (k *known) decl(d *api.Decl, most int64) int64 {
	if k.means(d.Name) {
		throw(api.ErrTwice, d.Line, d.Col)
	}
	v := k.typed(d)
	if v.Low > v.High {
		throw(api.ErrRange, d.Line, d.Col)
	}
	// Between any two numbers of 64 bits there are fewer than an unsigned one can tell.
	if uint64(v.High)-uint64(v.Low) >= api.MaxSpan {
		throw(api.ErrMany, d.Line, d.Col)
	}
	for i := range d.Begins {
		v.Begins, v.First = true, k.first(&v, &d.Begins[i])
	}
	many := v.High - v.Low + 1
	if many > most {
		throw(api.ErrMany, d.Line, d.Col)
	}
	k.addVar(v)
	return many
}

// typed: a variable of the kind, and from and to which value its Type says.
func (k *known) typed(d *api.Decl) api.Var {
	switch d.Type {
	case "":
		return api.Var{Name: d.Name, Kind: api.KindNum, Low: d.Low, High: d.High}
	case "bool":
		return api.Var{Name: d.Name, Kind: api.KindBool, High: 1}
	}
	e := find(k.model.Enums, d.Type)
	if e < 0 {
		throw(api.ErrName, d.Line, d.Col)
	}
	return api.Var{Name: d.Name, Kind: api.KindEnum, Enum: d.Type, High: int64(len(k.model.Enums[e].Values)) - 1}
}

// first: the value with which a variable begins.
func (k *known) first(v *api.Var, x *api.Expr) int64 {
	y := k.wanted(x, sort{v.Kind, v.Enum})
	if name := variable(&y); name != nil {
		refuse(api.ErrName, name)
	}
	n := value(&y)
	if n < v.Low || n > v.High {
		refuse(api.ErrRange, x)
	}
	return n
}

// wanted: an expression of a model, without its names, that has to be of that sort.
func (k *known) wanted(x *api.Expr, of sort) api.Expr {
	y, got := k.look(x, false)
	if got.sort != of {
		refuse(api.ErrKind, x)
	}
	return y
}

func (k *known) process(p *api.Process) {
	k.nameNew(p.Name, p.Line, p.Col)
	for i := range p.Rules {
		k.model.Moves = append(k.model.Moves, k.rule(&p.Rules[i]))
	}
}

func (k *known) rule(r *api.Rule) api.Move {
	m := api.Move{When: k.wanted(&r.When, sort{kind: api.KindBool})}
	for i := range r.Do {
		m.Do = append(m.Do, k.assign(&r.Do[i], m.Do))
	}
	return m
}

// assign: what a variable becomes, unless one of those ahead says so already.
func (k *known) assign(a *api.Assign, ahead []api.Set) api.Set {
	named := k.names[a.Name]
	if named.op != api.OpVar {
		throw(api.ErrName, a.Line, a.Col)
	}
	v := int(named.num)
	if slices.ContainsFunc(ahead, func(s api.Set) bool { return s.Var == v }) {
		throw(api.ErrTwice, a.Line, a.Col)
	}
	return api.Set{Var: v, To: k.wanted(&a.To, named.sort)}
}
