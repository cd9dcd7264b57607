package parse

import "lariat/api"

// source: a model, up to the end.
func (r *reader) source() api.Source {
	var m api.Source
	for {
		switch {
		case r.is("enum"):
			m.Enums = more(r, m.Enums, r.enum)
		case r.is("var"):
			m.Vars = more(r, m.Vars, r.decl)
		case r.is("process"):
			m.Processes = more(r, m.Processes, r.process)
		default:
			return m
		}
	}
}

func (r *reader) enum() api.Enum {
	r.must("enum")
	name := r.name()
	r.must("{")
	values := listed(r, func() string { return r.name().Text })
	r.must("}")
	return api.Enum{Name: name.Text, Values: values, Line: name.Line, Col: name.Col}
}

func (r *reader) decl() api.Decl {
	r.must("var")
	name := r.name()
	v := api.Decl{Name: name.Text, Line: name.Line, Col: name.Col}
	r.must(":")
	if t := r.ahead(); t.Kind == api.TokName || r.is("bool") {
		v.Type = r.take().Text
	} else {
		v.Low = r.bound()
		r.must("..")
		v.High = r.bound()
	}
	if r.skip("=") {
		v.Begins = []api.Expr{r.whole()}
	}
	r.must(";")
	return v
}

// bound: a range's end.
func (r *reader) bound() int64 {
	if r.skip("-") {
		return -r.kind(api.TokNumber).Num
	}
	return r.kind(api.TokNumber).Num
}

func (r *reader) process() api.Process {
	r.must("process")
	name := r.name()
	r.must("{")
	var rules []api.Rule
	for !r.skip("}") {
		rules = more(r, rules, r.rule)
	}
	return api.Process{Name: name.Text, Rules: rules, Line: name.Line, Col: name.Col}
}

func (r *reader) rule() api.Rule {
	r.must("when")
	when := r.whole()
	r.must("do")
	do := listed(r, r.assign)
	r.must(";")
	return api.Rule{When: when, Do: do}
}

func (r *reader) assign() api.Assign {
	name := r.name()
	r.must(":=")
	return api.Assign{Name: name.Text, To: r.whole(), Line: name.Line, Col: name.Col}
}
