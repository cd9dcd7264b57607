package tree

import (
	"slices"
	"strconv"
	"strings"

	"lariat/api"
	"lariat/word"
)

// Source: a model as a text.
func Source(m api.Source) (string, api.Errno) {
	if !every(m.Enums, rightEnum) || !every(m.Vars, rightVar) || !every(m.Processes, rightProcess) {
		return "", api.ErrTree
	}
	var b strings.Builder
	for _, e := range m.Enums {
		b.WriteString("enum " + e.Name + " { " + strings.Join(e.Values, ", ") + " }\n")
	}
	for i := range m.Vars {
		writeVar(&b, &m.Vars[i])
	}
	for i := range m.Processes {
		writeProcess(&b, &m.Processes[i])
	}
	return b.String(), api.OK
}

// every: is a list no longer than it may be, and all in it right?
func every[T any](list []T, right func(T) bool) bool {
	return len(list) <= api.MaxList && !slices.ContainsFunc(list, func(x T) bool { return !right(x) })
}

func rightEnum(e api.Enum) bool {
	return word.Name(e.Name) && len(e.Values) > 0 && every(e.Values, word.Name)
}

func rightVar(v api.Decl) bool {
	return word.Name(v.Name) && rightType(v) && len(v.Begins) <= 1 && every(v.Begins, writableOne)
}

func rightType(v api.Decl) bool {
	if v.Type == "" {
		return inRange(v.Low) && inRange(v.High)
	}
	return (v.Type == "bool" || word.Name(v.Type)) && v.Low == 0 && v.High == 0
}

func inRange(n int64) bool { return -api.MaxNumber <= n && n <= api.MaxNumber }

func rightProcess(p api.Process) bool { return word.Name(p.Name) && every(p.Rules, rightRule) }

func rightRule(r api.Rule) bool {
	return writableOne(r.When) && len(r.Do) > 0 && every(r.Do, rightAssign)
}

func rightAssign(a api.Assign) bool { return word.Name(a.Name) && writableOne(a.To) }

func writableOne(x api.Expr) bool { return writable(&x) }

func writeVar(b *strings.Builder, v *api.Decl) {
	b.WriteString("var " + v.Name + " : ")
	if v.Type == "" {
		b.WriteString(strconv.FormatInt(v.Low, 10) + ".." + strconv.FormatInt(v.High, 10))
	} else {
		b.WriteString(v.Type)
	}
	for i := range v.Begins {
		b.WriteString(" = ")
		write(b, &v.Begins[i])
	}
	b.WriteString(";\n")
}

func writeProcess(b *strings.Builder, p *api.Process) {
	b.WriteString("process " + p.Name + " {\n")
	for i := range p.Rules {
		writeRule(b, &p.Rules[i])
	}
	b.WriteString("}\n")
}

func writeRule(b *strings.Builder, r *api.Rule) {
	b.WriteString("  when ")
	write(b, &r.When)
	b.WriteString(" do ")
	for i := range r.Do {
		if i > 0 {
			b.WriteString(", ")
		}
		b.WriteString(r.Do[i].Name + " := ")
		write(b, &r.Do[i].To)
	}
	b.WriteString(";\n")
}

// SameSource: are two the same?
func SameSource(a, b api.Source) bool {
	return slices.EqualFunc(a.Enums, b.Enums, sameEnum) &&
		slices.EqualFunc(a.Vars, b.Vars, sameVar) &&
		slices.EqualFunc(a.Processes, b.Processes, sameProcess)
}

func sameEnum(a, b api.Enum) bool { return a.Name == b.Name && slices.Equal(a.Values, b.Values) }

func sameVar(a, b api.Decl) bool {
	return a.Name == b.Name && a.Type == b.Type && a.Low == b.Low && a.High == b.High &&
		slices.EqualFunc(a.Begins, b.Begins, Same)
}

func sameProcess(a, b api.Process) bool {
	return a.Name == b.Name && slices.EqualFunc(a.Rules, b.Rules, sameRule)
}

func sameRule(a, b api.Rule) bool {
	return Same(a.When, b.When) && slices.EqualFunc(a.Do, b.Do, sameAssign)
}

func sameAssign(a, b api.Assign) bool { return a.Name == b.Name && Same(a.To, b.To) }
