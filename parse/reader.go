package parse

import "lariat/api"

// A reader goes through the words of a text. What can't be read is thrown as an api.Fault.
type reader struct {
	tokens []api.Token // those ahead, the end as the last one
	open   int         // brackets, and signs ahead of values, within which the first of them stands
}

// fail throws that a word can't stand where it is.
func fail(t api.Token) {
	panic(api.Fault{Code: api.ErrSyntax, Line: t.Line, Col: t.Col})
}

// ahead: the word that is read next.
func (r *reader) ahead() api.Token { return r.tokens[0] }

// take: the word ahead, and on to the next one. The end is never taken.
func (r *reader) take() api.Token {
	t := r.tokens[0]
	r.tokens = r.tokens[1:]
	return t
}

// is: is the word ahead that sign, or that kept word? No name and no number is written as one of these.
func (r *reader) is(text string) bool { return r.tokens[0].Text == text }

// skip takes a word, if it is ahead.
func (r *reader) skip(text string) bool {
	if r.is(text) {
		r.take()
		return true
	}
	return false
}

// must takes a word that has to be ahead.
func (r *reader) must(text string) {
	if !r.skip(text) {
		fail(r.ahead())
	}
}

// kind: the word ahead, which has to be of that kind.
func (r *reader) kind(kind int) api.Token {
	if t := r.ahead(); t.Kind != kind {
		fail(t)
	}
	return r.take()
}

func (r *reader) name() api.Token { return r.kind(api.TokName) }

func (r *reader) end() {
	if t := r.ahead(); t.Kind != api.TokEnd {
		fail(t)
	}
}

// enter: the word ahead stands within one more bracket or sign than the last one.
func (r *reader) enter() {
	r.open++
	if r.open > api.MaxDeep {
		fail(r.ahead())
	}
}

func (r *reader) leave() { r.open-- }

// more: a list with one thing more, which the word ahead begins.
func more[T any](r *reader, list []T, one func() T) []T {
	if len(list) == api.MaxList {
		fail(r.ahead())
	}
	return append(list, one())
}

// listed: at least one thing, with commas between.
func listed[T any](r *reader, one func() T) []T {
	list := more(r, nil, one)
	for r.skip(",") {
		list = more(r, list, one)
	}
	return list
}
