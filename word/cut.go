package word

import (
	"strings"

	"lariat/api"
)

const maxDigits = 7

// signs: one that begins with another one stands ahead of it, as the longest one counts.
var signs = [...]string{
	"<->", "..", ":=", "!=", "<=", ">=", "->",
	"{", "}", "(", ")", ":", ",", ";", "=", "<", ">", "+", "-", "*", "!", "&", "|",
}

// cutter is how far a text is cut.
type cutter struct {
	rest      string
	line, col int // where the rest begins
	tokens    []api.Token
}

// Cut: a text's words.
func Cut(s string) ([]api.Token, api.Fault) {
	c := cutter{rest: s, line: 1, col: 1}
	if len(s) > api.MaxText {
		return nil, c.fault(api.ErrLong)
	}
	for c.skip(); c.rest != ""; c.skip() {
		t, err := next(c.rest)
		if err != api.OK {
			return nil, c.fault(err)
		}
		c.put(t)
	}
	c.put(api.Token{Kind: api.TokEnd})
	return c.tokens, api.Fault{}
}

// skip goes over what stands between words.
func (c *cutter) skip() {
	c.pass(first(c.rest, oneOf(blanks)))
	for strings.HasPrefix(c.rest, "//") {
		c.pass(first(c.rest, noneOf("\n")))
		c.pass(first(c.rest, oneOf(blanks)))
	}
}

// pass goes over bytes with which the rest begins.
func (c *cutter) pass(s string) {
	c.rest = c.rest[len(s):]
	c.col += len(s)
	if n := strings.Count(s, "\n"); n > 0 {
		c.line += n
		c.col = len(s) - strings.LastIndexByte(s, '\n')
	}
}

// put: the rest begins with that word.
func (c *cutter) put(t api.Token) {
	t.Line, t.Col = c.line, c.col
	c.tokens = append(c.tokens, t)
	c.pass(t.Text)
}

func (c *cutter) fault(err api.Errno) api.Fault {
	return api.Fault{Code: err, Line: c.line, Col: c.col}
}

// next: the word with which a text begins.
func next(s string) (api.Token, api.Errno) {
	switch {
	case begins(s, letters):
		return letterWord(named(s))
	case begins(s, digits):
		return number(first(s, oneOf(digits)))
	}
	return sign(s)
}

func letterWord(s string) (api.Token, api.Errno) {
	if len(s) > api.MaxName {
		return api.Token{}, api.ErrLong
	}
	if Kept(s) {
		return api.Token{Kind: api.TokWord, Text: s}, api.OK
	}
	return api.Token{Kind: api.TokName, Text: s}, api.OK
}

func number(s string) (api.Token, api.Errno) {
	if len(s) > maxDigits {
		return api.Token{}, api.ErrLong
	}
	n := int64(0)
	for i := range len(s) {
		n = 10*n + int64(s[i]-'0')
	}
	if n > api.MaxNumber {
		return api.Token{}, api.ErrLong
	}
	return api.Token{Kind: api.TokNumber, Text: s, Num: n}, api.OK
}

// sign: the longest one with which a text begins.
func sign(s string) (api.Token, api.Errno) {
	for _, x := range signs {
		if strings.HasPrefix(s, x) {
			return api.Token{Kind: api.TokSign, Text: x}, api.OK
		}
	}
	return api.Token{}, api.ErrSign
}
