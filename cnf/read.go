package cnf

import (
	"strconv"
	"strings"

	"lariat/api"
)

const (
	blanks    = " \t"
	maxDigits = 9
)

// reader goes through the words of a text.
type reader struct {
	line  string // what is left of the line
	lines string // the lines behind it
}

// demand leaves a text that is none's; Read catches it.
func demand(so bool) {
	if !so {
		panic(api.ErrText)
	}
}

func (r *reader) formula() api.Formula {
	demand(r.word() == "p")
	demand(r.word() == "cnf")
	f := api.Formula{Vars: r.number()}
	said := r.number()
	// Told ahead of Right, so that what is too much isn't gathered first.
	demand(said >= 0 && said <= api.MaxClauses)
	room := api.MaxLits
	for range said {
		clause := r.clause(room)
		room -= len(clause)
		f.Clauses = append(f.Clauses, clause)
	}
	demand(r.word() == "")
	demand(Right(f))
	return f
}

func (r *reader) clause(room int) []api.Lit {
	var clause []api.Lit
	for n := r.number(); n != 0; n = r.number() {
		demand(len(clause) < room)
		// No number is cut to fit, as nine digits are less than a Lit may be.
		clause = append(clause, api.Lit(n))
	}
	return clause
}

func (r *reader) number() int {
	word := r.word()
	digits := strings.TrimPrefix(word, "-")
	demand(len(digits) <= maxDigits && strings.Trim(digits, "0123456789") == "")
	n, err := strconv.Atoi(word)
	demand(err == nil)
	return n
}

// word: the next word; an empty one, if there is none left.
func (r *reader) word() string {
	r.line = strings.TrimLeft(r.line, blanks)
	for r.line == "" && r.lines != "" {
		r.nextLine()
		r.line = strings.TrimLeft(r.line, blanks)
	}
	end := strings.IndexAny(r.line, blanks)
	if end < 0 {
		end = len(r.line)
	}
	word := r.line[:end]
	r.line = r.line[end:]
	return word
}

func (r *reader) nextLine() {
	r.line, r.lines, _ = strings.Cut(r.lines, "\n")
	if remark(r.line) {
		r.line = ""
	}
}

func remark(line string) bool {
	return line == "c" || strings.HasPrefix(line, "c ") || strings.HasPrefix(line, "c\t")
}
