package watch_test

import (
	"math"
	"slices"
	"testing"

	"lariat/api"
	"lariat/watch"
)

// added is a clause, as the words tell of it.
type added struct {
	lits    []api.Lit
	present bool
}

// entry is a literal that is true.
type entry struct {
	l             api.Lit
	level, reason int
}

// plain says once more, from the words, what an Engine is. What follows it doesn't work out: it looks at what an Engine tells of that.
type plain struct {
	vars, depth int
	clauses     []added
	entries     []entry
	stuck       int // the depth above 0 of a conflict, behind which nothing is promised of Add and Propagate; 0, if there is none
}

func abs(l api.Lit) int {
	return max(int(l), -int(l))
}

func (p *plain) find(v int) entry {
	for _, x := range p.entries {
		if abs(x.l) == v {
			return x
		}
	}
	return entry{level: -1, reason: -1}
}

func (p *plain) value(l api.Lit) int {
	if l == 0 || p.find(abs(l)).l == 0 {
		return 0
	}
	if p.find(abs(l)).l == l {
		return 1
	}
	return -1
}

func (p *plain) knows(l api.Lit) bool {
	return abs(l) >= 1 && abs(l) <= p.vars
}

// clean: each of them once, by their variables, the true one first.
func (p *plain) clean(lits []api.Lit) []api.Lit {
	var clean []api.Lit
	for v := 1; v <= p.vars; v++ {
		for _, l := range []api.Lit{api.Lit(v), api.Lit(-v)} {
			if slices.Contains(lits, l) {
				clean = append(clean, l)
			}
		}
	}
	return clean
}

func (p *plain) add(lits []api.Lit) (int, api.Errno) {
	for _, l := range lits {
		if !p.knows(l) {
			return 0, api.ErrWatch
		}
	}
	p.clauses = append(p.clauses, added{p.clean(lits), true})
	return len(p.clauses) - 1, api.OK
}

func (p *plain) clause(id int) ([]api.Lit, bool) {
	if id < 0 || id >= len(p.clauses) || !p.clauses[id].present {
		return nil, false
	}
	return p.clauses[id].lits, true
}

func (p *plain) remove(id int) api.Errno {
	if _, ok := p.clause(id); !ok {
		return api.ErrWatch
	}
	for _, x := range p.entries {
		if x.reason == id {
			return api.ErrWatch
		}
	}
	p.clauses[id].present = false
	return api.OK
}

func (p *plain) decide(l api.Lit) api.Errno {
	switch {
	case !p.knows(l):
		return api.ErrWatch
	case p.value(l) != 0:
		return api.ErrSet
	}
	p.depth++
	p.entries = append(p.entries, entry{l, p.depth, -1})
	return api.OK
}

func (p *plain) back(level int) api.Errno {
	if level < 0 || level > p.depth {
		return api.ErrWatch
	}
	p.depth = level
	p.entries = slices.DeleteFunc(p.entries, func(x entry) bool { return x.level > level })
	if level < p.stuck {
		p.stuck = 0
	}
	return api.OK
}

// left: is the clause OPEN, and which of its literals have no value?
func (p *plain) left(c added) (bool, []api.Lit) {
	var none []api.Lit
	for _, l := range c.lits {
		if p.value(l) == 1 || slices.Contains(c.lits, -l) {
			return false, nil
		}
		if p.value(l) == 0 {
			none = append(none, l)
		}
	}
	return c.present && len(none) <= 1, none
}

// follows: may the literal be Set now, for this reason?
func (p *plain) follows(l api.Lit, reason int) bool {
	if reason < 0 || reason >= len(p.clauses) {
		return false
	}
	open, left := p.left(p.clauses[reason])
	return open && slices.Equal(left, []api.Lit{l})
}

// both does one and the same to an Engine and to what says it once more from the words.
type both struct {
	t *testing.T
	x *watch.Engine
	p *plain
}

func begin(t *testing.T, vars int) both {
	return both{t, watch.New(vars), &plain{vars: min(max(vars, 0), api.MaxVars)}}
}

// with is an Engine with clauses.
func with(t *testing.T, vars int, clauses ...[]api.Lit) both {
	t.Helper()
	b := begin(t, vars)
	for _, c := range clauses {
		b.add(c...)
	}
	return b
}

func (b both) grow() {
	b.t.Helper()
	want := 0
	if b.p.vars < api.MaxVars {
		b.p.vars++
		want = b.p.vars
	}
	if v := b.x.Grow(); v != want {
		b.t.Fatal("Grow", v, want)
	}
}

func (b both) add(lits ...api.Lit) {
	b.t.Helper()
	id, err := b.x.Add(lits...)
	if wantID, want := b.p.add(lits); id != wantID || err != want {
		b.t.Fatal("Add", lits, id, wantID, err, want)
	}
}

func (b both) remove(id int) {
	b.t.Helper()
	if err, want := b.x.Remove(id), b.p.remove(id); err != want {
		b.t.Fatal("Remove", id, err, want)
	}
}

func (b both) decide(l api.Lit) {
	b.t.Helper()
	if err, want := b.x.Decide(l), b.p.decide(l); err != want {
		b.t.Fatal("Decide", l, err, want)
	}
}

func (b both) back(level int) {
	b.t.Helper()
	if err, want := b.x.Back(level), b.p.back(level); err != want {
		b.t.Fatal("Back", level, err, want)
	}
}

// propagate looks at each literal that was Set, in order, and at what is OPEN behind them.
func (b both) propagate() int {
	b.t.Helper()
	id := b.x.Propagate()
	now := b.x.True()
	was := len(b.p.entries)
	if len(now) < was {
		b.t.Fatal("fewer are TRUE than before", now, was)
	}
	for _, l := range now[was:] {
		reason := b.x.Reason(abs(l))
		if !b.p.knows(l) || !b.p.follows(l, reason) {
			b.t.Fatal(l, "doesn't follow of", reason, "in", now)
		}
		b.p.entries = append(b.p.entries, entry{l, b.p.depth, reason})
	}
	if id >= 0 {
		if id >= len(b.p.clauses) {
			b.t.Fatal("no such CONFLICT", id)
		}
		if open, left := b.p.left(b.p.clauses[id]); !open || len(left) != 0 {
			b.t.Fatal("no CONFLICT", id, now)
		}
		b.p.stuck = b.p.depth
		return id
	}
	for i, c := range b.p.clauses {
		if open, left := b.p.left(c); id != -1 || open {
			b.t.Fatal("Propagate", id, "but OPEN is", i, left, now)
		}
	}
	return id
}

// settled is propagate without a conflict.
func (b both) settled() {
	b.t.Helper()
	if id := b.propagate(); id != -1 {
		b.t.Fatal("CONFLICT", id, b.x.True())
	}
}

// conflict is propagate up to one of these.
func (b both) conflict(ids ...int) {
	b.t.Helper()
	if id := b.propagate(); !slices.Contains(ids, id) {
		b.t.Fatal("Propagate", id, ids, b.x.True())
	}
}

// is holds an Engine against what it should be.
func (b both) is() {
	b.t.Helper()
	if b.x.Vars() != b.p.vars || b.x.Depth() != b.p.depth || b.x.Len() != len(b.p.clauses) {
		b.t.Fatal("Vars", b.x.Vars(), b.p.vars, "Depth", b.x.Depth(), b.p.depth, "Len", b.x.Len(), len(b.p.clauses))
	}
	now := b.x.True()
	if !slices.EqualFunc(now, b.p.entries, func(l api.Lit, x entry) bool { return l == x.l }) {
		b.t.Fatal("True", now, b.p.entries)
	}
	for v := -b.p.vars - 2; v <= b.p.vars+2; v++ {
		if got, want := b.x.Value(api.Lit(v)), b.p.value(api.Lit(v)); got != want {
			b.t.Fatal("Value", v, got, want)
		}
		want := b.p.find(max(v, 0))
		if b.x.Level(v) != want.level || b.x.Reason(v) != want.reason {
			b.t.Fatal("variable", v, "Level", b.x.Level(v), want.level, "Reason", b.x.Reason(v), want.reason)
		}
	}
	for id := -2; id < len(b.p.clauses)+2; id++ {
		lits, ok := b.x.Clause(id)
		if want, wantOK := b.p.clause(id); !slices.Equal(lits, want) || ok != wantOK {
			b.t.Fatal("Clause", id, lits, want, ok, wantOK)
		}
	}
}

// noLits is what is no literal of so many variables.
func noLits(vars int) []api.Lit {
	return []api.Lit{
		0, api.Lit(vars + 1), api.Lit(-vars - 1), api.Lit(vars + 2), api.Lit(-vars - 2),
		api.MaxVars + 1, -api.MaxVars - 1, math.MaxInt32, -math.MaxInt32, math.MinInt32,
	}
}

// noNumbers is what is no number of so many things, counted from 0 on.
func noNumbers(things int) []int {
	return []int{
		-1, -2, -things - 1, things, things + 1, 1 << 32, 1<<32 + 1, -1 << 32, -1<<32 + 1,
		math.MinInt32, math.MaxInt32, math.MinInt, math.MinInt + 1, math.MaxInt,
	}
}

// What follows may be asked in any order of calls.

func TestAllShortOrdersOfCalls(t *testing.T) {
	calls := []func(b both){
		func(b both) { b.add(-1, 2) },
		func(b both) { b.add(1, 2, 3) },
		func(b both) { b.add(-2) },
		func(b both) { b.add(2, -3) },
		func(b both) { b.decide(1) },
		func(b both) { b.decide(-2) },
		func(b both) { b.decide(-3) },
		func(b both) { b.remove(0) },
		func(b both) { b.back(0) },
		func(b both) { b.back(1) },
		func(b both) { b.propagate() },
	}
	const deep = 5
	var follow func(chosen []int)
	follow = func(chosen []int) {
		b := begin(t, 3)
		for _, c := range chosen {
			// Behind a conflict above the depth 0 nothing is promised of these.
			if b.p.stuck > 0 && (c < 4 || c == len(calls)-1) {
				return
			}
			calls[c](b)
		}
		b.is()
		if b.p.stuck == 0 {
			b.propagate()
			b.is()
		}
		if len(chosen) == deep {
			return
		}
		for c := range calls {
			follow(append(slices.Clone(chosen), c))
		}
	}
	follow(nil)
}

// chance is numbers that come in the same order each time.
type chance uint64

func (c *chance) below(n int) int {
	*c = *c*6364136223846793005 + 1442695040888963407
	return int(uint64(*c) >> 33 % uint64(n))
}

func (c *chance) lit(vars int) api.Lit {
	return api.Lit(1+c.below(vars)) * api.Lit(1-2*c.below(2))
}

func (c *chance) clause(vars, most int) []api.Lit {
	var lits []api.Lit
	for range 1 + c.below(most) {
		lits = append(lits, c.lit(vars))
	}
	return lits
}

func TestLongOrdersOfCalls(t *testing.T) {
	for seed := range 400 {
		c := chance(seed)
		vars := 4 + seed%9
		b := begin(t, vars)
		for range 300 {
			switch n := c.below(16); {
			case n == 0:
				b.back(c.below(b.p.depth+3) - 1)
			case n == 1:
				b.remove(c.below(len(b.p.clauses)+2) - 1)
			case n == 2 && c.below(8) == 0:
				b.grow()
			case n < 6:
				b.decide(c.lit(b.p.vars + 1))
			case b.p.stuck > 0:
				b.back(c.below(b.p.stuck))
			case n < 11:
				b.add(c.clause(b.p.vars, 2+seed%4)...)
			default:
				if b.propagate() >= 0 && b.p.depth == 0 {
					// Else all would be at an end here.
					b.remove(b.x.Propagate())
				}
			}
			b.is()
		}
	}
}
