package cnf_test

import (
	"math"
	"slices"
	"testing"

	"lariat/api"
	"lariat/cnf"
)

const smallest = api.Lit(math.MinInt32)

func list(l ...api.Lit) []api.Lit { return l }

func formula(vars int, clauses ...[]api.Lit) api.Formula {
	return api.Formula{Vars: vars, Clauses: clauses}
}

// long is a formula of so many clauses, each of so many literals.
func long(clauses, lits int) api.Formula {
	clause := slices.Repeat(list(-1), lits)
	return formula(1, slices.Repeat([][]api.Lit{clause}, clauses)...)
}

// right is formulas that can be.
func right() []api.Formula {
	return []api.Formula{
		{},
		formula(0, nil),
		formula(0, list(), nil, list()),
		formula(1),
		formula(1, list(1)),
		formula(1, list(-1)),
		formula(1, list(1, -1, 1)),
		formula(2, list(1, -2)),
		formula(3, list(1, -2), nil, list(3, -1)),
		formula(3, list(3), list(3), list(-3, 3, 3)),
		formula(11, list(10, -11, 9), list(-10)),
		formula(api.MaxVars),
		formula(api.MaxVars, list(api.MaxVars, -api.MaxVars, 1)),
	}
}

// wrong is formulas that can't be.
func wrong() []api.Formula {
	return []api.Formula{
		formula(-1),
		formula(-1, nil),
		formula(-1, list(1)),
		formula(math.MinInt),
		formula(api.MaxVars + 1),
		formula(api.MaxVars+1, list(1)),
		formula(api.MaxVars+1, list(api.MaxVars+1)),
		formula(1<<32 + 1),
		formula(math.MaxInt),
		formula(0, list(1)),
		formula(0, list(-1)),
		formula(1, list(0)),
		formula(1, list(1, 0)),
		formula(1, list(0, 1)),
		formula(1, list(2)),
		formula(1, list(-2)),
		formula(2, list(1, 2), nil, list(-2, 3)),
		formula(2, list(1, 2), list(-3, 2), list(1)),
		formula(2, list(1), list(1, 0, 2)),
		formula(3, list(smallest)),
		formula(3, list(math.MaxInt32)),
		formula(api.MaxVars, list(api.MaxVars+1)),
		formula(api.MaxVars, list(-api.MaxVars-1)),
		formula(api.MaxVars, list(smallest)),
	}
}

// values goes through all that so many variables can be.
func values(vars int, yield func([]bool)) {
	for bits := range 1 << vars {
		v := make([]bool, vars)
		for i := range v {
			v[i] = bits>>i&1 == 1
		}
		yield(v)
	}
}

// small goes through all formulas of two variables with at most so many clauses of at most two literals.
func small(most int, yield func(api.Formula)) {
	var clauses [][]api.Lit
	for _, x := range list(0, 1, -1, 2, -2) {
		for _, y := range list(0, 1, -1, 2, -2) {
			if x == 0 && y != 0 {
				continue
			}
			clauses = append(clauses, slices.DeleteFunc(list(x, y), func(l api.Lit) bool { return l == 0 }))
		}
	}
	var grow func(of [][]api.Lit)
	grow = func(of [][]api.Lit) {
		yield(formula(2, of...))
		if len(of) == most {
			return
		}
		for _, clause := range clauses {
			grow(append(slices.Clone(of), clause))
		}
	}
	grow(nil)
}

// P2.1

func TestRight(t *testing.T) {
	for _, f := range right() {
		if !cnf.Right(f) {
			t.Error(f, "can be")
		}
	}
	for _, f := range wrong() {
		if cnf.Right(f) {
			t.Error(f, "can't be")
		}
	}
}

func TestRightAtTheLimits(t *testing.T) {
	more := func(f api.Formula, clause ...api.Lit) api.Formula {
		f.Clauses = append(f.Clauses, clause)
		return f
	}
	for _, c := range []struct {
		name string
		f    api.Formula
		want bool
	}{
		{"as many clauses as may be", long(api.MaxClauses, 0), true},
		{"one clause more", long(api.MaxClauses+1, 0), false},
		{"as many clauses and literals as may be", long(api.MaxClauses, 4), true},
		{"one literal more than may be", more(long(api.MaxClauses-1, 4), -1, -1, -1, -1, -1), false},
		{"one clause of as many literals as may be", long(1, api.MaxLits), true},
		{"one clause of one literal more", long(1, api.MaxLits+1), false},
		{"all literals in the first clause, and an empty one", more(long(1, api.MaxLits)), true},
		{"all literals in the first clause, and one more", more(long(1, api.MaxLits), 1), false},
		{"two clauses of half of them", long(2, api.MaxLits/2), true},
		{"far too many literals, in one list", long(api.MaxClauses, api.MaxLits), false},
		{"the last literal is none", more(long(1, api.MaxLits-1), 0), false},
	} {
		if got := cnf.Right(c.f); got != c.want {
			t.Error(c.name, got)
		}
	}
}

func TestSame(t *testing.T) {
	for _, c := range []struct {
		name string
		a, b api.Formula
		want bool
	}{
		{"none", formula(0), formula(0), true},
		{"nil and empty clauses", formula(3), formula(3, [][]api.Lit{}...), true},
		{"nil and empty clause", formula(3, nil), formula(3, list()), true},
		{"alike", formula(3, list(1, -2), list(3)), formula(3, list(1, -2), list(3)), true},
		{"alike, and wrong", formula(-7, list(0, smallest)), formula(-7, list(0, smallest)), true},
		{"other Vars", formula(2, list(1)), formula(3, list(1)), false},
		{"other Vars beyond 32 bits", formula(1), formula(1<<32 + 1), false},
		{"no clause and an empty one", formula(1), formula(1, nil), false},
		{"an empty clause and no clause", formula(1, nil), formula(1), false},
		{"a clause more", formula(2, list(1)), formula(2, list(1), list(2)), false},
		{"a clause fewer", formula(2, list(1), list(2)), formula(2, list(1)), false},
		{"clauses in another order", formula(2, list(1), list(2)), formula(2, list(2), list(1)), false},
		{"literals in another order", formula(2, list(1, 2)), formula(2, list(2, 1)), false},
		{"the other sign", formula(2, list(1, 2)), formula(2, list(1, -2)), false},
		{"a literal more", formula(2, list(1)), formula(2, list(1, 1)), false},
		{"a literal fewer", formula(2, list(1, 1)), formula(2, list(1)), false},
		{"literals parted otherwise", formula(2, list(1, 2), nil), formula(2, list(1), list(2)), false},
		{"other literals in the last clause alone", formula(2, list(1), list(2)), formula(2, list(1), list(1)), false},
	} {
		if got := cnf.Same(c.a, c.b); got != c.want {
			t.Error(c.name, got)
		}
	}
}

func TestFalse(t *testing.T) {
	two := formula(2, list(1, 2), list(-1, -2))
	for _, c := range []struct {
		name   string
		f      api.Formula
		values []bool
		want   int
	}{
		{"nothing to hold", formula(0), nil, -1},
		{"no clause", formula(2), []bool{true, false}, -1},
		{"an empty clause", formula(0, nil), nil, 0},
		{"an empty clause behind others", formula(1, list(1), list(1), nil), []bool{true}, 2},
		{"all hold", two, []bool{true, false}, -1},
		{"all hold, the other way", two, []bool{false, true}, -1},
		{"the first one doesn't", two, []bool{false, false}, 0},
		{"the second one doesn't", two, []bool{true, true}, 1},
		{"two don't", formula(2, list(1), list(-2), list(2), list(-1)), []bool{true, true}, 1},
		{"none does", formula(1, list(1), list(1)), []bool{false}, 0},
		{"both signs", formula(1, list(-1, 1)), []bool{false}, -1},
		{"the first literal holds", formula(3, list(-1, 2, 3)), []bool{false, false, false}, -1},
		{"the last literal holds", formula(3, list(1, 2, -3)), []bool{false, false, false}, -1},
		{"the greatest variable", formula(api.MaxVars, list(api.MaxVars)), make([]bool, api.MaxVars), 0},
		{"the greatest variable, false", formula(api.MaxVars, list(-api.MaxVars)), make([]bool, api.MaxVars), -1},
		{"many clauses", long(api.MaxClauses, 4), []bool{false}, -1},
	} {
		at, err := cnf.False(c.f, c.values...)
		if at != c.want || err != api.OK {
			t.Error(c.name, at, err)
		}
		ok, err := cnf.Holds(c.f, c.values...)
		if ok != (c.want == -1) || err != api.OK {
			t.Error(c.name, ok, err)
		}
	}
}

// firstFalse says once more, from the words, which clause doesn't hold.
func firstFalse(f api.Formula, v []bool) int {
	for i, clause := range f.Clauses {
		some := false
		for _, l := range clause {
			some = some || l > 0 && v[l-1] || l < 0 && !v[-l-1]
		}
		if !some {
			return i
		}
	}
	return -1
}

func TestFalseOfSmallFormulas(t *testing.T) {
	small(2, func(f api.Formula) {
		values(2, func(v []bool) {
			want := firstFalse(f, v)
			if at, err := cnf.False(f, v...); at != want || err != api.OK {
				t.Error("False", f, v, at, err)
			}
			if ok, err := cnf.Holds(f, v...); ok != (want == -1) || err != api.OK {
				t.Error("Holds", f, v, ok, err)
			}
		})
	})
}

func refuses(t *testing.T, f api.Formula, v []bool) {
	t.Helper()
	if at, err := cnf.False(f, v...); at != 0 || err != api.ErrFormula {
		t.Error("False", f.Vars, len(f.Clauses), len(v), at, err)
	}
	if ok, err := cnf.Holds(f, v...); ok || err != api.ErrFormula {
		t.Error("Holds", f.Vars, len(f.Clauses), len(v), ok, err)
	}
}

func TestFalseWithTooFewOrTooManyValues(t *testing.T) {
	for _, f := range right() {
		refuses(t, f, make([]bool, f.Vars+1))
		refuses(t, f, make([]bool, 2*f.Vars+1))
		if f.Vars > 0 {
			refuses(t, f, make([]bool, f.Vars-1))
			refuses(t, f, nil)
		}
	}
}

func TestFalseOfWhatCanNotBe(t *testing.T) {
	for _, f := range wrong() {
		for n := range 4 {
			refuses(t, f, make([]bool, n))
		}
		if f.Vars >= 0 && f.Vars <= api.MaxVars+1 {
			refuses(t, f, make([]bool, f.Vars))
		}
	}
	refuses(t, long(api.MaxClauses+1, 0), make([]bool, 1))
	refuses(t, long(1, api.MaxLits+1), make([]bool, 1))
}

// What holds everywhere: nothing changed, the same again.

func TestAskingChangesNothing(t *testing.T) {
	for _, whole := range [][]api.Lit{{101, 3, -1, 2, 102, 103, 104}, {101, 1, 0, 3, 102, 103, 104}} {
		clauses := [][]api.Lit{whole[1:4], nil, whole[1:3], list(99)}
		f := formula(3, clauses[:3]...)
		v := []bool{true, false, true, false, false}
		for range 2 {
			cnf.Right(f)
			cnf.Same(f, f)
			cnf.False(f, v[:3]...)
			cnf.Holds(f, v[:3]...)
			cnf.Write(f)
		}
		if !slices.Equal(v, []bool{true, false, true, false, false}) {
			t.Error("values were changed", v)
		}
		if whole[0] != 101 || !slices.Equal(whole[4:], list(102, 103, 104)) || !slices.Equal(clauses[3], list(99)) {
			t.Error("what lies about was changed", whole, clauses)
		}
		if !slices.Equal(clauses[0], whole[1:4]) || clauses[1] != nil || !slices.Equal(clauses[2], whole[1:3]) {
			t.Error("clauses were changed", clauses)
		}
		if !slices.Equal(whole[1:4], list(3, -1, 2)) && !slices.Equal(whole[1:4], list(1, 0, 3)) {
			t.Error("literals were changed", whole)
		}
	}
}

func TestAskedAgain(t *testing.T) {
	for _, f := range slices.Concat(right(), wrong()) {
		v := make([]bool, max(0, min(f.Vars, api.MaxVars)))
		at, err := cnf.False(f, v...)
		cnf.False(formula(1, list(1)), true)
		if again, errAgain := cnf.False(f, v...); again != at || errAgain != err {
			t.Error(f, at, err, again, errAgain)
		}
	}
}
