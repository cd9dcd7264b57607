package lit_test

import (
	"math"
	"slices"
	"testing"

	"lariat/api"
	"lariat/lit"
)

const (
	greatest = api.MaxVars
	smallest = api.Lit(math.MinInt32)
	largest  = api.Lit(math.MaxInt32)
)

// wrong is what is no literal, at the edges of what is one and of the type.
func wrong() []api.Lit {
	return []api.Lit{0, greatest + 1, -greatest - 1, 2 * greatest, largest, -largest, smallest, smallest + 1}
}

func list(l ...api.Lit) []api.Lit { return l }

// P1.1

func TestRight(t *testing.T) {
	for _, l := range [][]api.Lit{nil, {}, {1}, {-1}, {greatest}, {-greatest}, {1, 1}, {1, -1}, {-greatest, 7, 1, greatest, -3}} {
		if !lit.Right(l...) {
			t.Error(l, "is of literals")
		}
	}
	for _, w := range wrong() {
		for _, l := range [][]api.Lit{{w}, {w, 1, 2}, {1, w, 2}, {1, 2, w}, {w, w}} {
			if lit.Right(l...) {
				t.Error(l, "has what is no literal")
			}
		}
	}
}

func TestOneLiteral(t *testing.T) {
	for _, c := range []struct {
		l     api.Lit
		v     int
		not   api.Lit
		place int
	}{
		{1, 1, -1, 2},
		{-1, 1, 1, 3},
		{2, 2, -2, 4},
		{-2, 2, 2, 5},
		{1000, 1000, -1000, 2000},
		{-1000, 1000, 1000, 2001},
		{greatest, greatest, -greatest, 2 * greatest},
		{-greatest, greatest, greatest, 2*greatest + 1},
	} {
		if v := lit.Var(c.l); v != c.v {
			t.Error("Var", c.l, v)
		}
		if not := lit.Not(c.l); not != c.not {
			t.Error("Not", c.l, not)
		}
		if place := lit.Place(c.l); place != c.place {
			t.Error("Place", c.l, place)
		}
		if l := lit.At(c.place); l != c.l {
			t.Error("At", c.place, l)
		}
	}
}

func TestNoLiteral(t *testing.T) {
	for _, w := range wrong() {
		if v := lit.Var(w); v != 0 {
			t.Error("Var", w, v)
		}
		if not := lit.Not(w); not != 0 {
			t.Error("Not", w, not)
		}
		if place := lit.Place(w); place != 0 {
			t.Error("Place", w, place)
		}
	}
}

func TestNoPlace(t *testing.T) {
	for _, place := range []int{
		0, 1, -1, -2, -3, 2*greatest + 2, 2*greatest + 3, math.MaxInt32, math.MinInt32,
		1<<32 + 2, 1<<33 + 2, -1<<32 + 2, -1<<33 + 2, math.MaxInt, math.MinInt, math.MinInt + 2,
	} {
		if l := lit.At(place); l != 0 {
			t.Error(place, "is none's Place, but At answers", l)
		}
	}
}

func TestEveryLiteral(t *testing.T) {
	place := 2
	for v := 1; v <= greatest; v++ {
		for _, l := range list(api.Lit(v), -api.Lit(v)) {
			if !lit.Right(l) || lit.Var(l) != v || lit.Not(l) != -l || lit.Place(l) != place || lit.At(place) != l {
				t.Fatal(l, lit.Right(l), lit.Var(l), lit.Not(l), lit.Place(l), lit.At(place))
			}
			place++
		}
	}
}

// P1.2

func TestClean(t *testing.T) {
	for _, c := range []struct {
		name     string
		in, want []api.Lit
		both     bool
	}{
		{"the chapter's example", list(3, -1, 3), list(-1, 3), false},
		{"none", nil, nil, false},
		{"none, not nil", list(), nil, false},
		{"one", list(-4), list(-4), false},
		{"in order already", list(1, -2, 3), list(1, -2, 3), false},
		{"by variables, not by numbers", list(-3, 2, -1), list(-1, 2, -3), false},
		{"by variables, not as words", list(10, 9, 100), list(9, 10, 100), false},
		{"twice", list(5, 5), list(5), false},
		{"false twice", list(-5, -5), list(-5), false},
		{"thrice, apart", list(5, 1, 5, 2, 5), list(1, 2, 5), false},
		{"both signs", list(1, -1), list(1, -1), true},
		{"both signs, the false one first", list(-1, 1), list(1, -1), true},
		{"both signs, each twice", list(-1, 1, -1, 1), list(1, -1), true},
		{"both signs of the last one", list(-3, 2, 1, 3), list(1, 2, 3, -3), true},
		{"both signs of one amid others", list(4, -2, 1, 2), list(1, 2, -2, 4), true},
		{"both signs of all", list(-2, -1, 2, 1), list(1, -1, 2, -2), true},
		{"neighbours of unlike signs", list(-1, 2, -3, 4), list(-1, 2, -3, 4), false},
		{"the edges", list(-greatest, 1, greatest, -1), list(1, -1, greatest, -greatest), true},
	} {
		got, both, err := lit.Clean(c.in...)
		if !slices.Equal(got, c.want) || both != c.both || err != api.OK {
			t.Error(c.name, got, both, err)
		}
	}
}

func TestCleanWrong(t *testing.T) {
	for _, w := range wrong() {
		for _, l := range [][]api.Lit{{w}, {w, 1, -1}, {1, w, -1}, {1, -1, w}, {w, w}, {w, -w}} {
			if got, both, err := lit.Clean(l...); len(got) != 0 || both || err != api.ErrLit {
				t.Error(l, got, both, err)
			}
		}
	}
}

// lists goes through all lists of at most so many of these literals.
func lists(of []api.Lit, most int, yield func([]api.Lit)) {
	var grow func(l []api.Lit)
	grow = func(l []api.Lit) {
		yield(slices.Clone(l))
		if len(l) == most {
			return
		}
		for _, x := range of {
			grow(append(slices.Clone(l), x))
		}
	}
	grow(nil)
}

// cleaned says once more, from the words, what Clean is of literals of the variables 1 to 3.
func cleaned(l []api.Lit) (clean []api.Lit, both bool) {
	for v := api.Lit(1); v <= 3; v++ {
		yes, no := slices.Contains(l, v), slices.Contains(l, -v)
		if yes {
			clean = append(clean, v)
		}
		if no {
			clean = append(clean, -v)
		}
		both = both || yes && no
	}
	return clean, both
}

func TestCleanOfAllShortLists(t *testing.T) {
	lists(list(3, -3, 2, -2, 1, -1), 5, func(l []api.Lit) {
		want, wantBoth := cleaned(l)
		if got, both, err := lit.Clean(l...); !slices.Equal(got, want) || both != wantBoth || err != api.OK {
			t.Error(l, got, both, err)
		}
	})
}

func TestCleanOfALongList(t *testing.T) {
	var l, want []api.Lit
	for v := api.Lit(greatest); v > 0; v-- {
		l = append(l, -v, v, -v)
	}
	for v := api.Lit(1); v <= greatest; v++ {
		want = append(want, v, -v)
	}
	if got, both, err := lit.Clean(l...); !slices.Equal(got, want) || !both || err != api.OK {
		t.Error(len(got), both, err)
	}
}

// P1.3

func TestResolve(t *testing.T) {
	for _, c := range []struct {
		name string
		a, b []api.Lit
		v    int
		want []api.Lit
	}{
		{"the chapter's example", list(1, 2), list(-1, 3), 1, list(2, 3)},
		{"nothing left", list(1), list(-1), 1, nil},
		{"nothing left of a", list(1), list(-1, -4), 1, list(-4)},
		{"nothing left of b", list(-4, 1), list(-1), 1, list(-4)},
		{"the same literal in both", list(2, 5, -3), list(-5, -3, 2), 5, list(2, -3)},
		{"in order", list(9, -4, 1), list(8, -9, -2), 9, list(1, -2, -4, 8)},
		{"another variable by both signs", list(1, 2), list(-1, -2), 1, list(2, -2)},
		{"v twice in a", list(1, 1, 2), list(-1), 1, list(2)},
		{"v twice in b", list(1), list(-1, 2, -1), 1, list(2)},
		{"v by both signs in a", list(1, -1), list(-1, 2), 1, list(-1, 2)},
		{"v by both signs in b", list(1, 2), list(-1, 1), 1, list(1, 2)},
		{"v by both signs in both", list(-1, 1), list(1, -1), 1, list(1, -1)},
		{"the greatest variable", list(greatest, -1), list(-greatest, 1), greatest, list(1, -1)},
	} {
		if got, err := lit.Resolve(c.a, c.b, c.v); !slices.Equal(got, c.want) || err != api.OK {
			t.Error(c.name, got, err)
		}
	}
}

func TestResolveWithoutTheVariable(t *testing.T) {
	for _, c := range []struct {
		name string
		a, b []api.Lit
		v    int
	}{
		{"none at all", nil, nil, 1},
		{"none in a", nil, list(-1), 1},
		{"none in b", list(1), nil, 1},
		{"not in a", list(2), list(-1), 1},
		{"not in b", list(1), list(-2), 1},
		{"false in a", list(-1), list(-1), 1},
		{"true in b", list(1), list(1), 1},
		{"changed about", list(-1), list(1), 1},
		{"another variable", list(1), list(-1), 2},
		{"0", list(1), list(-1), 0},
		{"below 0", list(1), list(-1), -1},
		{"below 0, changed about", list(-1), list(1), -1},
		{"too great", list(1), list(-1), greatest + 1},
		{"1, if it were cut to 32 bits", list(1), list(-1), 1<<32 + 1},
		{"-1, if it were cut to 32 bits", list(-1), list(1), math.MaxUint32},
		{"the greatest number", list(1), list(-1), math.MaxInt},
		{"the smallest number", list(1), list(-1), math.MinInt},
		{"the smallest number of 32 bits", list(1), list(-1), math.MinInt32},
	} {
		if got, err := lit.Resolve(c.a, c.b, c.v); len(got) != 0 || err != api.ErrLit {
			t.Error(c.name, got, err)
		}
	}
}

func TestResolveWrong(t *testing.T) {
	for _, w := range wrong() {
		for _, c := range []struct{ a, b []api.Lit }{
			{list(w, 1, 2), list(-1, 3)}, {list(1, w, 2), list(-1, 3)}, {list(1, 2, w), list(-1, 3)},
			{list(1, 2), list(w, -1, 3)}, {list(1, 2), list(-1, w, 3)}, {list(1, 2), list(-1, 3, w)},
			{list(1, w), list(-1, w)}, {list(1, w), list(-1, -w)},
		} {
			if got, err := lit.Resolve(c.a, c.b, 1); len(got) != 0 || err != api.ErrLit {
				t.Error(c.a, c.b, got, err)
			}
		}
		if got, err := lit.Resolve(list(w), list(-w), int(w)); len(got) != 0 || err != api.ErrLit {
			t.Error(w, got, err)
		}
	}
}

func TestResolveOfAllShortLists(t *testing.T) {
	of := list(1, -1, 2, -2)
	lists(of, 3, func(a []api.Lit) {
		lists(of, 3, func(b []api.Lit) {
			for v := api.Lit(1); v <= 2; v++ {
				var want []api.Lit
				wantErr := api.ErrLit
				if slices.Contains(a, v) && slices.Contains(b, -v) {
					rest := slices.DeleteFunc(slices.Clone(a), func(x api.Lit) bool { return x == v })
					rest = append(rest, slices.DeleteFunc(slices.Clone(b), func(x api.Lit) bool { return x == -v })...)
					want, _ = cleaned(rest)
					wantErr = api.OK
				}
				if got, err := lit.Resolve(a, b, int(v)); !slices.Equal(got, want) || err != wantErr {
					t.Error(a, b, v, got, err)
				}
			}
		})
	})
}

func TestWithin(t *testing.T) {
	for _, c := range []struct {
		name string
		a, b []api.Lit
		want bool
	}{
		{"none in none", nil, nil, true},
		{"none in some", list(), list(1), true},
		{"some in none", list(1), nil, false},
		{"the same ones", list(1, -2), list(1, -2), true},
		{"in another order", list(3, 1, -2), list(-2, 3, 1), true},
		{"fewer", list(-2), list(3, -2, 1), true},
		{"more", list(3, -2, 1), list(-2), false},
		{"twice in a", list(2, 2), list(1, 2), true},
		{"twice in b", list(2), list(2, 2), true},
		{"the other sign", list(-2), list(2), false},
		{"the other sign, of b", list(2), list(-2), false},
		{"both signs in one", list(2, -2), list(2), false},
		{"one in both signs", list(2), list(-2, 2), true},
		{"the first one is not", list(4, 1), list(1, 2, 3), false},
		{"the last one is not", list(1, 4), list(1, 2, 3), false},
		{"the edges", list(-greatest, 1), list(1, greatest, -1, -greatest), true},
		{"what is no literal is in b", list(0, smallest), list(smallest, 1, 0), true},
		{"what is no literal is not in b", list(0), list(1), false},
		{"what is no literal, in b alone", list(1), list(0, 1, largest), true},
	} {
		if got := lit.Within(c.a, c.b); got != c.want {
			t.Error(c.name, got)
		}
	}
}

func TestWithinOfAllShortLists(t *testing.T) {
	of := list(2, -1, 1, -2)
	lists(of, 3, func(a []api.Lit) {
		lists(of, 3, func(b []api.Lit) {
			want := true
			for _, x := range a {
				want = want && slices.Contains(b, x)
			}
			if got := lit.Within(a, b); got != want {
				t.Error(a, b, got)
			}
		})
	})
}

func TestWithinOfLongLists(t *testing.T) {
	var up, down []api.Lit
	for v := api.Lit(1); v <= greatest; v++ {
		up = append(up, v)
		down = append(down, greatest+1-v)
	}
	if !lit.Within(up, down) || lit.Within(append(up, -1), down) {
		t.Error("long lists")
	}
}

// What holds everywhere: new memory, nothing changed, the same again.

// roomy lays a list amid others, so that what is written ahead of it or into its spare room is seen.
func roomy(l []api.Lit) (piece, whole []api.Lit) {
	whole = append(list(101), l...)
	whole = append(whole, 102, 103, 104, 105, 106, 107, 108, 109)
	return whole[1 : 1+len(l)], whole
}

// scribble writes over a list and all its spare room.
func scribble(l []api.Lit) {
	l = l[:cap(l)]
	for i := range l {
		l[i] = -99
	}
}

func TestCleanLeavesWhatIsHandedIn(t *testing.T) {
	for _, in := range [][]api.Lit{{}, {7}, {1, 2}, {3, -1, 3}, {2, -2, 1}, {2, 0, 1}, {5, 5, 5, 5}} {
		piece, whole := roomy(in)
		before := slices.Clone(whole)
		got, both, err := lit.Clean(piece...)
		if !slices.Equal(whole, before) {
			t.Error(in, "was changed", whole)
		}
		want := slices.Clone(got)
		scribble(whole)
		if !slices.Equal(got, want) {
			t.Error(in, "is kept in the answer", got)
		}
		copy(whole, before)
		scribble(got)
		if !slices.Equal(whole, before) {
			t.Error(in, "shares memory with the answer", whole)
		}
		if again, bothAgain, errAgain := lit.Clean(piece...); !slices.Equal(again, want) || bothAgain != both || errAgain != err {
			t.Error(in, "again", again, bothAgain, errAgain)
		}
	}
}

func TestResolveLeavesWhatIsHandedIn(t *testing.T) {
	for _, c := range []struct{ a, b []api.Lit }{
		{list(1), list(-1)}, {list(1, 3, 2), list(3, -1)}, {list(3, 2, 1), list(-1)}, {list(1), list(4, -1, 2)},
		{list(2, 1, -1), list(1, -1, -2)}, {list(2, 3), list(-1, 4)}, {list(1, 0), list(-1)}, {nil, nil},
	} {
		a, wholeA := roomy(c.a)
		b, wholeB := roomy(c.b)
		beforeA, beforeB := slices.Clone(wholeA), slices.Clone(wholeB)
		unchanged := func() bool { return slices.Equal(wholeA, beforeA) && slices.Equal(wholeB, beforeB) }
		got, err := lit.Resolve(a, b, 1)
		if !unchanged() {
			t.Error(c, "was changed", wholeA, wholeB)
		}
		want := slices.Clone(got)
		scribble(wholeA)
		scribble(wholeB)
		if !slices.Equal(got, want) {
			t.Error(c, "is kept in the answer", got)
		}
		copy(wholeA, beforeA)
		copy(wholeB, beforeB)
		scribble(got)
		if !unchanged() {
			t.Error(c, "shares memory with the answer", wholeA, wholeB)
		}
		if again, errAgain := lit.Resolve(a, b, 1); !slices.Equal(again, want) || errAgain != err {
			t.Error(c, "again", again, errAgain)
		}
	}
}

func TestAskingChangesNothing(t *testing.T) {
	for _, in := range [][]api.Lit{{}, {3, -1, 3}, {2, 0, -2, 1}, {smallest, 1, largest}} {
		a, wholeA := roomy(in)
		b, wholeB := roomy(in)
		beforeA, beforeB := slices.Clone(wholeA), slices.Clone(wholeB)
		lit.Right(a...)
		lit.Within(a, b)
		lit.Within(b, a[:0])
		if !slices.Equal(wholeA, beforeA) || !slices.Equal(wholeB, beforeB) {
			t.Error(in, "was changed", wholeA, wholeB)
		}
	}
}

func TestOneListHandedInTwice(t *testing.T) {
	l := list(2, -1, 1)
	if got, err := lit.Resolve(l, l, 1); !slices.Equal(got, list(1, -1, 2)) || err != api.OK || !slices.Equal(l, list(2, -1, 1)) {
		t.Error(got, err, l)
	}
	if !lit.Within(l, l) || !slices.Equal(l, list(2, -1, 1)) {
		t.Error("Within", l)
	}
}
