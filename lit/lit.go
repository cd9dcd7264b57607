// Package lit is layer 1: literals, and clauses of them.
package lit

import (
	"cmp"
	"slices"

	"lariat/api"
)

// Right: are all of them literals?
func Right(l ...api.Lit) bool {
	for _, x := range l {
		if Var(x) == 0 {
			return false
		}
	}
	return true
}

// Var: the variable; 0 of what is no literal.
func Var(l api.Lit) int {
	// Turned in 64 bits, as the smallest Lit has no opposite among its own type.
	wide := int64(l)
	v := max(wide, -wide)
	if v > api.MaxVars {
		return 0
	}
	return int(v)
}

// Not: the other sign; 0 of what is no literal.
func Not(l api.Lit) api.Lit {
	if Var(l) == 0 {
		return 0
	}
	return -l
}

// Place: twice the variable, and one more, if it is false; 0 of what is no literal.
func Place(l api.Lit) int {
	place := 2 * Var(l)
	if place > 0 && l < 0 {
		place++
	}
	return place
}

// At: the literal of a Place; 0, if it is none's.
func At(place int) api.Lit {
	if place < 2 || place > 2*api.MaxVars+1 {
		return 0
	}
	l := api.Lit(place / 2)
	if place%2 == 1 {
		return -l
	}
	return l
}

// Clean: each of them once, by their Places; and whether a variable is in them by both signs.
func Clean(l ...api.Lit) ([]api.Lit, bool, api.Errno) {
	if !Right(l...) {
		return nil, false, api.ErrLit
	}
	clean := slices.Clone(l)
	slices.SortFunc(clean, byPlace)
	clean = slices.Compact(clean)
	return clean, bothSigns(clean), api.OK
}

// Resolve: Clean of all of a but v true, and all of b but v false.
func Resolve(a, b []api.Lit, v int) ([]api.Lit, api.Errno) {
	// Ahead of all else, as a greater v, cut to a Lit, could be another variable.
	if v < 1 || v > api.MaxVars {
		return nil, api.ErrLit
	}
	yes := api.Lit(v)
	no := Not(yes)
	if !slices.Contains(a, yes) || !slices.Contains(b, no) {
		return nil, api.ErrLit
	}
	rest := append(without(a, yes), without(b, no)...)
	// Whether the others are literals, Clean tells.
	clean, _, err := Clean(rest...)
	return clean, err
}

// Within: is each of a in b?
func Within(a, b []api.Lit) bool {
	// Sorted, so that two long lists need not be held one against one.
	sorted := slices.Clone(b)
	slices.Sort(sorted)
	for _, x := range a {
		if _, found := slices.BinarySearch(sorted, x); !found {
			return false
		}
	}
	return true
}

func byPlace(a, b api.Lit) int {
	return cmp.Compare(Place(a), Place(b))
}

// bothSigns looks at neighbours alone, as what is Clean has a variable's signs side by side.
func bothSigns(clean []api.Lit) bool {
	for i := 1; i < len(clean); i++ {
		if Var(clean[i]) == Var(clean[i-1]) {
			return true
		}
	}
	return false
}

func without(l []api.Lit, gone api.Lit) []api.Lit {
	var rest []api.Lit
	for _, x := range l {
		if x != gone {
			rest = append(rest, x)
		}
	}
	return rest
}
