package pace_test

import (
	"math/big"
	"slices"

	"lariat/api"
)

// lubys says once more, from the words, what Luby's numbers are up to so many: each stretch up to a power of two, less one, is the one ahead of it twice, and half that power.
func lubys(many int) []int {
	all := []int{1}
	for power := 2; len(all) < many; power *= 2 {
		all = append(slices.Concat(all, all), power)
	}
	return all[:many]
}

// literally is Luby of i as the promise says it, power by power.
func literally(i int) int {
	less := 0
	for power := 2; power-1 <= i; power *= 2 {
		if power-1 == i {
			return power / 2
		}
		less = power - 1
	}
	return literally(i - less)
}

// plain says once more, from the words, what a Pace is. Luby's numbers are handed to it.
type plain struct {
	unit, reduce int
	numbers      []int
	all          []bool // of each conflict: did it begin anew?
	last         int    // how many there were when it began anew
	often        int
}

func newPlain(o api.Options, numbers []int) *plain {
	return &plain{unit: counts(o.Unit), reduce: counts(o.Reduce), numbers: numbers}
}

func counts(n int) int {
	if n < 1 {
		return 1
	}
	if n > 1048576 {
		return 1048576
	}
	return n
}

func (p *plain) conflict() bool {
	place := p.often + 1
	if place > 1048576 {
		place = 1048576
	}
	anew := len(p.all)+1-p.last == p.unit*p.numbers[place-1]
	p.all = append(p.all, anew)
	if anew {
		p.often++
		p.last = len(p.all)
	}
	return anew
}

func (p *plain) forget(learnt int) int {
	// Ten times each side, so that nothing is rounded: what is at least a number rounded down is above that number less one.
	left, right := big.NewInt(int64(learnt)), big.NewInt(int64(10*p.reduce+len(p.all)-10))
	if left.Mul(left, big.NewInt(10)).Cmp(right) <= 0 {
		return 0
	}
	return learnt >> 1
}

// first is First with numbers of any length.
func first(seed uint64, v int) bool {
	if seed == 0 {
		return false
	}
	a, _ := new(big.Int).SetString("6364136223846793005", 10)
	b, _ := new(big.Int).SetString("1442695040888963407", 10)
	sum := new(big.Int).Mul(a, new(big.Int).SetUint64(seed))
	sum.Add(sum, b.Mul(b, big.NewInt(int64(v))))
	sum.Mod(sum, new(big.Int).Lsh(big.NewInt(1), 64))
	return sum.Cmp(new(big.Int).Lsh(big.NewInt(1), 63)) >= 0
}
