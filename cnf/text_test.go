package cnf_test

import (
	"math"
	"slices"
	"strconv"
	"strings"
	"testing"

	"lariat/api"
	"lariat/cnf"
)

// P2.2

func TestWrite(t *testing.T) {
	for _, c := range []struct {
		f    api.Formula
		want string
	}{
		{formula(0), "p cnf 0 0\n"},
		{formula(7, [][]api.Lit{}...), "p cnf 7 0\n"},
		{formula(0, nil), "p cnf 0 1\n0\n"},
		{formula(2, list(1, -2)), "p cnf 2 1\n1 -2 0\n"},
		{formula(3, list(1, -2), nil, list(3, -1)), "p cnf 3 3\n1 -2 0\n0\n3 -1 0\n"},
		{formula(12, list(-12, 12, -12), list(10)), "p cnf 12 2\n-12 12 -12 0\n10 0\n"},
		{formula(api.MaxVars, list(api.MaxVars, -api.MaxVars)), "p cnf 262144 1\n262144 -262144 0\n"},
	} {
		if s, err := cnf.Write(c.f); s != c.want || err != api.OK {
			t.Errorf("%v %q %v", c.f, s, err)
		}
	}
}

func TestWriteWhatCanNotBe(t *testing.T) {
	for _, f := range append(wrong(), long(api.MaxClauses+1, 0), long(1, api.MaxLits+1)) {
		if s, err := cnf.Write(f); s != "" || err != api.ErrFormula {
			t.Error(f.Vars, len(f.Clauses), len(s), err)
		}
	}
}

// P2.3

func reads(t *testing.T, s string, want api.Formula) {
	t.Helper()
	if f, err := cnf.Read(s); !cnf.Same(f, want) || err != api.OK {
		t.Errorf("%q %v %v", s, f, err)
	}
}

func readsNot(t *testing.T, s string) {
	t.Helper()
	if f, err := cnf.Read(s); f.Vars != 0 || len(f.Clauses) != 0 || err != api.ErrText {
		t.Errorf("%.200q %v %v %v", s, f.Vars, len(f.Clauses), err)
	}
}

func TestRead(t *testing.T) {
	one := formula(2, list(1, -2))
	for _, c := range []struct {
		name, s string
		want    api.Formula
	}{
		{"the chapter's example", "p cnf 2 1\n1 -2 0\n", one},
		{"without a last line end", "p cnf 2 1\n1 -2 0", one},
		{"on one line", "p cnf 2 1 1 -2 0", one},
		{"a word a line", "p\ncnf\n2\n1\n1\n-2\n0\n", one},
		{"by tabulators", "p\tcnf\t2\t1\t1\t-2\t0", one},
		{"many between", " \t\n p \t\n\n cnf\n\n2  1\t\t1 \n\t-2   0 \t \n\n", one},
		{"a clause over lines", "p cnf 2 1\n1\n-2\n\n0\n", one},
		{"clauses on one line", "p cnf 2 3\n1 0 -2 0 0", formula(2, list(1), list(-2), nil)},
		{"none", "p cnf 0 0", formula(0)},
		{"no clause", "p cnf 5 0\n", formula(5)},
		{"an empty clause", "p cnf 0 1 0", formula(0, nil)},
		{"empty clauses", "p cnf 1 3 0 0 0", formula(1, nil, nil, nil)},
		{"as many variables as may be", "p cnf 262144 1 262144 -262144 0", formula(api.MaxVars, list(api.MaxVars, -api.MaxVars))},
		{"a literal twice, and by both signs", "p cnf 1 1 1 1 -1 0", formula(1, list(1, 1, -1))},
		{"zeros ahead", "p cnf 0002 01\n01 -0002 000", one},
		{"nine digits", "p cnf 000000002 000000001 000000001 -000000002 000000000", one},
		{"-0 for 0", "p cnf -0 -0", formula(0)},
		{"-0 behind a clause", "p cnf 2 1 1 -2 -0", one},
		{"-0 with zeros ahead", "p cnf -000 -000000000", formula(0)},
	} {
		if f, err := cnf.Read(c.s); !cnf.Same(f, c.want) || err != api.OK {
			t.Errorf("%s: %q %v %v", c.name, c.s, f, err)
		}
	}
}

func TestReadRemarks(t *testing.T) {
	one := formula(2, list(1, -2))
	for _, s := range []string{
		"c\np cnf 2 1\n1 -2 0\n",
		"c \np cnf 2 1\n1 -2 0\n",
		"c\t\np cnf 2 1\n1 -2 0\n",
		"c p cnf 9 9\np cnf 2 1\n1 -2 0\n",
		"c\tp cnf 9 9\np cnf 2 1\n1 -2 0\n",
		"c a remark, \xff \x00 \r é\np cnf 2 1\n1 -2 0\n",
		"c\nc\nc c\n\nc\np cnf 2 1\n1 -2 0\n",
		"p\nc\ncnf\nc 3\n2\nc 3\n1\nc 3\n1\nc 3\n-2\nc 3\n0\nc 3\n",
		"p cnf 2 1\n1 -2 0\nc",
		"p cnf 2 1\n1 -2 0\nc ",
		"p cnf 2 1\n1 -2 0\nc\t7",
		"p cnf 2 1\n1 -2 0\nc behind the last one\n\nc\n",
	} {
		reads(t, s, one)
	}
	for _, s := range []string{
		"c",
		"c p cnf 0 0",
		"c\tp cnf 0 0\n",
		" c\np cnf 2 1\n1 -2 0\n",
		"\tc\np cnf 2 1\n1 -2 0\n",
		"cc\np cnf 2 1\n1 -2 0\n",
		"c1\np cnf 2 1\n1 -2 0\n",
		"c-\np cnf 2 1\n1 -2 0\n",
		"cnf\np cnf 2 1\n1 -2 0\n",
		"c\r\np cnf 2 1\n1 -2 0\n",
		"c\x00\np cnf 2 1\n1 -2 0\n",
		"c\v\np cnf 2 1\n1 -2 0\n",
		"C\np cnf 2 1\n1 -2 0\n",
		"# \np cnf 2 1\n1 -2 0\n",
		"p cnf 2 1 c\n1 -2 0\n",
		"p cnf 2 1\n1 c\n-2 0\n",
		"p cnf 2 1\n1 -2 0 c\n",
		"p cnf 2 1\n1 -2 0\n c",
		"p cnf 2 1\n1 -2 0\nc\r",
		"p cnf 2 1\n1 -2\nc 0\n",
		"p cnf 2 1\nc 1 -2 0\n",
	} {
		readsNot(t, s)
	}
}

func TestReadHeads(t *testing.T) {
	for _, s := range []string{
		"", " ", "\n", "\t", "\n \t\n", "p", "p cnf", "p cnf 1", "p cnf 1\n", "cnf 1 0", "1 0", "0", "p 1 0", "p cnf cnf 1 0",
		"P cnf 1 0", "p CNF 1 0", "p dnf 1 0", "pcnf 1 0", "p cn f 1 0", "p cnfs 1 0", "pp cnf 1 0", "cnf p 1 0", "p p cnf 1 0",
		"p cnf -1 0", "p cnf 1 -1", "p cnf 1 -1 0", "p cnf -1 -1", "p cnf x 0", "p cnf 1 x", "p cnf 262145 0", "p cnf 999999999 0",
		"p cnf 1 1048577", "p cnf 1 999999999", "p cnf 1 1048577 1 0", "p cnf 1 -999999999",
		"p\rcnf 1 0", "p cnf 1 0\r", "p cnf 1 0\r\n", "p\vcnf 1 0", "p cnf\f1 0", "p\u00a0cnf 1 0", "p cnf 1\u20280", "p cnf 1 0\x00", "\ufeffp cnf 1 0",
	} {
		readsNot(t, s)
	}
}

func TestReadNumbers(t *testing.T) {
	const most = 999999999
	for _, c := range []struct {
		word string
		n    int
	}{
		{"0", 0}, {"00", 0}, {"-0", 0}, {"-00", 0}, {"000000000", 0}, {"-000000000", 0},
		{"1", 1}, {"01", 1}, {"000000001", 1}, {"-1", -1}, {"-01", -1}, {"-000000001", -1},
		{"9", 9}, {"10", 10}, {"-10", -10}, {"08", 8}, {"010", 10}, {"-077", -77}, {"262144", api.MaxVars}, {"-000262144", -api.MaxVars},
	} {
		if c.n >= 0 {
			reads(t, "p cnf "+c.word+" 0", formula(c.n))
		}
		if c.n != 0 {
			reads(t, "p cnf 262144 1 "+c.word+" 0", formula(api.MaxVars, list(api.Lit(c.n))))
			continue
		}
		reads(t, "p cnf 1 1 -1 "+c.word, formula(1, list(-1)))
		reads(t, "p cnf 1 "+c.word, formula(1))
	}
	for _, word := range []string{
		"+0", "+1", "--1", "--0", "-", "+", "-+1", "+-1", "1-", "0-", "- 1", "1.0", "0.", ".0", "1e0", "0x1", "0b1", "1_0", "0_1", "1,", "'1'", "١", "−1", "½", "a", "1a", "a1", "1a1", "-a",
		"0000000000", "-0000000000", "0000000001", "-0000000001", "1000000000", "-1000000000",
		"4294967296", "4294967297", "-4294967295", "18446744073709551616", "18446744073709551617", "-18446744073709551616",
		strconv.Itoa(most), strconv.Itoa(-most), strconv.Itoa(math.MaxInt), strconv.Itoa(math.MinInt), strings.Repeat("0", 100), strings.Repeat("1", 1000),
	} {
		readsNot(t, "p cnf "+word+" 0")
		readsNot(t, "p cnf 262144 "+word+" 0")
		readsNot(t, "p cnf 262144 1 "+word+" 0")
		readsNot(t, "p cnf 262144 1 1 "+word)
		readsNot(t, "p cnf 262144 1 1 0 "+word)
	}
}

func TestReadCountsClauses(t *testing.T) {
	for _, s := range []string{
		"p cnf 1 1", "p cnf 1 1 1", "p cnf 1 1 1 -1", "p cnf 1 2 1 0", "p cnf 1 2 1 0 1", "p cnf 1 2 0", "p cnf 1 3 0 0",
		"p cnf 1 0 0", "p cnf 1 0 1", "p cnf 1 0 1 0", "p cnf 1 1 1 0 0", "p cnf 1 1 1 0 1", "p cnf 1 1 1 0 1 0", "p cnf 1 1 0 0",
		"p cnf 1 1 1 0 x", "p cnf 1 1 1 0\nx", "p cnf 1 1 1 0 %", "p cnf 1 0 p", "p cnf 1 0\np cnf 1 0\n", "p cnf 1 1 1 0\np cnf 1 1 1 0\n", "p cnf 1 1 1 0 \x00",
	} {
		readsNot(t, s)
	}
}

func TestReadVariablesBeyondVars(t *testing.T) {
	for _, s := range []string{
		"p cnf 0 1 1 0", "p cnf 0 1 -1 0", "p cnf 1 1 2 0", "p cnf 1 1 -2 0", "p cnf 1 1 1 2 0", "p cnf 1 2 1 0 -2 0",
		"p cnf 262144 1 262145 0", "p cnf 262144 1 -262145 0", "p cnf 262145 1 1 0", "p cnf 262144 1 999999999 0", "p cnf 262144 1 -999999999 0",
	} {
		readsNot(t, s)
	}
}

func TestReadAtTheLimits(t *testing.T) {
	const half = api.MaxLits / 2
	lits := strings.Repeat("1 ", half)
	reads(t, "p cnf 0 1048576 "+strings.Repeat("0 ", api.MaxClauses), api.Formula{Clauses: make([][]api.Lit, api.MaxClauses)})
	readsNot(t, "p cnf 0 1048577 "+strings.Repeat("0 ", api.MaxClauses+1))
	clause := slices.Repeat(list(1), half)
	reads(t, "p cnf 1 2 "+lits+"0 "+lits+"0", formula(1, clause, clause))
	reads(t, "p cnf 1 1 "+lits+lits+"0", formula(1, slices.Repeat(clause, 2)))
	readsNot(t, "p cnf 1 2 "+lits+"0 "+lits+"1 0")
	readsNot(t, "p cnf 1 3 "+lits+"0 "+lits+"0 1 0")
	readsNot(t, "p cnf 1 1 "+lits+lits+"1 0")
}

func TestReadShortTexts(t *testing.T) {
	// The shortest text of a formula has nine bytes, so these are all none's.
	var grow func(s string)
	grow = func(s string) {
		readsNot(t, s)
		if len(s) == 5 {
			return
		}
		for _, b := range []string{"c", "p", " ", "\t", "\n", "0", "-", "cnf"} {
			if len(s)+len(b) <= 5 {
				grow(s + b)
			}
		}
	}
	grow("")
}

// P2.4

func TestReadWhatWasWritten(t *testing.T) {
	again := func(f api.Formula) {
		s, err := cnf.Write(f)
		if err != api.OK {
			t.Error(f, err)
		}
		reads(t, s, f)
	}
	for _, f := range right() {
		again(f)
	}
	small(2, again)
	again(long(api.MaxClauses, 4))
	again(long(1, api.MaxLits))
}

// What holds everywhere: new memory.

func TestReadAnswersNewMemory(t *testing.T) {
	const s = "p cnf 3 5 1 -2 3 0 0 1 -2 3 0 3 0 -1 2 0"
	want := formula(3, list(1, -2, 3), nil, list(1, -2, 3), list(3), list(-1, 2))
	first, _ := cnf.Read(s)
	second, _ := cnf.Read(s)
	for i, clause := range first.Clauses {
		if !slices.Equal(clause, want.Clauses[i]) {
			t.Error("clause", i, "shares memory with one ahead of it", clause)
		}
		clause = clause[:cap(clause)]
		for k := range clause {
			clause[k] = -99
		}
	}
	spare := first.Clauses[:cap(first.Clauses)]
	for i := range spare {
		spare[i] = list(99)
	}
	if !cnf.Same(second, want) {
		t.Error("two answers share memory", second)
	}
	if third, err := cnf.Read(s); !cnf.Same(third, want) || err != api.OK {
		t.Error("an answer is kept", third, err)
	}
}

func TestReadBehindAFault(t *testing.T) {
	for range 3 {
		readsNot(t, "p cnf 1 1 1 x")
		reads(t, "p cnf 1 1 1 0", formula(1, list(1)))
	}
}
