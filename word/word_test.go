package word_test

import (
	"slices"
	"strings"
	"testing"

	"lariat/api"
	"lariat/word"
)

// P13.1

func TestKept(t *testing.T) {
	kept := strings.Fields(keptWords)
	if len(kept) != 19 {
		t.Fatal(kept)
	}
	for _, s := range kept {
		if !word.Kept(s) || word.Name(s) {
			t.Error(s, word.Kept(s), word.Name(s))
		}
		for _, x := range []string{s + "_", s + "0", s + s} {
			if word.Kept(x) || !word.Name(x) {
				t.Error(x, word.Kept(x), word.Name(x))
			}
		}
		for _, x := range []string{" " + s, s + " ", s + "\n", "_" + s, s + ";"} {
			if word.Kept(x) || word.Name(x) {
				t.Error(x, word.Kept(x), word.Name(x))
			}
		}
	}
}

func TestNotKept(t *testing.T) {
	for _, s := range []string{"Enum", "ENUM", "VAR", "True", "enu", "nextto", "A", "B", "x", "f", "W", "D", "and", "int", "proces", "processes", "whe", "w"} {
		if word.Kept(s) || !word.Name(s) {
			t.Error(s, word.Kept(s), word.Name(s))
		}
	}
	for _, s := range []string{"", ";", ":=", "1", "\x00", "X\x00"} {
		if word.Kept(s) || word.Name(s) {
			t.Error(s, word.Kept(s), word.Name(s))
		}
	}
}

func TestNameOfEveryOneAndTwoBytes(t *testing.T) {
	for a := range 256 {
		one := string([]byte{byte(a)})
		if got, want := word.Name(one), modelName(one); got != want {
			t.Errorf("%q %v", one, got)
		}
		if got, want := word.Kept(one), modelKept(one); got != want {
			t.Errorf("%q %v", one, got)
		}
		for b := range 256 {
			two := string([]byte{byte(a), byte(b)})
			if got, want := word.Name(two), modelName(two); got != want {
				t.Errorf("%q %v", two, got)
			}
		}
	}
}

func TestNameByLength(t *testing.T) {
	for n := 1; n < 70; n++ {
		for _, first := range "aAzZX" {
			for _, more := range "azAZ09_" {
				s := string(first) + strings.Repeat(string(more), n)
				if got := word.Name(s); got != (n < 32) {
					t.Error(s, len(s), got)
				}
			}
			if s := string(first) + strings.Repeat("k", n) + "-"; word.Name(s) {
				t.Error(s)
			}
		}
	}
	if word.Name(strings.Repeat("a", 1<<20)) {
		t.Error("a very long one")
	}
}

// P13.2

// as is a word, as Cut tells it.
func as(kind int, text string, num int64, line, col int) api.Token {
	return api.Token{Kind: kind, Text: text, Num: num, Line: line, Col: col}
}

func cut(t *testing.T, s string, want ...api.Token) {
	t.Helper()
	l, fault := word.Cut(s)
	if fault != (api.Fault{}) || !slices.Equal(l, want) {
		t.Errorf("%.100q: %v %v, not %v", s, l, fault, want)
	}
}

func TestCutTheExample(t *testing.T) {
	cut(t, "x:=1",
		as(api.TokName, "x", 0, 1, 1),
		as(api.TokSign, ":=", 0, 1, 2),
		as(api.TokNumber, "1", 1, 1, 4),
		as(api.TokEnd, "", 0, 1, 5))
}

func TestCutOfNoWords(t *testing.T) {
	cut(t, "", as(api.TokEnd, "", 0, 1, 1))
	cut(t, "  ", as(api.TokEnd, "", 0, 1, 3))
	cut(t, "\t", as(api.TokEnd, "", 0, 1, 2))
	cut(t, "\n", as(api.TokEnd, "", 0, 2, 1))
	cut(t, " \n\n\t ", as(api.TokEnd, "", 0, 3, 3))
	cut(t, "//", as(api.TokEnd, "", 0, 1, 3))
	cut(t, "//\n", as(api.TokEnd, "", 0, 2, 1))
	cut(t, "// a // b\n//\n\n// c", as(api.TokEnd, "", 0, 4, 5))
}

func TestCutRemarks(t *testing.T) {
	b := func(line, col int) []api.Token {
		return []api.Token{as(api.TokName, "b", 0, line, col), as(api.TokEnd, "", 0, line, col+1)}
	}
	cut(t, "//a\nb", b(2, 1)...)
	cut(t, "///\nb", b(2, 1)...)
	cut(t, "////\n//\n b", b(3, 2)...)
	cut(t, "//\x00\xff\r\xc3\xa4 . / _ 99999999 "+strings.Repeat("k", 99)+"\n\tb", b(2, 2)...)
	cut(t, "b//", as(api.TokName, "b", 0, 1, 1), as(api.TokEnd, "", 0, 1, 4))
	cut(t, "b//\n//b\n", as(api.TokName, "b", 0, 1, 1), as(api.TokEnd, "", 0, 3, 1))
	cut(t, "<//=\n=", as(api.TokSign, "<", 0, 1, 1), as(api.TokSign, "=", 0, 2, 1), as(api.TokEnd, "", 0, 2, 2))
}

func TestCutEachSign(t *testing.T) {
	all := strings.Fields(allSigns)
	if len(all) != 23 {
		t.Fatal(all)
	}
	for _, x := range all {
		cut(t, x, as(api.TokSign, x, 0, 1, 1), as(api.TokEnd, "", 0, 1, len(x)+1))
		cut(t, "a"+x+"1", as(api.TokName, "a", 0, 1, 1), as(api.TokSign, x, 0, 1, 2), as(api.TokNumber, "1", 1, 1, len(x)+2), as(api.TokEnd, "", 0, 1, len(x)+3))
		cut(t, "\n "+x+"\n", as(api.TokSign, x, 0, 2, 2), as(api.TokEnd, "", 0, 3, 1))
	}
}

// apart looks whether a text of signs is cut into those.
func apart(t *testing.T, s string, want ...string) {
	t.Helper()
	l, at := []api.Token{}, 1
	for _, x := range want {
		l = append(l, as(api.TokSign, x, 0, 1, at))
		at += len(x)
	}
	cut(t, s, append(l, as(api.TokEnd, "", 0, 1, at))...)
}

func TestCutTheLongestSign(t *testing.T) {
	apart(t, "<-", "<", "-")
	apart(t, "<->", "<->")
	apart(t, "<-->", "<", "-", "->")
	apart(t, "<=->", "<=", "->")
	apart(t, "<<->>", "<", "<->", ">")
	apart(t, "<=>", "<=", ">")
	apart(t, "=>", "=", ">")
	apart(t, ">==", ">=", "=")
	apart(t, "===", "=", "=", "=")
	apart(t, "!==", "!=", "=")
	apart(t, "!!=", "!", "!=")
	apart(t, "::=", ":", ":=")
	apart(t, ":=:", ":=", ":")
	apart(t, "....", "..", "..")
	apart(t, "-->", "-", "->")
	apart(t, "->=", "->", "=")
	apart(t, "->>=", "->", ">=")
	apart(t, "&&||", "&", "&", "|", "|")
	apart(t, "**++", "*", "*", "+", "+")
	apart(t, "{}()", "{", "}", "(", ")")
}

func TestCutLettersAndDigits(t *testing.T) {
	cut(t, "X", as(api.TokWord, "X", 0, 1, 1), as(api.TokEnd, "", 0, 1, 2))
	cut(t, "XX F", as(api.TokName, "XX", 0, 1, 1), as(api.TokWord, "F", 0, 1, 4), as(api.TokEnd, "", 0, 1, 5))
	cut(t, "do9", as(api.TokName, "do9", 0, 1, 1), as(api.TokEnd, "", 0, 1, 4))
	cut(t, "do_", as(api.TokName, "do_", 0, 1, 1), as(api.TokEnd, "", 0, 1, 4))
	cut(t, "9do", as(api.TokNumber, "9", 9, 1, 1), as(api.TokWord, "do", 0, 1, 2), as(api.TokEnd, "", 0, 1, 4))
	cut(t, "1a2 3", as(api.TokNumber, "1", 1, 1, 1), as(api.TokName, "a2", 0, 1, 2), as(api.TokNumber, "3", 3, 1, 5), as(api.TokEnd, "", 0, 1, 6))
	cut(t, "-5", as(api.TokSign, "-", 0, 1, 1), as(api.TokNumber, "5", 5, 1, 2), as(api.TokEnd, "", 0, 1, 3))
	cut(t, "0..3", as(api.TokNumber, "0", 0, 1, 1), as(api.TokSign, "..", 0, 1, 2), as(api.TokNumber, "3", 3, 1, 4), as(api.TokEnd, "", 0, 1, 5))
	for _, s := range strings.Fields(keptWords) {
		cut(t, s+"\n"+s, as(api.TokWord, s, 0, 1, 1), as(api.TokWord, s, 0, 2, 1), as(api.TokEnd, "", 0, 2, len(s)+1))
	}
}

func TestCutTheLongest(t *testing.T) {
	for _, s := range []string{strings.Repeat("k", 32), "A" + strings.Repeat("_", 31), "a" + strings.Repeat("9", 31)} {
		cut(t, s, as(api.TokName, s, 0, 1, 1), as(api.TokEnd, "", 0, 1, 33))
	}
	for s, n := range map[string]int64{"1000000": 1000000, "0999999": 999999, "999999": 999999, "0000000": 0, "0000008": 8, "0": 0, "00": 0, "0123456": 123456} {
		cut(t, s, as(api.TokNumber, s, n, 1, 1), as(api.TokEnd, "", 0, 1, len(s)+1))
	}
}

func TestCutTheLongestTexts(t *testing.T) {
	many := api.MaxText
	cut(t, strings.Repeat(" ", many), as(api.TokEnd, "", 0, 1, many+1))
	cut(t, strings.Repeat("\n", many), as(api.TokEnd, "", 0, many+1, 1))
	cut(t, strings.Repeat("/", many), as(api.TokEnd, "", 0, 1, many+1))
	cut(t, strings.Repeat("//x\n", many/4), as(api.TokEnd, "", 0, many/4+1, 1))
	want := make([]api.Token, 0, many+1)
	for i := range many {
		want = append(want, as(api.TokSign, ";", 0, 1, i+1))
	}
	cut(t, strings.Repeat(";", many), append(want, as(api.TokEnd, "", 0, 1, many+1))...)
}

func TestCutIsNewMemory(t *testing.T) {
	s := "var x : 0..3;"
	l, _ := word.Cut(s)
	want := slices.Clone(l)
	clear(l[:cap(l)])
	cut(t, s, want...)
}
