package word_test

import (
	"strings"
	"testing"

	"lariat/api"
	"lariat/word"
)

// P13.3, and the section Errors

func wrong(t *testing.T, s string, code api.Errno, line, col int) {
	t.Helper()
	l, fault := word.Cut(s)
	if want := (api.Fault{Code: code, Line: line, Col: col}); fault != want || len(l) != 0 {
		t.Errorf("%.100q: %v %v, not %v", s, l, fault, want)
	}
}

func TestErrSignOfEachByte(t *testing.T) {
	begins := "abcdefghijklmnopqrstuvwxyzABCDEFGHIJKLMNOPQRSTUVWXYZ0123456789 \t\n{}():,;=<>+-*!&|"
	for b := range 256 {
		x := string([]byte{byte(b)})
		if strings.Contains(begins, x) {
			if _, fault := word.Cut(x); fault != (api.Fault{}) {
				t.Errorf("%q %v", x, fault)
			}
			continue
		}
		wrong(t, x, api.ErrSign, 1, 1)
		wrong(t, "a = 1;\n  "+x+" b", api.ErrSign, 2, 3)
	}
}

func TestErrSignOfHalfASign(t *testing.T) {
	wrong(t, ".", api.ErrSign, 1, 1)
	wrong(t, "0.5", api.ErrSign, 1, 2)
	wrong(t, "...", api.ErrSign, 1, 3)
	wrong(t, ". .", api.ErrSign, 1, 1)
	wrong(t, ".\n.", api.ErrSign, 1, 1)
	wrong(t, "/", api.ErrSign, 1, 1)
	wrong(t, "a / b", api.ErrSign, 1, 3)
	wrong(t, "/ /", api.ErrSign, 1, 1)
	wrong(t, "/\n/", api.ErrSign, 1, 1)
	wrong(t, "/*a*/", api.ErrSign, 1, 1)
	wrong(t, "_a", api.ErrSign, 1, 1)
	wrong(t, "1_000", api.ErrSign, 1, 2)
	wrong(t, "a\r\nb", api.ErrSign, 1, 2)
	wrong(t, "\xc3\xa4", api.ErrSign, 1, 1)
	wrong(t, "\tb\xc3\xa4", api.ErrSign, 1, 3)
	wrong(t, "\xef\xbb\xbfvar", api.ErrSign, 1, 1)
	wrong(t, "a\x00", api.ErrSign, 1, 2)
}

func TestErrLongOfNames(t *testing.T) {
	for _, s := range []string{strings.Repeat("k", 33), "X" + strings.Repeat("_", 32), "a" + strings.Repeat("0", 32), strings.Repeat("do", 17), strings.Repeat("k", api.MaxText-9)} {
		wrong(t, s, api.ErrLong, 1, 1)
		wrong(t, "a;\n  "+s+" b", api.ErrLong, 2, 3)
	}
	if l, fault := word.Cut(strings.Repeat("k", 32) + " " + strings.Repeat("k", 32)); len(l) != 3 || fault != (api.Fault{}) {
		t.Error(l, fault)
	}
}

func TestErrLongOfNumbers(t *testing.T) {
	for _, s := range []string{"1000001", "1000010", "2000000", "9999999", "00000000", "00000001", "01000000", "10000000", "18446744073709551616", "18446744073709551617", "4294967296", strings.Repeat("0", 100), strings.Repeat("9", 40), strings.Repeat("1", api.MaxText-9)} {
		wrong(t, s, api.ErrLong, 1, 1)
		wrong(t, "a;\n -"+s+" b", api.ErrLong, 2, 3)
	}
}

func TestErrLongOfTexts(t *testing.T) {
	for _, x := range []string{" ", "\n", "/", ";", "a", "0", ".", "\xff"} {
		wrong(t, strings.Repeat(x, api.MaxText+1), api.ErrLong, 1, 1)
		wrong(t, "\n"+x+strings.Repeat(" ", api.MaxText-1), api.ErrLong, 1, 1)
		wrong(t, strings.Repeat(x, 1<<20), api.ErrLong, 1, 1)
	}
	wrong(t, strings.Repeat(" ", api.MaxText-1)+".", api.ErrSign, 1, api.MaxText)
	wrong(t, strings.Repeat("\n", api.MaxText-2)+"a.", api.ErrSign, api.MaxText-1, 2)
}

func TestTheFirstFault(t *testing.T) {
	long, great := strings.Repeat("k", 33), "1000001"
	wrong(t, "a . "+long, api.ErrSign, 1, 3)
	wrong(t, "a "+long+" .", api.ErrLong, 1, 3)
	wrong(t, great+" .", api.ErrLong, 1, 1)
	wrong(t, "\n."+great, api.ErrSign, 2, 1)
	wrong(t, great+" "+long, api.ErrLong, 1, 1)
	wrong(t, "a\n"+long+great, api.ErrLong, 2, 1)
	wrong(t, "b // . "+long+"\n "+great, api.ErrLong, 2, 2)
}
