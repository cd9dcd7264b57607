package word_test

import (
	"math/rand/v2"
	"regexp"
	"slices"
	"strconv"
	"strings"
	"testing"

	"lariat/api"
	"lariat/word"
)

// What the chapter says, by its words alone.

const (
	keptWords = "enum var bool process when do true false X F G U R Y Z O H S T"
	allSigns  = "{ } ( ) : , ; .. := = != < <= > >= + - * ! & | -> <->"
)

var (
	passedOver = regexp.MustCompile(`^(?:[ \t\n]|//[^\n]*)*`)
	nameLike   = regexp.MustCompile(`^[a-zA-Z][a-zA-Z0-9_]*`)
	numberLike = regexp.MustCompile(`^[0-9]+`)
)

func modelKept(s string) bool {
	return slices.Contains(strings.Fields(keptWords), s)
}

func modelName(s string) bool {
	return s != "" && nameLike.FindString(s) == s && len(s) <= api.MaxName && !modelKept(s)
}

// place is where in a text a byte is.
func place(s string, at int) (line, col int) {
	line, col = 1, 1
	for i := range at {
		col++
		if s[i] == '\n' {
			line, col = line+1, 1
		}
	}
	return line, col
}

// modelWord is the word with which a text begins, and that isn't empty.
func modelWord(s string) (api.Token, api.Errno) {
	if x := nameLike.FindString(s); x != "" {
		t := api.Token{Kind: api.TokName, Text: x}
		if modelKept(x) {
			t.Kind = api.TokWord
		}
		if len(x) > api.MaxName {
			return api.Token{}, api.ErrLong
		}
		return t, api.OK
	}
	if x := numberLike.FindString(s); x != "" {
		n, err := strconv.ParseInt(x, 10, 64)
		if err != nil || len(x) > 7 || n > api.MaxNumber {
			return api.Token{}, api.ErrLong
		}
		return api.Token{Kind: api.TokNumber, Text: x, Num: n}, api.OK
	}
	longest := ""
	for _, x := range strings.Fields(allSigns) {
		if strings.HasPrefix(s, x) && len(x) > len(longest) {
			longest = x
		}
	}
	if longest == "" {
		return api.Token{}, api.ErrSign
	}
	return api.Token{Kind: api.TokSign, Text: longest}, api.OK
}

func modelCut(s string) ([]api.Token, api.Fault) {
	if len(s) > api.MaxText {
		return nil, api.Fault{Code: api.ErrLong, Line: 1, Col: 1}
	}
	var l []api.Token
	for at := 0; ; {
		at += len(passedOver.FindString(s[at:]))
		line, col := place(s, at)
		if at == len(s) {
			return append(l, api.Token{Kind: api.TokEnd, Line: line, Col: col}), api.Fault{}
		}
		t, err := modelWord(s[at:])
		if err != api.OK {
			return nil, api.Fault{Code: err, Line: line, Col: col}
		}
		t.Line, t.Col = line, col
		l = append(l, t)
		at += len(t.Text)
	}
}

// asTheModel holds what Cut answers against the chapter's words.
func asTheModel(t *testing.T, s string) {
	t.Helper()
	l, fault := word.Cut(s)
	wantL, wantFault := modelCut(s)
	if fault != wantFault || !slices.Equal(l, wantL) {
		t.Errorf("%q: %v %v, not %v %v", s, l, fault, wantL, wantFault)
	}
}

// every goes through all texts of at most so many of some pieces.
func every(pieces []string, many int, yield func(string)) {
	yield("")
	if many == 0 {
		return
	}
	for _, x := range pieces {
		every(pieces, many-1, func(s string) { yield(x + s) })
	}
}

func TestEveryShortTextOfSigns(t *testing.T) {
	every(strings.Split("< - > = ! . : / & a 1 \n", " "), 4, func(s string) { asTheModel(t, s) })
}

func TestEveryByteBesideOthers(t *testing.T) {
	for b := range 256 {
		x := string([]byte{byte(b)})
		for _, s := range []string{x, " " + x, "a" + x, "1" + x, "<" + x, ". " + x, "\n" + x + "\n", "//" + x + "\nb", "/" + x + "/", x + "a", x + "1", x + ">", x + x, x + x + x} {
			asTheModel(t, s)
		}
	}
}

func TestRandomTexts(t *testing.T) {
	r := rand.New(rand.NewPCG(1, 13))
	good := strings.Split(keptWords+" "+allSigns+" a Z b_9 Xx enum_ tru 0 7 007 1000000 0000001 //", " ")
	good = append(good, " ", "\t", "\n", "\n\n", "  ", "// x\n", "//?\xff\n", "///", strings.Repeat("k", 32))
	bad := []string{".", "/", "_", "\r", "\x00", "\x7f", "\xc3\xa4", "#", "1000001", "00000000", strings.Repeat("k", 33)}
	for range 20000 {
		var b strings.Builder
		for range r.IntN(20) {
			if r.IntN(60) == 0 {
				b.WriteString(bad[r.IntN(len(bad))])
			} else {
				b.WriteString(good[r.IntN(len(good))])
			}
		}
		asTheModel(t, b.String())
	}
}
