package tests

import (
	"math/rand"
	"regexp"
	"slices"
	"strconv"
	"strings"
	"testing"

	"loop.example/wholeway/impl"
)

// The words of the document's chapter 1, told a second time and in another way than the program tells them.
var (
	wordKeys  = strings.Fields("fn let say put if else loop back do")
	wordSigns = strings.Split("(){};,+-*/%<=&!@", "")
	letterRun = regexp.MustCompile(`^[a-z]+`)
	digitRun  = regexp.MustCompile(`^[0-9]+`)
	gapRun    = regexp.MustCompile(`^[ \n]+`)
	nameForm  = regexp.MustCompile(`^[a-z]{1,4}$`)
	byteForm  = regexp.MustCompile(`^(0|[1-9][0-9]?|1[0-9][0-9]|2[0-4][0-9]|25[0-5])$`)
)

func name(s string) impl.Word   { return impl.Word{Kind: impl.WordName, Text: s} }
func number(s string) impl.Word { return impl.Word{Kind: impl.WordNumber, Text: s} }
func sign(s string) impl.Word   { return impl.Word{Kind: impl.WordSign, Text: s} }
func key(s string) impl.Word    { return impl.Word{Kind: impl.WordKey, Text: s} }

// wantValid is what WordValid should report.
func wantValid(w impl.Word) bool {
	switch w.Kind {
	case 1:
		return nameForm.MatchString(w.Text) && !slices.Contains(wordKeys, w.Text)
	case 2:
		return byteForm.MatchString(w.Text)
	case 3:
		return slices.Contains(wordSigns, w.Text)
	case 4:
		return slices.Contains(wordKeys, w.Text)
	}
	return false
}

// wantCut is what CutWords should return.
func wantCut(s string) ([]impl.Word, bool) {
	var words []impl.Word
	if len(s) > 3000 {
		return nil, false
	}
	for s != "" {
		run := gapRun.FindString(s)
		if run != "" {
			s = s[len(run):]
			continue
		}
		w := impl.Word{Kind: 3, Text: s[:1]}
		if run = letterRun.FindString(s); run != "" {
			w = impl.Word{Kind: 1, Text: run}
			if slices.Contains(wordKeys, run) {
				w.Kind = 4
			}
		} else if run = digitRun.FindString(s); run != "" {
			w = impl.Word{Kind: 2, Text: run}
		}
		if !wantValid(w) {
			return nil, false
		}
		words = append(words, w)
		s = s[len(w.Text):]
	}
	if len(words) > 600 {
		return nil, false
	}
	return words, true
}

// checkCut compares CutWords and PlainText of a text with what they should return.
func checkCut(t *testing.T, s string) {
	t.Helper()
	want, wantOk := wantCut(s)
	got, ok := impl.CutWords(s)
	if ok != wantOk || !slices.Equal(got, want) {
		t.Fatalf("CutWords(%q) = %v, %v; want %v, %v", s, got, ok, want, wantOk)
	}
	var texts []string
	for _, w := range want {
		texts = append(texts, w.Text)
	}
	plain, ok := impl.PlainText(s)
	if ok != wantOk || plain != strings.Join(texts, " ") {
		t.Fatalf("PlainText(%q) = %q, %v; want %q, %v", s, plain, ok, strings.Join(texts, " "), wantOk)
	}
}

// checkRound checks promise 1 on a list of valid words: what is joined is cut again.
func checkRound(t *testing.T, list []impl.Word) {
	t.Helper()
	before := slices.Clone(list)
	text, ok := impl.JoinWords(list)
	if !ok {
		t.Fatalf("JoinWords(%v) is false", list)
	}
	if !slices.Equal(list, before) {
		t.Fatalf("JoinWords changed %v to %v", before, list)
	}
	again, ok := impl.CutWords(text)
	if !ok || !slices.Equal(again, list) {
		t.Fatalf("%v joined is %q, which is cut to %v, %v", list, text, again, ok)
	}
	plain, ok := impl.PlainText(text)
	if !ok || plain != text {
		t.Fatalf("PlainText(%q) = %q, %v", text, plain, ok)
	}
}

// someWords are valid words of all kinds: all keys, signs and numbers, and names of 1 to 4 letters.
func someWords() []impl.Word {
	var list []impl.Word
	for _, k := range wordKeys {
		list = append(list, key(k))
	}
	for _, s := range wordSigns {
		list = append(list, sign(s))
	}
	for n := 0; n <= 255; n++ {
		list = append(list, number(strconv.Itoa(n)))
	}
	for c := 'a'; c <= 'z'; c++ {
		list = append(list, name(string(c)))
	}
	for _, s := range []string{"ab", "zz", "va", "fnx", "xfn", "lets", "ifs", "iff", "doo", "od", "fo", "abc", "abcd", "zzzz", "elsa", "bac"} {
		list = append(list, name(s))
	}
	return list
}

func TestWordsRoundTrip(t *testing.T) {
	all := someWords()
	checkRound(t, nil)
	checkRound(t, all)
	for _, a := range all {
		checkRound(t, []impl.Word{a})
		for _, b := range all {
			checkRound(t, []impl.Word{a, b})
		}
	}
	rnd := rand.New(rand.NewSource(1))
	for range 500 {
		list := make([]impl.Word, rnd.Intn(601))
		for i := range list {
			list[i] = all[rnd.Intn(len(all))]
		}
		checkRound(t, list)
	}
}

func TestJoinWordsOrdinary(t *testing.T) {
	list := []impl.Word{key("let"), name("x"), sign("="), number("10"), sign(";")}
	if text, ok := impl.JoinWords(list); !ok || text != "let x = 10 ;" {
		t.Errorf("JoinWords = %q, %v", text, ok)
	}
	if text, ok := impl.JoinWords(nil); !ok || text != "" {
		t.Errorf("JoinWords of no words = %q, %v", text, ok)
	}
}

func TestJoinWordsRefuses(t *testing.T) {
	good := []impl.Word{key("say"), name("a"), sign(";")}
	for _, bad := range badWords() {
		for at := 0; at <= len(good); at++ {
			list := slices.Insert(slices.Clone(good), at, bad)
			if text, ok := impl.JoinWords(list); ok || text != "" {
				t.Errorf("JoinWords(%v) = %q, %v", list, text, ok)
			}
		}
	}
}

func TestJoinWordsLimits(t *testing.T) {
	list := slices.Repeat([]impl.Word{name("abcd")}, 600)
	checkRound(t, list)
	if text, _ := impl.JoinWords(list); len(text) != 600*4+599 {
		t.Errorf("600 names have %d bytes", len(text))
	}
	for _, n := range []int{601, 602, 100000} {
		if text, ok := impl.JoinWords(slices.Repeat([]impl.Word{sign(";")}, n)); ok || text != "" {
			t.Errorf("JoinWords of %d words = %q, %v", n, text, ok)
		}
	}
}

// badWords are words that are not valid.
func badWords() []impl.Word {
	return []impl.Word{
		{}, {Text: "a"}, {Kind: 5, Text: "a"}, {Kind: -1, Text: "a"}, {Kind: 5, Text: " "}, {Kind: 0, Text: "?"},
		name(""), name("abcde"), name("fn"), name("back"), name("A"), name("a1"), name("1"), name("a b"), name("a "), name(" a"),
		name("ab\n"), name(";"), name("\x00"), name("ä"), name("\xff"), name("a\xe1"), name("`"), name("{"), name(strings.Repeat("a", 5000)),
		number(""), number("256"), number("300"), number("999"), number("1000"), number("00"), number("01"), number("007"), number("0255"),
		number("-1"), number("-7"), number("-255"), number("-0"), number("+1"), number(" 1"), number("1 "), number("1\n"), number("a"), number("1a"), number("0x1"), number("1_0"),
		number("1e1"), number("1.0"), number("18446744073709551617"), number("4294967297"), number(strings.Repeat("1", 5000)), number("\u0661"),
		sign(""), sign("=="), sign("()"), sign("?"), sign(">"), sign("["), sign(":"), sign("."), sign("|"), sign("^"), sign("~"), sign("'"),
		sign("a"), sign("1"), sign(" "), sign("\n"), sign("; "), sign("\x00"), sign("\x80"), sign("\xff"), sign("\x7f"),
		key(""), key("a"), key("Fn"), key("fn "), key(" fn"), key("fnlet"), key("fn let"), key("for"), key("els"), key("elses"), key("1"), key(";"),
	}
}

func TestWordValid(t *testing.T) {
	for _, w := range someWords() {
		if !impl.WordValid(w) {
			t.Errorf("WordValid(%v) is false", w)
		}
	}
	for _, w := range badWords() {
		if impl.WordValid(w) {
			t.Errorf("WordValid(%v) is true", w)
		}
	}
	for _, text := range shortTexts() {
		for kind := -2; kind <= 7; kind++ {
			w := impl.Word{Kind: kind, Text: text}
			if impl.WordValid(w) != wantValid(w) {
				t.Errorf("WordValid(%v) is %v", w, !wantValid(w))
			}
		}
	}
}

// shortTexts are all texts of up to 2 bytes, all numbers up to 2000, and these with a nought ahead.
func shortTexts() []string {
	list := []string{""}
	for a := range 256 {
		list = append(list, string([]byte{byte(a)}))
		for b := range 256 {
			list = append(list, string([]byte{byte(a), byte(b)}))
		}
	}
	for n := range 2001 {
		list = append(list, strconv.Itoa(n), "0"+strconv.Itoa(n))
	}
	return list
}

func TestKeyWords(t *testing.T) {
	keys := impl.KeyWords()
	if !slices.Equal(keys, wordKeys) {
		t.Fatalf("KeyWords = %q", keys)
	}
	for i := range keys {
		keys[i] = "x"
	}
	_ = append(keys[:1], "y")
	if again := impl.KeyWords(); !slices.Equal(again, wordKeys) {
		t.Errorf("KeyWords = %q, as an earlier result was written to", again)
	}
	if !impl.WordValid(key("fn")) || impl.IsName("fn") {
		t.Error("fn is no key, as an earlier result was written to")
	}
}

func TestIsName(t *testing.T) {
	for _, s := range []string{"a", "z", "ab", "abc", "abcd", "zzzz", "f", "fnn", "nf", "lets", "elsf", "bacj", "looq"} {
		if !impl.IsName(s) {
			t.Errorf("IsName(%q) is false", s)
		}
	}
	for _, s := range wordKeys {
		if impl.IsName(s) {
			t.Errorf("IsName(%q) is true", s)
		}
	}
	for _, s := range append(shortTexts(), "abcde", "elses", "zzzzz", "abc1", "1abc", "abc ", "ab c", "Abcd", "abcD", "\xe4bc", "ab\xc3\xa4") {
		if impl.IsName(s) != wantValid(name(s)) {
			t.Errorf("IsName(%q) is %v", s, !wantValid(name(s)))
		}
	}
}

func TestNumberOf(t *testing.T) {
	for n := 0; n <= 255; n++ {
		s := strconv.Itoa(n)
		if got := impl.NumberOf(number(s)); got != n {
			t.Errorf("NumberOf(%s) = %d", s, got)
		}
		for _, kind := range []int{-1, 0, 1, 3, 4, 5} {
			if got := impl.NumberOf(impl.Word{Kind: kind, Text: s}); got != -1 {
				t.Errorf("NumberOf(%s of kind %d) = %d", s, kind, got)
			}
		}
	}
	others := append(badWords(), name("a"), key("do"), sign("-"), number("256"), number("2550"))
	for _, w := range others {
		if got := impl.NumberOf(w); got != -1 {
			t.Errorf("NumberOf(%v) = %d", w, got)
		}
	}
}

func TestCutWordsExamples(t *testing.T) {
	for s, want := range map[string][]impl.Word{
		"":                nil,
		" \n\n ":          nil,
		"let x=10;":       {key("let"), name("x"), sign("="), number("10"), sign(";")},
		"letx=10;":        {name("letx"), sign("="), number("10"), sign(";")},
		"a1":              {name("a"), number("1")},
		"1a":              {number("1"), name("a")},
		"fn1do":           {key("fn"), number("1"), key("do")},
		"ab12cd":          {name("ab"), number("12"), name("cd")},
		"((a))":           {sign("("), sign("("), name("a"), sign(")"), sign(")")},
		"a==b":            {name("a"), sign("="), sign("="), name("b")},
		"-1":              {sign("-"), number("1")},
		"0 0":             {number("0"), number("0")},
		"\n a \n\n b  c ": {name("a"), name("b"), name("c")},
		"fnn fn nfn":      {name("fnn"), key("fn"), name("nfn")},
		"abcd 255":        {name("abcd"), number("255")},
		"!@a&b%c":         {sign("!"), sign("@"), name("a"), sign("&"), name("b"), sign("%"), name("c")},
	} {
		got, ok := impl.CutWords(s)
		if !ok || !slices.Equal(got, want) {
			t.Errorf("CutWords(%q) = %v, %v", s, got, ok)
		}
		checkCut(t, s)
	}
}

func TestCutWordsRefuses(t *testing.T) {
	for _, s := range []string{
		"256", "999", "1000", "01", "00", "000", "0255", "a 256", "a01", "2 56 256", "111111111111111111111111", "18446744073709551616",
		"abcde", "a abcde", "abcdea b", "fnlet", "loops", "elsedo", "backs", "fnfnfn",
		"a?", "?", "a\tb", "a\rb", "A", "aB", "a_b", "a.b", "a>b", "[a]", "a:b", "a|b", "\"a\"", "'a'", "#", "a\x00", "\x00", "\x7f", "\x80",
		"\xff", "a\xff", "ä", "a ä", "\u00a0", "a\u2028b", "\u0661",
	} {
		words, ok := impl.CutWords(s)
		if ok || len(words) != 0 {
			t.Errorf("CutWords(%q) = %v, %v", s, words, ok)
		}
		plain, ok := impl.PlainText(s)
		if ok || plain != "" {
			t.Errorf("PlainText(%q) = %q, %v", s, plain, ok)
		}
		checkCut(t, s)
	}
}

func TestCutWordsEachByte(t *testing.T) {
	for _, s := range shortTexts() {
		checkCut(t, s)
	}
	for b := range 256 {
		checkCut(t, "a"+string([]byte{byte(b)})+"1")
		checkCut(t, " ; "+string([]byte{byte(b)})+" fn")
	}
}

func TestCutWordsShortTexts(t *testing.T) {
	alphabet := "do1025 \n;=x?"
	var walk func(s string, left int)
	walk = func(s string, left int) {
		checkCut(t, s)
		for i := range len(alphabet) {
			if left > 0 {
				walk(s+alphabet[i:i+1], left-1)
			}
		}
	}
	walk("", 4)
}

func TestCutWordsRandomTexts(t *testing.T) {
	rnd := rand.New(rand.NewSource(2))
	parts := append(strings.Split(" \n(){};,+-*/%<=&!@", ""), wordKeys...)
	parts = append(parts, "a", "b", "xyz", "abcd", "0", "7", "25", "255", "  ", "\n\n")
	strange := []string{"?", "\t", "A", "256", "01", "abcde", "\xc3"}
	for range 20000 {
		var b strings.Builder
		for range rnd.Intn(30) {
			b.WriteString(parts[rnd.Intn(len(parts))])
			if rnd.Intn(200) == 0 {
				b.WriteString(strange[rnd.Intn(len(strange))])
			}
		}
		checkCut(t, b.String())
	}
}

func TestCutWordsBytesLimit(t *testing.T) {
	for _, unit := range []string{" ", "\n", "abcd ", "a    ", "255  ", "fn    10  "} {
		s := strings.Repeat(unit, 3000/len(unit))
		if _, ok := impl.CutWords(s); !ok || len(s) != 3000 {
			t.Errorf("CutWords of %d bytes of %q is false", len(s), unit)
		}
		checkCut(t, s)
		for _, more := range []string{" ", "\n", "   "} {
			if words, ok := impl.CutWords(s + more); ok || len(words) != 0 {
				t.Errorf("CutWords of %d bytes of %q is true", len(s+more), unit)
			}
			checkCut(t, s+more)
		}
	}
	checkCut(t, "a"+strings.Repeat(" ", 2998)+"b")
	checkCut(t, "a"+strings.Repeat(" ", 2999)+"b")
	checkCut(t, strings.Repeat(" ", 1<<20))
}

func TestCutWordsWordsLimit(t *testing.T) {
	for _, unit := range []string{";", "a ", "1\n", "fn ", "(abcd", "a1"} {
		words, _ := impl.CutWords(unit)
		full := strings.Repeat(unit, 600/len(words))
		got, ok := impl.CutWords(full)
		if !ok || len(got) != 600 {
			t.Errorf("CutWords of 600 words of %q: %d, %v", unit, len(got), ok)
		}
		checkCut(t, full)
		for _, more := range []string{";", " 1", "\nx"} {
			if got, ok := impl.CutWords(full + " " + more); ok || len(got) != 0 {
				t.Errorf("CutWords of 601 words of %q: %d, %v", unit, len(got), ok)
			}
			checkCut(t, full+more)
		}
		checkCut(t, full+" \n ")
	}
}

func TestCutWordsResultIsItsOwn(t *testing.T) {
	first, _ := impl.CutWords("a = 1 ;")
	second, _ := impl.CutWords("a = 1 ;")
	_ = append(first, name("x"))
	for i := range first {
		first[i] = impl.Word{}
	}
	if text, ok := impl.JoinWords(second); !ok || text != "a = 1 ;" {
		t.Errorf("another result became %q", text)
	}
}

func TestPlainText(t *testing.T) {
	for s, want := range map[string]string{
		"":                      "",
		" \n ":                  "",
		"let x=10;":             "let x = 10 ;",
		"fn m(a){back a+1;}":    "fn m ( a ) { back a + 1 ; }",
		"  say\n\n1  ;\n":       "say 1 ;",
		"if!a{put 1,@2;}else{}": "if ! a { put 1 , @ 2 ; } else { }",
	} {
		plain, ok := impl.PlainText(s)
		if !ok || plain != want {
			t.Errorf("PlainText(%q) = %q, %v", s, plain, ok)
		}
	}
}

func TestCountKind(t *testing.T) {
	words, ok := impl.CutWords("fn f ( a ) { let b = a + 10 ; say b * 2 ; back 0 ; }")
	if !ok {
		t.Fatal("CutWords is false")
	}
	for kind, want := range []int{0, 5, 3, 10, 4, 0} {
		if got := impl.CountKind(words, kind); got != want {
			t.Errorf("CountKind of %d = %d", kind, got)
		}
	}
	list := append(badWords(), impl.Word{Kind: 7}, impl.Word{Kind: 7, Text: "x"})
	for kind := -3; kind <= 8; kind++ {
		want := 0
		for _, w := range list {
			if w.Kind == kind {
				want++
			}
		}
		if got := impl.CountKind(list, kind); got != want {
			t.Errorf("CountKind of %d = %d; want %d", kind, got, want)
		}
	}
	if impl.CountKind(nil, 0) != 0 || impl.CountKind(list, 7) != 2 {
		t.Error("CountKind")
	}
}
