package tests

import (
	"regexp"
	"slices"
	"strconv"
	"strings"
	"testing"

	"loop.example/g00476/impl"
)

const maxLexBytes = 3000

func nameTok(s string) impl.Tok { return impl.Tok{K: impl.TkName, S: s} }
func keptTok(s string) impl.Tok { return impl.Tok{K: impl.TkKept, S: s} }
func markTok(s string) impl.Tok { return impl.Tok{K: impl.TkMark, S: s} }
func numberTok(n int) impl.Tok  { return impl.Tok{K: impl.TkNum, N: n} }

var (
	pieceForm  = regexp.MustCompile(`^(?:[a-z]+|[0-9]+|[;=\[\](){}+*,-])`)
	numberForm = regexp.MustCompile(`^(?:0|[1-9][0-9]{0,5})$`)
	nameForm   = regexp.MustCompile(`^[a-z]{1,6}$`)
	keptForm   = regexp.MustCompile(`^(?:array|for|to|print|min|max)$`)
)

// lexed reads by patterns, piece by piece, in no way like the program.
func lexed(s string) ([]impl.Tok, bool) {
	if len(s) > maxLexBytes {
		return nil, false
	}
	var l []impl.Tok
	for {
		s = strings.TrimLeft(s, " \n")
		if s == "" {
			return l, len(l) <= impl.MaxToks
		}
		piece := pieceForm.FindString(s)
		s = s[len(piece):]
		switch {
		case piece == "":
			return nil, false
		case keptForm.MatchString(piece):
			l = append(l, keptTok(piece))
		case nameForm.MatchString(piece):
			l = append(l, nameTok(piece))
		case numberForm.MatchString(piece):
			n, _ := strconv.Atoi(piece)
			l = append(l, numberTok(n))
		case strings.ContainsAny(piece, "abcdefghijklmnopqrstuvwxyz0123456789"):
			return nil, false
		default:
			l = append(l, markTok(piece))
		}
	}
}

func wantLex(t *testing.T, s string, want []impl.Tok) {
	t.Helper()
	if got, ok := impl.Lex(s); !ok || !slices.Equal(got, want) {
		t.Errorf("Lex(%.60q) is %v, %v, not %v", s, got, ok, want)
	}
}

func wantNoLex(t *testing.T, s string) {
	t.Helper()
	if got, ok := impl.Lex(s); ok || len(got) != 0 {
		t.Errorf("Lex(%.60q) of %d bytes is %d Toks, %v, not none and false", s, len(s), len(got), ok)
	}
}

// Promise 2: what Lex reads of the text of what it answered is that again.
func wantSameAgain(t *testing.T, l []impl.Tok) {
	t.Helper()
	text := impl.TokText(l)
	if len(text) > maxLexBytes {
		wantNoLex(t, text)
		return
	}
	wantLex(t, text, l)
}

func TestNameOk(t *testing.T) {
	for _, s := range []string{
		"a", "z", "az", "i", "aa", "abcdef", "zzzzzz", "sixlet",
		"arrays", "arra", "fo", "fors", "t", "too", "tot", "prin", "prints", "mi", "mins", "ma", "maxs", "minmax", "xfor",
	} {
		if !impl.NameOk(s) {
			t.Errorf("%q is a name", s)
		}
	}
	for _, s := range []string{
		"", "sevenle", "abcdefg", strings.Repeat("a", 5000),
		"array", "for", "to", "print", "min", "max",
		"A", "Ab", "aB", "FOR", "0", "1", "a1", "1a", "a b", " a", "a ", "a\n", "\n", "a\x00", "\x00", "_", "a_", "a-b", "`", "{", "a;",
		"\xff", "a\xff", "\xc3", "é", "aé", "ß", "ａ", "а", "\ufffd", "a\u0301",
	} {
		if impl.NameOk(s) {
			t.Errorf("%.40q is no name", s)
		}
	}
}

func TestNameOkOfEachByte(t *testing.T) {
	for b := range 256 {
		want := 'a' <= b && b <= 'z'
		for _, s := range []string{string([]byte{byte(b)}), string([]byte{'q', byte(b)}), string([]byte{byte(b), 'q'})} {
			if impl.NameOk(s) != want {
				t.Errorf("NameOk(%q) is %v", s, !want)
			}
		}
	}
}

func TestLexOrdinaryTexts(t *testing.T) {
	wantLex(t, "x = a[i] * 12 - min(3, y);", []impl.Tok{
		nameTok("x"), markTok("="), nameTok("a"), markTok("["), nameTok("i"), markTok("]"), markTok("*"), numberTok(12), markTok("-"),
		keptTok("min"), markTok("("), numberTok(3), markTok(","), nameTok("y"), markTok(")"), markTok(";")})
	wantLex(t, "array a 16;\nfor i=0to 15{print a[i]+1;}\n", []impl.Tok{
		keptTok("array"), nameTok("a"), numberTok(16), markTok(";"),
		keptTok("for"), nameTok("i"), markTok("="), numberTok(0), keptTok("to"), numberTok(15), markTok("{"),
		keptTok("print"), nameTok("a"), markTok("["), nameTok("i"), markTok("]"), markTok("+"), numberTok(1), markTok(";"), markTok("}")})
	wantLex(t, ";=[](){}+-*,", []impl.Tok{
		markTok(";"), markTok("="), markTok("["), markTok("]"), markTok("("), markTok(")"), markTok("{"), markTok("}"),
		markTok("+"), markTok("-"), markTok("*"), markTok(",")})
	wantLex(t, "array for to print min max", []impl.Tok{
		keptTok("array"), keptTok("for"), keptTok("to"), keptTok("print"), keptTok("min"), keptTok("max")})
	wantLex(t, "-5", []impl.Tok{markTok("-"), numberTok(5)})
	wantLex(t, "==", []impl.Tok{markTok("="), markTok("=")})
}

func TestLexGaps(t *testing.T) {
	for _, s := range []string{"", " ", "\n", "   ", "\n\n", " \n \n ", strings.Repeat(" ", maxLexBytes), strings.Repeat("\n", maxLexBytes)} {
		wantLex(t, s, nil)
	}
	ab := []impl.Tok{nameTok("a"), nameTok("b")}
	for _, s := range []string{"a b", " a b", "a b ", "a  b", "a\nb", "\na\n\n b\n", " \n a \n b \n "} {
		wantLex(t, s, ab)
	}
	wantLex(t, "ab", []impl.Tok{nameTok("ab")})
	wantLex(t, "1 2", []impl.Tok{numberTok(1), numberTok(2)})
	wantLex(t, "fo r", []impl.Tok{nameTok("fo"), nameTok("r")})
	for _, s := range []string{"\t", "\r", "\r\n", "a\tb", "\v", "\f", "\x00", "a\x00", "\u00a0", "a\u00a0b", "\u2028", "\u3000", "\ufeff", "\ufeffa", "\x85"} {
		wantNoLex(t, s)
	}
}

// All letters that follow each other are one piece, though a part of them would be kept or a name.
func TestLexLetters(t *testing.T) {
	for _, s := range []string{"a", "abcdef", "fori", "tox", "xto", "minmax", "prints", "maxi"} {
		wantLex(t, s, []impl.Tok{nameTok(s)})
		wantLex(t, ";"+s+";", []impl.Tok{markTok(";"), nameTok(s), markTok(";")})
	}
	wantLex(t, "abcdef;", []impl.Tok{nameTok("abcdef"), markTok(";")})
	for _, s := range []string{"abcdefg", "arrayfor", "forprint", "printed", "abcdefabcdef", strings.Repeat("a", maxLexBytes)} {
		wantNoLex(t, s)
	}
	for _, s := range []string{"A", "For", "fOR", "aB", "Ab", "MIN", "a B", "x = A;", "é", "aé", "ß", "ａ"} {
		wantNoLex(t, s)
	}
	wantNoLex(t, "; abcdefg ;")
}

func TestLexNumbers(t *testing.T) {
	for _, n := range []int{0, 1, 9, 10, 11, 19, 90, 99, 100, 101, 909, 1000, 10000, 99999, 100000, 999998, 999999} {
		s := strconv.Itoa(n)
		wantLex(t, s, []impl.Tok{numberTok(n)})
		wantLex(t, "("+s+")", []impl.Tok{markTok("("), numberTok(n), markTok(")")})
	}
	for _, s := range []string{
		"1000000", "1000001", "9999999", "2147483647", "2147483648", "4294967296", "4294967297", "18446744073709551616", "18446744073709551617",
		strings.Repeat("1", 40), strings.Repeat("9", maxLexBytes), "x = 1000000;",
	} {
		wantNoLex(t, s)
	}
	for _, s := range []string{"1.5", "1_0", "0x1", "1e3", "+1", "0b1"} {
		want, ok := lexed(s)
		if got, gotOk := impl.Lex(s); gotOk != ok || !slices.Equal(got, want) {
			t.Errorf("Lex(%q) is %v, %v, not %v, %v", s, got, gotOk, want, ok)
		}
	}
}

func TestLexNoughtsAhead(t *testing.T) {
	wantLex(t, "0", []impl.Tok{numberTok(0)})
	wantLex(t, "0 0", []impl.Tok{numberTok(0), numberTok(0)})
	wantLex(t, "0 7", []impl.Tok{numberTok(0), numberTok(7)})
	wantLex(t, "0\n7", []impl.Tok{numberTok(0), numberTok(7)})
	wantLex(t, "0;0", []impl.Tok{numberTok(0), markTok(";"), numberTok(0)})
	wantLex(t, "-0", []impl.Tok{markTok("-"), numberTok(0)})
	wantLex(t, "a0", []impl.Tok{nameTok("a"), numberTok(0)})
	wantLex(t, "0a", []impl.Tok{numberTok(0), nameTok("a")})
	wantLex(t, "to0", []impl.Tok{keptTok("to"), numberTok(0)})
	wantLex(t, "a0b0", []impl.Tok{nameTok("a"), numberTok(0), nameTok("b"), numberTok(0)})
	wantLex(t, "abcdef10abcdef", []impl.Tok{nameTok("abcdef"), numberTok(10), nameTok("abcdef")})
	for _, s := range []string{
		"00", "000", "01", "07", "007", "010", "0999999", "0000001", "01000000", "-07", "-00", "a00", "a07", "to07", "07a", "a 07", "07 ", " 07", "1 07", "[00]", "0 00",
		strings.Repeat("0", 30), strings.Repeat("0", 30) + "1", strings.Repeat("0", maxLexBytes),
	} {
		wantNoLex(t, s)
	}
}

func TestLexOtherSigns(t *testing.T) {
	for b := range 256 {
		for _, s := range []string{string([]byte{byte(b)}), string([]byte{'a', byte(b), 'b'}), string([]byte{'1', byte(b)}), string([]byte{byte(b), ';'})} {
			want, ok := lexed(s)
			if got, gotOk := impl.Lex(s); gotOk != ok || !slices.Equal(got, want) {
				t.Errorf("Lex(%q) is %v, %v, not %v, %v", s, got, gotOk, want, ok)
			}
		}
	}
	for _, s := range []string{
		"$", "<", ">", "/", ":", "|", "&", "!", "?", "@", "#", "%", "^", "~", "_", "`", "'", "\"", "\\", ".", "a.b", "a/b", "x = 1 $", "$ x",
		"\xff", "\x80", "\xc3", "\xc3(", "a\xe2\x82", "\xf0\x9f\x98", "\xed\xa0\x80", "\xc0\xaf", "1\xff", ";\xfe",
		"\ufffd", "a\ufffd", "→", "；", "－", "１", "²", "٣", "€", "😀",
	} {
		wantNoLex(t, s)
	}
}

func TestLexMostToks(t *testing.T) {
	for _, one := range []string{";", "a ", "a;", "1\n", "a1", "for ", " [ "} {
		toks, _ := lexed(one)
		times := impl.MaxToks / len(toks)
		if len(one)*times > maxLexBytes {
			t.Fatalf("%q is too long for this", one)
		}
		most := strings.Repeat(one, times)
		wantLex(t, most, slices.Repeat(toks, times))
		wantLex(t, most+" ", slices.Repeat(toks, times))
		wantNoLex(t, most+";")
		wantNoLex(t, "; "+most)
		wantNoLex(t, most+" 1")
		wantNoLex(t, most+" b")
	}
	wantLex(t, strings.Repeat(";", 599), slices.Repeat([]impl.Tok{markTok(";")}, 599))
	wantNoLex(t, strings.Repeat(";", 3000))
}

func TestLexMostBytes(t *testing.T) {
	for _, c := range []struct {
		text string
		want []impl.Tok
	}{
		{"", nil}, {"x", []impl.Tok{nameTok("x")}}, {"x = 12;", []impl.Tok{nameTok("x"), markTok("="), numberTok(12), markTok(";")}},
	} {
		room := maxLexBytes - len(c.text)
		for _, gap := range []string{" ", "\n"} {
			wantLex(t, c.text+strings.Repeat(gap, room), c.want)
			wantLex(t, strings.Repeat(gap, room)+c.text, c.want)
			wantNoLex(t, c.text+strings.Repeat(gap, room+1))
			wantNoLex(t, strings.Repeat(gap, room+1)+c.text)
		}
	}
	// 500 words of 5 letters with a blank behind each: 3000 bytes that are all needed.
	full := strings.Repeat("abcde ", 500)
	wantLex(t, full, slices.Repeat([]impl.Tok{nameTok("abcde")}, 500))
	wantNoLex(t, full+" ")
	wantNoLex(t, full+"a")
	wantNoLex(t, strings.Repeat(" ", 100000))
}

func TestTokText(t *testing.T) {
	for _, c := range []struct {
		l    []impl.Tok
		want string
	}{
		{nil, ""},
		{[]impl.Tok{}, ""},
		{[]impl.Tok{nameTok("a")}, "a"},
		{[]impl.Tok{numberTok(0)}, "0"},
		{[]impl.Tok{nameTok("a"), numberTok(0)}, "a 0"},
		{[]impl.Tok{keptTok("for"), nameTok("i"), markTok("="), numberTok(999999), markTok(";")}, "for i = 999999 ;"},
		{[]impl.Tok{markTok("-"), markTok("-"), numberTok(10)}, "- - 10"},
		// Lex answers none of these: they are told as they stand.
		{[]impl.Tok{numberTok(-7), numberTok(1000000), nameTok("Seven letters"), markTok("")}, "-7 1000000 Seven letters "},
		{[]impl.Tok{{K: impl.TkNum, S: "x", N: 4}, {K: impl.TkName, S: "y", N: 5}, {K: impl.TkMark, S: "+", N: 6}}, "4 y +"},
		{[]impl.Tok{{}, {}}, " "},
		{[]impl.Tok{{K: 9, S: "?"}, {K: -1, S: "\xff"}}, "? \xff"},
	} {
		if got := impl.TokText(c.l); got != c.want {
			t.Errorf("TokText(%v) is %q, not %q", c.l, got, c.want)
		}
	}
	if got := impl.TokText(slices.Repeat([]impl.Tok{markTok(";")}, 700)); got != strings.Repeat("; ", 699)+";" {
		t.Errorf("TokText of 700 marks has %d bytes", len(got))
	}
}

func TestSignsComeBack(t *testing.T) {
	for _, s := range []string{
		"", " ", "a", "0", "a0", "0a", "a0b0", "x=1;", "for i=0to 15{a[i]=b[i]*2;}", "min(a,max(b,999999))", "to0to0", "-0", ";=[](){}+-*,",
		strings.Repeat(";", 600), strings.Repeat("a1", 300), strings.Repeat("ab 1\n", 300), strings.Repeat("abcdef,", 300),
		// Some of these are longer when told than when read: 3000 bytes just, 3001, and more.
		strings.Repeat("abcde ", 499) + "abcdef", strings.Repeat("abcde;", 299) + "abcde", strings.Repeat("abcdef99999;", 200),
		strings.Repeat("abcdef100000;", 200), strings.Repeat("abcdef100000 ", 214) + "abcd", strings.Repeat("abcdef100000 ", 214) + "abcde", strings.Repeat("abcdef100000 ", 215),
	} {
		want, ok := lexed(s)
		if !ok {
			t.Fatalf("%.40q is wrong for this", s)
		}
		wantLex(t, s, want)
		wantSameAgain(t, want)
	}
}

// Texts put together of pieces and gaps, of which some cannot be read.
func TestLexOfManyTexts(t *testing.T) {
	pieces := []string{
		"a", "b", "zz", "abcdef", "for", "to", "array", "print", "min", "max", "0", "7", "10", "999999", "12345", "00", "01",
		";", "=", "[", "]", "(", ")", "{", "}", "+", "-", "*", ",", " ", " ", " ", "\n", "\n", "  ", "abcdefg", "1000000", "A", "$", "\xff", "\t", "é",
	}
	seed := uint64(7)
	pick := func(n int) int {
		seed = seed*6364136223846793005 + 1442695040888963407
		return int(seed>>33) % n
	}
	good := 0
	for round := range 6000 {
		// The last pieces are wrong ones; with most texts they are left out.
		of := pieces
		if round%4 != 0 {
			of = pieces[:len(pieces)-7]
		}
		var b strings.Builder
		for range pick(12) {
			b.WriteString(of[pick(len(of))])
			if pick(3) > 0 {
				b.WriteString(" ")
			}
		}
		s := b.String()
		want, ok := lexed(s)
		if !ok {
			wantNoLex(t, s)
			continue
		}
		good++
		wantLex(t, s, want)
		wantSameAgain(t, want)
	}
	if good < 1000 {
		t.Errorf("only %d texts could be read", good)
	}
}

func TestSignsAreNewMemory(t *testing.T) {
	text := "for i = 0 to 12"
	first, _ := impl.Lex(text)
	want := slices.Clone(first)
	second, _ := impl.Lex(text)
	clear(second)
	if !slices.Equal(first, want) {
		t.Errorf("two answers of Lex share memory: %v", first)
	}
	wantLex(t, text, want)

	behind := nameTok("behind")
	room := []impl.Tok{nameTok("a"), numberTok(1), behind}
	if got := impl.TokText(room[:2]); got != "a 1" {
		t.Errorf("TokText tells %q", got)
	}
	if !slices.Equal(room, []impl.Tok{nameTok("a"), numberTok(1), behind}) {
		t.Errorf("TokText wrote into its argument: %v", room)
	}
}
