package tests

import (
	"regexp"
	"slices"
	"strconv"
	"strings"
	"testing"

	"loop.example/g01292/impl"
)

func open(at int) impl.Token { return impl.Token{Kind: impl.TkOpen, Text: "(", At: at} }
func shut(at int) impl.Token { return impl.Token{Kind: impl.TkClose, Text: ")", At: at} }
func word(s string, at int) impl.Token {
	return impl.Token{Kind: impl.TkWord, Text: s, At: at}
}
func num(n int, at int) impl.Token {
	return impl.Token{Kind: impl.TkNum, Text: strconv.Itoa(n), N: n, At: at}
}

func TestConstantsOfWords(t *testing.T) {
	if impl.MaxText != 4000 || impl.TkOpen != 1 || impl.TkClose != 2 || impl.TkWord != 3 || impl.TkNum != 4 {
		t.Error("a constant of chapter 2 is not as the document has it")
	}
}

func TestIsWord(t *testing.T) {
	for _, s := range []string{"a", "z", "az", "fun", "nil", "abcdefg", "abcdefgh", "zzzzzzzz"} {
		if !impl.IsWord(s) {
			t.Errorf("IsWord(%q) is false", s)
		}
	}
	for _, s := range []string{"", "abcdefghi", "A", "aB", "Ab", "a1", "1a", "1", " ", "a ", " a", "a b", "a\n", "a\x00",
		"`", "{", "a`", "z{", "é", "aé", "\xe1", "a\xff", "(", "a(", "#", "-", strings.Repeat("a", 9), strings.Repeat("a", 5000)} {
		if impl.IsWord(s) {
			t.Errorf("IsWord(%q) is true", s)
		}
	}
	for b := range 256 {
		if got, want := impl.IsWord(string([]byte{byte(b)})), b >= 97 && b <= 122; got != want {
			t.Errorf("IsWord of the byte %d is %v", b, got)
		}
		if got, want := impl.IsWord("abcdefg"+string([]byte{byte(b)})), b >= 97 && b <= 122; got != want {
			t.Errorf("IsWord of seven letters and the byte %d is %v", b, got)
		}
	}
	for n := range 20 {
		if got, want := impl.IsWord(strings.Repeat("q", n)), n >= 1 && n <= 8; got != want {
			t.Errorf("IsWord of %d letters is %v", n, got)
		}
	}
}

func TestLex(t *testing.T) {
	cases := []struct {
		s    string
		want []impl.Token
	}{
		{"", nil}, {" ", nil}, {"\n", nil}, {" \n \n", nil}, {"#", nil}, {"# all of it", nil}, {"#\n", nil}, {"# a\n# b\n", nil},
		{"(", []impl.Token{open(0)}}, {")", []impl.Token{shut(0)}}, {")(", []impl.Token{shut(0), open(1)}},
		{"a", []impl.Token{word("a", 0)}}, {"abcdefgh", []impl.Token{word("abcdefgh", 0)}},
		{"0", []impl.Token{num(0, 0)}}, {"7", []impl.Token{num(7, 0)}}, {"65535", []impl.Token{num(65535, 0)}},
		{"(add xy 12)", []impl.Token{open(0), word("add", 1), word("xy", 5), num(12, 8), shut(10)}},
		{"  a\n\n b ", []impl.Token{word("a", 2), word("b", 6)}},
		{"a1", []impl.Token{word("a", 0), num(1, 1)}}, {"1a", []impl.Token{num(1, 0), word("a", 1)}},
		{"12ab34", []impl.Token{num(12, 0), word("ab", 2), num(34, 4)}},
		{"a(b)0(1)", []impl.Token{word("a", 0), open(1), word("b", 2), shut(3), num(0, 4), open(5), num(1, 6), shut(7)}},
		{"((a))", []impl.Token{open(0), open(1), word("a", 2), shut(3), shut(4)}},
		{"abcdefgh abcdefgh", []impl.Token{word("abcdefgh", 0), word("abcdefgh", 9)}},
		{"abcdefgh1abcdefgh", []impl.Token{word("abcdefgh", 0), num(1, 8), word("abcdefgh", 9)}},
		{"a#b\nc", []impl.Token{word("a", 0), word("c", 4)}}, {"a # b", []impl.Token{word("a", 0)}},
		{"a # b\n", []impl.Token{word("a", 0)}}, {"1#2", []impl.Token{num(1, 0)}}, {"(#)\n)", []impl.Token{open(0), shut(4)}},
		{"#\na", []impl.Token{word("a", 2)}}, {"## # \n1", []impl.Token{num(1, 6)}},
		{"#a\n#b\nc#d", []impl.Token{word("c", 6)}},
		{"# A - 007 abcdefghi é \xff\x00\tend\n9", []impl.Token{num(9, 30)}},
		{"#\xc3\nx", []impl.Token{word("x", 3)}}, {"#\xf0\x9f\x98\nx", []impl.Token{word("x", 5)}},
	}
	for _, c := range cases {
		got, bad := impl.Lex(c.s)
		if bad != -1 || !slices.Equal(got, c.want) {
			t.Errorf("Lex(%q) = %v, %d, want %v", c.s, got, bad, c.want)
		}
	}
}

func TestLexOfWrongTexts(t *testing.T) {
	cases := []struct {
		s  string
		at int
	}{
		{"abcdefghi", 0}, {"a abcdefghi b", 2}, {"(abcdefghi", 1}, {"1abcdefghi", 1}, {strings.Repeat("a", 4000), 0},
		{"00", 0}, {"01", 0}, {"a 007", 2}, {"x00", 1}, {"65536", 0}, {" 65536", 1}, {"99999", 0}, {"a100000", 1},
		{"999999999", 0}, {"1000000000", 0}, {"9999999999", 0}, {"0999999999", 0}, {"18446744073709551617", 0},
		{"18446744073709551616", 0}, {"4294967296", 0}, {"65535 65536", 6}, {strings.Repeat("9", 4000), 0}, {strings.Repeat("0", 4000), 0},
		{"-1", 0}, {"+1", 0}, {"1 -1", 2}, {"1-1", 1}, {"1+", 1}, {"1.5", 1}, {"1_0", 1}, {"0x1 _", 4},
		{"A", 0}, {"aB", 1}, {"abcdefghI", 8}, {"(A)", 1}, {"fun F", 4},
		{"\t", 0}, {"a\tb", 1}, {"a\r\nb", 1}, {"\x00", 0}, {"\x7f", 0}, {"a\x0b", 1}, {"[", 0}, {"a;b", 1}, {"\"a\"", 0}, {"'", 0},
		{"é", 0}, {"aé", 1}, {"é1", 0}, {"a \xff", 2}, {"\x80", 0}, {"(\xc3", 1}, {"\xc3(", 0}, {"1\u0661", 1}, {"a\u00a0b", 1},
		{"\xef\xbb\xbfa", 0}, {"a\u2028", 1}, {"\U0001F600", 0}, {"\xed\xa0\x80", 0}, {"a\xf4\x90\x80\x80", 1},
		{"# remark\n# another\n  @", 21}, {"# @\na @", 6}, {"a # b\n -", 7}, {"# é\n\xff", 5},
		{"( ) 007 abcdefghi @", 4}, {"@ 007", 0}, {"abcdefghi @", 0}, {strings.Repeat(" ", 3999) + "-", 3999},
	}
	for _, c := range cases {
		got, bad := impl.Lex(c.s)
		if bad != c.at || len(got) != 0 {
			t.Errorf("Lex(%q) = %v, %d, want nothing and %d", c.s, got, bad, c.at)
		}
	}
}

func TestLexOfEachByte(t *testing.T) {
	for b := range 256 {
		s := "a " + string([]byte{byte(b)}) + " b"
		good := b == ' ' || b == '\n' || b == '#' || b == '(' || b == ')' || b >= 'a' && b <= 'z' || b >= '0' && b <= '9'
		want := 2
		if good {
			want = -1
		}
		got, bad := impl.Lex(s)
		if bad != want || !good && len(got) != 0 {
			t.Errorf("Lex(%q) = %v, %d", s, got, bad)
		}
	}
}

func TestLexOfEachNumber(t *testing.T) {
	for n := range 70000 {
		s := " " + strconv.Itoa(n)
		got, bad := impl.Lex(s)
		if n <= 65535 && (bad != -1 || !slices.Equal(got, []impl.Token{num(n, 1)})) || n > 65535 && (bad != 1 || len(got) != 0) {
			t.Fatalf("Lex(%q) = %v, %d", s, got, bad)
		}
	}
	for digits := 1; digits <= 25; digits++ {
		s := "1" + strings.Repeat("0", digits-1)
		if _, bad := impl.Lex(s); (bad == -1) != (digits <= 5) {
			t.Errorf("Lex(%q) tells %d", s, bad)
		}
	}
}

func TestLexAtMaxText(t *testing.T) {
	brackets := strings.Repeat("(", impl.MaxText)
	got, bad := impl.Lex(brackets)
	if bad != -1 || len(got) != impl.MaxText {
		t.Fatal("Lex of MaxText bytes", len(got), bad)
	}
	for i, x := range got {
		if x != open(i) {
			t.Fatal("Lex of MaxText bytes", i, x)
		}
	}
	last := strings.Repeat(" ", impl.MaxText-2) + "ab"
	if got, bad := impl.Lex(last); bad != -1 || !slices.Equal(got, []impl.Token{word("ab", impl.MaxText-2)}) {
		t.Error("Lex of a word at the end of MaxText bytes", got, bad)
	}
	for _, s := range []string{brackets + "(", last + " ", strings.Repeat(" ", impl.MaxText+1), "@" + brackets, "# " + brackets,
		strings.Repeat("a", impl.MaxText+1), strings.Repeat("é", impl.MaxText/2+1), strings.Repeat("(", 100000)} {
		if got, bad := impl.Lex(s); bad != impl.MaxText || len(got) != 0 {
			t.Errorf("Lex of %d bytes = %d tokens, %d", len(s), len(got), bad)
		}
	}
	// A limit in bytes, not in letters.
	if _, bad := impl.Lex("#" + strings.Repeat("é", 1999) + "a"); bad != -1 {
		t.Error("Lex of a remark of two-byte letters up to MaxText", bad)
	}
}

var lexPart = regexp.MustCompile(`^(?:([ \n]|#[^\n]*)|(\()|(\))|([a-z]+)|([0-9]+))`)
var lexNumber = regexp.MustCompile(`^(?:0|[1-9][0-9]{0,8})$`)

// lexByPattern says what chapter 2 says, by patterns.
func lexByPattern(s string) ([]impl.Token, int) {
	var out []impl.Token
	for at := 0; at < len(s); {
		m := lexPart.FindStringSubmatch(s[at:])
		switch {
		case m == nil || len(m[4]) > 8:
			return nil, at
		case m[2] != "":
			out = append(out, open(at))
		case m[3] != "":
			out = append(out, shut(at))
		case m[4] != "":
			out = append(out, word(m[4], at))
		case m[5] != "":
			n, _ := strconv.Atoi(m[5])
			if !lexNumber.MatchString(m[5]) || n > 65535 {
				return nil, at
			}
			out = append(out, num(n, at))
		}
		at += len(m[0])
	}
	return out, -1
}

func withoutPlaces(l []impl.Token) []impl.Token {
	out := slices.Clone(l)
	for i := range out {
		out[i].At = 0
	}
	return out
}

// checkLex holds Lex against the patterns, and, where s has tokens, P2: they
// stand where they are said to, and Unlex of them is read as the same ones.
func checkLex(t *testing.T, s string) {
	t.Helper()
	got, bad := impl.Lex(s)
	want, wantBad := lexByPattern(s)
	if bad != wantBad || !slices.Equal(got, want) {
		t.Fatalf("Lex(%q) = %v, %d, want %v, %d", s, got, bad, want, wantBad)
	}
	for _, x := range got {
		if !strings.HasPrefix(s[x.At:], x.Text) {
			t.Fatalf("Lex(%q): %v does not stand there", s, x)
		}
	}
	again, bad := impl.Lex(impl.Unlex(got))
	if bad != -1 || !slices.Equal(withoutPlaces(again), withoutPlaces(got)) {
		t.Fatalf("Lex(Unlex) of the tokens of %q = %v, %d, want %v", s, again, bad, got)
	}
	if one, two := impl.Unlex(again), impl.Unlex(got); one != two {
		t.Fatalf("Unlex of %q read again is %q", two, one)
	}
}

// TestLexOfAllShortTexts goes through all texts of up to five of these parts.
func TestLexOfAllShortTexts(t *testing.T) {
	parts := []string{"a", "0", "6553", "bcdefghi", "(", ")", " ", "\n", "#", "@", "é"}
	texts := []string{""}
	checkLex(t, "")
	for range 5 {
		var longer []string
		for _, s := range texts {
			for _, p := range parts {
				longer = append(longer, s+p)
				checkLex(t, s+p)
			}
		}
		texts = longer
	}
}

func TestUnlex(t *testing.T) {
	cases := []struct{ s, want string }{
		{"", ""}, {" # a", ""}, {"a", "a"}, {"(", "("}, {")", ")"}, {"0", "0"},
		{"(add  xy 12) # no\n nil", "(add xy 12) nil"}, {"( a )", "(a)"}, {"()", "()"}, {"( )", "()"}, {"((", "(("}, {"))", "))"},
		{")(", ") ("}, {"a(b", "a (b"}, {"a)b", "a) b"}, {"a1b2", "a 1 b 2"}, {"1(2", "1 (2"}, {")1", ") 1"}, {"( (a) (b) )", "((a) (b))"},
		{"(app(fun x x)1)", "(app (fun x x) 1)"}, {"a\nb", "a b"},
	}
	for _, c := range cases {
		l, bad := impl.Lex(c.s)
		if got := impl.Unlex(l); bad != -1 || got != c.want {
			t.Errorf("Unlex of the tokens of %q = %q, want %q", c.s, got, c.want)
		}
	}
}

func TestUnlexOfTokensThatLexDidNotMake(t *testing.T) {
	cases := []struct {
		l    []impl.Token
		want string
	}{
		{nil, ""}, {[]impl.Token{}, ""}, {[]impl.Token{{}}, ""}, {[]impl.Token{{}, {}}, " "}, {[]impl.Token{{}, {}, {}}, "  "},
		{[]impl.Token{{Text: "A b"}, {Kind: 9, Text: "\xff"}}, "A b \xff"},
		{[]impl.Token{{Kind: impl.TkOpen}, {Kind: impl.TkWord, Text: "a"}, {Kind: impl.TkClose}}, "a"},
		{[]impl.Token{{Kind: impl.TkOpen, Text: "["}, {Kind: impl.TkNum, N: 7}, {Kind: impl.TkClose, Text: "]"}}, "[]"},
		{[]impl.Token{{Kind: impl.TkNum, N: 7, Text: "8", At: -3}, {Kind: -1, Text: "("}, {Kind: impl.TkWord, Text: ")"}}, "8 ( )"},
		{[]impl.Token{{Kind: impl.TkClose, Text: "x"}, {Kind: impl.TkOpen, Text: "y"}, {Kind: impl.TkOpen, Text: "z"}}, "x yz"},
		{[]impl.Token{{Kind: impl.TkClose, At: 5}, {Kind: impl.TkClose}}, ""},
		{[]impl.Token{{Text: strings.Repeat("q", 9000)}, {Text: "r"}}, strings.Repeat("q", 9000) + " r"},
	}
	for _, c := range cases {
		if got := impl.Unlex(c.l); got != c.want {
			t.Errorf("Unlex(%v) = %q, want %q", c.l, got, c.want)
		}
	}
}

func TestUnlexOfTheFirstMaxTextTokens(t *testing.T) {
	for _, n := range []int{impl.MaxText - 1, impl.MaxText, impl.MaxText + 1, 3 * impl.MaxText} {
		l := slices.Repeat([]impl.Token{{Kind: impl.TkWord, Text: "a"}}, n)
		l[len(l)-1].Text = "b"
		want := strings.Repeat("a ", min(n, impl.MaxText)-1) + "a"
		if n <= impl.MaxText {
			want = want[:len(want)-1] + "b"
		}
		if got := impl.Unlex(l); got != want {
			t.Errorf("Unlex of %d tokens has %d bytes, want %d", n, len(got), len(want))
		}
	}
}

// TestUnlexOfTokensThatStoodClose: the blanks that Unlex lays between tokens may
// make a text that is longer than Lex takes; the words of both functions hold.
func TestUnlexOfTokensThatStoodClose(t *testing.T) {
	l, bad := impl.Lex(strings.Repeat("a1", impl.MaxText/2))
	if bad != -1 || len(l) != impl.MaxText {
		t.Fatal("Lex of tokens that stand close", len(l), bad)
	}
	s := impl.Unlex(l)
	if s != strings.Repeat("a 1 ", impl.MaxText/2-1)+"a 1" {
		t.Error("Unlex of tokens that stood close", len(s))
	}
	if again, bad := impl.Lex(s); bad != impl.MaxText || len(again) != 0 {
		t.Error("Lex of what Unlex made of them", len(again), bad)
	}
}

func TestUnlexLeavesItsTokensAsTheyAre(t *testing.T) {
	l, _ := impl.Lex("(add xy 12) nil")
	before := slices.Clone(l)
	impl.Unlex(l[:3])
	if !slices.Equal(l, before) {
		t.Error("Unlex wrote into its tokens", l)
	}
}
