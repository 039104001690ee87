package tests

import (
	"math"
	"strings"
	"testing"

	"loop.example/g01292/impl"
)

// edgeNumbers stands around each power of two, so that every width and every
// number of Var bytes is met at its greatest number and at the one behind it.
func edgeNumbers() []int {
	out := []int{0, 9, 10, 300, 999999999, 1000000000, math.MaxInt, math.MinInt, math.MinInt + 1}
	for bit := 0; bit < 63; bit++ {
		p := 1 << bit
		out = append(out, p-1, p, p+1, -p, 1-p)
	}
	return append(out, impl.MaxVar-1, impl.MaxVar, impl.MaxVar+1)
}

func TestMaxVar(t *testing.T) {
	if impl.MaxVar != 1<<49-1 {
		t.Error("MaxVar", impl.MaxVar)
	}
}

func TestFixed(t *testing.T) {
	cases := []struct {
		n, width int
		want     string
	}{
		{0, 1, "\x00"}, {255, 1, "\xff"}, {256, 1, ""},
		{0, 2, "\x00\x00"}, {258, 2, "\x01\x02"}, {65535, 2, "\xff\xff"}, {65536, 2, ""},
		{65536, 3, "\x01\x00\x00"}, {1, 7, "\x00\x00\x00\x00\x00\x00\x01"},
		{0x01020304050607, 7, "\x01\x02\x03\x04\x05\x06\x07"},
		{1<<56 - 1, 7, "\xff\xff\xff\xff\xff\xff\xff"}, {1 << 56, 7, ""}, {math.MaxInt, 7, ""},
		{0, 0, ""}, {1, 0, ""}, {0, 8, ""}, {1, 8, ""}, {0, -1, ""}, {0, 64, ""},
		{0, math.MaxInt, ""}, {0, math.MinInt, ""}, {math.MaxInt, math.MaxInt, ""},
		{-1, 1, ""}, {-1, 7, ""}, {-256, 2, ""}, {math.MinInt, 7, ""}, {-1, 8, ""},
	}
	for _, c := range cases {
		if got := impl.Fixed(c.n, c.width); got != c.want {
			t.Errorf("Fixed(%d, %d) = %q, want %q", c.n, c.width, got, c.want)
		}
	}
}

func fixedByDivision(n int, width int) string {
	if width < 1 || width > 7 || n < 0 {
		return ""
	}
	out := ""
	for range width {
		out = string([]byte{byte(n % 256)}) + out
		n /= 256
	}
	if n != 0 {
		return ""
	}
	return out
}

func TestFixedAtEdges(t *testing.T) {
	for _, n := range edgeNumbers() {
		for width := -1; width <= 9; width++ {
			s := impl.Fixed(n, width)
			if want := fixedByDivision(n, width); s != want {
				t.Errorf("Fixed(%d, %d) = %q, want %q", n, width, s, want)
			}
			if s == "" {
				continue
			}
			for _, behind := range []string{"", "\x00", "\xff", "more"} {
				if got, ok := impl.ReadFixed(s+behind, width); got != n || !ok {
					t.Errorf("ReadFixed(%q, %d) = %d, %v, want %d", s+behind, width, got, ok, n)
				}
			}
		}
	}
}

func TestReadFixed(t *testing.T) {
	cases := []struct {
		s     string
		width int
		n     int
		ok    bool
	}{
		{"\x00", 1, 0, true}, {"\xff", 1, 255, true}, {"\xff\x80", 1, 255, true},
		{"\x01\x02", 2, 258, true}, {"\x01\x02\x03", 2, 258, true}, {"\x00\x00\x00\x01", 3, 0, true},
		{"\xff\xff\xff\xff\xff\xff\xff", 7, 1<<56 - 1, true},
		{"\xff\xff\xff\xff\xff\xff\xff\xff", 7, 1<<56 - 1, true},
		{"\x00\x00\x00\x00\x00\x00\x01", 7, 1, true},
		{"", 1, 0, false}, {"a", 2, 0, false}, {"abcdef", 7, 0, false}, {"", 7, 0, false},
		{"", 0, 0, false}, {"abc", 0, 0, false}, {"abcdefgh", 8, 0, false}, {"abcdefghi", 8, 0, false},
		{"abc", -1, 0, false}, {"abc", math.MinInt, 0, false}, {"abc", math.MaxInt, 0, false},
	}
	for _, c := range cases {
		if n, ok := impl.ReadFixed(c.s, c.width); n != c.n || ok != c.ok {
			t.Errorf("ReadFixed(%q, %d) = %d, %v, want %d, %v", c.s, c.width, n, ok, c.n, c.ok)
		}
	}
}

func TestReadFixedTellsOnlyWhatFixedMakes(t *testing.T) {
	texts := []string{"", "\x00", "\x7f", "\x80", "\xff", "\x00\x00", "\x00\xff", "\xff\x00",
		"\x00\x00\x00\x00\x00\x00\x00\x00\x00", "\xff\xff\xff\xff\xff\xff\xff\xff\xff", "\x80\x00\xff\x01\x7f\xfe\x10\x20"}
	for _, s := range texts {
		for width := -1; width <= 9; width++ {
			n, ok := impl.ReadFixed(s, width)
			if ok != (width >= 1 && width <= 7 && width <= len(s)) {
				t.Errorf("ReadFixed(%q, %d) says %v", s, width, ok)
			}
			if ok && impl.Fixed(n, width) != s[:width] {
				t.Errorf("ReadFixed(%q, %d) = %d, of which Fixed makes %q", s, width, n, impl.Fixed(n, width))
			}
			if !ok && n != 0 {
				t.Errorf("ReadFixed(%q, %d) = %d beside false", s, width, n)
			}
		}
	}
}

func TestVar(t *testing.T) {
	cases := []struct {
		n    int
		want string
	}{
		{0, "\x00"}, {1, "\x01"}, {127, "\x7f"}, {128, "\x80\x01"}, {255, "\xff\x01"}, {300, "\xac\x02"},
		{16383, "\xff\x7f"}, {16384, "\x80\x80\x01"}, {1<<42 - 1, "\xff\xff\xff\xff\xff\x7f"},
		{1 << 42, "\x80\x80\x80\x80\x80\x80\x01"},
		{impl.MaxVar - 1, "\xfe\xff\xff\xff\xff\xff\x7f"}, {impl.MaxVar, "\xff\xff\xff\xff\xff\xff\x7f"},
		{impl.MaxVar + 1, ""}, {math.MaxInt, ""}, {-1, ""}, {-128, ""}, {math.MinInt, ""},
	}
	for _, c := range cases {
		if got := impl.Var(c.n); got != c.want {
			t.Errorf("Var(%d) = %q, want %q", c.n, got, c.want)
		}
	}
}

func varByDivision(n int) string {
	if n < 0 || n > impl.MaxVar {
		return ""
	}
	if n < 128 {
		return string([]byte{byte(n)})
	}
	return string([]byte{byte(n%128 + 128)}) + varByDivision(n/128)
}

func TestVarAtEdges(t *testing.T) {
	numbers := edgeNumbers()
	for n := range 70000 {
		numbers = append(numbers, n)
	}
	for _, n := range numbers {
		s := impl.Var(n)
		if want := varByDivision(n); s != want {
			t.Errorf("Var(%d) = %q, want %q", n, s, want)
		}
		if s == "" {
			continue
		}
		for _, behind := range []string{"", "\x00", "\x80", "\xff\xff", "more"} {
			if got, k := impl.ReadVar(s + behind); got != n || k != len(s) {
				t.Errorf("ReadVar(%q) = %d, %d, want %d, %d", s+behind, got, k, n, len(s))
			}
		}
		for cut := range len(s) {
			if got, k := impl.ReadVar(s[:cut]); got != 0 || k != 0 {
				t.Errorf("ReadVar(%q) = %d, %d of a text that is cut off", s[:cut], got, k)
			}
		}
	}
}

func TestReadVar(t *testing.T) {
	cases := []struct {
		s    string
		n, k int
	}{
		{"\x00", 0, 1}, {"\x00\x00", 0, 1}, {"\x00\x80", 0, 1}, {"\x7f\xff", 127, 1},
		{"\xac\x02", 300, 2}, {"\xac\x02z", 300, 2}, {"\xac\x02\x00", 300, 2}, {"\x80\x80\x01\x01", 16384, 3},
		{"\xff\xff\xff\xff\xff\xff\x7f", impl.MaxVar, 7}, {"\xff\xff\xff\xff\xff\xff\x7f\x01", impl.MaxVar, 7},
		{"\x80\x80\x80\x80\x80\x80\x01", 1 << 42, 7},
		{"", 0, 0}, {"\x80", 0, 0}, {"\xff", 0, 0}, {"\x80\x80", 0, 0}, {"\xff\xff\xff\xff\xff\xff", 0, 0},
		{"\x80\x00", 0, 0}, {"\x81\x00", 0, 0}, {"\xff\x00", 0, 0}, {"\xac\x82\x00", 0, 0}, {"\x80\x00\x01", 0, 0},
		{"\xff\xff\xff\xff\xff\xff\x00", 0, 0}, {"\x80\x80\x80\x80\x80\x80\x00", 0, 0},
		{"\xff\xff\xff\xff\xff\xff\xff", 0, 0}, {"\xff\xff\xff\xff\xff\xff\xff\x00", 0, 0},
		{"\x80\x80\x80\x80\x80\x80\x80\x01", 0, 0}, {"\xff\xff\xff\xff\xff\xff\xff\x7f", 0, 0},
		{"\xff\xff\xff\xff\xff\xff\xff\xff\x01", 0, 0}, {"\x80\x80\x80\x80\x80\x80\x80\x80\x80\x01", 0, 0},
		{strings.Repeat("\x80", 1000) + "\x01", 0, 0},
	}
	for _, c := range cases {
		if n, k := impl.ReadVar(c.s); n != c.n || k != c.k {
			t.Errorf("ReadVar(%q) = %d, %d, want %d, %d", c.s, n, k, c.n, c.k)
		}
	}
}

func TestReadVarTellsOnlyWhatVarMakes(t *testing.T) {
	made := map[string]int{}
	for n := range 1 << 21 {
		made[impl.Var(n)] = n
	}
	few := []byte{0, 1, 2, 127, 128, 129, 254, 255}
	for a := range 256 {
		for b := range 256 {
			for _, c := range few {
				s := string([]byte{byte(a), byte(b), c})
				wantN, wantK := 0, 0
				for k := 1; k <= 3; k++ {
					if n, ok := made[s[:k]]; ok {
						wantN, wantK = n, k
					}
				}
				if n, k := impl.ReadVar(s); n != wantN || k != wantK {
					t.Fatalf("ReadVar(%q) = %d, %d, want %d, %d", s, n, k, wantN, wantK)
				}
			}
		}
	}
}

func TestHex(t *testing.T) {
	cases := []struct{ s, want string }{
		{"", ""}, {"\x00", "00"}, {"\xff", "ff"}, {"\x0f\xf0", "0ff0"}, {"a\xff", "61ff"}, {"\t\n", "090a"},
		{"é", "c3a9"}, {"\xab\xcd\xef\x01\x23\x45\x67\x89", "abcdef0123456789"},
	}
	for _, c := range cases {
		if got := impl.Hex(c.s); got != c.want {
			t.Errorf("Hex(%q) = %q, want %q", c.s, got, c.want)
		}
		if got, ok := impl.Unhex(c.want); got != c.s || !ok {
			t.Errorf("Unhex(%q) = %q, %v, want %q", c.want, got, ok, c.s)
		}
	}
}

func TestUnhexOfEachPair(t *testing.T) {
	made := map[string]string{}
	for b := range 256 {
		s := string([]byte{byte(b)})
		made[impl.Hex(s)] = s
	}
	if len(made) != 256 {
		t.Fatal("Hex makes one text of two bytes", len(made))
	}
	for a := range 256 {
		for b := range 256 {
			s := string([]byte{byte(a), byte(b)})
			want, wantOk := made[s]
			if got, ok := impl.Unhex(s); got != want || ok != wantOk {
				t.Errorf("Unhex(%q) = %q, %v, want %q, %v", s, got, ok, want, wantOk)
			}
		}
	}
}

func TestUnhexOfWrongTexts(t *testing.T) {
	for _, s := range []string{"0", "f", "6", "616", "61f", "6F", "F6", "AB", "61fF", "0x", "0x61", "6 ", " 6", "-1",
		"+1", "6g", "/0", ":0", "`0", "g0", "@0", "61\n", "\x006", "6162zz", "zz6162", "61 62", "\xff\xff", "é"} {
		if got, ok := impl.Unhex(s); got != "" || ok {
			t.Errorf("Unhex(%q) = %q, %v", s, got, ok)
		}
	}
}

func TestHexOfLongText(t *testing.T) {
	s := strings.Repeat("\x00\x7f\x80\xff", 1<<18)
	h := impl.Hex(s)
	if h != strings.Repeat("007f80ff", 1<<18) {
		t.Fatal("Hex of a long text")
	}
	if got, ok := impl.Unhex(h); got != s || !ok {
		t.Error("Unhex of a long text")
	}
	if got, ok := impl.Unhex(h + "0g"); got != "" || ok {
		t.Error("Unhex of a long text with a fault at its end")
	}
}

func TestDec(t *testing.T) {
	cases := []struct {
		n    int
		want string
	}{
		{0, "0"}, {1, "1"}, {9, "9"}, {10, "10"}, {100, "100"}, {-1, "-1"}, {-10, "-10"}, {-120, "-120"},
		{65535, "65535"}, {999999999, "999999999"}, {1000000000, "1000000000"}, {-1000000000, "-1000000000"},
		{impl.MaxVar, "562949953421311"},
		{math.MaxInt, "9223372036854775807"}, {math.MinInt, "-9223372036854775808"},
		{math.MinInt + 1, "-9223372036854775807"},
	}
	for _, c := range cases {
		if got := impl.Dec(c.n); got != c.want {
			t.Errorf("Dec(%d) = %q, want %q", c.n, got, c.want)
		}
	}
}

func TestReadDec(t *testing.T) {
	numbers := append(edgeNumbers(), 999999998, -999999998, -999999999, -1000000000)
	for n := -2000; n <= 2000; n++ {
		numbers = append(numbers, n)
	}
	for _, n := range numbers {
		wantN, wantOk := n, true
		if n < -999999999 || n > 999999999 {
			wantN, wantOk = 0, false
		}
		if got, ok := impl.ReadDec(impl.Dec(n)); got != wantN || ok != wantOk {
			t.Errorf("ReadDec(%q) = %d, %v, want %d, %v", impl.Dec(n), got, ok, wantN, wantOk)
		}
	}
}

func TestReadDecOfWrongTexts(t *testing.T) {
	for _, s := range []string{"", "-", "--1", "-0", "-00", "00", "01", "-01", "000000001", "0000000001", "+0", "+1", "+", " 1", "1 ",
		"1\n", "1 2", "1-", "1-2", "1_0", "0x1", "0b1", "0o7", "1e3", "1.0", "1a", "a", "nil", "\x00", "1\x00", "\xff", "١",
		"1000000000", "-1000000000", "9999999999", "0999999999", "-0999999999", "4294967296", "9223372036854775807", "-9223372036854775808",
		"9223372036854775808", "18446744073709551616", "18446744073709551617", strings.Repeat("0", 5000), strings.Repeat("9", 5000)} {
		if n, ok := impl.ReadDec(s); n != 0 || ok {
			t.Errorf("ReadDec(%q) = %d, %v", s, n, ok)
		}
	}
}

// TestReadDecTellsOnlyWhatDecMakes goes through all texts of up to five bytes
// of a few that are near to numbers.
func TestReadDecTellsOnlyWhatDecMakes(t *testing.T) {
	made := map[string]int{}
	for n := -9999; n <= 99999; n++ {
		made[impl.Dec(n)] = n
	}
	texts := []string{""}
	for range 5 {
		var longer []string
		for _, s := range texts {
			for _, b := range "019-+ _x" {
				longer = append(longer, s+string(b))
			}
		}
		for _, s := range longer {
			want, wantOk := made[s]
			if n, ok := impl.ReadDec(s); n != want || ok != wantOk {
				t.Errorf("ReadDec(%q) = %d, %v, want %d, %v", s, n, ok, want, wantOk)
			}
		}
		texts = longer
	}
}
