package tests

import (
	"math"
	"slices"
	"strconv"
	"strings"
	"testing"

	"loop.example/g01292/impl"
)

// tableOf makes a table of words: free, int, =3 for a variable that stands for
// entry 3, 1>2, 1*2, list1 and ref1 for the other kinds with their entries.
func tableOf(s string) []impl.Type {
	entry := func(s string) int {
		n, err := strconv.Atoi(s)
		if err != nil {
			panic("no entry: " + s)
		}
		return n
	}
	var t []impl.Type
	for _, w := range strings.Fields(s) {
		from, to, fun := strings.Cut(w, ">")
		left, right, pair := strings.Cut(w, "*")
		switch {
		case w == "free":
			t = append(t, impl.Type{Kind: impl.TyVar, A: -1})
		case w == "int":
			t = append(t, impl.Type{Kind: impl.TyInt})
		case fun:
			t = append(t, impl.Type{Kind: impl.TyFun, A: entry(from), B: entry(to)})
		case pair:
			t = append(t, impl.Type{Kind: impl.TyPair, A: entry(left), B: entry(right)})
		case w[0] == '=':
			t = append(t, impl.Type{Kind: impl.TyVar, A: entry(w[1:])})
		case strings.HasPrefix(w, "list"):
			t = append(t, impl.Type{Kind: impl.TyList, A: entry(w[4:])})
		default:
			t = append(t, impl.Type{Kind: impl.TyRef, A: entry(strings.TrimPrefix(w, "ref"))})
		}
	}
	return t
}

// tellTable writes a table out for a fault's text.
func tellTable(t []impl.Type) string {
	var out []string
	for _, e := range t {
		out = append(out, "{"+strconv.Itoa(e.Kind)+" "+strconv.Itoa(e.A)+" "+strconv.Itoa(e.B)+"}")
	}
	return "[" + strings.Join(out, " ") + "]"
}

// nextByRule tells which entries an entry should have, and which of its numbers
// should be 0.
func nextByRule(e impl.Type) (entries []int, noughts []int) {
	switch e.Kind {
	case impl.TyVar:
		if e.A == -1 {
			return nil, []int{e.B}
		}
		return []int{e.A}, []int{e.B}
	case impl.TyInt:
		return nil, []int{e.A, e.B}
	case impl.TyFun, impl.TyPair:
		return []int{e.A, e.B}, nil
	}
	return []int{e.A}, []int{e.B}
}

// tableRightByRule asks from which entry one comes to which, in any number of
// steps.
func tableRightByRule(t []impl.Type) bool {
	if len(t) > 40 {
		return false
	}
	var comes [40][40]bool
	for i, e := range t {
		if e.Kind < 0 || e.Kind > 5 {
			return false
		}
		entries, noughts := nextByRule(e)
		for _, k := range entries {
			if k < 0 || k >= len(t) {
				return false
			}
			comes[i][k] = true
		}
		for _, k := range noughts {
			if k != 0 {
				return false
			}
		}
	}
	for by := range t {
		for from := range t {
			for to := range t {
				comes[from][to] = comes[from][to] || comes[from][by] && comes[by][to]
			}
		}
	}
	for i := range t {
		if comes[i][i] {
			return false
		}
	}
	return true
}

// sizesByRule tells SizeOf of each entry of a right table; a size far above
// MaxType stays there, so that no number runs over.
func sizesByRule(t []impl.Type) []int {
	sizes := make([]int, len(t))
	var size func(i int) int
	size = func(i int) int {
		if sizes[i] > 0 {
			return sizes[i]
		}
		n := 1
		entries, _ := nextByRule(t[i])
		if t[i].Kind == impl.TyVar && t[i].A >= 0 {
			n = 0
		}
		for _, k := range entries {
			n += size(k)
		}
		sizes[i] = min(n, 1000)
		return sizes[i]
	}
	for i := range t {
		size(i)
	}
	for i := range sizes {
		sizes[i] = min(sizes[i], 61)
	}
	return sizes
}

// typeTree is a type written out whole: v is the entry of a free variable.
type typeTree struct {
	kind int
	v    int
	kids []typeTree
}

func treeByRule(t []impl.Type, i int) typeTree {
	e := t[i]
	if e.Kind == impl.TyVar {
		if e.A < 0 {
			return typeTree{kind: impl.TyVar, v: i}
		}
		return treeByRule(t, e.A)
	}
	out := typeTree{kind: e.Kind}
	entries, _ := nextByRule(e)
	for _, k := range entries {
		out.kids = append(out.kids, treeByRule(t, k))
	}
	return out
}

// leaves tells the variables of a tree from left to right, as often as they come.
func (x typeTree) leaves() []int {
	if x.kind == impl.TyVar {
		return []int{x.v}
	}
	var out []int
	for _, k := range x.kids {
		out = append(out, k.leaves()...)
	}
	return out
}

func (x typeTree) size() int {
	n := 1
	for _, k := range x.kids {
		n += k.size()
	}
	return n
}

func (x typeTree) with(v int, y typeTree) typeTree {
	if x.kind == impl.TyVar {
		if x.v == v {
			return y
		}
		return x
	}
	out := typeTree{kind: x.kind}
	for _, k := range x.kids {
		out.kids = append(out.kids, k.with(v, y))
	}
	return out
}

func (x typeTree) text() string {
	var order []int
	for _, v := range x.leaves() {
		if !slices.Contains(order, v) {
			order = append(order, v)
		}
	}
	var write func(x typeTree) string
	write = func(x typeTree) string {
		switch x.kind {
		case impl.TyVar:
			return "'" + strconv.Itoa(slices.Index(order, x.v))
		case impl.TyInt:
			return "int"
		case impl.TyFun:
			return "(" + write(x.kids[0]) + " -> " + write(x.kids[1]) + ")"
		case impl.TyPair:
			return "(" + write(x.kids[0]) + " * " + write(x.kids[1]) + ")"
		case impl.TyList:
			return "(list " + write(x.kids[0]) + ")"
		}
		return "(ref " + write(x.kids[0]) + ")"
	}
	return write(x)
}

// unifiedByRule keeps a list of trees that are to be alike, and writes each
// variable that has to stand for a tree out of all that is left.
func unifiedByRule(a typeTree, b typeTree) (string, bool) {
	due := [][2]typeTree{{a, b}}
	for len(due) > 0 {
		x, y := due[0][0], due[0][1]
		due = due[1:]
		if x.kind != impl.TyVar {
			x, y = y, x
		}
		if x.kind != impl.TyVar {
			if x.kind != y.kind {
				return "", false
			}
			for k := range x.kids {
				due = append(due, [2]typeTree{x.kids[k], y.kids[k]})
			}
			continue
		}
		if y.kind == impl.TyVar && x.v == y.v {
			continue
		}
		if slices.Contains(y.leaves(), x.v) {
			return "", false
		}
		for k := range due {
			due[k] = [2]typeTree{due[k][0].with(x.v, y), due[k][1].with(x.v, y)}
		}
		// what has come to so many parts never has fewer again
		if a = a.with(x.v, y); a.size() > 3000 {
			return "", false
		}
	}
	if a.size() > 60 {
		return "", false
	}
	return a.text(), true
}

// strayEntries are no entries of a table of that length.
func strayEntries(length int) []int {
	return append(strayNumbers(length), length+2, 40, 41+length, 1<<32|1)
}

// mustType holds all functions of chapter 8 against a table, right or not. P7:
// Unified of two is the same from either side, and of one with itself it is its
// ShowType.
func mustType(t *testing.T, table []impl.Type) {
	t.Helper()
	if !tableRightByRule(table) {
		mustBeNoTable(t, "a table", table)
		return
	}
	if !impl.TableOk(table) {
		t.Fatalf("TableOk is false of %s", tellTable(table))
	}
	sizes := sizesByRule(table)
	trees := make([]typeTree, len(table))
	for i, want := range sizes {
		if got := impl.SizeOf(table, i); got != want {
			t.Fatalf("SizeOf %d is %d, want %d in %s", i, got, want, tellTable(table))
		}
		text := ""
		if want <= 60 {
			trees[i] = treeByRule(table, i)
			text = trees[i].text()
		}
		if got := impl.ShowType(table, i); got != text {
			t.Fatalf("ShowType %d is %q, want %q in %s", i, got, text, tellTable(table))
		}
		mustUnify(t, table, i, i, text, text != "")
	}
	for a := range table {
		for b := range a {
			text, ok := "", false
			if sizes[a] <= 60 && sizes[b] <= 60 {
				text, ok = unifiedByRule(trees[a], trees[b])
			}
			mustUnify(t, table, a, b, text, ok)
		}
	}
	mustHaveNoEntry(t, table)
}

// mustUnify asks from either side, and twice.
func mustUnify(t *testing.T, table []impl.Type, a int, b int, text string, can bool) {
	t.Helper()
	for _, pair := range [][2]int{{a, b}, {b, a}, {a, b}} {
		if got, ok := impl.Unified(table, pair[0], pair[1]); got != text || ok != can {
			t.Fatalf("Unified %d and %d is %q, %v, want %q, %v in %s", pair[0], pair[1], got, ok, text, can, tellTable(table))
		}
	}
}

// mustHaveNoEntry asks for entries that there are not, alone and beside each one
// that there is.
func mustHaveNoEntry(t *testing.T, table []impl.Type) {
	t.Helper()
	for _, i := range strayEntries(len(table)) {
		if i >= 0 && i < len(table) {
			continue
		}
		if n, s := impl.SizeOf(table, i), impl.ShowType(table, i); n != 0 || s != "" {
			t.Fatalf("of entry %d SizeOf is %d and ShowType %q in %s", i, n, s, tellTable(table))
		}
		mustUnify(t, table, i, i, "", false)
		mustUnify(t, table, i, -1, "", false)
		for k := range min(len(table), 3) {
			mustUnify(t, table, i, k, "", false)
		}
	}
}

// mustBeNoTable asks for what chapter 8 says of a table that is not right.
func mustBeNoTable(t *testing.T, what string, table []impl.Type) {
	t.Helper()
	if impl.TableOk(table) {
		t.Fatalf("%s: TableOk is true of %s", what, tellTable(table))
	}
	entries := append(strayEntries(len(table)), 0, 1)
	for i := range min(len(table), 50) {
		entries = append(entries, i)
	}
	for k, i := range entries {
		if n, s := impl.SizeOf(table, i), impl.ShowType(table, i); n != 0 || s != "" {
			t.Fatalf("%s: of entry %d SizeOf is %d and ShowType %q in %s", what, i, n, s, tellTable(table))
		}
		mustUnify(t, table, i, i, "", false)
		mustUnify(t, table, i, entries[(k+1)%len(entries)], "", false)
		mustUnify(t, table, i, 0, "", false)
	}
}

func TestConstantsOfTypes(t *testing.T) {
	got := []int{impl.MaxType, impl.MaxTable, impl.TyVar, impl.TyInt, impl.TyFun, impl.TyPair, impl.TyList, impl.TyRef}
	if !slices.Equal(got, []int{60, 40, 0, 1, 2, 3, 4, 5}) {
		t.Errorf("the constants are %v", got)
	}
}

// typeCase is a table with what chapter 8 says of it, written out by hand: of
// each entry SizeOf and ShowType; and Unified of two entries, for each two of
// which it is true.
type typeCase struct {
	table, sizes, shows, ones string
}

var typeCases = []typeCase{
	{"int", "1", "int", ""},
	{"free", "1", "'0", ""},
	{"free free", "1 1", "'0|'0", "0,1 '0"},
	{"int int", "1 1", "int|int", "0,1 int"},

	// each kind, with an int and a free variable in it
	{"int free =0 0>1 0*1 list1 ref1 =6", "1 1 1 3 3 2 2 2", "int|'0|int|(int -> '0)|(int * '0)|(list '0)|(ref '0)|(ref '0)",
		"0,1 int|0,2 int|1,2 int|6,7 (ref '0)"},
	// a variable that comes in none of them takes each kind; no two kinds go together
	{"free int 1>1 1*1 list1 ref1", "1 1 3 3 2 2", "'0|int|(int -> int)|(int * int)|(list int)|(ref int)",
		"0,1 int|0,2 (int -> int)|0,3 (int * int)|0,4 (list int)|0,5 (ref int)"},
	// two of one kind
	{"free int 0>1 1>0 0*0 1*1 list0 list1 ref0 ref6", "1 1 3 3 3 3 2 2 2 3",
		"'0|int|('0 -> int)|(int -> '0)|('0 * '0)|(int * int)|(list '0)|(list int)|(ref '0)|(ref (list '0))",
		"0,1 int|0,5 (int * int)|0,7 (list int)|2,3 (int -> int)|4,5 (int * int)|6,7 (list int)"},

	// variables that stand for a free one, for a type, and for one that stands for these
	{"free int list0 =0 =1 =2 =3 =5 =4", "1 1 2 1 1 2 1 2 1", "'0|int|(list '0)|'0|int|(list '0)|'0|(list '0)|int",
		"0,3 '0|0,6 '0|3,6 '0|1,4 int|1,8 int|4,8 int|2,5 (list '0)|2,7 (list '0)|5,7 (list '0)|" +
			"0,1 int|0,4 int|0,8 int|1,3 int|3,4 int|3,8 int|1,6 int|4,6 int|6,8 int"},
	// two that stand for one and the same free one, and another free one
	{"free =0 =0 1>2 int free 4>5", "1 1 1 3 1 1 3", "'0|'0|'0|('0 -> '0)|int|'0|(int -> '0)",
		"0,1 '0|0,2 '0|1,2 '0|0,4 int|1,4 int|2,4 int|0,5 '0|1,5 '0|2,5 '0|0,6 (int -> '0)|1,6 (int -> '0)|2,6 (int -> '0)|" +
			"3,5 ('0 -> '0)|3,6 (int -> int)|4,5 int"},

	// a variable in its own type: straight away
	{"free list0 ref1 0*0 0>1", "1 2 3 3 4", "'0|(list '0)|(ref (list '0))|('0 * '0)|('0 -> (list '0))", ""},
	{"free =0 =1 list2 =3", "1 1 1 2 2", "'0|'0|'0|(list '0)|(list '0)", "0,1 '0|0,2 '0|1,2 '0|3,4 (list '0)"},
	// by way of another variable
	{"free free 0>1 list0 1>3 1>0 3>1", "1 1 3 2 4 3 4", "'0|'0|('0 -> '1)|(list '0)|('0 -> (list '1))|('0 -> '1)|((list '0) -> '1)",
		"0,1 '0|1,3 (list '0)|2,5 ('0 -> '0)|4,6 ((list '0) -> (list '0))"},
	// only once other parts were made one
	{"free free free list2 0*1 0*4 3*2 1*6 3*0 1*8", "1 1 1 2 3 5 4 6 4 6",
		"'0|'0|'0|(list '0)|('0 * '1)|('0 * ('0 * '1))|((list '0) * '0)|('0 * ((list '1) * '1))|((list '0) * '1)|('0 * ((list '1) * '2))",
		"0,1 '0|0,2 '0|0,3 (list '0)|0,6 ((list '0) * '0)|0,7 ('0 * ((list '1) * '1))|" +
			"1,2 '0|1,3 (list '0)|1,6 ((list '0) * '0)|1,8 ((list '0) * '1)|2,4 ('0 * '1)|2,5 ('0 * ('0 * '1))|" +
			"4,6 ((list '0) * '0)|4,7 (((list '0) * '0) * ((list '0) * '0))|4,8 ((list '0) * (list '0))|" +
			"5,9 ((list '0) * ((list '0) * (list '0)))|6,8 ((list '0) * '0)|7,8 ((list '0) * ((list '0) * '0))|7,9 ('0 * ((list '1) * '1))"},

	// parts that are made one in the left half and used in the right one
	{"free free free int 1>2 0>4 list1 3>0 6>7 0*0 3*1 list3 11*3", "1 1 1 1 3 5 2 3 6 3 3 2 4",
		"'0|'0|'0|int|('0 -> '1)|('0 -> ('1 -> '2))|(list '0)|(int -> '0)|((list '0) -> (int -> '1))|('0 * '0)|(int * '0)|(list int)|((list int) * int)",
		"0,1 '0|0,2 '0|0,3 int|0,4 ('0 -> '1)|0,6 (list '0)|0,10 (int * '0)|0,11 (list int)|0,12 ((list int) * int)|" +
			"1,2 '0|1,3 int|1,7 (int -> '0)|1,9 ('0 * '0)|1,11 (list int)|1,12 ((list int) * int)|" +
			"2,3 int|2,6 (list '0)|2,7 (int -> '0)|2,8 ((list '0) -> (int -> '1))|2,9 ('0 * '0)|2,10 (int * '0)|2,11 (list int)|2,12 ((list int) * int)|" +
			"4,7 (int -> '0)|5,8 ((list int) -> (int -> (list int)))|6,11 (list int)|9,10 (int * int)"},

	// what does not go together lies deep within
	{"int free list0 ref0 1>2 1>3 4*0 5*0 list6 list7", "1 1 2 2 4 4 6 6 7 7",
		"int|'0|(list int)|(ref int)|('0 -> (list int))|('0 -> (ref int))|(('0 -> (list int)) * int)|(('0 -> (ref int)) * int)|" +
			"(list (('0 -> (list int)) * int))|(list (('0 -> (ref int)) * int))",
		"0,1 int|1,2 (list int)|1,3 (ref int)"},

	// entries ahead of those that they have
	{"1>2 3*3 =4 list4 free ref6 int", "7 5 1 2 1 2 1",
		"(((list '0) * (list '0)) -> '0)|((list '0) * (list '0))|'0|(list '0)|'0|(ref int)|int",
		"2,4 '0|2,5 (ref int)|2,6 int|4,5 (ref int)|4,6 int"},

	// free variables are numbered as they come, not by their entries
	{"free free free 2>1 1>0 3*4 0*3", "1 1 1 3 3 7 5", "'0|'0|'0|('0 -> '1)|('0 -> '1)|(('0 -> '1) * ('1 -> '2))|('0 * ('1 -> '2))",
		"0,1 '0|0,2 '0|1,2 '0|0,3 ('0 -> '1)|2,4 ('0 -> '1)|3,4 ('0 -> '0)"},

	// types that share their parts
	{"free 0*0 1*1 2*2 list3", "1 3 7 15 16",
		"'0|('0 * '0)|(('0 * '0) * ('0 * '0))|((('0 * '0) * ('0 * '0)) * (('0 * '0) * ('0 * '0)))|(list ((('0 * '0) * ('0 * '0)) * (('0 * '0) * ('0 * '0))))", ""},
	{"int 0*0 1*1 2*2 3*3 4*4 5*5", "1 3 7 15 31 61 61",
		"int|(int * int)|((int * int) * (int * int))|(((int * int) * (int * int)) * ((int * int) * (int * int)))|" +
			"((((int * int) * (int * int)) * ((int * int) * (int * int))) * (((int * int) * (int * int)) * ((int * int) * (int * int))))||", ""},
}

func TestTypesByHand(t *testing.T) {
	for _, c := range typeCases {
		table := tableOf(c.table)
		mustType(t, table)
		sizes, shows := strings.Fields(c.sizes), strings.Split(c.shows, "|")
		if len(sizes) != len(table) || len(shows) != len(table) {
			t.Fatalf("%s has %d entries, and %d and %d are written out", c.table, len(table), len(sizes), len(shows))
		}
		ones := map[string]string{}
		for _, row := range strings.Split(c.ones, "|") {
			pair, text, _ := strings.Cut(row, " ")
			ones[pair] = text
		}
		if !impl.TableOk(table) {
			t.Errorf("TableOk is false of %s", c.table)
		}
		for i := range table {
			if got := impl.SizeOf(table, i); strconv.Itoa(got) != sizes[i] {
				t.Errorf("SizeOf %d is %d, want %s in %s", i, got, sizes[i], c.table)
			}
			if got := impl.ShowType(table, i); got != shows[i] {
				t.Errorf("ShowType %d is %s, want %s in %s", i, got, shows[i], c.table)
			}
			mustUnify(t, table, i, i, shows[i], shows[i] != "")
			for k := i + 1; k < len(table); k++ {
				text := ones[strconv.Itoa(i)+","+strconv.Itoa(k)]
				mustUnify(t, table, i, k, text, text != "")
			}
		}
	}
}

// TestTypesOfAllSmallTables: all tables of up to two entries with numbers that
// may be wrong, of three with numbers that are in range, and some of four.
func TestTypesOfAllSmallTables(t *testing.T) {
	mustType(t, nil)
	var entries []impl.Type
	for kind := -1; kind <= 6; kind++ {
		for a := -2; a <= 2; a++ {
			for b := -1; b <= 2; b++ {
				entries = append(entries, impl.Type{Kind: kind, A: a, B: b})
			}
		}
	}
	for _, e := range entries {
		mustType(t, []impl.Type{e})
		for _, f := range entries {
			mustType(t, []impl.Type{e, f})
		}
	}
	right, table := 0, make([]impl.Type, 3)
	three := entriesInRange(3)
	for number := range len(three) * len(three) * len(three) {
		for i := range table {
			table[i] = three[number%len(three)]
			number /= len(three)
		}
		mustType(t, table)
		if impl.TableOk(table) {
			right++
		}
	}
	if right < 800 {
		t.Errorf("only %d tables of three entries were right", right)
	}
	four := entriesInRange(4)
	for number := 0; number < len(four)*len(four)*len(four)*len(four); number += 421 {
		rest := number
		table := make([]impl.Type, 4)
		for i := range table {
			table[i] = four[rest%len(four)]
			rest /= len(four)
		}
		mustType(t, table)
	}
}

// entriesInRange are all entries that a right table of that length may have.
func entriesInRange(length int) []impl.Type {
	out := tableOf("free int")
	for a := range length {
		out = append(out, impl.Type{Kind: impl.TyVar, A: a}, impl.Type{Kind: impl.TyList, A: a}, impl.Type{Kind: impl.TyRef, A: a})
		for b := range length {
			out = append(out, impl.Type{Kind: impl.TyFun, A: a, B: b}, impl.Type{Kind: impl.TyPair, A: a, B: b})
		}
	}
	return out
}

// withType puts a type of so many parts behind a table; parts that are alike are
// shared.
func withType(t []impl.Type, parts int) []impl.Type {
	switch {
	case parts == 1:
		return append(t, impl.Type{Kind: impl.TyInt})
	case parts%2 == 0:
		t = withType(t, parts-1)
		return append(t, impl.Type{Kind: impl.TyList, A: len(t) - 1})
	}
	t = withType(t, (parts-1)/2)
	return append(t, impl.Type{Kind: impl.TyPair, A: len(t) - 1, B: len(t) - 1})
}

// also puts more entries behind a table, and tells where the last of them stands.
func also(t []impl.Type, s string) ([]impl.Type, int) {
	t = append(slices.Clone(t), tableOf(s)...)
	return t, len(t) - 1
}

// TestTypesAtMaxType: a type of MaxType parts and of one more, alone, with a
// free variable, and with another one like it.
func TestTypesAtMaxType(t *testing.T) {
	for parts := 1; parts <= 130; parts++ {
		table := withType(nil, parts)
		i := len(table) - 1
		table, free := also(table, "free")
		table = append(table, withType(nil, parts)...)
		other := len(table) - 1
		for k := free + 1; k <= other; k++ {
			e := &table[k]
			if e.Kind == impl.TyPair {
				e.B += free + 1
			}
			if e.Kind != impl.TyInt {
				e.A += free + 1
			}
		}
		table, stands := also(table, "="+strconv.Itoa(i))
		fits := parts <= 60
		text := impl.ShowType(table, i)
		if !impl.TableOk(table) || (text != "") != fits || impl.ShowType(table, other) != text || impl.ShowType(table, stands) != text {
			t.Fatalf("of %d parts ShowType is %q, %q and %q", parts, text, impl.ShowType(table, other), impl.ShowType(table, stands))
		}
		for _, k := range []int{i, other, stands} {
			if got := impl.SizeOf(table, k); got != min(parts, 61) {
				t.Fatalf("SizeOf is %d of %d parts", got, parts)
			}
			mustUnify(t, table, k, k, text, fits)
			mustUnify(t, table, k, free, text, fits)
		}
		mustUnify(t, table, i, other, text, fits)
		mustUnify(t, table, i, stands, text, fits)
		mustType(t, table)
	}
}

// TestSizeOfWhatComes: each of two types is small, and what comes of them has
// MaxType parts, or one more.
func TestSizeOfWhatComes(t *testing.T) {
	for parts := 1; parts <= 58; parts++ {
		table := append(tableOf("free free 0*0 list2"), withType(nil, parts)...)
		for k := 4; k < len(table); k++ {
			if table[k].Kind == impl.TyPair {
				table[k].B += 4
			}
			if table[k].Kind != impl.TyInt {
				table[k].A += 4
			}
		}
		last := strconv.Itoa(len(table) - 1)
		text := impl.ShowType(table, len(table)-1)
		table, pair := also(table, last+"*1")
		table, turned := also(table, "1*"+last)
		table, list := also(table, "list"+strconv.Itoa(pair))
		if impl.SizeOf(table, pair) != parts+2 || impl.SizeOf(table, list) != min(parts+3, 61) || impl.SizeOf(table, 2) != 3 {
			t.Fatalf("of %d parts SizeOf is %d and %d", parts, impl.SizeOf(table, pair), impl.SizeOf(table, list))
		}
		wantPair, wantList := "", ""
		if 2*parts+1 <= 60 {
			wantPair = "(" + text + " * " + text + ")"
		}
		if 2*parts+2 <= 60 {
			wantList = "(list (" + text + " * " + text + "))"
		}
		mustUnify(t, table, 2, pair, wantPair, wantPair != "")
		mustUnify(t, table, 2, turned, wantPair, wantPair != "")
		mustUnify(t, table, pair, turned, wantPair, wantPair != "")
		mustUnify(t, table, 3, list, wantList, wantList != "")
		mustType(t, table)
	}
	exactly := map[bool]int{}
	for parts := 10; parts <= 30; parts++ {
		// (0 * (0 * 1)) and (1 * (2 * 2)) come to three times 2, and two parts more
		table := append(withType(nil, parts), tableOf("free free")...)
		two, zero, one := len(table)-3, len(table)-2, len(table)-1
		word := func(a int, b int) string { return strconv.Itoa(a) + "*" + strconv.Itoa(b) }
		table, i := also(table, word(zero, one))
		table, a := also(table, word(zero, i))
		table, i = also(table, word(two, one))
		table, b := also(table, word(one, i))
		text, ok := impl.Unified(table, a, b)
		if ok != (3*parts+2 <= 60) || (text != "") != ok {
			t.Fatalf("of three times %d parts and two more Unified is %q, %v", parts, text, ok)
		}
		exactly[ok]++
		mustType(t, table)
	}
	if exactly[true] == 0 || exactly[false] == 0 {
		t.Error("not both")
	}
}

// doubling is (x1 * (x2 * .. int)) and ((x0 * x0) * ((x1 * x1) * .. int)), from
// the first on or from the last one back; the two stand last.
func doubling(variables int, back bool) []impl.Type {
	table := slices.Repeat(tableOf("free"), variables+1)
	table = append(table, tableOf("int")...)
	one, two := len(table)-1, len(table)-1
	for i := range variables {
		k := variables - i
		if back {
			k = i + 1
		}
		table = append(table, impl.Type{Kind: impl.TyPair, A: k - 1, B: k - 1})
		pair := len(table) - 1
		table = append(table, impl.Type{Kind: impl.TyPair, A: k, B: one}, impl.Type{Kind: impl.TyPair, A: pair, B: two})
		one, two = len(table)-2, len(table)-1
	}
	return table
}

// TestUnifiedThatDoubles: each variable has twice the parts of the one ahead of it,
// so that what comes of few parts has very many.
func TestUnifiedThatDoubles(t *testing.T) {
	for _, back := range []bool{false, true} {
		for variables := 1; variables <= 9; variables++ {
			table := doubling(variables, back)
			a, b := len(table)-2, len(table)-1
			text, ok := impl.Unified(table, a, b)
			other, also := impl.Unified(table, b, a)
			if ok != (variables <= 3) || also != ok || text != other || (text != "") != ok {
				t.Fatalf("of %d variables Unified is %q, %v and %q, %v", variables, text, ok, other, also)
			}
			mustUnify(t, table, a, a, impl.ShowType(table, a), true)
			if variables <= 5 {
				mustType(t, table)
			}
		}
	}
	table := doubling(3, false)
	want := "(('0 * '0) * ((('0 * '0) * ('0 * '0)) * (((('0 * '0) * ('0 * '0)) * (('0 * '0) * ('0 * '0))) * int)))"
	mustUnify(t, table, len(table)-2, len(table)-1, want, true)
}

// TestManyFreeVariables: numbers of two digits, as the variables come from left to
// right, each once.
func TestManyFreeVariables(t *testing.T) {
	for _, variables := range []int{9, 10, 11, 12, 19} {
		table := slices.Repeat(tableOf("free"), variables)
		// from the last variable to the first, so that no number is that of its entry
		i := 0
		for k := 1; k < variables; k++ {
			table, i = also(table, strconv.Itoa(k)+">"+strconv.Itoa(i))
		}
		want := "'" + strconv.Itoa(variables-1)
		for k := variables - 2; k >= 0; k-- {
			want = "('" + strconv.Itoa(k) + " -> " + want + ")"
		}
		if got := impl.ShowType(table, i); got != want || impl.SizeOf(table, i) != 2*variables-1 {
			t.Fatalf("ShowType is %s, want %s", got, want)
		}
		mustUnify(t, table, i, i, want, true)
		// the same ones again, the other way round: no new numbers
		table, again := also(table, strconv.Itoa(i)+"*0")
		if got := impl.ShowType(table, again); got != "("+want+" * '"+strconv.Itoa(variables-1)+")" {
			t.Fatalf("ShowType is %s", got)
		}
		mustType(t, table)
	}
}

// chainOf is so many entries, of which each has the one ahead of it, or, from the
// last one back, the one behind it.
func chainOf(entries int, back bool, word func(next string) string) []impl.Type {
	words := []string{"free"}
	for k := 1; k < entries; k++ {
		if back {
			words = slices.Insert(words, k-1, word(strconv.Itoa(k)))
		} else {
			words = append(words, word(strconv.Itoa(k-1)))
		}
	}
	return tableOf(strings.Join(words, " "))
}

// TestTablesAtMaxTable: chains of MaxTable entries, and of one more.
func TestTablesAtMaxTable(t *testing.T) {
	for _, word := range []func(next string) string{
		func(next string) string { return "free" },
		func(next string) string { return "=" + next },
		func(next string) string { return "int" },
		func(next string) string { return next + ">" + next },
		func(next string) string { return next + "*" + next },
		func(next string) string { return "list" + next },
		func(next string) string { return "ref" + next },
	} {
		for _, entries := range []int{1, 2, 39, 40, 41, 42, 80, 1000} {
			for _, table := range [][]impl.Type{chainOf(entries, false, word), chainOf(entries, true, word)} {
				if len(table) != entries {
					t.Fatalf("%d entries were made, not %d", len(table), entries)
				}
				if entries > 40 {
					mustBeNoTable(t, "more than MaxTable entries", table)
					continue
				}
				if !impl.TableOk(table) {
					t.Fatalf("TableOk is false of %d entries: %s", entries, tellTable(table))
				}
				mustType(t, table)
			}
		}
	}
	chain := chainOf(40, false, func(next string) string { return "ref" + next })
	want := strings.Repeat("(ref ", 39) + "'0" + strings.Repeat(")", 39)
	if got := impl.ShowType(chain, 39); got != want || impl.SizeOf(chain, 39) != 40 {
		t.Errorf("ShowType of a chain is %s", got)
	}
}

func TestTablesOfNoAndOneEntry(t *testing.T) {
	for _, table := range [][]impl.Type{nil, {}, make([]impl.Type, 0, 7)} {
		if !impl.TableOk(table) {
			t.Error("TableOk is false of a table without entries")
		}
		for _, i := range append(strayEntries(0), 0) {
			if impl.SizeOf(table, i) != 0 || impl.ShowType(table, i) != "" {
				t.Errorf("there is an entry %d in a table without entries", i)
			}
			mustUnify(t, table, i, i, "", false)
			mustUnify(t, table, i, 0, "", false)
		}
	}
	for _, table := range [][]impl.Type{tableOf("free"), tableOf("int")} {
		mustType(t, table)
	}
	for _, s := range []string{"=0", "list0", "ref0", "0>0", "0*0", "list1", "=1"} {
		mustBeNoTable(t, s, tableOf(s))
	}
	mustBeNoTable(t, "kind 6", []impl.Type{{Kind: 6}})
	mustBeNoTable(t, "kind -1", []impl.Type{{Kind: -1}})
	mustBeNoTable(t, "the zero entry comes to itself", []impl.Type{{}})
}

// TestNoSuchEntry: a number below 0 or past the end, for a, for b and for both, in
// tables that are right.
func TestNoSuchEntry(t *testing.T) {
	for _, c := range typeCases {
		table := tableOf(c.table)
		for _, i := range strayEntries(len(table)) {
			if i >= 0 && i < len(table) {
				continue
			}
			if impl.SizeOf(table, i) != 0 || impl.ShowType(table, i) != "" {
				t.Fatalf("there is an entry %d in %s", i, c.table)
			}
			for k := range table {
				mustUnify(t, table, i, k, "", false)
			}
			for _, k := range strayEntries(len(table)) {
				if k < 0 || k >= len(table) {
					mustUnify(t, table, i, k, "", false)
				}
			}
		}
	}
}

// TestTablesOfOneWrongField: each field of each entry in turn is not right, in a
// table that is otherwise.
func TestTablesOfOneWrongField(t *testing.T) {
	tables := [][]impl.Type{tableOf("free int 0>1 0*1 list0 ref0 =1 =0"), tableOf("2*3 =4 1>3 list4 int free"), tableOf("free"), tableOf("int")}
	for _, c := range typeCases {
		tables = append(tables, tableOf(c.table))
	}
	below := []int{-1, -2, -40, -1 << 32, math.MinInt}
	for _, table := range tables {
		past := []int{len(table), len(table) + 1, 40, 41, 1 << 32, math.MaxInt}
		wrong := func(what string, i int, turn func(e *impl.Type)) {
			t.Helper()
			m := slices.Clone(table)
			turn(&m[i])
			mustBeNoTable(t, what, m)
		}
		for i, e := range table {
			for _, kind := range []int{-1, -2, 6, 7, 1 << 32, -1 << 32, 1<<32 | 1, math.MinInt, math.MaxInt} {
				wrong("Kind", i, func(e *impl.Type) { e.Kind = kind })
			}
			if e.Kind == impl.TyInt {
				for _, n := range append([]int{1, len(table) - 1}, append(below, past...)...) {
					if n != 0 {
						wrong("A of TyInt", i, func(e *impl.Type) { e.A = n })
					}
				}
			} else {
				for _, n := range append([]int{i}, past...) {
					wrong("A", i, func(e *impl.Type) { e.A = n })
				}
				for _, n := range below {
					if n != -1 || e.Kind != impl.TyVar {
						wrong("A", i, func(e *impl.Type) { e.A = n })
					}
				}
			}
			if e.Kind == impl.TyFun || e.Kind == impl.TyPair {
				for _, n := range append([]int{i}, append(below, past...)...) {
					wrong("B", i, func(e *impl.Type) { e.B = n })
				}
			} else {
				for _, n := range append([]int{1, 2, len(table) - 1}, append(below, past...)...) {
					if n != 0 {
						wrong("B that is none", i, func(e *impl.Type) { e.B = n })
					}
				}
			}
		}
	}
}

// TestEntriesThatComeToThemselves: by A, by B, by what a variable stands for, in
// one step and in several, also where neither of the entries that are asked for
// comes to them.
func TestEntriesThatComeToThemselves(t *testing.T) {
	for _, s := range []string{
		"=0", "list0", "ref0", "0>0", "0*0",
		"int 1>0", "int 0>1", "int 1*0", "int 0*1", "int free 2*1", "int free 0>2",
		"=1 =0", "list1 list0", "ref1 ref0", "list1 =0", "=1 ref0",
		"1>2 list0 int", "2>1 list0 int", "1*2 ref0 free", "2*1 ref0 free", "1*2 free =0", "2>1 =0 int",
		"=1 =2 =0", "list1 ref2 =0", "1*3 list2 3>0 int", "3*1 list2 0>3 free", "=1 2*2 3*3 4*4 =0",
		"int free =3 =4 =2", "int free list0 list4 list3", "int free 0>1 list4 4*4", "int free 0>1 5*0 0>3 =4",
		"int free 0>1 0*5 0*3 0>4", "int free 0*1 1>3", "int free 0*1 3*0", "int free list1 =3", "free int =2", "free int 0>1 3*2", "free int 0>1 2*3",
	} {
		table := tableOf(s)
		if tableRightByRule(table) {
			t.Fatalf("%s does not come to itself", s)
		}
		mustBeNoTable(t, s, table)
	}
	for entries := 1; entries <= 40; entries++ {
		for _, entry := range []string{"=", "list", "ref"} {
			var words []string
			for i := range entries {
				words = append(words, entry+strconv.Itoa((i+1)%entries))
			}
			table := tableOf(strings.Join(words, " "))
			mustBeNoTable(t, "a ring", table)
			// cut open at its end it is a chain
			table[entries-1] = tableOf("free")[0]
			if !impl.TableOk(table) {
				t.Fatalf("TableOk is false of a chain: %s", tellTable(table))
			}
		}
	}
}

// TestGreatTables: parts that are far more than the entries, and far more entries
// than there may be, are told of at once.
func TestGreatTables(t *testing.T) {
	for _, between := range []string{"*", ">"} {
		table := tableOf("free")
		for k := range 39 {
			table, _ = also(table, strconv.Itoa(k)+between+strconv.Itoa(k))
		}
		if !impl.TableOk(table) || impl.SizeOf(table, 4) != 31 || impl.ShowType(table, 4) == "" {
			t.Fatalf("entry 4 has %d parts: %q", impl.SizeOf(table, 4), impl.ShowType(table, 4))
		}
		for i := 5; i < 40; i++ {
			if impl.SizeOf(table, i) != 61 || impl.ShowType(table, i) != "" {
				t.Fatalf("entry %d has %d parts: %q", i, impl.SizeOf(table, i), impl.ShowType(table, i))
			}
			mustUnify(t, table, i, i, "", false)
			mustUnify(t, table, i, 0, "", false)
			mustUnify(t, table, i, 4, "", false)
		}
	}
	mustBeNoTable(t, "a million entries", slices.Repeat(tableOf("int"), 1000000))
}

// askTypes calls all functions of chapter 8.
func askTypes(table []impl.Type) {
	impl.TableOk(table)
	for i := -1; i <= min(len(table), 60); i++ {
		impl.SizeOf(table, i)
		impl.ShowType(table, i)
		for k := -1; k <= min(len(table), 60); k++ {
			impl.Unified(table, i, k)
		}
	}
}

// TestTypesLeaveTablesAsTheyAre: neither a table nor the room behind it is written
// into.
func TestTypesLeaveTablesAsTheyAre(t *testing.T) {
	tables := [][]impl.Type{nil, tableOf("=1 =0"), tableOf("int int 7>8"), {{Kind: -3, A: 5, B: 6}}, doubling(9, false), doubling(4, true), slices.Repeat(tableOf("free"), 41)}
	for _, c := range typeCases {
		tables = append(tables, tableOf(c.table))
	}
	for _, table := range tables {
		room := append(slices.Clone(table), slices.Repeat([]impl.Type{{Kind: 99, A: 98, B: 97}}, 10)...)
		before := slices.Clone(room)
		askTypes(room[:len(table)])
		if !slices.Equal(room, before) {
			t.Fatalf("%s was written into", tellTable(table))
		}
	}
}

// TestTypesKeepNothing: a table is told of as ever behind others, and behind what
// was made one in it.
func TestTypesKeepNothing(t *testing.T) {
	for _, c := range typeCases {
		table := tableOf(c.table)
		for _, other := range []string{"", "=0", "free free 0*1", "int 0>0", c.table} {
			askTypes(tableOf(other))
			askTypes(table)
			if got := impl.SizeOf(table, 0); strconv.Itoa(got) != strings.Fields(c.sizes)[0] {
				t.Fatalf("SizeOf 0 is %d in %s", got, c.table)
			}
			for i, want := range strings.Split(c.shows, "|") {
				if got := impl.ShowType(table, i); got != want {
					t.Fatalf("ShowType %d is %s, want %s in %s", i, got, want, c.table)
				}
			}
		}
		mustType(t, table)
	}
}

// TestTypesOfAnyTables: no table and no number makes a function of chapter 8
// panic, and each tells what it should, right or not.
func TestTypesOfAnyTables(t *testing.T) {
	next := dice(8)
	numbers := []int{0, 0, 1, 2, -1, -2, 5, 6, 40, 41, 1 << 32, math.MinInt, math.MaxInt}
	right, one, apart := 0, 0, 0
	for round := range 12000 {
		table := make([]impl.Type, 1+next(12))
		if round%100 == 0 {
			table = make([]impl.Type, 36+next(6))
		}
		// entries have only those behind them in this order, so that few come to themselves
		order := make([]int, len(table))
		for i := range order {
			order[i] = i
		}
		for i := range order {
			k := next(i + 1)
			order[i], order[k] = order[k], order[i]
		}
		for place, i := range order {
			later := func() int { return order[place+1+next(len(order)-place-1)] }
			switch kind := next(9); {
			case place == len(order)-1 || kind >= 6:
				table[i] = tableOf([]string{"free", "free", "int"}[next(3)])[0]
			case kind <= 3:
				table[i] = impl.Type{Kind: []int{impl.TyFun, impl.TyPair}[kind%2], A: later(), B: later()}
			case kind == 4:
				table[i] = impl.Type{Kind: impl.TyVar, A: later()}
			default:
				table[i] = impl.Type{Kind: []int{impl.TyList, impl.TyRef}[next(2)], A: later()}
			}
		}
		for range next(20) / 18 {
			*[]*int{&table[next(len(table))].Kind, &table[next(len(table))].A, &table[next(len(table))].B}[next(3)] = numbers[next(len(numbers))]
		}
		mustType(t, table)
		if !impl.TableOk(table) {
			continue
		}
		right++
		a, b := next(len(table)), next(len(table))
		if a == b || impl.SizeOf(table, a) < 3 || impl.SizeOf(table, b) < 3 || impl.ShowType(table, a) == impl.ShowType(table, b) {
			continue
		}
		if _, ok := impl.Unified(table, a, b); ok {
			one++
		} else {
			apart++
		}
	}
	if right < 5000 || one < 50 || apart < 500 {
		t.Errorf("%d of the tables were right, %d pairs of them could be made one and %d could not", right, one, apart)
	}
}
