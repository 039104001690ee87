package tests

import (
	"math"
	"slices"
	"strconv"
	"strings"
	"testing"

	"loop.example/g01292/impl"
)

// valueWords are how the kinds begin in a value's word, by their numbers.
var valueWords = []string{"", "fun", "nil", "pair", "cons", "ref"}

// numberIn reads a number that a test wrote.
func numberIn(s string) int {
	n, err := strconv.Atoi(s)
	if err != nil {
		panic("no number: " + s)
	}
	return n
}

// valueIn reads a value: 7, fun0, nil, pair0, cons0 and ref0 for VInt to VRef,
// and 9:0 for N 0 of kind 9.
func valueIn(s string) impl.Val {
	if kind, n, stray := strings.Cut(s, ":"); stray {
		return impl.Val{Kind: numberIn(kind), N: numberIn(n)}
	}
	if s == "nil" {
		return impl.Val{Kind: impl.VNil}
	}
	for kind := impl.VRef; kind > impl.VInt; kind-- {
		if n, ok := strings.CutPrefix(s, valueWords[kind]); ok {
			return impl.Val{Kind: kind, N: numberIn(n)}
		}
	}
	return impl.Val{N: numberIn(s)}
}

// cellIn reads a cell: 3.1=7>0 has Node 3, Role 1, the value 7 and Next 0.
func cellIn(s string) impl.EnvCell {
	name, rest, _ := strings.Cut(s, "=")
	node, role, _ := strings.Cut(name, ".")
	value, next, _ := strings.Cut(rest, ">")
	return impl.EnvCell{Node: numberIn(node), Role: numberIn(role), Val: valueIn(value), Next: numberIn(next)}
}

// heapOf reads a heap of four lists of words; 3@-1 is a closure of node 3 with
// Env -1, and 7,nil has the parts 7 and nil.
func heapOf(envs string, clos string, twos string, refs string) impl.Heap {
	var h impl.Heap
	for _, w := range strings.Fields(envs) {
		h.Envs = append(h.Envs, cellIn(w))
	}
	for _, w := range strings.Fields(clos) {
		node, env, _ := strings.Cut(w, "@")
		h.Clos = append(h.Clos, impl.Clo{Node: numberIn(node), Env: numberIn(env)})
	}
	for _, w := range strings.Fields(twos) {
		a, b, _ := strings.Cut(w, ",")
		h.Twos = append(h.Twos, impl.Two{A: valueIn(a), B: valueIn(b)})
	}
	for _, w := range strings.Fields(refs) {
		h.Refs = append(h.Refs, valueIn(w))
	}
	return h
}

// tellVal writes a value out for a fault's text.
func tellVal(v impl.Val) string {
	return strconv.Itoa(v.Kind) + ":" + strconv.Itoa(v.N)
}

// tellHeap writes a heap out for a fault's text.
func tellHeap(h impl.Heap) string {
	var out []string
	for _, c := range h.Envs {
		out = append(out, strconv.Itoa(c.Node)+"."+strconv.Itoa(c.Role)+"="+tellVal(c.Val)+">"+strconv.Itoa(c.Next))
	}
	out = append(out, "|")
	for _, c := range h.Clos {
		out = append(out, strconv.Itoa(c.Node)+"@"+strconv.Itoa(c.Env))
	}
	out = append(out, "|")
	for _, c := range h.Twos {
		out = append(out, tellVal(c.A)+","+tellVal(c.B))
	}
	out = append(out, "|")
	for _, v := range h.Refs {
		out = append(out, tellVal(v))
	}
	return "[" + strings.Join(out, " ") + "]"
}

func copyHeap(h impl.Heap) impl.Heap {
	return impl.Heap{Envs: slices.Clone(h.Envs), Clos: slices.Clone(h.Clos), Twos: slices.Clone(h.Twos), Refs: slices.Clone(h.Refs)}
}

func sameHeap(h impl.Heap, other impl.Heap) bool {
	return slices.Equal(h.Envs, other.Envs) && slices.Equal(h.Clos, other.Clos) && slices.Equal(h.Twos, other.Twos) && slices.Equal(h.Refs, other.Refs)
}

// placesOf points to all values in a heap.
func placesOf(h impl.Heap) []*impl.Val {
	var places []*impl.Val
	for i := range h.Envs {
		places = append(places, &h.Envs[i].Val)
	}
	for i := range h.Twos {
		places = append(places, &h.Twos[i].A, &h.Twos[i].B)
	}
	for i := range h.Refs {
		places = append(places, &h.Refs[i])
	}
	return places
}

// valRightByRule asks whether N is one of as many as there are of that kind.
func valRightByRule(h impl.Heap, v impl.Val) bool {
	if v.Kind < 0 || v.Kind > 5 {
		return false
	}
	count := [6]int{65536, len(h.Clos), 1, len(h.Twos), len(h.Twos), len(h.Refs)}[v.Kind]
	return v.N >= 0 && v.N < count
}

// heapRightByRule looks each number up in a list of those that it may be.
func heapRightByRule(h impl.Heap) bool {
	for _, v := range placesOf(h) {
		if !valRightByRule(h, *v) {
			return false
		}
	}
	may := []int{-1}
	for i, c := range h.Envs {
		if !slices.Contains(may, c.Next) {
			return false
		}
		may = append(may, i)
	}
	for _, c := range h.Clos {
		if !slices.Contains(may, c.Env) {
			return false
		}
	}
	return true
}

// seenByRule tells what each name has at a cell of a right heap: what it has
// behind that cell, with the cell's own laid over it.
func seenByRule(h impl.Heap, env int) map[impl.Bind]impl.Val {
	if env == -1 {
		return map[impl.Bind]impl.Val{}
	}
	c := h.Envs[env]
	seen := seenByRule(h, c.Next)
	seen[impl.Bind{Node: c.Node, Role: c.Role}] = c.Val
	return seen
}

// showByRule writes the outermost level first, and then one level more as often
// as deep says, each within the one ahead.
func showByRule(h impl.Heap, v impl.Val, deep int) string {
	type piece struct {
		text string
		val  impl.Val
		open bool // a pair or a list, of which there is no text yet
	}
	pieceOf := func(v impl.Val) piece {
		text := []string{strconv.Itoa(v.N), "fun", "nil", "", "", "ref"}[v.Kind]
		return piece{text, v, text == ""}
	}
	all := []piece{pieceOf(v)}
	for range deep {
		var next []piece
		for _, p := range all {
			if !p.open {
				next = append(next, p)
				continue
			}
			parts := h.Twos[p.val.N]
			next = append(next, piece{text: "(" + valueWords[p.val.Kind] + " "}, pieceOf(parts.A), piece{text: " "}, pieceOf(parts.B), piece{text: ")"})
		}
		all = next
	}
	var out strings.Builder
	for _, p := range all {
		if p.open {
			p.text = "_"
		}
		out.WriteString(p.text)
	}
	return out.String()
}

// strayDeeps are no depth of a text.
var strayDeeps = []int{-1, 9, -2, -9, 10, 16, 256, 1 << 32, -1 << 32, math.MinInt, math.MaxInt}

// bindsAt are the names of all cells, and some that none has.
func bindsAt(h impl.Heap) []impl.Bind {
	binds := []impl.Bind{{}, noBinder, {Node: math.MaxInt, Role: math.MinInt}}
	for _, c := range h.Envs {
		binds = append(binds, impl.Bind{Node: c.Node, Role: c.Role}, impl.Bind{Node: c.Node, Role: c.Role + 1}, impl.Bind{Node: c.Node - 1, Role: c.Role}, impl.Bind{Node: c.Role, Role: c.Node})
	}
	return binds
}

// valuesIn are all that stand in a heap, and one or two of each kind.
func valuesIn(h impl.Heap) []impl.Val {
	values := []impl.Val{{N: -1}, {N: 65535}, {N: 65536}, {Kind: 6}, {Kind: -1}}
	for kind := range 6 {
		for _, n := range []int{0, len(h.Twos) - 1, len(h.Twos)} {
			values = append(values, impl.Val{Kind: kind, N: n})
		}
	}
	for _, v := range placesOf(h) {
		values = append(values, *v)
	}
	return values
}

// mustHeap holds against the rules all that chapter 10 tells of a heap, right or
// not.
func mustHeap(t *testing.T, h impl.Heap) {
	t.Helper()
	right := heapRightByRule(h)
	if impl.HeapOk(h) != right {
		t.Fatalf("HeapOk is %v of %s", !right, tellHeap(h))
	}
	for _, v := range valuesIn(h) {
		fine := valRightByRule(h, v)
		if impl.ValOk(h, v) != fine {
			t.Fatalf("ValOk of %s is %v in %s", tellVal(v), !fine, tellHeap(h))
		}
		for _, deep := range []int{0, 1, 2, 4, 8} {
			want := ""
			if right && fine {
				want = showByRule(h, v, deep)
			}
			mustShow(t, h, v, deep, want)
		}
		for _, deep := range strayDeeps {
			mustShow(t, h, v, deep, "")
		}
	}
	for env := -1; env < len(h.Envs); env++ {
		var seen map[impl.Bind]impl.Val
		if right {
			seen = seenByRule(h, env)
		}
		for _, b := range bindsAt(h) {
			want, is := seen[b]
			mustLookUp(t, h, env, b, want, is)
		}
	}
	mustHaveNoCell(t, h)
}

// mustHaveNoCell asks from cells that there are not.
func mustHaveNoCell(t *testing.T, h impl.Heap) {
	t.Helper()
	for _, env := range strayNumbers(len(h.Envs)) {
		if env == -1 {
			continue
		}
		for _, b := range bindsAt(h) {
			mustLookUp(t, h, env, b, impl.Val{}, false)
		}
	}
}

func mustShow(t *testing.T, h impl.Heap, v impl.Val, deep int, want string) {
	t.Helper()
	if got := impl.ShowVal(h, v, deep); got != want {
		t.Fatalf("ShowVal of %s, %d deep, is %q, want %q in %s", tellVal(v), deep, got, want, tellHeap(h))
	}
}

func mustLookUp(t *testing.T, h impl.Heap, env int, b impl.Bind, want impl.Val, is bool) {
	t.Helper()
	if got, ok := impl.LookUp(h, env, b); got != want || ok != is {
		t.Fatalf("LookUp of %v from %d is %s and %v, want %s and %v in %s", b, env, tellVal(got), ok, tellVal(want), is, tellHeap(h))
	}
}

// mustBeNoHeap: of a heap that is not right nothing is told, but whether a value
// would be right in it.
func mustBeNoHeap(t *testing.T, what string, h impl.Heap) {
	t.Helper()
	if impl.HeapOk(h) {
		t.Fatalf("%s: HeapOk is true of %s", what, tellHeap(h))
	}
	mustHeap(t, h)
}

func TestConstantsOfValues(t *testing.T) {
	kinds := []int{impl.VInt, impl.VFun, impl.VNil, impl.VPair, impl.VCons, impl.VRef}
	for i, kind := range kinds {
		if kind != i {
			t.Errorf("%s has the number %d, want %d", valueWords[i], kind, i)
		}
	}
}

// someHeap has lists of four lengths, so that one taken for another is found:
// five cells, two closures, three pairs, four refs.
func someHeap() impl.Heap {
	return heapOf("3.0=5>-1 3.1=fun1>0 3.0=nil>1 7.0=pair2>1 -4.9=ref3>2", "3@-1 8@4", "1,nil cons0,ref0 pair2,fun0", "2 ref1 cons1 nil")
}

// TestValOkByKind: each kind has its own numbers, whether the heap is right or
// not, and whether its lists are empty.
func TestValOkByKind(t *testing.T) {
	counts := []struct{ envs, clos, twos, refs int }{{0, 0, 0, 0}, {5, 2, 3, 4}, {4, 3, 5, 2}, {1, 0, 0, 0}, {0, 1, 0, 0}, {0, 0, 1, 0}, {0, 0, 0, 1}, {2, 5, 4, 3}}
	for _, c := range counts {
		right := impl.Heap{Clos: slices.Repeat([]impl.Clo{{Env: -1}}, c.clos), Twos: make([]impl.Two, c.twos), Refs: make([]impl.Val, c.refs)}
		right.Envs = slices.Repeat([]impl.EnvCell{{Next: -1}}, c.envs)
		wrong := copyHeap(right)
		wrong.Envs = append(slices.Repeat([]impl.EnvCell{{Next: 77}}, c.envs), impl.EnvCell{})
		for i := range wrong.Clos {
			wrong.Clos[i].Env = 99
		}
		for _, p := range placesOf(wrong) {
			p.Kind = -3
		}
		if !impl.HeapOk(right) || impl.HeapOk(wrong) {
			t.Fatalf("HeapOk of the heaps with %v is %v and %v", c, impl.HeapOk(right), impl.HeapOk(wrong))
		}
		for _, h := range []impl.Heap{right, wrong} {
			for kind, last := range []int{65535, c.clos - 1, 0, c.twos - 1, c.twos - 1, c.refs - 1} {
				for _, n := range []int{math.MinInt, -1 << 32, -65536, -2, -1, 0, 1, 2, 3, 4, 5, last - 1, last, last + 1, last + 2, 65535, 65536, 1 << 32, math.MaxInt} {
					v := impl.Val{Kind: kind, N: n}
					if got, want := impl.ValOk(h, v), n >= 0 && n <= last; got != want {
						t.Errorf("ValOk of %s is %v in %s", tellVal(v), got, tellHeap(h))
					}
				}
			}
			for _, kind := range []int{math.MinInt, -1 << 32, -2, -1, 6, 7, 256, 65536, 1 << 32, math.MaxInt} {
				for _, n := range []int{-1, 0, 1} {
					if v := (impl.Val{Kind: kind, N: n}); impl.ValOk(h, v) {
						t.Errorf("ValOk of %s is true in %s", tellVal(v), tellHeap(h))
					}
				}
			}
		}
	}
}

// TestEmptyHeap: it is right, has numbers and nil, and no cell.
func TestEmptyHeap(t *testing.T) {
	for _, h := range []impl.Heap{{}, {Envs: []impl.EnvCell{}, Clos: []impl.Clo{}, Twos: []impl.Two{}, Refs: []impl.Val{}}} {
		if !impl.HeapOk(h) {
			t.Fatal("the empty heap is not right")
		}
		for _, s := range []string{"0", "65535", "nil"} {
			for deep := range 9 {
				mustShow(t, h, valueIn(s), deep, s)
			}
		}
		for _, s := range []string{"-1", "65536", "fun0", "2:1", "pair0", "cons0", "ref0", "6:0", "-1:0"} {
			if impl.ValOk(h, valueIn(s)) {
				t.Errorf("ValOk of %s is true in the empty heap", s)
			}
			mustShow(t, h, valueIn(s), 4, "")
		}
		for _, env := range append(strayNumbers(0), -1) {
			mustLookUp(t, h, env, impl.Bind{}, impl.Val{}, false)
		}
		mustHeap(t, h)
	}
}

// rightHeaps are written by hand; what is told of them is asked by the rules.
var rightHeaps = []struct{ envs, clos, twos, refs string }{
	{"3.0=5>-1", "", "", ""},
	{"3.0=0>-1", "", "", ""},
	{"3.0=65535>-1 3.0=nil>-1 3.0=1>-1", "", "", ""},
	{"3.0=5>-1 3.1=6>0 3.0=7>1 3.1=8>2", "", "", ""},
	{"3.0=5>-1 3.1=6>0 3.0=7>0 3.1=8>-1", "", "", ""},
	{"1.0=1>-1 2.0=2>0 3.0=3>0 4.0=4>1 5.0=5>2", "", "", ""},
	{"-1.-1=1>-1 0.-2=2>0 1000000.99=3>0 -5.0=4>2", "-9@3 1000000@-1", "", ""},
	{"", "3@-1", "", "fun0"},
	{"3.0=fun0>-1", "3@0", "", ""},
	{"3.0=fun0>-1 3.0=fun1>0", "3@1 3@1 3@0 3@-1", "", ""},
	{"", "", "pair0,pair0", ""},
	{"", "", "cons0,cons0", ""},
	{"", "", "cons1,cons1 pair0,pair0", ""},
	{"", "", "1,2 pair0,pair0 cons1,pair1 pair2,cons2", ""},
	{"", "", "", "ref0"},
	{"", "", "", "ref1 ref0"},
	{"", "", "ref0,3", "pair0"},
	{"0.0=ref1>-1", "7@0", "fun0,ref0 1,nil", "cons1 fun0"},
	{"", "", "1,nil 2,cons0 3,cons1 4,cons2 5,cons3 6,cons4 7,cons5 8,cons6 9,cons7 10,cons8", ""},
}

func TestRightHeaps(t *testing.T) {
	for _, c := range rightHeaps {
		h := heapOf(c.envs, c.clos, c.twos, c.refs)
		if !impl.HeapOk(h) {
			t.Errorf("HeapOk is false of %s", tellHeap(h))
		}
		mustHeap(t, h)
	}
	mustHeap(t, someHeap())
}

// faults are heaps with one fault each, by what it is.
var faults = []struct{ what, envs, clos, twos, refs string }{
	{"a wrong number in the first cell", "3.0=-1>-1 3.1=6>0", "", "", ""},
	{"a wrong number in the last cell", "3.0=5>-1 3.1=65536>0", "", "", ""},
	{"a closure in a cell that is not there", "3.0=5>-1 3.1=fun1>0", "3@1", "", ""},
	{"nil with a number in a cell", "3.0=5>-1 3.1=2:1>0", "", "", ""},
	{"a pair in a cell that is not there", "3.0=pair1>-1", "", "1,2", ""},
	{"a list in a cell that is not there", "3.0=cons1>-1", "", "1,nil", ""},
	{"a ref in a cell that is not there", "3.0=ref1>-1", "", "", "1"},
	{"no kind in a cell", "3.0=6:0>-1", "", "", ""},
	{"a wrong number in A of the first two", "", "", "65536,1 2,3", ""},
	{"a wrong number in B of the first two", "", "", "1,-1 2,3", ""},
	{"a wrong number in A of the last two", "", "", "1,1 -1,3", ""},
	{"a wrong number in B of the last two", "", "", "1,1 2,65536", ""},
	{"a pair in A that is not there", "", "", "1,1 pair2,2", ""},
	{"a list in B that is not there", "", "", "1,cons2 2,2", ""},
	{"a closure in B that is not there", "", "", "1,fun0", ""},
	{"no kind in A", "", "", "-1:0,1", ""},
	{"no kind in B", "", "", "1,-1:0", ""},
	{"a wrong number in the first ref", "", "", "", "65536 1 2"},
	{"a wrong number in the last ref", "", "", "", "1 2 -1"},
	{"a ref in a ref that is not there", "", "", "", "1 ref2"},
	{"no kind in a ref", "", "", "", "1 7:0 2"},
	{"Next of the first cell below -1", "3.0=5>-2", "", "", ""},
	{"Next of the first cell its own number", "3.0=5>0", "", "", ""},
	{"Next of the first cell past it", "3.0=5>1 3.0=5>-1", "", "", ""},
	{"Next of a cell below -1", "3.0=5>-1 3.1=6>-2", "", "", ""},
	{"Next of a cell its own number", "3.0=5>-1 3.1=6>1", "", "", ""},
	{"Next of a cell past it", "3.0=5>-1 3.1=6>2 3.0=7>1", "", "", ""},
	{"Next of the last cell past it", "3.0=5>-1 3.1=6>0 3.0=7>3", "", "", ""},
	{"two cells that lead to each other", "3.0=5>1 3.1=6>0", "", "", ""},
	{"Env of the first closure below -1", "3.0=5>-1", "3@-2 4@0", "", ""},
	{"Env of the last closure below -1", "3.0=5>-1", "3@0 4@-2", "", ""},
	{"Env of the first closure past the last cell", "3.0=5>-1 3.0=5>-1", "3@2 4@0", "", ""},
	{"Env of the last closure past the last cell", "3.0=5>-1 3.0=5>-1", "3@0 4@2", "", ""},
	{"Env 0 where there is no cell", "", "3@0", "", ""},
	{"Env 0 where there are other lists", "", "3@0", "1,2", "1"},
	{"Env below -1 where there is no cell", "", "3@-2", "", ""},
}

func TestHeapsOfOneFault(t *testing.T) {
	for _, c := range faults {
		mustBeNoHeap(t, c.what, heapOf(c.envs, c.clos, c.twos, c.refs))
	}
}

// TestHeapsOfOneWrongField turns each number of a right heap into others; a
// number that is allowed there leaves it right.
func TestHeapsOfOneWrongField(t *testing.T) {
	stray := []int{math.MinInt, -1 << 32, -2, -1, 0, 1, 2, 3, 4, 5, 6, 65535, 65536, 1 << 32, math.MaxInt}
	right, wrong := 0, 0
	for f := range 5 + 2 + 8 {
		for _, n := range stray {
			h := someHeap()
			switch {
			case f < 5:
				h.Envs[f].Next = n
			case f < 7:
				h.Clos[f-5].Env = n
			default:
				for k, p := range placesOf(h) {
					if k%8 == f-7 {
						p.N = n
					}
				}
			}
			if heapRightByRule(h) {
				right++
			} else {
				wrong++
			}
			mustHeap(t, h)
		}
	}
	if right < 30 || wrong < 100 {
		t.Errorf("%d of the heaps were right and %d were not", right, wrong)
	}
	for i := range 5 {
		h := someHeap()
		for _, next := range []int{-2, i, i + 1, i + 2, len(h.Envs), math.MinInt, math.MaxInt} {
			h.Envs[i].Next = next
			if impl.HeapOk(h) {
				t.Errorf("HeapOk is true where cell %d has Next %d", i, next)
			}
		}
		for next := -1; next < i; next++ {
			if h.Envs[i].Next = next; !impl.HeapOk(h) {
				t.Errorf("HeapOk is false where cell %d has Next %d", i, next)
			}
		}
	}
	for i := range 2 {
		h := someHeap()
		for _, env := range []int{-2, 5, 6, math.MinInt, math.MaxInt} {
			h.Clos[i].Env = env
			if impl.HeapOk(h) {
				t.Errorf("HeapOk is true where closure %d has Env %d", i, env)
			}
		}
		for env := -1; env < 5; env++ {
			if h.Clos[i].Env = env; !impl.HeapOk(h) {
				t.Errorf("HeapOk is false where closure %d has Env %d", i, env)
			}
		}
	}
}

// TestHeapsOfAnyOneValue lays any value into each place of heaps with up to two
// of each.
func TestHeapsOfAnyOneValue(t *testing.T) {
	for lengths := range 81 {
		clean := impl.Heap{Envs: make([]impl.EnvCell, lengths%3), Clos: make([]impl.Clo, lengths/3%3), Twos: make([]impl.Two, lengths/9%3), Refs: make([]impl.Val, lengths/27)}
		for i := range clean.Envs {
			clean.Envs[i] = impl.EnvCell{Node: i, Next: i - 1}
		}
		for i := range clean.Clos {
			clean.Clos[i].Env = len(clean.Envs) - 1
		}
		for place := range placesOf(clean) {
			for kind := -1; kind <= 6; kind++ {
				for _, n := range []int{-1, 0, 1, 2, 3, 65535, 65536} {
					h := copyHeap(clean)
					v := impl.Val{Kind: kind, N: n}
					*placesOf(h)[place] = v
					if got, want := impl.HeapOk(h), valRightByRule(clean, v); got != want {
						t.Fatalf("HeapOk is %v of %s", got, tellHeap(h))
					}
				}
			}
		}
		mustHeap(t, clean)
	}
}

// TestNodesAndRolesAreNotAsked: a heap is right whatever node and role its cells
// and closures name.
func TestNodesAndRolesAreNotAsked(t *testing.T) {
	for _, n := range append(strayNumbers(2), 0, 1, 150) {
		h := heapOf("0.0=5>-1 1.0=6>0", "0@1 0@-1", "", "")
		h.Envs[1].Node, h.Envs[1].Role, h.Clos[0].Node = n, n, n
		if !impl.HeapOk(h) {
			t.Errorf("HeapOk is false of %s", tellHeap(h))
		}
		mustLookUp(t, h, 1, impl.Bind{Node: n, Role: n}, valueIn("6"), true)
		mustHeap(t, h)
	}
}

// lookUps tell a value, or none by an empty word.
var lookUps = []struct {
	envs string
	env  int
	name string
	want string
}{
	// the same name twice along one way: the nearest cell counts
	{"3.0=5>-1 3.0=6>0", 1, "3.0", "6"},
	{"3.0=5>-1 3.0=6>0", 0, "3.0", "5"},
	{"3.0=5>-1 3.0=6>0 3.0=7>1", 2, "3.0", "7"},
	{"3.0=5>-1 3.0=6>0 3.0=7>0", 2, "3.0", "7"},
	{"3.0=5>-1 3.0=6>0 4.0=7>1", 2, "3.0", "6"},
	{"3.0=5>-1 3.0=6>0 4.0=7>0", 2, "3.0", "5"},
	{"3.0=5>-1 4.0=9>0 3.0=6>1 4.1=8>2 3.1=7>3", 4, "3.0", "6"},
	{"3.0=5>-1 4.0=9>0 3.0=6>1 4.1=8>2 3.1=7>3", 4, "4.0", "9"},
	{"3.0=5>-1 4.0=9>0 3.0=6>1 4.1=8>2 3.1=7>3", 1, "3.0", "5"},
	{"3.0=5>-1 3.0=nil>0", 1, "3.0", "nil"},
	{"3.0=nil>-1 3.0=0>0", 1, "3.0", "0"},
	// one of Node and Role alone is not enough
	{"3.0=5>-1 3.1=6>0", 1, "3.0", "5"},
	{"3.0=5>-1 3.1=6>0", 1, "3.1", "6"},
	{"3.1=5>-1 3.0=6>0", 1, "3.1", "5"},
	{"3.0=5>-1 4.0=6>0", 1, "3.0", "5"},
	{"3.1=5>-1 1.3=6>0", 1, "3.1", "5"},
	{"3.0=5>-1 3.1=6>0", 1, "3.2", ""},
	{"3.0=5>-1 4.0=6>0", 1, "0.3", ""},
	{"3.0=5>-1 4.1=6>0", 1, "3.1", ""},
	{"3.0=5>-1 4.1=6>0", 1, "4.0", ""},
	// not there, or there but not on the way
	{"3.0=5>-1", 0, "4.0", ""},
	{"3.0=5>-1", 0, "-1.-1", ""},
	{"3.0=5>-1", 0, "0.0", ""},
	{"3.0=5>-1 4.0=6>-1", 1, "3.0", ""},
	{"3.0=5>-1 4.0=6>0", 0, "4.0", ""},
	{"3.0=5>-1 4.0=6>0 5.0=7>0", 2, "4.0", ""},
	{"3.0=5>-1 4.0=6>-1 5.0=7>1 3.0=8>2", 2, "3.0", ""},
	{"3.0=5>-1 4.0=6>-1 5.0=7>1 3.0=8>2", 3, "3.0", "8"},
	// from none, and from where no cell is
	{"3.0=5>-1", -1, "3.0", ""},
	{"3.0=5>-1", -2, "3.0", ""},
	{"3.0=5>-1", 1, "3.0", ""},
	{"3.0=5>-1 3.0=6>0", 2, "3.0", ""},
	{"3.0=5>-1 3.0=6>0", 3, "3.0", ""},
	{"", -1, "0.0", ""},
	{"", 0, "0.0", ""},
	// the zero value, found and not found
	{"3.0=0>-1", 0, "3.0", "0"},
	{"3.0=1>-1 3.0=0>0", 1, "3.0", "0"},
	{"3.0=0>-1", 0, "3.1", ""},
	// names that no node has are looked up as others
	{"-1.-1=5>-1", 0, "-1.-1", "5"},
	{"-7.99=5>-1 7.99=6>0", 1, "-7.99", "5"},
	// a heap that is not right, by a cell ahead, on the way, and off it
	{"3.0=5>-1 3.0=65536>0", 1, "3.0", ""},
	{"3.0=5>-1 4.0=-1>0", 1, "3.0", ""},
	{"3.0=5>-1 4.0=6:0>0", 0, "3.0", ""},
	{"3.0=5>-1 3.0=6>1", 0, "3.0", ""},
	{"3.0=5>-1 3.0=6>1", 1, "3.0", ""},
	{"3.0=5>-2", 0, "3.0", ""},
	{"3.0=5>0", 0, "3.0", ""},
	{"3.0=5>0", 0, "4.0", ""},
	{"3.0=5>1 4.0=6>0", 1, "5.0", ""},
	{"3.0=5>0", -1, "3.0", ""},
}

func TestLookUpByHand(t *testing.T) {
	for _, c := range lookUps {
		h := heapOf(c.envs, "", "", "")
		name := cellIn(c.name + "=0>0")
		want := impl.Val{}
		if c.want != "" {
			want = valueIn(c.want)
		}
		mustLookUp(t, h, c.env, impl.Bind{Node: name.Node, Role: name.Role}, want, c.want != "")
	}
}

// TestLookUpFindsEachKind: a value is told as it stands in the cell, and what it
// leads to is left alone.
func TestLookUpFindsEachKind(t *testing.T) {
	for _, s := range []string{"0", "65535", "fun0", "fun1", "nil", "pair0", "pair2", "cons1", "ref0", "ref3"} {
		h := someHeap()
		h.Envs[1].Val = valueIn(s)
		mustLookUp(t, h, 4, impl.Bind{Node: 3, Role: 1}, valueIn(s), true)
	}
}

// TestLookUpInFaultyHeaps: a cell that is there is not told of where anything in
// the heap is wrong.
func TestLookUpInFaultyHeaps(t *testing.T) {
	for _, c := range faults {
		h := heapOf(c.envs, c.clos, c.twos, c.refs)
		h.Envs = append(h.Envs, cellIn("50.1=4>-1"))
		for i, clo := range h.Clos {
			// one more cell must not mend the closure
			if clo.Env == len(h.Envs)-1 {
				h.Clos[i].Env++
			}
		}
		for i, cell := range h.Envs {
			mustLookUp(t, h, i, impl.Bind{Node: cell.Node, Role: cell.Role}, impl.Val{}, false)
			mustLookUp(t, h, -1, impl.Bind{Node: cell.Node, Role: cell.Role}, impl.Val{}, false)
		}
	}
}

// TestLookUpInAllSmallHeaps: up to four cells of two nodes and two roles, with any
// Next, right or not.
func TestLookUpInAllSmallHeaps(t *testing.T) {
	var ask func(h impl.Heap, more int)
	asked := 0
	ask = func(h impl.Heap, more int) {
		asked++
		right := heapRightByRule(h)
		if impl.HeapOk(h) != right {
			t.Fatalf("HeapOk is %v of %s", !right, tellHeap(h))
		}
		for env := -2; env <= len(h.Envs); env++ {
			var seen map[impl.Bind]impl.Val
			if right && env > -2 && env < len(h.Envs) {
				seen = seenByRule(h, env)
			}
			for name := range 4 {
				b := impl.Bind{Node: name / 2, Role: name % 2}
				want, is := seen[b]
				mustLookUp(t, h, env, b, want, is)
			}
		}
		if more == 0 {
			return
		}
		for name := range 4 {
			most := len(h.Envs) - 1
			if len(h.Envs) < 2 {
				most = 2 // and beyond what is right
			}
			for next := -1; next <= most; next++ {
				cell := impl.EnvCell{Node: name / 2, Role: name % 2, Val: impl.Val{N: len(h.Envs)}, Next: next}
				ask(impl.Heap{Envs: append(slices.Clone(h.Envs), cell)}, more-1)
			}
		}
	}
	ask(impl.Heap{}, 4)
	if asked < 20000 {
		t.Errorf("only %d heaps were asked", asked)
	}
}

// shows are texts by their depth, from 0 on; the last one stays for all deeper.
var shows = []struct {
	value string
	twos  string
	texts string
}{
	{"0", "", "0"},
	{"7", "", "7"},
	{"65535", "", "65535"},
	{"nil", "", "nil"},
	{"fun0", "", "fun"},
	{"fun1", "", "fun"},
	{"ref0", "", "ref"},
	{"ref1", "", "ref"},
	{"pair0", "1,2", "_|(pair 1 2)"},
	{"cons0", "1,2", "_|(cons 1 2)"},
	{"pair0", "0,65535", "_|(pair 0 65535)"},
	{"pair0", "fun0,ref1", "_|(pair fun ref)"},
	{"cons0", "ref0,nil", "_|(cons ref nil)"},
	{"cons1", "9,nil 1,cons0", "_|(cons 1 _)|(cons 1 (cons 9 nil))"},
	{"pair1", "9,nil 1,cons0", "_|(pair 1 _)|(pair 1 (cons 9 nil))"},
	{"pair1", "9,nil cons0,1", "_|(pair _ 1)|(pair (cons 9 nil) 1)"},
	{"pair0", "pair1,cons1 1,2", "_|(pair _ _)|(pair (pair 1 2) (cons 1 2))"},
	{"cons0", "cons1,pair2 1,2 3,4", "_|(cons _ _)|(cons (cons 1 2) (pair 3 4))"},
	{"cons2", "1,nil 2,cons0 3,cons1", "_|(cons 3 _)|(cons 3 (cons 2 _))|(cons 3 (cons 2 (cons 1 nil)))"},
	{"pair2", "1,nil pair0,2 pair1,3", "_|(pair _ 3)|(pair (pair _ 2) 3)|(pair (pair (pair 1 nil) 2) 3)"},
	{"pair0", "1,pair1 pair2,4 5,6", "_|(pair 1 _)|(pair 1 (pair _ 4))|(pair 1 (pair (pair 5 6) 4))"},
	{"pair0", "pair1,3 pair2,4 5,6", "_|(pair _ 3)|(pair (pair _ 4) 3)|(pair (pair (pair 5 6) 4) 3)"},
	// what the value does not lead to is not told
	{"cons0", "1,nil 2,3 pair1,pair2", "_|(cons 1 nil)"},
}

// TestShowValByHand: at each depth the text is so deep and no deeper.
func TestShowValByHand(t *testing.T) {
	for _, c := range shows {
		h := heapOf("", "1@-1 2@-1", c.twos, "1 ref0")
		texts := strings.Split(c.texts, "|")
		for deep := range 9 {
			mustShow(t, h, valueIn(c.value), deep, texts[min(deep, len(texts)-1)])
		}
		for _, deep := range strayDeeps {
			mustShow(t, h, valueIn(c.value), deep, "")
		}
	}
}

// TestShowValThatLeadsRound: a value that leads to itself is told so deep.
func TestShowValThatLeadsRound(t *testing.T) {
	cases := []struct {
		value string
		twos  string
		texts string
	}{
		{"pair0", "1,pair0", "_|(pair 1 _)|(pair 1 (pair 1 _))|(pair 1 (pair 1 (pair 1 _)))"},
		{"cons0", "1,cons0", "_|(cons 1 _)|(cons 1 (cons 1 _))|(cons 1 (cons 1 (cons 1 _)))"},
		{"pair0", "cons0,2", "_|(pair _ 2)|(pair (cons _ 2) 2)|(pair (cons (cons _ 2) 2) 2)"},
		{"pair0", "pair0,pair0", "_|(pair _ _)|(pair (pair _ _) (pair _ _))"},
		{"pair1", "1,pair1 2,cons0", "_|(pair 2 _)|(pair 2 (cons 1 _))|(pair 2 (cons 1 (pair 2 _)))"},
		{"pair0", "ref0,1", "_|(pair ref 1)|(pair ref 1)"},
	}
	for _, c := range cases {
		h := heapOf("", "", c.twos, "pair0")
		if !impl.HeapOk(h) {
			t.Fatalf("HeapOk is false of %s", tellHeap(h))
		}
		for deep, want := range strings.Split(c.texts, "|") {
			mustShow(t, h, valueIn(c.value), deep, want)
		}
		mustHeap(t, h)
	}
	h := heapOf("", "", "1,cons0", "")
	mustShow(t, h, valueIn("cons0"), 8, strings.Repeat("(cons 1 ", 8)+"_"+strings.Repeat(")", 8))
	h = heapOf("", "", "pair0,pair0", "")
	if got := impl.ShowVal(h, valueIn("pair0"), 8); strings.Count(got, "_") != 256 || strings.Count(got, "(pair ") != 255 {
		t.Errorf("%d and %d parts are told 8 deep", strings.Count(got, "_"), strings.Count(got, "(pair "))
	}
}

// TestShowValAtTheDeepest: pairs and lists that end at depth 7, 8 and 9, on one
// side or on both.
func TestShowValAtTheDeepest(t *testing.T) {
	for _, kind := range []int{impl.VPair, impl.VCons} {
		for _, sides := range []int{0, 1, 2} {
			h := impl.Heap{}
			v := impl.Val{N: 5}
			for level := range 10 {
				parts := [][2]impl.Val{{v, {N: 5}}, {{N: 5}, v}, {v, v}}[sides]
				h.Twos = append(h.Twos, impl.Two{A: parts[0], B: parts[1]})
				v = impl.Val{Kind: kind, N: level}
				for deep := range 9 {
					got := impl.ShowVal(h, v, deep)
					if want := showByRule(h, v, deep); got != want {
						t.Fatalf("%d levels, %d deep: %q, want %q", level+1, deep, got, want)
					}
					if strings.Contains(got, "_") != (deep < level+1) {
						t.Fatalf("%d levels are told %d deep as %q", level+1, deep, got)
					}
				}
				mustShow(t, h, v, 9, "")
				mustShow(t, h, v, -1, "")
			}
		}
	}
}

// TestShowValOfWrongOnes: nothing is told of a value that is not right, nor in a
// heap that is not, even if the value does not lead to what is wrong.
func TestShowValOfWrongOnes(t *testing.T) {
	h := someHeap()
	for _, s := range []string{"-1", "65536", "fun2", "fun-1", "2:1", "2:-1", "pair3", "pair-1", "cons3", "cons-1", "ref4", "ref-1", "6:0", "-1:0"} {
		for deep := range 9 {
			mustShow(t, h, valueIn(s), deep, "")
		}
	}
	for _, c := range faults {
		h := heapOf(c.envs, c.clos, c.twos, c.refs)
		pairs := len(h.Twos)
		h.Twos = append(h.Twos, impl.Two{A: valueIn("1"), B: valueIn("nil")})
		for _, p := range placesOf(h) {
			// one more pair must not mend the value
			if (p.Kind == impl.VPair || p.Kind == impl.VCons) && p.N == pairs {
				p.N++
			}
		}
		for _, v := range []impl.Val{{}, {N: 65535}, {Kind: impl.VNil}, {Kind: impl.VPair, N: pairs}, {Kind: impl.VCons, N: pairs}} {
			if !impl.ValOk(h, v) {
				t.Fatalf("%s: ValOk of %s is false", c.what, tellVal(v))
			}
			for deep := range 9 {
				mustShow(t, h, v, deep, "")
			}
		}
	}
}

// TestGreatHeaps: long ways are gone through to their end, and a fault behind them
// is found.
func TestGreatHeaps(t *testing.T) {
	const cells = 200000
	h := impl.Heap{Envs: make([]impl.EnvCell, cells), Twos: make([]impl.Two, cells)}
	for i := range cells {
		h.Envs[i] = impl.EnvCell{Node: i, Val: impl.Val{N: i % 65536}, Next: i - 1}
		h.Twos[i] = impl.Two{A: impl.Val{N: i % 10}, B: impl.Val{Kind: impl.VCons, N: max(0, i-1)}}
	}
	mustLookUp(t, h, cells-1, impl.Bind{Node: 0}, impl.Val{}, true)
	mustLookUp(t, h, cells-1, impl.Bind{Node: 1}, impl.Val{N: 1}, true)
	mustLookUp(t, h, cells-1, impl.Bind{Node: cells}, impl.Val{}, false)
	mustLookUp(t, h, cells/2, impl.Bind{Node: cells - 1}, impl.Val{}, false)
	mustShow(t, h, impl.Val{Kind: impl.VCons, N: cells - 1}, 3, "(cons 9 (cons 8 (cons 7 _)))")
	h.Twos[cells-1].B.N = cells
	if impl.HeapOk(h) {
		t.Error("a wrong value behind many others is not found")
	}
	h.Twos[cells-1].B.N = 0
	h.Envs[cells-1].Next = cells - 1
	if impl.HeapOk(h) {
		t.Error("a wrong Next behind many others is not found")
	}
}

// askHeap calls all functions of chapter 10.
func askHeap(h impl.Heap) {
	impl.HeapOk(h)
	for _, v := range valuesIn(h) {
		impl.ValOk(h, v)
		for deep := -1; deep <= 9; deep++ {
			impl.ShowVal(h, v, deep)
		}
	}
	for _, env := range append(strayNumbers(len(h.Envs)), 0, len(h.Envs)-1) {
		for _, b := range bindsAt(h) {
			impl.LookUp(h, env, b)
		}
	}
}

// allHeaps are those that are written by hand.
func allHeaps() []impl.Heap {
	heaps := []impl.Heap{{}, someHeap()}
	for _, c := range rightHeaps {
		heaps = append(heaps, heapOf(c.envs, c.clos, c.twos, c.refs))
	}
	for _, c := range faults {
		heaps = append(heaps, heapOf(c.envs, c.clos, c.twos, c.refs))
	}
	return heaps
}

// TestValuesLeaveHeapsAsTheyAre: neither the lists of a heap nor the room behind
// them is written into.
func TestValuesLeaveHeapsAsTheyAre(t *testing.T) {
	for _, h := range allHeaps() {
		room := impl.Heap{
			Envs: append(slices.Clone(h.Envs), slices.Repeat([]impl.EnvCell{{Node: 99, Role: 98, Next: 97}}, 9)...),
			Clos: append(slices.Clone(h.Clos), slices.Repeat([]impl.Clo{{Node: 99, Env: 98}}, 9)...),
			Twos: append(slices.Clone(h.Twos), slices.Repeat([]impl.Two{{A: impl.Val{Kind: 99}, B: impl.Val{N: 98}}}, 9)...),
			Refs: append(slices.Clone(h.Refs), slices.Repeat([]impl.Val{{Kind: 99, N: 98}}, 9)...),
		}
		before := copyHeap(room)
		askHeap(impl.Heap{Envs: room.Envs[:len(h.Envs)], Clos: room.Clos[:len(h.Clos)], Twos: room.Twos[:len(h.Twos)], Refs: room.Refs[:len(h.Refs)]})
		if !sameHeap(room, before) {
			t.Fatalf("%s was written into", tellHeap(h))
		}
	}
}

// TestValuesKeepNothing: a heap is told of as ever behind others, and behind what
// was changed in it between.
func TestValuesKeepNothing(t *testing.T) {
	h := someHeap()
	for _, other := range allHeaps() {
		askHeap(other)
		mustHeap(t, h)
		mustHeap(t, other)
	}
	mustLookUp(t, h, 4, impl.Bind{Node: 3}, valueIn("nil"), true)
	h.Envs[2].Val = valueIn("8")
	mustLookUp(t, h, 4, impl.Bind{Node: 3}, valueIn("8"), true)
	h.Envs[2].Val = valueIn("ref4")
	mustLookUp(t, h, 4, impl.Bind{Node: 3}, impl.Val{}, false)
	mustShow(t, h, valueIn("cons0"), 2, "")
	h.Envs[2].Val = valueIn("ref3")
	mustLookUp(t, h, 4, impl.Bind{Node: 3}, valueIn("ref3"), true)
	mustShow(t, h, valueIn("cons0"), 2, "(cons 1 nil)")
}

// anyHeap has less than most of each; nearly all of its numbers are right.
func anyHeap(next func(n int) int, most int) impl.Heap {
	h := impl.Heap{Envs: make([]impl.EnvCell, next(most)), Clos: make([]impl.Clo, next(most)), Twos: make([]impl.Two, next(most)), Refs: make([]impl.Val, next(most))}
	for i := range h.Envs {
		h.Envs[i] = impl.EnvCell{Node: next(3), Role: next(2), Next: next(i+1) - 1}
	}
	for i := range h.Clos {
		h.Clos[i] = impl.Clo{Node: next(5), Env: next(len(h.Envs)+1) - 1}
	}
	counts := [6]int{65536, len(h.Clos), 1, len(h.Twos), len(h.Twos), len(h.Refs)}
	for _, p := range placesOf(h) {
		*p = impl.Val{N: next(10)}
		if kind := next(6); counts[kind] > 0 {
			*p = impl.Val{Kind: kind, N: next(counts[kind])}
		}
	}
	stray := func() int { return strayFields[next(len(strayFields))] }
	if places := placesOf(h); len(places) > 0 && next(6) == 0 {
		p := places[next(len(places))]
		*[]*int{&p.Kind, &p.N}[next(2)] = stray()
	}
	if len(h.Envs) > 0 && next(8) == 0 {
		c := &h.Envs[next(len(h.Envs))]
		*[]*int{&c.Node, &c.Role, &c.Next}[next(3)] = stray()
	}
	if len(h.Clos) > 0 && next(8) == 0 {
		c := &h.Clos[next(len(h.Clos))]
		*[]*int{&c.Node, &c.Env}[next(2)] = stray()
	}
	return h
}

// TestValuesOfAnyHeaps: no heap makes a function of chapter 10 panic, and each
// tells of it what it should, right or not.
func TestValuesOfAnyHeaps(t *testing.T) {
	next := dice(10)
	right, wrong := 0, 0
	for range 4000 {
		h := anyHeap(next, 6)
		if heapRightByRule(h) {
			right++
		} else {
			wrong++
		}
		mustHeap(t, h)
	}
	if right < 1000 || wrong < 300 {
		t.Errorf("%d of the heaps were right and %d were not", right, wrong)
	}
}
