package tests

import (
	"math"
	"slices"
	"strconv"
	"strings"
	"testing"

	"loop.example/g01292/impl"
)

// tellEvents writes an EvValue as its node, = and the kind, an EvCall as its node,
// > and the function's.
func tellEvents(events []impl.Event) string {
	var out []string
	for _, e := range events {
		switch {
		case e.Kind == impl.EvCall:
			out = append(out, strconv.Itoa(e.Node)+">"+strconv.Itoa(e.Fun))
		case e.Kind == impl.EvValue && e.Fun == impl.VInt:
			out = append(out, strconv.Itoa(e.Node)+"=int")
		case e.Kind == impl.EvValue && e.Fun > impl.VInt && e.Fun <= impl.VRef:
			out = append(out, strconv.Itoa(e.Node)+"="+valueWords[e.Fun])
		default:
			out = append(out, "no event")
		}
	}
	return strings.Join(out, " ")
}

func tellResult(r impl.Result) string {
	return strconv.Itoa(r.Kind) + " " + strconv.Quote(r.Text) + " tag " + strconv.Itoa(r.Tag) + " steps " + strconv.Itoa(r.Steps) + " events " + tellEvents(r.Events)
}

func sameResult(a impl.Result, b impl.Result) bool {
	return a.Kind == b.Kind && a.Text == b.Text && a.Tag == b.Tag && a.Steps == b.Steps && slices.Equal(a.Events, b.Events)
}

func isZero(r impl.Result) bool { return sameResult(r, impl.Result{}) }

// oddEnd is what ends a program's doing from within: OcFuel or OcStuck.
type oddEnd int

// doing does a program by going down into its kids, and says in words of Go what
// the machine says with frames and a heap.
type doing struct {
	l      []impl.Node
	fuel   int
	steps  int
	events []impl.Event
}

// known is an environment that is asked by names.
type known struct {
	name string
	val  any
	past *known
}

// The values are numbers as int, and these.
type (
	aFunction struct {
		node int
		env  *known
	}
	aNil  struct{}
	aPair struct{ a, b any }
	aList struct{ a, b any }
	aRef  struct{ has any }
)

func (k *known) and(name string, val any) *known { return &known{name, val, k} }

func (k *known) of(name string) any {
	for ; k.name != name; k = k.past {
	}
	return k.val
}

func kindByRule(v any) int {
	switch v.(type) {
	case int:
		return impl.VInt
	case *aFunction:
		return impl.VFun
	case aNil:
		return impl.VNil
	case *aPair:
		return impl.VPair
	case *aList:
		return impl.VCons
	}
	return impl.VRef
}

func textByRule(v any, deep int) string {
	switch v := v.(type) {
	case int:
		return strconv.Itoa(v)
	case *aPair:
		if deep > 0 {
			return "(pair " + textByRule(v.a, deep-1) + " " + textByRule(v.b, deep-1) + ")"
		}
	case *aList:
		if deep > 0 {
			return "(cons " + textByRule(v.a, deep-1) + " " + textByRule(v.b, deep-1) + ")"
		}
	case *aFunction:
		return "fun"
	case aNil:
		return "nil"
	case *aRef:
		return "ref"
	}
	return "_"
}

func (d *doing) step() {
	if d.steps == d.fuel {
		panic(oddEnd(impl.OcFuel))
	}
	d.steps++
}

func must[T any](v any) T {
	is, ok := v.(T)
	if !ok {
		panic(oddEnd(impl.OcStuck))
	}
	return is
}

func (d *doing) done(i int, v any) (any, bool) {
	d.events = append(d.events, impl.Event{Kind: impl.EvValue, Node: i, Fun: kindByRule(v)})
	return v, false
}

// passed is what becomes of node i where a frame that passes on waits for one that
// is looked at.
func (d *doing) passed(i int, at int, env *known) (any, bool) {
	v, raised := d.at(at, env)
	d.step()
	if raised {
		return v, true
	}
	return d.done(i, v)
}

// at tells what node i comes to, and whether that is a number that was thrown.
func (d *doing) at(i int, env *known) (any, bool) {
	d.step()
	n := d.l[i]
	switch n.Kind {
	case impl.NInt:
		return d.done(i, n.N)
	case impl.NNil:
		return d.done(i, aNil{})
	case impl.NVar:
		return d.done(i, env.of(n.Name))
	case impl.NFun:
		return d.done(i, &aFunction{i, env})
	case impl.NRec:
		f := &aFunction{node: i}
		f.env = env.and(n.Name, f)
		return d.passed(i, n.B, f.env)
	}
	a, raised := d.at(n.A, env)
	d.step()
	if raised && n.Kind == impl.NTry {
		return d.passed(i, n.B, env.and(n.Name, a))
	} else if raised {
		return a, true
	}
	return d.behindFirst(i, env, a)
}

func (d *doing) behindFirst(i int, env *known, a any) (any, bool) {
	n := d.l[i]
	switch n.Kind {
	case impl.NLet:
		return d.passed(i, n.B, env.and(n.Name, a))
	case impl.NTry:
		return d.done(i, a)
	case impl.NIf:
		if must[int](a) != 0 {
			return d.passed(i, n.B, env)
		}
		return d.passed(i, n.C, env)
	case impl.NMatch:
		if kindByRule(a) == impl.VNil {
			return d.passed(i, n.B, env)
		}
		list := must[*aList](a)
		return d.passed(i, n.C, env.and(n.Name, list.a).and(n.Other, list.b))
	case impl.NFst:
		return d.done(i, must[*aPair](a).a)
	case impl.NSnd:
		return d.done(i, must[*aPair](a).b)
	case impl.NRef:
		return d.done(i, &aRef{a})
	case impl.NGet:
		return d.done(i, must[*aRef](a).has)
	case impl.NRaise:
		return must[int](a), true
	}
	b, raised := d.at(n.B, env)
	d.step()
	if raised {
		return b, true
	}
	return d.behindSecond(i, a, b)
}

func (d *doing) behindSecond(i int, a any, b any) (any, bool) {
	switch d.l[i].Kind {
	case impl.NPair:
		return d.done(i, &aPair{a, b})
	case impl.NCons:
		if kind := kindByRule(b); kind != impl.VNil && kind != impl.VCons {
			panic(oddEnd(impl.OcStuck))
		}
		return d.done(i, &aList{a, b})
	case impl.NSet:
		must[*aRef](a).has = b
		return d.done(i, 0)
	case impl.NPrim:
		return d.done(i, reckonedByRule(d.l[i].N, must[int](a), must[int](b)))
	}
	f := must[*aFunction](a)
	n := d.l[f.node]
	d.events = append(d.events, impl.Event{Kind: impl.EvCall, Node: i, Fun: f.node})
	if n.Kind == impl.NFun {
		return d.passed(i, n.A, f.env.and(n.Name, b))
	}
	return d.passed(i, n.A, f.env.and(n.Other, b))
}

// reckonedByRule leaves the wrapping round to Go's numbers of 16 bits.
func reckonedByRule(op int, a int, b int) int {
	x, y := uint16(a), uint16(b)
	return int([]uint16{x + y, x - y, map[bool]uint16{true: 1}[x < y], map[bool]uint16{true: 1}[x == y]}[op])
}

// runByRule is Run of programs that are right and closed, with fuel in its range.
func runByRule(l []impl.Node, fuel int) (r impl.Result) {
	d := &doing{l: l, fuel: fuel}
	defer func() {
		why := recover()
		if end, odd := why.(oddEnd); odd {
			r = impl.Result{Kind: int(end)}
		} else if why != nil {
			panic(why)
		}
		r.Steps, r.Events = d.steps, d.events
	}()
	v, raised := d.at(len(l)-1, nil)
	if raised {
		return impl.Result{Kind: impl.OcRaised, Text: strconv.Itoa(v.(int))}
	}
	return impl.Result{Kind: impl.OcValue, Text: textByRule(v, 4), Tag: kindByRule(v)}
}

// outcomeByRule is what Outcome says of a result.
func outcomeByRule(r impl.Result) string {
	word := []string{"bad", "value", "raised", "fuel", "stuck"}[r.Kind]
	if r.Kind == impl.OcValue || r.Kind == impl.OcRaised {
		return word + " " + r.Text
	}
	return word
}

// mustRun holds Run and Outcome against the rule, and tells the result.
func mustRun(t *testing.T, l []impl.Node, fuel int) impl.Result {
	t.Helper()
	got, want := impl.Run(l, fuel), runByRule(l, fuel)
	if !sameResult(got, want) {
		t.Fatalf("Run with fuel %d is\n%s, want\n%s of %s", fuel, tellResult(got), tellResult(want), textOf(l))
	}
	if o := impl.Outcome(l, fuel); o != outcomeByRule(want) {
		t.Fatalf("Outcome with fuel %d is %q, want %q of %s", fuel, o, outcomeByRule(want), textOf(l))
	}
	return got
}

// mustNotRun asks for the zero Result.
func mustNotRun(t *testing.T, what string, l []impl.Node, fuel int) {
	t.Helper()
	if r, o := impl.Run(l, fuel), impl.Outcome(l, fuel); !isZero(r) || o != "bad" {
		t.Fatalf("%s: with fuel %d Run is %s, Outcome %q of %s", what, fuel, tellResult(r), o, tell(l))
	}
}

// mustBurn is P10 with one fuel, where the whole run is known, which is no OcFuel:
// below its end it is a beginning of it, from there on all of it.
func mustBurn(t *testing.T, l []impl.Node, fuel int, whole impl.Result) {
	t.Helper()
	r := impl.Run(l, fuel)
	if fuel >= whole.Steps {
		if !sameResult(r, whole) {
			t.Fatalf("with fuel %d Run is\n%s, with more\n%s of %s", fuel, tellResult(r), tellResult(whole), textOf(l))
		}
		return
	}
	begins := len(r.Events) <= len(whole.Events) && slices.Equal(r.Events, whole.Events[:len(r.Events)])
	if r.Kind != impl.OcFuel || r.Text != "" || r.Tag != 0 || r.Steps != fuel || !begins || impl.Outcome(l, fuel) != "fuel" {
		t.Fatalf("with fuel %d Run is\n%s, with more\n%s of %s", fuel, tellResult(r), tellResult(whole), textOf(l))
	}
}

// mustBurnAll is P10 with each fuel up to some behind the end; it tells the whole
// run.
func mustBurnAll(t *testing.T, l []impl.Node) impl.Result {
	t.Helper()
	whole := mustRun(t, l, impl.MaxFuel)
	if whole.Kind == impl.OcFuel {
		t.Fatalf("no end of %s", textOf(l))
	}
	before := 0
	for fuel := range min(whole.Steps+4, impl.MaxFuel+1) {
		mustBurn(t, l, fuel, whole)
		events := len(mustRun(t, l, fuel).Events)
		if events < before {
			t.Fatalf("%d events with fuel %d, %d with one less, of %s", events, fuel, before, textOf(l))
		}
		before = events
	}
	return whole
}

// strayFuels are out of range.
var strayFuels = []int{-1, -2, -3000, impl.MaxFuel + 1, impl.MaxFuel + 2, 30000, 1 << 32, 1<<32 + 9, -1 << 32, math.MinInt, math.MaxInt}

func TestConstantsOfTheMachine(t *testing.T) {
	got := []int{impl.MaxFuel, impl.OcBad, impl.OcValue, impl.OcRaised, impl.OcFuel, impl.OcStuck, impl.Deep, impl.EvCall, impl.EvValue}
	if want := []int{3000, 0, 1, 2, 3, 4, 4, 1, 2}; !slices.Equal(got, want) {
		t.Errorf("the constants are %v, want %v", got, want)
	}
}

func TestCodeWord(t *testing.T) {
	for kind, want := range []string{"bad", "value", "raised", "fuel", "stuck", "", "", "", "", ""} {
		if got := impl.CodeWord(kind); got != want {
			t.Errorf("CodeWord(%d) is %q, want %q", kind, got, want)
		}
	}
	for _, kind := range []int{-1, -2, -4, 256, 257, 1 << 32, 1<<32 + 1, -1 << 32, math.MinInt, math.MinInt + 1, math.MaxInt} {
		if got := impl.CodeWord(kind); got != "" {
			t.Errorf("CodeWord(%d) is %q", kind, got)
		}
	}
}

// runCases are programs with their outcome, kind of value, steps and events, counted
// out by hand. Kids stand ahead of their nodes, which are numbered from 0 on as
// they are closed.
var runCases = []struct {
	text    string
	outcome string
	tag     int
	steps   int
	events  string
}{
	// nodes without a kid that is looked at first
	{"7", "value 7", impl.VInt, 1, "0=int"},
	{"0", "value 0", impl.VInt, 1, "0=int"},
	{"65535", "value 65535", impl.VInt, 1, "0=int"},
	{"nil", "value nil", impl.VNil, 1, "0=nil"},
	{"(fun x x)", "value fun", impl.VFun, 1, "1=fun"},
	{"(fun x (raise 1))", "value fun", impl.VFun, 1, "2=fun"},

	// NRec: a cell for its own name, and one for its argument at a call
	{"(rec f x x 5)", "value 5", impl.VInt, 3, "1=int 2=int"},
	{"(rec f x x f)", "value fun", impl.VFun, 3, "1=fun 2=fun"},
	{"(rec f x (raise x) nil)", "value nil", impl.VNil, 3, "2=nil 3=nil"},
	{"(rec f x x (app f 5))", "value 5", impl.VInt, 9, "1=fun 2=int 3>4 0=int 3=int 4=int"},
	{"(rec f x f (app f 5))", "value fun", impl.VFun, 9, "1=fun 2=int 3>4 0=fun 3=fun 4=fun"},
	{"(rec x x x (app x 5))", "value 5", impl.VInt, 9, "1=fun 2=int 3>4 0=int 3=int 4=int"},
	{"(rec x x x x)", "value fun", impl.VFun, 3, "1=fun 2=fun"},
	{"(rec f x (if x (app f (sub x 1)) 8) (app f 2))", "value 8", impl.VInt, 41,
		"8=fun 9=int 10>11 0=int 1=fun 2=int 3=int 4=int 5>11 0=int 1=fun 2=int 3=int 4=int 5>11 0=int 6=int 7=int 5=int 7=int 5=int 7=int 10=int 11=int"},
	{"(app (rec f x x f) 5)", "value 5", impl.VInt, 9, "1=fun 2=fun 3=int 4>2 0=int 4=int"},

	// NApp
	{"(app (fun x x) 5)", "value 5", impl.VInt, 7, "1=fun 2=int 3>1 0=int 3=int"},
	{"(app (fun x 6) 5)", "value 6", impl.VInt, 7, "1=fun 2=int 3>1 0=int 3=int"},
	{"(app (fun x (fun y x)) 5)", "value fun", impl.VFun, 7, "2=fun 3=int 4>2 1=fun 4=fun"},
	{"(app (app (fun x (fun y x)) 5) nil)", "value 5", impl.VInt, 13, "2=fun 3=int 4>2 1=fun 4=fun 5=nil 6>1 0=int 6=int"},
	{"(app (app (fun x (fun x x)) 5) nil)", "value nil", impl.VNil, 13, "2=fun 3=int 4>2 1=fun 4=fun 5=nil 6>1 0=nil 6=nil"},
	{"(app (fun f (app f f)) (fun x 3))", "value 3", impl.VInt, 13, "3=fun 5=fun 6>3 0=fun 1=fun 2>5 4=int 2=int 6=int"},

	// NLet
	{"(let x 5 x)", "value 5", impl.VInt, 5, "0=int 1=int 2=int"},
	{"(let x 5 nil)", "value nil", impl.VNil, 5, "0=int 1=nil 2=nil"},
	{"(let x 1 (let x 2 x))", "value 2", impl.VInt, 9, "0=int 1=int 2=int 3=int 4=int"},
	{"(let x 1 (let y 2 x))", "value 1", impl.VInt, 9, "0=int 1=int 2=int 3=int 4=int"},
	{"(let x 1 (pair (let x 2 x) x))", "value (pair 2 1)", impl.VPair, 13, "0=int 1=int 2=int 3=int 4=int 5=pair 6=pair"},
	{"(let x 1 (let x (add x 1) x))", "value 2", impl.VInt, 13, "0=int 1=int 2=int 3=int 4=int 5=int 6=int"},
	{"(let f (let x 7 (fun y x)) (let x 9 (app f x)))", "value 7", impl.VInt, 19,
		"0=int 2=fun 3=fun 4=int 5=fun 6=int 7>2 1=int 7=int 8=int 9=int"},

	// NPrim
	{"(add 3 4)", "value 7", impl.VInt, 5, "0=int 1=int 2=int"},
	{"(sub 3 4)", "value 65535", impl.VInt, 5, "0=int 1=int 2=int"},
	{"(less 3 4)", "value 1", impl.VInt, 5, "0=int 1=int 2=int"},
	{"(same 3 4)", "value 0", impl.VInt, 5, "0=int 1=int 2=int"},

	// NIf
	{"(if 1 2 3)", "value 2", impl.VInt, 5, "0=int 1=int 3=int"},
	{"(if 0 2 3)", "value 3", impl.VInt, 5, "0=int 2=int 3=int"},
	{"(if 65535 nil 3)", "value nil", impl.VNil, 5, "0=int 1=nil 3=nil"},
	{"(let x 4 (if x (if 0 1 x) 2))", "value 4", impl.VInt, 13, "0=int 1=int 2=int 4=int 5=int 7=int 8=int"},

	// pairs
	{"(pair 1 nil)", "value (pair 1 nil)", impl.VPair, 5, "0=int 1=nil 2=pair"},
	{"(fst (pair 1 nil))", "value 1", impl.VInt, 7, "0=int 1=nil 2=pair 3=int"},
	{"(snd (pair 1 nil))", "value nil", impl.VNil, 7, "0=int 1=nil 2=pair 3=nil"},
	{"(pair (pair 1 2) (pair 3 4))", "value (pair (pair 1 2) (pair 3 4))", impl.VPair, 13, "0=int 1=int 2=pair 3=int 4=int 5=pair 6=pair"},
	{"(fst (snd (pair 1 (pair 2 3))))", "value 2", impl.VInt, 13, "0=int 1=int 2=int 3=pair 4=pair 5=pair 6=int"},

	// lists
	{"(cons 1 nil)", "value (cons 1 nil)", impl.VCons, 5, "0=int 1=nil 2=cons"},
	{"(cons nil (cons 2 nil))", "value (cons nil (cons 2 nil))", impl.VCons, 9, "0=nil 1=int 2=nil 3=cons 4=cons"},
	{"(match nil 1 h t 2)", "value 1", impl.VInt, 5, "0=nil 1=int 3=int"},
	{"(let h 4 (match nil h h t 2))", "value 4", impl.VInt, 9, "0=int 1=nil 2=int 4=int 5=int"},
	{"(match (cons 1 nil) 9 h t h)", "value 1", impl.VInt, 9, "0=int 1=nil 2=cons 4=int 5=int"},
	{"(match (cons 1 nil) 9 h t t)", "value nil", impl.VNil, 9, "0=int 1=nil 2=cons 4=nil 5=nil"},
	{"(match (cons 1 nil) 9 x x x)", "value nil", impl.VNil, 9, "0=int 1=nil 2=cons 4=nil 5=nil"},
	{"(match (cons 1 (cons 2 nil)) 9 h t (pair h t))", "value (pair 1 (cons 2 nil))", impl.VPair, 17,
		"0=int 1=int 2=nil 3=cons 4=cons 6=int 7=cons 8=pair 9=pair"},
	{"(let h 4 (match (cons 1 nil) 9 g t h))", "value 4", impl.VInt, 13, "0=int 1=int 2=nil 3=cons 5=int 6=int 7=int"},

	// refs
	{"(ref 5)", "value ref", impl.VRef, 3, "0=int 1=ref"},
	{"(get (ref 5))", "value 5", impl.VInt, 5, "0=int 1=ref 2=int"},
	{"(get (ref nil))", "value nil", impl.VNil, 5, "0=nil 1=ref 2=nil"},
	{"(set (ref 5) 6)", "value 0", impl.VInt, 7, "0=int 1=ref 2=int 3=int"},
	{"(set (ref nil) (ref 1))", "value 0", impl.VInt, 9, "0=nil 1=ref 2=int 3=ref 4=int"},
	{"(let r (ref 1) (pair (set r 5) (get r)))", "value (pair 0 5)", impl.VPair, 17,
		"0=int 1=ref 2=ref 3=int 4=int 5=ref 6=int 7=pair 8=pair"},
	{"(let r (ref 1) (pair (get r) (set r 5)))", "value (pair 1 0)", impl.VPair, 17,
		"0=int 1=ref 2=ref 3=int 4=ref 5=int 6=int 7=pair 8=pair"},

	// what is raised
	{"(raise 7)", "raised 7", 0, 3, "0=int"},
	{"(raise 0)", "raised 0", 0, 3, "0=int"},
	{"(raise (raise 3))", "raised 3", 0, 5, "0=int"},
	{"(pair (raise 1) (raise 2))", "raised 1", 0, 5, "0=int"},
	{"(pair 3 (raise 2))", "raised 2", 0, 7, "0=int 1=int"},
	{"(add 3 (add 4 (raise 2)))", "raised 2", 0, 11, "0=int 1=int 2=int"},
	{"(app (fun x (raise x)) 5)", "raised 5", 0, 9, "2=fun 3=int 4>2 0=int"},

	// what is caught
	{"(try 1 e 2)", "value 1", impl.VInt, 3, "0=int 2=int"},
	{"(try nil e (raise e))", "value nil", impl.VNil, 3, "0=nil 3=nil"},
	{"(try (raise 7) e e)", "value 7", impl.VInt, 7, "0=int 2=int 3=int"},
	{"(try (raise 7) e nil)", "value nil", impl.VNil, 7, "0=int 2=nil 3=nil"},
	{"(try (add 1 (raise 7)) e (cons e nil))", "value (cons 7 nil)", impl.VCons, 15, "0=int 1=int 4=int 5=nil 6=cons 7=cons"},
	{"(let x 1 (try (let x 2 (raise x)) e (pair e x)))", "value (pair 2 1)", impl.VPair, 19,
		"0=int 1=int 2=int 5=int 6=int 7=pair 8=pair 9=pair"},
	{"(let e 1 (try (raise 2) x e))", "value 1", impl.VInt, 11, "0=int 1=int 3=int 4=int 5=int"},
	{"(let e 1 (try (raise 2) e e))", "value 2", impl.VInt, 11, "0=int 1=int 3=int 4=int 5=int"},
	{"(let e 1 (try e e (raise e)))", "value 1", impl.VInt, 7, "0=int 1=int 4=int 5=int"},
	{"(let e 1 (pair (try (raise 2) e e) e))", "value (pair 2 1)", impl.VPair, 15, "0=int 1=int 3=int 4=int 5=int 6=pair 7=pair"},
	{"(try (raise 1) e (raise 2))", "raised 2", 0, 9, "0=int 2=int"},
	{"(try (raise 1) e (raise e))", "raised 1", 0, 9, "0=int 2=int"},
	{"(try (try (raise 1) e (raise (add e 1))) g (pair g g))", "value (pair 2 2)", impl.VPair, 21,
		"0=int 2=int 3=int 4=int 7=int 8=int 9=pair 10=pair"},
	{"(try (try (raise 1) e 5) g 6)", "value 5", impl.VInt, 9, "0=int 2=int 3=int 5=int"},
	{"(try (try 1 e 5) g 6)", "value 1", impl.VInt, 5, "0=int 2=int 4=int"},
	{"(try (raise (raise 7)) e e)", "value 7", impl.VInt, 9, "0=int 3=int 4=int"},
	{"(app (try (raise 3) e (fun x e)) 4)", "value 3", impl.VInt, 13, "0=int 3=fun 4=fun 5=int 6>3 2=int 6=int"},

	// where it is stuck
	{"(if nil 1 2)", "stuck", 0, 3, "0=nil"},
	{"(raise nil)", "stuck", 0, 3, "0=nil"},
	{"(fst nil)", "stuck", 0, 3, "0=nil"},
	{"(snd (cons 1 nil))", "stuck", 0, 7, "0=int 1=nil 2=cons"},
	{"(match 1 2 h t 3)", "stuck", 0, 3, "0=int"},
	{"(get 1)", "stuck", 0, 3, "0=int"},
	{"(cons 1 2)", "stuck", 0, 5, "0=int 1=int"},
	{"(add 1 nil)", "stuck", 0, 5, "0=int 1=nil"},
	{"(add nil 1)", "stuck", 0, 5, "0=nil 1=int"},
	{"(set 1 2)", "stuck", 0, 5, "0=int 1=int"},
	{"(app 1 2)", "stuck", 0, 5, "0=int 1=int"},
	{"(app 1 (raise 3))", "raised 3", 0, 7, "0=int 1=int"},
	{"(add nil (raise 3))", "raised 3", 0, 7, "0=nil 1=int"},
	{"(set nil (raise 3))", "raised 3", 0, 7, "0=nil 1=int"},
	{"(try (fst 1) e 2)", "stuck", 0, 4, "0=int"},
	{"(let x (get 1) 2)", "stuck", 0, 4, "0=int"},
}

func TestRunByHand(t *testing.T) {
	for _, c := range runCases {
		l := programOf(t, c.text)
		r := impl.Run(l, 200)
		if o := impl.Outcome(l, 200); o != c.outcome {
			t.Errorf("Outcome is %q, want %q of %s", o, c.outcome, c.text)
		}
		word, text, _ := strings.Cut(c.outcome, " ")
		if impl.CodeWord(r.Kind) != word || r.Text != text || r.Tag != c.tag || r.Steps != c.steps || tellEvents(r.Events) != c.events {
			t.Errorf("Run is\n%s, want %s tag %d steps %d events %s of %s", tellResult(r), c.outcome, c.tag, c.steps, c.events, c.text)
		}
		mustBurnAll(t, l)
	}
}

// TestNumbersByOperation: each operation at the edges of its numbers.
func TestNumbersByOperation(t *testing.T) {
	for _, c := range []struct{ text, want string }{
		{"(add 65535 1)", "0"}, {"(add 65535 2)", "1"}, {"(add 65535 65535)", "65534"}, {"(add 32768 32768)", "0"}, {"(add 32767 32768)", "65535"}, {"(add 0 0)", "0"},
		{"(sub 0 1)", "65535"}, {"(sub 1 2)", "65535"}, {"(sub 0 65535)", "1"}, {"(sub 65535 65535)", "0"}, {"(sub 65535 0)", "65535"}, {"(sub 1 65535)", "2"}, {"(sub 9 4)", "5"},
		{"(less 0 65535)", "1"}, {"(less 65535 0)", "0"}, {"(less 4 4)", "0"}, {"(less 4 5)", "1"}, {"(less 5 4)", "0"}, {"(less 0 0)", "0"},
		{"(same 0 0)", "1"}, {"(same 65535 65535)", "1"}, {"(same 65535 0)", "0"}, {"(same 0 1)", "0"}, {"(same 1 0)", "0"},
	} {
		if o := impl.Outcome(programOf(t, c.text), 5); o != "value "+c.want {
			t.Errorf("Outcome is %q, want %s of %s", o, c.want, c.text)
		}
	}
	numbers := []int{0, 1, 2, 3, 255, 256, 32766, 32767, 32768, 32769, 65533, 65534, 65535}
	for op := impl.OpAdd; op <= impl.OpSame; op++ {
		for _, a := range numbers {
			for _, b := range numbers {
				l := over(impl.NPrim, 0, []impl.Node{{Kind: impl.NInt, N: a}}, []impl.Node{{Kind: impl.NInt, N: b}})
				l[2].N = op
				r := mustRun(t, l, impl.MaxFuel)
				if r.Text != strconv.Itoa(reckonedByRule(op, a, b)) || r.Steps != 5 || tellEvents(r.Events) != "0=int 1=int 2=int" {
					t.Errorf("operation %d of %d and %d is %s", op, a, b, tellResult(r))
				}
			}
		}
	}
}

// holes are programs with a place _ for another one, and how many steps are taken
// ahead of it and, where it throws, behind it up to the end.
var holes = []struct {
	text   string
	ahead  int
	behind int
}{
	// waiting for the first kid
	{"(app _ 1)", 1, 1}, {"(let x _ 1)", 1, 1}, {"(if _ 1 2)", 1, 1}, {"(add _ 1)", 1, 1}, {"(sub _ 1)", 1, 1}, {"(less _ 1)", 1, 1}, {"(same _ 1)", 1, 1},
	{"(pair _ 1)", 1, 1}, {"(fst _)", 1, 1}, {"(snd _)", 1, 1}, {"(cons _ nil)", 1, 1}, {"(match _ 1 h t 2)", 1, 1}, {"(ref _)", 1, 1}, {"(get _)", 1, 1},
	{"(set _ 1)", 1, 1}, {"(raise _)", 1, 1},
	// waiting for the second one
	{"(app (fun x x) _)", 3, 1}, {"(app 1 _)", 3, 1}, {"(add 1 _)", 3, 1}, {"(sub nil _)", 3, 1}, {"(pair 1 _)", 3, 1}, {"(cons 1 _)", 3, 1}, {"(set (ref 1) _)", 5, 1},
	{"(set nil _)", 3, 1},
	// passing on
	{"(app (fun x _) 1)", 5, 1}, {"(let x 1 _)", 3, 1}, {"(rec f x 1 _)", 1, 1}, {"(rec f x _ (app f 1))", 6, 2}, {"(if 1 _ 2)", 3, 1}, {"(if 0 1 _)", 3, 1},
	{"(match nil _ h t 1)", 3, 1}, {"(match (cons 1 nil) 1 h t _)", 7, 1}, {"(try (raise 1) x _)", 5, 1},
	// several
	{"(add 1 (app (fun x (pair (if 1 _ 2) 2)) 1))", 12, 4}, {"(let x (match (ref (get _)) 1 h t 2) 3)", 4, 4},
	{"(rec f x (if x (add 1 (app f (sub x 1))) _) (app f 3))", 6 + 3*15 + 3, 1 + 3*3 + 2},
}

// TestThrownThroughFrames: a number that is thrown takes each frame away, is told
// at the end, and is caught by an NTry over it.
func TestThrownThroughFrames(t *testing.T) {
	for _, h := range holes {
		filled := strings.Replace(h.text, "_", "(raise 4)", 1)
		l := programOf(t, filled)
		r := mustBurnAll(t, l)
		if r.Kind != impl.OcRaised || r.Text != "4" || r.Tag != 0 || r.Steps != h.ahead+3+h.behind {
			t.Errorf("Run is %s, want raised 4 with steps %d of %s", tellResult(r), h.ahead+3+h.behind, filled)
		}
		mustBeCaught(t, l)
		within := "(try " + filled + " e (pair e x))"
		if o := impl.Outcome(programOf(t, "(let x 8 "+within+")"), 200); o != "value (pair 4 8)" {
			t.Errorf("Outcome is %q of %s", o, within)
		}
		again := "(try (try " + filled + " e (raise (add e 1))) e e)"
		if o := impl.Outcome(programOf(t, again), 200); o != "value 5" {
			t.Errorf("Outcome is %q of %s", o, again)
		}
		second := "(try (raise 1) e " + filled + ")"
		if o := impl.Outcome(programOf(t, second), 200); o != "raised 4" {
			t.Errorf("Outcome is %q of %s", o, second)
		}
		inner := strings.Replace(h.text, "_", "(try (raise 4) e (raise 6))", 1)
		if o := impl.Outcome(programOf(t, inner), 200); o != "raised 6" {
			t.Errorf("Outcome is %q of %s", o, inner)
		}
	}
}

// TestThrownThroughTwoHoles: as above where each program with a hole fills that of
// each other one.
func TestThrownThroughTwoHoles(t *testing.T) {
	for _, outer := range holes {
		for _, inner := range holes {
			s := strings.Replace(outer.text, "_", strings.Replace(inner.text, "_", "(raise 4)", 1), 1)
			r := mustRun(t, programOf(t, s), impl.MaxFuel)
			if steps := outer.ahead + inner.ahead + 3 + inner.behind + outer.behind; r.Kind != impl.OcRaised || r.Text != "4" || r.Steps != steps {
				t.Errorf("Run is %s, want raised 4 with steps %d of %s", tellResult(r), steps, s)
			}
			caught := strings.Replace(outer.text, "_", "(try "+strings.Replace(inner.text, "_", "(raise 4)", 1)+" e (raise (add e 5)))", 1)
			if o := mustRun(t, programOf(t, caught), impl.MaxFuel); o.Kind != impl.OcRaised || o.Text != "9" {
				t.Errorf("Run is %s of %s", tellResult(o), caught)
			}
		}
	}
}

// mustBeCaught is P11 of a program that is raised to the end: the number is what an
// NTry over it catches, one step for its look, three for what it does then.
func mustBeCaught(t *testing.T, l []impl.Node) {
	t.Helper()
	raised := impl.Run(l, impl.MaxFuel)
	if raised.Kind != impl.OcRaised {
		t.Fatalf("%s is not raised to the end", textOf(l))
	}
	m := bound(impl.NTry, "e", "", l, nodeOf(impl.NVar, "e"))
	if len(m) > impl.MaxNodes || raised.Steps+4 > impl.MaxFuel {
		return
	}
	want := impl.Result{Kind: impl.OcValue, Text: raised.Text, Steps: raised.Steps + 4, Events: append(slices.Clone(raised.Events),
		impl.Event{Kind: impl.EvValue, Node: len(l)}, impl.Event{Kind: impl.EvValue, Node: len(l) + 1})}
	if got := impl.Run(m, impl.MaxFuel); !sameResult(got, want) {
		t.Fatalf("Run is\n%s, want\n%s of %s", tellResult(got), tellResult(want), textOf(m))
	}
}

// mustPassTry holds a program of any end against itself under an NTry.
func mustPassTry(t *testing.T, l []impl.Node) {
	t.Helper()
	plain := impl.Run(l, impl.MaxFuel-2)
	m := bound(impl.NTry, "e", "", l, nodeOf(impl.NVar, "e"))
	if len(m) > impl.MaxNodes {
		return
	}
	want := plain
	switch plain.Kind {
	case impl.OcRaised:
		mustBeCaught(t, l)
		return
	case impl.OcValue:
		want.Steps += 2
		want.Events = append(slices.Clone(plain.Events), impl.Event{Kind: impl.EvValue, Node: len(l) + 1, Fun: plain.Tag})
	default:
		want.Steps++
	}
	got := impl.Run(m, min(want.Steps, impl.MaxFuel))
	if !sameResult(got, want) {
		t.Fatalf("Run is\n%s, want\n%s of %s", tellResult(got), tellResult(want), textOf(m))
	}
}

// kindsOfValues are programs that come to a value of each kind, and in how many
// steps.
var kindsOfValues = []struct {
	text  string
	kind  int
	steps int
}{
	{"7", impl.VInt, 1}, {"0", impl.VInt, 1}, {"(fun x x)", impl.VFun, 1}, {"(rec f x x f)", impl.VFun, 3}, {"nil", impl.VNil, 1},
	{"(pair 1 nil)", impl.VPair, 5}, {"(cons 1 nil)", impl.VCons, 5}, {"(ref 0)", impl.VRef, 3},
}

// wanting are programs with a place that wants values of some kinds, the steps
// ahead of it and behind it up to where that is found, and what is done then that
// tells an event.
var wanting = []struct {
	text   string
	kinds  []int
	ahead  int
	behind int
	more   int
}{
	{"(if _ 1 2)", []int{impl.VInt}, 1, 1, 0},
	{"(raise _)", []int{impl.VInt}, 1, 1, 0},
	{"(add _ 1)", []int{impl.VInt}, 1, 3, 1}, {"(add 1 _)", []int{impl.VInt}, 3, 1, 1},
	{"(sub _ 1)", []int{impl.VInt}, 1, 3, 1}, {"(sub 1 _)", []int{impl.VInt}, 3, 1, 1},
	{"(less _ 1)", []int{impl.VInt}, 1, 3, 1}, {"(less 1 _)", []int{impl.VInt}, 3, 1, 1},
	{"(same _ 1)", []int{impl.VInt}, 1, 3, 1}, {"(same 1 _)", []int{impl.VInt}, 3, 1, 1},
	{"(match _ 1 h t 2)", []int{impl.VNil, impl.VCons}, 1, 1, 0},
	{"(cons 1 _)", []int{impl.VNil, impl.VCons}, 3, 1, 1},
	{"(fst _)", []int{impl.VPair}, 1, 1, 0}, {"(snd _)", []int{impl.VPair}, 1, 1, 0},
	{"(get _)", []int{impl.VRef}, 1, 1, 0},
	{"(set _ 1)", []int{impl.VRef}, 1, 3, 1},
	{"(app _ 1)", []int{impl.VFun}, 1, 3, 1},
}

// anyKind are programs with a place that takes each kind of value.
var anyKind = []string{"_", "(fst (pair _ 1))", "(snd (pair 1 _))", "(cons _ nil)", "(let x _ x)", "(let x 1 _)", "(get (ref _))", "(set (ref 1) _)",
	"(app (fun x x) _)", "(app (fun x _) 1)", "(app (rec f x x f) _)", "(rec f x 1 _)", "(rec f x _ (app f 1))", "(if 1 _ 2)", "(if 0 1 _)",
	"(match nil _ h t 1)", "(match (cons 1 nil) 1 h t _)", "(match (cons _ nil) 1 h t h)", "(try _ e 1)", "(try (raise 1) e _)", "(fun x _)"}

// TestStuck: each kind of value where it is not wanted; the step counts, and tells
// neither a value nor a call.
func TestStuck(t *testing.T) {
	for _, w := range wanting {
		for _, v := range kindsOfValues {
			s := strings.Replace(w.text, "_", v.text, 1)
			l := programOf(t, s)
			r := mustBurnAll(t, l)
			if slices.Contains(w.kinds, v.kind) {
				if r.Kind == impl.OcStuck {
					t.Errorf("Run is %s of %s", tellResult(r), s)
				}
				continue
			}
			inside := impl.Run(programOf(t, v.text), impl.MaxFuel)
			if r.Kind != impl.OcStuck || r.Text != "" || r.Tag != 0 || r.Steps != w.ahead+v.steps+w.behind || len(r.Events) != len(inside.Events)+w.more {
				t.Errorf("Run is %s, want stuck with steps %d of %s", tellResult(r), w.ahead+v.steps+w.behind, s)
			}
			for _, e := range r.Events {
				if e.Kind != impl.EvValue || e.Node == len(l)-1 {
					t.Errorf("Run is %s of %s", tellResult(r), s)
				}
			}
			mustPassTry(t, l)
		}
	}
	for _, s := range anyKind {
		for _, v := range kindsOfValues {
			if r := mustBurnAll(t, programOf(t, strings.Replace(s, "_", v.text, 1))); r.Kind != impl.OcValue {
				t.Errorf("Run is %s with %s in %s", tellResult(r), v.text, s)
			}
		}
	}
}

// TestStuckAtBothKids: where both kids are wrong it is stuck all the same, and what
// the second kid does is done ahead of it.
func TestStuckAtBothKids(t *testing.T) {
	for _, first := range kindsOfValues {
		for _, second := range kindsOfValues {
			for _, key := range []string{"add", "sub", "less", "same", "cons", "set", "app", "pair"} {
				s := "(" + key + " " + first.text + " " + second.text + ")"
				stuck := map[string]bool{
					"add": first.kind != impl.VInt || second.kind != impl.VInt,
					"set": first.kind != impl.VRef, "app": first.kind != impl.VFun, "cons": second.kind != impl.VNil && second.kind != impl.VCons,
				}
				stuck["sub"], stuck["less"], stuck["same"] = stuck["add"], stuck["add"], stuck["add"]
				r := mustRun(t, programOf(t, s), impl.MaxFuel)
				if stuck[key] != (r.Kind == impl.OcStuck) || stuck[key] && r.Steps != first.steps+second.steps+3 {
					t.Errorf("Run is %s of %s", tellResult(r), s)
				}
			}
		}
		if first.kind == impl.VFun || first.kind == impl.VInt {
			continue
		}
		for _, key := range []string{"app", "add", "sub", "less", "same", "set"} {
			for rest, want := range map[string]string{"(raise 3)": "raised 3", "(rec f x (app f x) (app f 1))": "fuel"} {
				if s := "(" + key + " " + first.text + " " + rest + ")"; impl.Outcome(programOf(t, s), impl.MaxFuel) != want {
					t.Errorf("Outcome is %q, want %q of %s", impl.Outcome(programOf(t, s), impl.MaxFuel), want, s)
				}
			}
		}
	}
}

// deepTexts are programs with the text of what they come to.
var deepTexts = []struct{ text, want string }{
	{"(pair 1 (pair 2 (pair 3 (pair 4 5))))", "(pair 1 (pair 2 (pair 3 (pair 4 5))))"},
	{"(pair 1 (pair 2 (pair 3 (pair 4 (pair 5 6)))))", "(pair 1 (pair 2 (pair 3 (pair 4 _))))"},
	{"(pair (pair (pair (pair (pair 1 2) 3) 4) 5) 6)", "(pair (pair (pair (pair _ 3) 4) 5) 6)"},
	{"(cons 1 (cons 2 (cons 3 (cons 4 nil))))", "(cons 1 (cons 2 (cons 3 (cons 4 nil))))"},
	{"(cons 1 (cons 2 (cons 3 (cons 4 (cons 5 nil)))))", "(cons 1 (cons 2 (cons 3 (cons 4 _))))"},
	{"(rec f x (if x (cons x (app f (sub x 1))) nil) (app f 40))", "(cons 40 (cons 39 (cons 38 (cons 37 _))))"},
	{"(rec f x (if x (let y (app f (sub x 1)) (pair y y)) 0) (app f 9))", strings.ReplaceAll("(pair b b)", "b",
		strings.ReplaceAll("(pair b b)", "b", strings.ReplaceAll("(pair b b)", "b", "(pair _ _)")))},
	{"(cons (cons 1 (cons 2 nil)) (cons nil nil))", "(cons (cons 1 (cons 2 nil)) (cons nil nil))"},
	{"(pair (pair (pair (pair (fun x x) (ref 1)) nil) 65535) (cons (ref 1) nil))", "(pair (pair (pair (pair fun ref) nil) 65535) (cons ref nil))"},
	{"(pair 0 (pair 0 (pair 0 (pair (cons 1 nil) (pair 1 1)))))", "(pair 0 (pair 0 (pair 0 (pair _ _))))"},
	{"(fun x (pair 1 2))", "fun"},
	{"(rec f x x (pair f f))", "(pair fun fun)"},
	{"(ref (pair 1 2))", "ref"},
	{"(cons (ref (ref 1)) nil)", "(cons ref nil)"},
	{"(let r (ref nil) (let u (set r (cons r nil)) (get r)))", "(cons ref nil)"},
}

func TestTextsSoDeep(t *testing.T) {
	for _, c := range deepTexts {
		l := programOf(t, c.text)
		r := mustRun(t, l, impl.MaxFuel)
		if r.Kind != impl.OcValue || r.Text != c.want || impl.Outcome(l, impl.MaxFuel) != "value "+c.want {
			t.Errorf("Run is %s, want %s of %s", tellResult(r), c.want, c.text)
		}
	}
}

// refCases are programs in which refs are told what was put into them.
var refCases = []struct{ text, want string }{
	{"(let r (ref 1) (let u (set r 2) (get r)))", "value 2"},
	{"(let r (ref 1) (let u (set r 2) (let u (set r 3) (get r))))", "value 3"},
	{"(let r (ref 1) (let x (get r) (let u (set r 2) (pair x (get r)))))", "value (pair 1 2)"},
	{"(let r (ref 1) (let s (ref 1) (let u (set s 2) (pair (get r) (get s)))))", "value (pair 1 2)"},
	{"(let r (ref 1) (let s r (let u (set s 2) (pair (get r) (get s)))))", "value (pair 2 2)"},
	{"(let s (ref 1) (let r (ref s) (let u (set (get r) 5) (pair (get s) (get (get r))))))", "value (pair 5 5)"},
	{"(let p (pair (ref 1) (ref 2)) (let u (set (fst p) 7) (pair (get (fst p)) (get (snd p)))))", "value (pair 7 2)"},
	{"(let c (ref 0) (let f (fun x (set c (add (get c) x))) (let u (app f 3) (let u (app f 4) (get c)))))", "value 7"},
	{"(let f (fun x (ref x)) (let a (app f 1) (let b (app f 1) (let u (set a 9) (pair (get a) (get b))))))", "value (pair 9 1)"},
	{"(let r (ref (pair 1 nil)) (fst (get r)))", "value 1"},
	{"(let r (ref (fun x (add x 1))) (app (get r) 4))", "value 5"},
	{"(let r (ref 0) (let u (set r (fun x x)) (app (get r) 4)))", "value 4"},
	{"(let r (ref 0) (let u (set r r) (get r)))", "value ref"},
	{"(let r (ref 0) (let u (set r r) (let u (set (get (get r)) 8) (get r))))", "value 8"},
	{"(let r (ref nil) (let u (set r (cons r nil)) (match (get r) 1 h t (match (get h) 2 g t (pair g t)))))", "value (pair ref nil)"},
	{"(let r (ref 0) (let u (set r (pair 1 r)) (fst (get (snd (get (snd (get r))))))))", "value 1"},
	{"(let r (ref (fun n n)) (let u (set r (fun n (if n (add n (app (get r) (sub n 1))) 0))) (app (get r) 4)))", "value 10"},
	{"(let r (ref 0) (let u (set r (fun n (app (get r) n))) (app (get r) 1)))", "fuel"},
	{"(let r (ref 1) (try (let u (set r 2) (raise 3)) e (pair e (get r))))", "value (pair 3 2)"},
	{"(let r (ref 1) (pair (set r (raise 3)) 1))", "raised 3"},
	{"(let r (ref 1) (try (set r (raise 3)) e (get r)))", "value 1"},
	{"(let r (ref 1) (set r (add (get r) (let u (set r 5) (get r)))))", "value 0"},
	{"(let r (ref 1) (let u (set r (add (get r) (let u (set r 5) (get r)))) (get r)))", "value 6"},
	{"(let r (ref 1) (rec f x (if x (let u (set r (add (get r) (get r))) (app f (sub x 1))) (get r)) (app f 10)))", "value 1024"},
	{"(get (let r (ref 4) r))", "value 4"},
	{"(let r (ref 4) (let f (fun x (get r)) (let r (ref 5) (let u (set r 6) (app f 0)))))", "value 4"},
}

// TestRefs: of P11, a ref tells what was put into it, whatever that is, by each of
// its names.
func TestRefs(t *testing.T) {
	for _, c := range refCases {
		l := programOf(t, c.text)
		mustRun(t, l, impl.MaxFuel)
		if o := impl.Outcome(l, impl.MaxFuel); o != c.want {
			t.Errorf("Outcome is %q, want %q of %s", o, c.want, c.text)
		}
	}
	var values []string
	for _, v := range kindsOfValues {
		values = append(values, v.text)
	}
	for _, c := range deepTexts {
		values = append(values, c.text)
	}
	for i, v := range values {
		want := impl.Outcome(programOf(t, v), impl.MaxFuel)
		other := values[(i+5)%len(values)]
		for _, s := range []string{
			"(get (ref " + v + "))",
			"(let r (ref " + v + ") (get r))",
			"(let r (ref " + other + ") (let u (set r " + v + ") (get r)))",
			"(let r (ref " + v + ") (let s (ref " + other + ") (get r)))",
			"(let r (ref 1) (let s (ref 2) (let u (set r " + v + ") (let u (set s " + other + ") (get r)))))",
			"(let r (ref 1) (let s r (let u (set s " + other + ") (let u (set r " + v + ") (get s)))))",
		} {
			if o := impl.Outcome(programOf(t, s), impl.MaxFuel); o != want {
				t.Errorf("Outcome is %q, want %q of %s", o, want, s)
			}
		}
	}
}

// scopeRuns are programs whose outcome hangs on which cell a name is looked up in.
var scopeRuns = []struct{ text, want string }{
	{"(let x 1 (let f (fun y x) (let x 2 (app f 0))))", "value 1"},
	{"(let f (fun x (fun y (pair x y))) (let g (app f 1) (let h (app f 2) (pair (app g 3) (app h 4)))))", "value (pair (pair 1 3) (pair 2 4))"},
	{"(app (fun x (app (fun x x) (add x 1))) 1)", "value 2"},
	{"(app (fun x (add (app (fun x x) 5) x)) 1)", "value 6"},
	{"(let x 1 (rec f x x (pair (app f 2) x)))", "value (pair 2 1)"},
	{"(let f 1 (pair (rec f x (if x (app f 0) 9) (app f 1)) f))", "value (pair 9 1)"},
	{"(rec f x (fun y (pair x y)) (let a (app f 1) (let b (app f 2) (pair (app a 3) (app b 4)))))", "value (pair (pair 1 3) (pair 2 4))"},
	{"(rec f n (if n (let g (app f (sub n 1)) (fun x (add n (app g x)))) (fun x x)) (app (app f 4) 100))", "value 110"},
	{"(match (cons 1 (cons 2 nil)) 0 h t (match t 0 h t (pair h t)))", "value (pair 2 nil)"},
	{"(match (cons 1 (cons 2 nil)) 0 h t (pair (match t 0 g t g) (pair h t)))", "value (pair 2 (pair 1 (cons 2 nil)))"},
	{"(match (cons (fun y y) nil) 0 x x x)", "value nil"},
	{"(let h 7 (match (cons 1 nil) 0 a b (fst (pair h a))))", "value 7"},
	{"(try (raise 1) x (try (raise 2) y (pair x y)))", "value (pair 1 2)"},
	{"(try (raise 1) x (pair (try (raise 2) x x) x))", "value (pair 2 1)"},
	{"(let f (try (raise 3) e (fun x (add x e))) (let e 50 (app f 1)))", "value 4"},
	{"(let x 5 (let f (fun x (fun y x)) (let g (app f 6) (let x 7 (app g x)))))", "value 6"},
	{"(app (app (app (fun x (fun y (fun z (pair x (pair y z))))) 1) 2) 3)", "value (pair 1 (pair 2 3))"},
	{"(app (app (rec f x (fun f (pair x f)) f) 1) 2)", "value (pair 1 2)"},
	{"(app (rec f f f (fun x (app f x))) 3)", "value 3"},
	{"(rec f x x (rec f x (app g x) 1))", "bad"},
	{"(let g (fun x (add x 1)) (rec f x (app g x) (let g 3 (app f g))))", "value 4"},
	{"(rec m l (match l nil h t (cons (add h 1) (app m t))) (app m (cons 1 (cons 2 (cons 3 nil)))))", "value (cons 2 (cons 3 (cons 4 nil)))"},
	{"(rec a p (match (fst p) (snd p) h t (cons h (app a (pair t (snd p))))) (app a (pair (cons 1 (cons 2 nil)) (cons 3 nil))))", "value (cons 1 (cons 2 (cons 3 nil)))"},
}

func TestNamesOfRuns(t *testing.T) {
	for _, c := range scopeRuns {
		l := programOf(t, c.text)
		if c.want != "bad" {
			mustBurnAll(t, l)
		}
		if o := impl.Outcome(l, impl.MaxFuel); o != c.want {
			t.Errorf("Outcome is %q, want %q of %s", o, c.want, c.text)
		}
	}
}

// endless never end, however much fuel there is.
var endless = []string{
	"(rec f x (app f x) (app f 1))",
	"(app (fun x (app x x)) (fun x (app x x)))",
	"(rec f x (add 1 (app f x)) (app f 1))",
	"(rec f x (let y (app f x) y) (app f nil))",
	"(rec f x (try (app f x) e 1) (app f 1))",
	"(rec f x (try (raise 1) e (app f e)) (app f 1))",
	"(rec f x (pair x (app f (add x 1))) (app f 1))",
	"(rec f x (app f (ref (cons x nil))) (app f 1))",
	"(let r (ref (fun x x)) (let u (set r (fun x (app (get r) x))) (app (get r) 1)))",
}

// TestRunsWithoutEnd: fuel is what ends them, and with more of it they have done no
// less.
func TestRunsWithoutEnd(t *testing.T) {
	for _, s := range endless {
		l := programOf(t, s)
		whole := mustRun(t, l, impl.MaxFuel)
		if whole.Kind != impl.OcFuel || whole.Text != "" || whole.Tag != 0 || whole.Steps != 3000 || impl.Outcome(l, impl.MaxFuel) != "fuel" {
			t.Errorf("Run is %d, %q, %d, %d of %s", whole.Kind, whole.Text, whole.Tag, whole.Steps, s)
		}
		before := 0
		for fuel := 0; fuel <= impl.MaxFuel; fuel += 1 + fuel/60*9 {
			r := mustRun(t, l, fuel)
			if r.Kind != impl.OcFuel || r.Steps != fuel || len(r.Events) < before || !slices.Equal(r.Events, whole.Events[:len(r.Events)]) {
				t.Fatalf("with fuel %d Run is %s of %s", fuel, tellResult(r), s)
			}
			before = len(r.Events)
		}
		for _, fuel := range strayFuels {
			mustNotRun(t, "no such fuel", l, fuel)
		}
	}
}

// TestRunsAtMaxFuel: what ends just there, or one step behind it. From 0 on with
// countdown n it takes 13 steps and 14 more for each; each NRef 2 more.
func TestRunsAtMaxFuel(t *testing.T) {
	loop := "(rec f x (if x (app f (sub x 1)) 0) (app f 213))"
	for _, c := range []struct {
		text  string
		steps int
		end   string
	}{
		{loop, 2995, "value 0"},
		{refs(1, loop), 2997, "value ref"},
		{refs(2, loop), 2999, "value ref"},
		{refs(3, loop), 3001, "fuel"},
		{refs(4, loop), 3003, "fuel"},
		{"(raise " + refs(1, loop) + ")", 2999, "stuck"},
		{"(raise (snd (pair 1 " + loop + ")))", 3003, "fuel"},
		{"(raise (get " + refs(1, loop) + "))", 3001, "fuel"},
		{"(raise " + loop + ")", 2997, "raised 0"},
		{"(raise (raise " + loop + "))", 2999, "raised 0"},
		{"(raise (raise (raise " + loop + ")))", 3001, "fuel"},
		{"(pair (fst " + loop + ") 1)", 2998, "stuck"},
		{"(pair (fst " + refs(1, loop) + ") 1)", 3000, "stuck"},
		{"(pair (pair (fst " + refs(1, loop) + ") 1) 1)", 3001, "fuel"},
		{"(pair (fst " + refs(2, loop) + ") 1)", 3002, "fuel"},
	} {
		l := programOf(t, c.text)
		if o := impl.Outcome(l, impl.MaxFuel); o != c.end {
			t.Errorf("Outcome is %q, want %q of %s", o, c.end, c.text)
		}
		whole := mustRun(t, l, impl.MaxFuel)
		if whole.Steps != min(c.steps, 3000) {
			t.Errorf("the steps are %d, want %d of %s", whole.Steps, c.steps, c.text)
		}
		for _, fuel := range []int{0, 1, c.steps - 2, c.steps - 1, c.steps, c.steps + 1, 2998, 2999, 3000} {
			if fuel <= impl.MaxFuel && whole.Kind != impl.OcFuel {
				mustBurn(t, l, fuel, whole)
			} else if fuel <= impl.MaxFuel {
				mustRun(t, l, fuel)
			}
		}
		for _, fuel := range strayFuels {
			mustNotRun(t, "no such fuel", l, fuel)
		}
	}
}

// TestRunsOfFuel: all fuels of some programs, with a value, raised and stuck.
func TestRunsOfFuel(t *testing.T) {
	for _, s := range []string{
		"(rec f x (if x (add x (app f (sub x 1))) 0) (app f 20))",
		"(rec f x (if x (add x (app f (sub x 1))) (raise 7)) (app f 20))",
		"(rec f x (if x (add x (app f (sub x 1))) nil) (app f 20))",
		"(rec f x (if x (try (app f (sub x 1)) e (raise (add e 1))) (raise 0)) (app f 15))",
		"(rec m l (match l nil h t (cons (add h 1) (app m t))) (app m (cons 1 (cons 2 (cons 3 nil)))))",
	} {
		mustBurnAll(t, programOf(t, s))
	}
	for _, v := range kindsOfValues {
		l := programOf(t, v.text)
		if r := mustBurnAll(t, l); r.Kind != impl.OcValue || r.Tag != v.kind || r.Steps != v.steps {
			t.Errorf("Run is %s of %s", tellResult(r), v.text)
		}
		if r := impl.Run(l, 0); !sameResult(r, impl.Result{Kind: impl.OcFuel}) {
			t.Errorf("without fuel Run is %s of %s", tellResult(r), v.text)
		}
		for _, fuel := range strayFuels {
			mustNotRun(t, "no such fuel", l, fuel)
		}
	}
}

// closedGrower makes programs that are closed, whatever their types are. What a
// place wants stands there more often than not, so that they are done for a while.
type closedGrower struct {
	next func(n int) int
}

// makers are kinds of nodes that make a value of each kind.
var makers = [][]int{{impl.NInt, impl.NPrim, impl.NPrim, impl.NSet}, {impl.NFun, impl.NFun, impl.NRec}, {impl.NNil, impl.NCons}, {impl.NPair}, {impl.NCons}, {impl.NRef}}

// anyValue stands for no kind of value.
const anyValue = -1

// wantedBy tells which kind of value a node wants of one of its kids.
func wantedBy(kind int, kid int) int {
	switch {
	case kind == impl.NPrim, kind == impl.NRaise, kind == impl.NIf && kid == 0:
		return impl.VInt
	case kind == impl.NApp && kid == 0, kind == impl.NRec && kid == 1:
		return impl.VFun
	case kind == impl.NCons && kid == 1, kind == impl.NMatch && kid == 0:
		return impl.VCons
	case kind == impl.NFst, kind == impl.NSnd:
		return impl.VPair
	case kind == impl.NGet, kind == impl.NSet && kid == 0:
		return impl.VRef
	}
	return anyValue
}

func (g closedGrower) leaf(want int, here []string) []impl.Node {
	some := []impl.Node{{Kind: impl.NInt, N: []int{0, 1, 2, 65535}[g.next(4)]}}
	switch k := g.next(8); {
	case k < 3 && len(here) > 0:
		return nodeOf(impl.NVar, here[g.next(len(here))])
	case want == impl.VFun:
		return bound(impl.NFun, "a", "", nodeOf(impl.NVar, "a"))
	case want == impl.VPair:
		return over(impl.NPair, 0, some, some)
	case want == impl.VRef:
		return over(impl.NRef, 0, some)
	case want == impl.VCons, k == 7:
		return nodeOf(impl.NNil, "")
	}
	return some
}

func (g closedGrower) grow(room int, want int, here []string) []impl.Node {
	s := shapes[g.next(len(shapes))]
	if want != anyValue && g.next(10) < 6 {
		s = shapes[makers[want][g.next(len(makers[want]))]-1]
	}
	if room <= 0 || s.kids == 0 {
		return g.leaf(want, here)
	}
	name, other := []string{"a", "b", "c"}[g.next(3)], []string{"a", "b", "d"}[g.next(3)]
	binds := map[int][][]string{
		impl.NFun: {{name}}, impl.NLet: {nil, {name}}, impl.NTry: {nil, {name}}, impl.NRec: {{name, other}, {name}}, impl.NMatch: {nil, nil, {name, other}},
	}[s.kind]
	var kids [][]impl.Node
	for k := range s.kids {
		seen := slices.Clone(here)
		if k < len(binds) {
			seen = append(seen, binds[k]...)
		}
		kids = append(kids, g.grow((room-1)/s.kids-g.next(2), wantedBy(s.kind, k), seen))
	}
	l := over(s.kind, s.names, kids...)
	last := &l[len(l)-1]
	if s.names >= 1 {
		last.Name = name
	}
	if s.names >= 2 {
		last.Other = other
	}
	if s.kind == impl.NPrim {
		last.N = g.next(4)
	}
	return l
}

// mustRunAsEver holds all that P10 and P11 ask of a program, at some fuels.
func mustRunAsEver(t *testing.T, l []impl.Node, next func(n int) int) impl.Result {
	t.Helper()
	whole := mustRun(t, l, impl.MaxFuel)
	mustPassTry(t, l)
	for _, fuel := range []int{0, 1, next(10), next(100), next(impl.MaxFuel), next(whole.Steps + 1), whole.Steps - 1, whole.Steps, whole.Steps + 1} {
		if fuel <= impl.MaxFuel && whole.Kind != impl.OcFuel {
			mustBurn(t, l, fuel, whole)
		} else if fuel <= impl.MaxFuel {
			mustRun(t, l, fuel)
		}
	}
	return whole
}

// TestRunsOfAllSmallPrograms: programs of up to five nodes, of all shapes, with two
// names or one for all, and with some numbers and operations.
func TestRunsOfAllSmallPrograms(t *testing.T) {
	next := dice(11)
	ends := map[int]int{}
	for size, programs := range programsUpTo(5) {
		for i, l := range programs {
			for _, m := range [][]impl.Node{l, namedBy(l, 1, 0), namedBy(dressed(l, i), 1, 0)} {
				if freeByRule(m) {
					mustNotRun(t, "a free name", m, impl.MaxFuel)
					mustNotRun(t, "a free name", m, 0)
					continue
				}
				if size < 5 {
					ends[mustRunAsEver(t, m, next).Kind]++
				} else {
					ends[mustRun(t, m, 100).Kind]++
				}
			}
		}
	}
	if ends[impl.OcValue] < 1000 || ends[impl.OcRaised] < 1000 || ends[impl.OcStuck] < 1000 {
		t.Errorf("the ends are %v", ends)
	}
}

// again is a function that does a program, and calls itself in the place of one of
// its nodes; it is called.
func again(l []impl.Node, i int) []impl.Node {
	f, x := nodeOf(impl.NVar, "f"), nodeOf(impl.NVar, "x")
	return bound(impl.NRec, "f", "x", withPart(l, i, over(impl.NApp, 0, f, x)), over(impl.NApp, 0, f, []impl.Node{{Kind: impl.NInt, N: 1}}))
}

// TestRunsOfClosedPrograms: programs of all forms within one another, most of which
// have no type, and functions that do them again and again.
func TestRunsOfClosedPrograms(t *testing.T) {
	g := closedGrower{dice(12)}
	ends, long := map[int]int{}, 0
	for range 1500 {
		l := g.grow(4+g.next(60), anyValue, nil)
		r := mustRunAsEver(t, l, g.next)
		ends[r.Kind]++
		if r.Steps > 30 {
			long++
		}
		if m := again(l, g.next(len(l))); len(m) <= impl.MaxNodes {
			ends[mustRunAsEver(t, m, g.next).Kind]++
		}
	}
	if ends[impl.OcValue] < 500 || ends[impl.OcRaised] < 100 || ends[impl.OcStuck] < 500 || ends[impl.OcFuel] < 100 || long < 50 {
		t.Errorf("the ends are %v, %d of them are long", ends, long)
	}
}

// partsOfText parts what stands in the brackets of a text.
func partsOfText(s string) []string {
	var parts []string
	deep, from := 0, 1
	for i := 1; i < len(s); i++ {
		switch {
		case s[i] == '(':
			deep++
		case s[i] == ')' && deep > 0:
			deep--
		case deep == 0 && (s[i] == ' ' || s[i] == ')'):
			parts = append(parts, s[from:i])
			from = i + 1
		}
	}
	return parts
}

// suits asks whether a value with this text may have the type with that one. There
// is no value that has each type.
func suits(of string, value string) bool {
	if of == "int" {
		n, err := strconv.Atoi(value)
		return err == nil && n >= 0 && n <= 65535
	}
	if of[0] != '(' {
		return false
	}
	parts, held := partsOfText(of), []string{""}
	if value[0] == '(' {
		held = partsOfText(value)
	}
	switch {
	case parts[0] == "list":
		return value == "nil" || value == "_" || held[0] == "cons" && suits(parts[1], held[1]) && suits(of, held[2])
	case parts[0] == "ref":
		return value == "ref"
	case parts[1] == "->":
		return value == "fun"
	}
	return value == "_" || held[0] == "pair" && suits(parts[0], held[1]) && suits(parts[2], held[2])
}

// kindOfType is the kind of a value whose type has that text.
func kindOfType(of string) int {
	if of == "int" {
		return impl.VInt
	}
	switch parts := partsOfText(of); {
	case parts[0] == "ref":
		return impl.VRef
	case parts[0] == "list":
		return impl.VCons
	case parts[1] == "->":
		return impl.VFun
	}
	return impl.VPair
}

func TestWhatSuits(t *testing.T) {
	for _, c := range []struct {
		of, value string
		want      bool
	}{
		{"int", "7", true}, {"int", "65536", false}, {"int", "nil", false}, {"int", "fun", false}, {"'0", "7", false}, {"(list '0)", "nil", true},
		{"(list '0)", "(cons 1 nil)", false}, {"(list int)", "(cons 1 nil)", true}, {"(list int)", "(cons 1 (cons fun nil))", false},
		{"(list int)", "(cons 1 (cons 2 _))", true}, {"(list int)", "(pair 1 nil)", false}, {"(ref int)", "ref", true}, {"(ref int)", "7", false},
		{"(int -> int)", "fun", true}, {"(int -> (list int))", "nil", false}, {"(int * int)", "(pair 1 2)", true}, {"(int * int)", "(cons 1 2)", false},
		{"((int * int) * (list (ref '0)))", "(pair (pair 1 2) (cons ref nil))", true}, {"((int * int) * (list (ref '0)))", "(pair (pair 1 nil) nil)", false},
		{"(((int -> int) * int) -> (int * int))", "fun", true}, {"(((int -> int) * int) * (int -> int))", "(pair (pair fun 1) fun)", true},
	} {
		if suits(c.of, c.value) != c.want {
			t.Errorf("%s suits %s is %v", c.of, c.value, !c.want)
		}
	}
}

// mustSuit is P8 of a program that has a type.
func mustSuit(t *testing.T, l []impl.Node, r impl.Result) {
	t.Helper()
	of, code := impl.Infer(l)
	if code != impl.TyOk {
		t.Fatalf("the code is %d of %s", code, textOf(l))
	}
	switch r.Kind {
	case impl.OcValue:
		if !suits(of, r.Text) || r.Tag != kindOfType(of) && (r.Tag != impl.VNil || kindOfType(of) != impl.VCons) {
			t.Fatalf("Run is %s, but %s is the type of %s", tellResult(r), of, textOf(l))
		}
	case impl.OcRaised, impl.OcFuel:
	default:
		t.Fatalf("Run is %s, and %s is the type of %s", tellResult(r), of, textOf(l))
	}
}

// TestRunsOfTypedPrograms: P8, programs that have a type are never stuck, and come
// to what it says.
func TestRunsOfTypedPrograms(t *testing.T) {
	next := dice(13)
	ends := map[int]int{}
	for _, c := range inferCases {
		l := programOf(t, c.text)
		r := mustRunAsEver(t, l, next)
		if c.want != "" {
			mustSuit(t, l, r)
		}
	}
	for _, s := range endless {
		if l := programOf(t, s); impl.Typed(l) {
			mustSuit(t, l, mustRun(t, l, impl.MaxFuel))
		}
	}
	g := grower{next}
	last, none := nodeOf(impl.NNil, ""), 0
	for range 2500 {
		l := g.grow(g.kind(3), 4+g.next(24), nil)
		r := mustRun(t, l, impl.MaxFuel)
		mustSuit(t, l, r)
		ends[r.Kind]++
		at := g.next(len(l))
		thrown := over(impl.NRaise, 0, []impl.Node{{Kind: impl.NInt, N: g.next(9)}})
		for _, m := range [][]impl.Node{withPart(l, at, thrown), withPart(l, at, partByRule(last, g.next(len(last)))), again(l, at)} {
			if freeByRule(m) || len(m) > impl.MaxNodes {
				continue
			}
			r = mustRun(t, m, impl.MaxFuel)
			if impl.Typed(m) {
				mustSuit(t, m, r)
				ends[r.Kind]++
			} else if none++; r.Kind == impl.OcStuck {
				ends[impl.OcStuck]++
			}
		}
		last = l
	}
	if ends[impl.OcValue] < 2500 || ends[impl.OcRaised] < 200 || ends[impl.OcStuck] < 200 || ends[impl.OcFuel] < 100 || none < 500 {
		t.Errorf("the ends are %v, and %d programs have no type", ends, none)
	}
}

// TestTypedClosedPrograms: of programs that are closed, those that have a type.
func TestTypedClosedPrograms(t *testing.T) {
	g := closedGrower{dice(14)}
	ends := map[int]int{}
	for range 40000 {
		if l := g.grow(3+g.next(14), anyValue, nil); impl.Typed(l) {
			r := impl.Run(l, impl.MaxFuel)
			mustSuit(t, l, r)
			ends[r.Kind]++
		}
	}
	for size, programs := range programsUpTo(5) {
		for _, l := range programs {
			if m := namedBy(l, 1, 0); (size < 5 || len(m)%2 == 1) && impl.Typed(m) {
				mustSuit(t, m, impl.Run(m, 100))
			}
		}
	}
	if ends[impl.OcValue] < 3000 || ends[impl.OcRaised] < 500 {
		t.Errorf("the ends are %v", ends)
	}
}

// mustRunRenamed is P6: one name renamed, or all, changes nothing of what is done.
// It tells how many could be.
func mustRunRenamed(t *testing.T, l []impl.Node) int {
	t.Helper()
	want, renamed := impl.Run(l, impl.MaxFuel), 0
	if got := impl.Run(impl.Canon(l), impl.MaxFuel); !sameResult(got, want) {
		t.Fatalf("Run of Canon is\n%s, want\n%s of %s", tellResult(got), tellResult(want), textOf(l))
	}
	for _, b := range sitesByRule(l) {
		for _, name := range []string{"w", "a", "x"} {
			m, ok := impl.RenameOne(l, b, name)
			if !ok {
				continue
			}
			renamed++
			if got := impl.Run(m, impl.MaxFuel); !sameResult(got, want) {
				t.Fatalf("Run of %s is\n%s, want\n%s of %s", textOf(m), tellResult(got), tellResult(want), textOf(l))
			}
		}
	}
	return renamed
}

func TestRunsOfOtherNames(t *testing.T) {
	renamed := 0
	for _, s := range caseTexts() {
		renamed += mustRunRenamed(t, programOf(t, s))
	}
	g, typed := closedGrower{dice(15)}, grower{dice(16)}
	for range 400 {
		renamed += mustRunRenamed(t, g.grow(4+g.next(30), anyValue, nil))
		renamed += mustRunRenamed(t, typed.grow(typed.kind(3), 4+typed.next(20), nil))
	}
	if renamed < 4000 {
		t.Errorf("only %d names could be renamed", renamed)
	}
}

// caseTexts are the programs that are written out above and are right.
func caseTexts() []string {
	var out []string
	for _, c := range runCases {
		out = append(out, c.text)
	}
	for _, h := range holes {
		out = append(out, strings.Replace(h.text, "_", "(raise 4)", 1))
	}
	for _, w := range wanting {
		out = append(out, strings.Replace(w.text, "_", "nil", 1))
	}
	for _, c := range deepTexts {
		out = append(out, c.text)
	}
	for _, c := range refCases {
		out = append(out, c.text)
	}
	for _, c := range scopeRuns {
		out = append(out, c.text)
	}
	return append(out, endless...)
}

// TestRunsUnderTry: P11 of each program that is written out.
func TestRunsUnderTry(t *testing.T) {
	for _, s := range caseTexts() {
		if l := programOf(t, s); !freeByRule(l) {
			mustPassTry(t, l)
		}
	}
}

// TestRunsOfGreatPrograms: as many nodes as may be are run, one more are not.
func TestRunsOfGreatPrograms(t *testing.T) {
	next := dice(17)
	for _, nodes := range []int{20, impl.MaxNodes - 2, impl.MaxNodes - 1, impl.MaxNodes} {
		for _, l := range append(append(deepBinders(nodes), greatPrograms(nodes)...), longPrograms(nodes)...) {
			if freeByRule(l) {
				mustNotRun(t, "a free name", l, impl.MaxFuel)
				continue
			}
			mustRunAsEver(t, l, next)
			if impl.Typed(l) {
				mustSuit(t, l, impl.Run(l, impl.MaxFuel))
			}
		}
	}
	for _, nodes := range []int{impl.MaxNodes + 1, impl.MaxNodes + 2, 400} {
		for _, l := range append(greatPrograms(nodes), longPrograms(nodes)...) {
			mustNotRun(t, "too many nodes", l, impl.MaxFuel)
			mustNotRun(t, "too many nodes", l, 0)
		}
	}
	binders := []impl.Node{{Kind: impl.NInt, N: 9}}
	for len(binders)+2 <= impl.MaxNodes {
		binders = bound(impl.NLet, "x", "", []impl.Node{{Kind: impl.NInt, N: len(binders)}}, binders)
	}
	if r := mustRun(t, binders, impl.MaxFuel); r.Kind != impl.OcValue || r.Text != "9" || r.Steps != 4*74+1 {
		t.Errorf("Run of many binders is %s", tellResult(r))
	}
}

// TestRunsOfOneWrongField: each field of each node in turn is not right, in a
// program that is otherwise.
func TestRunsOfOneWrongField(t *testing.T) {
	var programs [][]impl.Node
	for _, s := range []string{
		"(rec f x (if x (add x (app f (sub x 1))) 0) (app f 4))",
		"(match (cons 1 (cons 2 nil)) 9 h r (pair (fst (pair h r)) (snd (pair h r))))",
		"(let r (ref 1) (try (let u (set r (get r)) (raise 3)) e (app (fun x x) e)))",
	} {
		programs = append(programs, programOf(t, s))
	}
	for _, s := range shapes {
		programs = append(programs, oneOfEach(s.kind))
	}
	for _, l := range programs {
		for i := range l {
			for _, m := range wrongTurns(l, i) {
				mustNotRun(t, "one wrong field", m, 0)
				mustNotRun(t, "one wrong field", m, impl.MaxFuel)
			}
		}
	}
}

func TestRunsOfWrongLists(t *testing.T) {
	for what, l := range wrongLists() {
		for _, fuel := range append([]int{0, 1, 9, impl.MaxFuel}, strayFuels...) {
			mustNotRun(t, what, l, fuel)
		}
	}
}

// TestRunsOfFreeNames: a free name is asked for ahead of all else, also where it
// would never be looked at.
func TestRunsOfFreeNames(t *testing.T) {
	for _, s := range []string{
		"x", "(fun x y)", "(let x x 1)", "(let x 1 y)", "(if 1 2 x)", "(if 0 x 2)", "(pair 1 x)", "(match nil 1 h t x)", "(match h 1 h t 2)", "(match nil h h t 2)",
		"(try 1 e x)", "(try e e 1)", "(rec f x 1 x)", "(rec f x y 1)", "(add (raise 1) x)", "(app 1 x)", "(app (fst nil) x)", "(let f (fun x f) 1)",
		"(pair (let x 1 x) x)", "(pair (fun e e) e)", "(rec f x (app f x) (pair (app f 1) y))",
	} {
		for _, fuel := range append([]int{0, 1, 9, impl.MaxFuel}, strayFuels...) {
			mustNotRun(t, "a free name", programOf(t, s), fuel)
		}
	}
}

// askMachine calls all functions of chapter 11, and writes into what they answer.
func askMachine(l []impl.Node) {
	for _, fuel := range []int{-1, 0, 7, impl.MaxFuel, impl.MaxFuel + 1} {
		impl.Outcome(l, fuel)
		events := impl.Run(l, fuel).Events
		events = events[:cap(events)]
		for i := range events {
			events[i] = impl.Event{Kind: 99, Node: 98, Fun: 97}
		}
	}
}

// TestRunsLeaveNodesAsTheyAre: neither a list nor the room behind it is written
// into.
func TestRunsLeaveNodesAsTheyAre(t *testing.T) {
	programs := append(longPrograms(60), nil, []impl.Node{{Kind: impl.NFun, A: 3, Name: "x"}}, longPrograms(impl.MaxNodes)[5], longPrograms(impl.MaxNodes + 1)[5])
	for _, s := range caseTexts() {
		l := programOf(t, s)
		programs = append(programs, l, turned(l, len(l)-1, func(n *impl.Node) { n.N = -1 }))
	}
	for _, l := range programs {
		mustLeaveAlone(t, l, askMachine)
	}
}

// TestRunsKeepNothing: a program does as ever behind others, and behind answers that
// were written into; what was told of it stays as it is.
func TestRunsKeepNothing(t *testing.T) {
	others := [][]impl.Node{nil, {{}}, programOf(t, "(fst nil)"), programOf(t, "(rec f x (app f x) (app f 1))"), programOf(t, "(let r (ref 1) (set r 5))"), longPrograms(150)[13], longPrograms(151)[6]}
	for k, s := range caseTexts() {
		l := programOf(t, s)
		if freeByRule(l) {
			continue
		}
		first := impl.Run(l, impl.MaxFuel)
		kept := slices.Clone(first.Events)
		askMachine(l)
		second := impl.Run(l, impl.MaxFuel)
		askMachine(others[k%len(others)])
		mustRun(t, l, impl.MaxFuel)
		if !sameResult(first, second) || !slices.Equal(first.Events, kept) {
			t.Fatalf("Run is first\n%s, then\n%s of %s", tellResult(first), tellResult(second), s)
		}
		for i := range first.Events {
			first.Events[i] = impl.Event{}
		}
		if !slices.Equal(second.Events, kept) {
			t.Fatalf("two results share their events, of %s", s)
		}
		shorter, whole := impl.Run(l, second.Steps/2), slices.Clone(second.Events)
		_ = append(shorter.Events[:len(shorter.Events):cap(shorter.Events)], impl.Event{Kind: 99})
		if !slices.Equal(second.Events, whole) {
			t.Fatalf("two results share their events, of %s", s)
		}
	}
}

// TestRunsOfAnyNodes: no list makes a function of chapter 11 panic, and each does
// what it should, right or not.
func TestRunsOfAnyNodes(t *testing.T) {
	next := dice(18)
	ends := map[int]int{}
	for range 400000 {
		l := anyNodes(next, 8, []string{"x", "y", "x", "", "y", "abcdefghi", "fun", "\xff"})
		fuel := append([]int{0, 1, 5, 20, 100, 400, 3000}, strayFuels...)[next(7+len(strayFuels)/3)]
		if !rightByRule(l) || freeByRule(l) || fuel < 0 || fuel > 3000 {
			ends[impl.OcBad]++
			mustNotRun(t, "any nodes", l, fuel)
			continue
		}
		ends[mustRun(t, l, fuel).Kind]++
	}
	for kind, least := range []int{10000, 500, 1, 100, 5} {
		if ends[kind] < least {
			t.Errorf("only %d lists end with %d", ends[kind], kind)
		}
	}
}
