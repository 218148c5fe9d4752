package ppo

import (
	"math"
	"math/rand/v2"
	"reflect"
	"slices"
	"strings"
	"testing"

	"spinnaker/api"
	"spinnaker/enc"
	"spinnaker/isa"
	"spinnaker/rel"
	"spinnaker/replay"
	"spinnaker/text"
)

const (
	most  = math.MaxInt
	least = math.MinInt
)

// Limits and places as numbers, so that the tests say what the document says.
const (
	maxEvents = 512
	codeBase  = 65536
	dataBase  = 16777216
)

var initial = api.Ref{Hart: -1}

// change alters an event that is being made.
type change func(e *api.Event)

// event returns an event of an instruction that does not access memory.
func event(op int, changes ...change) api.Event {
	e := api.Event{Src: initial, Instr: api.Instr{Op: op}}
	for _, c := range changes {
		c(&e)
	}
	return e
}

// access returns an event of an instruction that accesses address 0, as replaying has it.
func access(op int, changes ...change) api.Event {
	e := event(op)
	e.Known, e.Ready = true, true
	name := isa.Name(op)
	e.Read = name == "ld" || name == "lr.d" || isAmo(name)
	e.Write = name == "sd" || name == "sc.d" || isAmo(name)
	for _, c := range changes {
		c(&e)
	}
	return e
}

func ld(changes ...change) api.Event  { return access(api.OpLd, changes...) }
func sd(changes ...change) api.Event  { return access(api.OpSd, changes...) }
func lr(changes ...change) api.Event  { return access(api.OpLrD, changes...) }
func sc(changes ...change) api.Event  { return access(api.OpScD, changes...) }
func amo(changes ...change) api.Event { return access(api.OpAmoaddD, changes...) }

// failed returns an sc.d that failed or waits: it does not write.
func failed(changes ...change) api.Event {
	e := sc(changes...)
	e.Write, e.Ready = false, false
	return e
}

func fence(imm int) api.Event {
	return event(api.OpFence, func(e *api.Event) { e.Instr.Imm = imm })
}

func ecall() api.Event { return event(api.OpEcall) }

func addi() api.Event { return event(api.OpAddi) }

func to(addr int) change       { return func(e *api.Event) { e.Addr = addr } }
func on(hart int) change       { return func(e *api.Event) { e.Hart = hart } }
func from(hart, at int) change { return func(e *api.Event) { e.Src = api.Ref{Hart: hart, At: at} } }
func addrOf(l ...int) change   { return func(e *api.Event) { e.AddrOf = l } }
func dataOf(l ...int) change   { return func(e *api.Event) { e.DataOf = l } }
func ctrlOf(l ...int) change   { return func(e *api.Event) { e.CtrlOf = l } }
func waits(e *api.Event)       { e.Wait, e.Ready, e.In, e.Out = true, false, 0, 0 }
func acquires(e *api.Event)    { e.Instr.Aq = true }
func releases(e *api.Event)    { e.Instr.Rl = true }
func unknown(e *api.Event)     { e.Known = false }

// list returns a list of events, which get the indices that they have in their harts.
func list(l ...api.Event) []api.Event {
	next := map[int]int{}
	for i := range l {
		l[i].At = next[l[i].Hart]
		next[l[i].Hart]++
	}
	return l
}

// The chapter, written down separately: the words of its sentences stand for themselves.

func isAmo(name string) bool {
	return strings.HasPrefix(name, "amo") && strings.HasSuffix(name, ".d")
}

// isPair says whether the rules are about a and b: memory events of one hart, a before b.
func isPair(l []api.Event, a, b int) bool {
	for _, i := range []int{a, b} {
		if i < 0 || i >= len(l) || !l[i].Read && !l[i].Write {
			return false
		}
	}
	return a < b && l[a].Hart == l[b].Hart
}

// ordered says whether a rule orders event i before event j.
func ordered(l []api.Event, rule, i, j int) bool {
	if !isPair(l, i, j) {
		return false
	}
	a, b := l[i], l[j]
	var between []api.Event
	for k := i + 1; k < j; k++ {
		if l[k].Hart == a.Hart {
			between = append(between, l[k])
		}
	}
	exists := func(sentence func(m api.Event) bool) bool { return slices.ContainsFunc(between, sentence) }
	has := func(numbers []int) bool { return slices.Contains(numbers, i) }
	is := func(e api.Event, names ...string) bool { return slices.Contains(names, isa.Name(e.Instr.Op)) }
	sameAddress := func(x, y api.Event) bool { return x.Known && y.Known && x.Addr == y.Addr }
	source := func(r, w api.Event) bool { return r.Src.Hart == w.Hart && r.Src.At == w.At }
	switch rule {
	case 1:
		return b.Write && sameAddress(a, b)
	case 2:
		return a.Read && b.Read && !a.Wait && !b.Wait && sameAddress(a, b) && a.Src != b.Src &&
			!exists(func(m api.Event) bool { return m.Write && sameAddress(m, a) })
	case 3:
		return (isAmo(isa.Name(a.Instr.Op)) || is(a, "sc.d")) && b.Read && !b.Wait && source(b, a)
	case 4:
		return exists(func(m api.Event) bool {
			pred, succ := m.Instr.Imm>>4, m.Instr.Imm&15
			before := a.Read && pred>>1&1 == 1 || a.Write && pred&1 == 1
			behind := b.Read && succ>>1&1 == 1 || b.Write && succ&1 == 1
			return is(m, "fence") && before && behind || is(m, "ecall") && b.Write
		})
	case 5:
		return a.Instr.Aq
	case 6:
		return b.Instr.Rl
	case 7:
		return (a.Instr.Aq || a.Instr.Rl) && (b.Instr.Aq || b.Instr.Rl)
	case 8:
		return is(a, "lr.d") && is(b, "sc.d") && !exists(func(m api.Event) bool { return is(m, "lr.d", "sc.d") })
	case 9:
		return has(b.AddrOf)
	case 10:
		return has(b.DataOf)
	case 11:
		return b.Write && has(b.CtrlOf)
	case 12:
		return b.Read && !b.Wait && exists(func(m api.Event) bool {
			return m.Write && source(b, m) && (has(m.AddrOf) || has(m.DataOf))
		})
	case 13:
		return b.Write && exists(func(m api.Event) bool { return has(m.AddrOf) })
	}
	return false
}

// smallest says which rule is the smallest one that orders a before b.
func smallest(l []api.Event, a, b int) int {
	for rule := 1; rule <= 13; rule++ {
		if ordered(l, rule, a, b) {
			return rule
		}
	}
	return 0
}

// allPairs are the pairs that some rule orders.
func allPairs(l []api.Event) [][2]int {
	var pairs [][2]int
	for a := range l {
		for b := range l {
			if smallest(l, a, b) != 0 {
				pairs = append(pairs, [2]int{a, b})
			}
		}
	}
	return pairs
}

// agreesAt holds Holds and Rule against the chapter for two indices.
func agreesAt(t *testing.T, l []api.Event, a, b int) {
	t.Helper()
	for rule := -1; rule <= 15; rule++ {
		if want := ordered(l, rule, a, b); Holds(l, rule, a, b) != want {
			t.Errorf("rule %d, %d before %d: %v in %+v", rule, a, b, !want, l)
		}
	}
	if n, want := Rule(l, a, b), smallest(l, a, b); n != want {
		t.Errorf("%d before %d: rule %d; want %d in %+v", a, b, n, want, l)
	}
}

// agrees holds all functions against the chapter for one list.
func agrees(t *testing.T, l []api.Event) {
	t.Helper()
	for a := -1; a <= len(l); a++ {
		for b := -1; b <= len(l); b++ {
			agreesAt(t, l, a, b)
		}
	}
	r := All(l)
	if r.Len() != len(l) || !slices.Equal(r.Pairs(), allPairs(l)) {
		t.Errorf("All: %v on %d; want %v on %d in %+v", r.Pairs(), r.Len(), allPairs(l), len(l), l)
	}
}

// example is a list of events and whether its first event is ordered before its last one.
type example struct {
	name string
	l    []api.Event
	want bool
}

// holds checks a rule on examples.
func holds(t *testing.T, rule int, examples []example) {
	t.Helper()
	for _, x := range examples {
		if Holds(x.l, rule, 0, len(x.l)-1) != x.want {
			t.Errorf("rule %d, %s: %v", rule, x.name, !x.want)
		}
		agrees(t, x.l)
	}
}

// P16.1: memory events.

func TestMemory(t *testing.T) {
	for op := range 88 {
		for flags := range 32 {
			e := event(op)
			e.Read, e.Write = flags&1 != 0, flags&2 != 0
			e.Known, e.Wait, e.Ready = flags&4 != 0, flags&8 != 0, flags&16 != 0
			if want := flags&3 != 0; Memory(e) != want {
				t.Errorf("%+v: %v", e, !want)
			}
		}
	}
	for _, e := range []api.Event{ld(), sd(), lr(), sc(), amo(), ld(waits), sd(waits), amo(waits)} {
		if !Memory(e) {
			t.Errorf("%+v is not one", e)
		}
	}
	for _, e := range []api.Event{{}, failed(), failed(waits), fence(0x33), ecall(), addi(), event(api.OpBeq)} {
		if Memory(e) {
			t.Errorf("%+v is one", e)
		}
	}
}

// The example of the chapter.
func TestExample(t *testing.T) {
	if n := Rule(list(sd(), ld(to(8))), 0, 1); n != 0 {
		t.Errorf("without the fence: %d", n)
	}
	if n := Rule(list(sd(), fence(0x33), ld(to(8))), 0, 2); n != 4 {
		t.Errorf("with the fence: %d", n)
	}
}

// P16.1: rule by rule.

func TestSameAddress(t *testing.T) {
	far := to(dataBase + 8)
	holds(t, 1, []example{
		{"ld sd", list(ld(), sd()), true},
		{"sd sd", list(sd(), sd()), true},
		{"amo amo", list(amo(), amo()), true},
		{"lr sc", list(lr(), sc()), true},
		{"ld amo", list(ld(far), amo(far)), true},
		{"both wait", list(ld(waits), sd(waits)), true},
		{"another address", list(ld(), sd(to(8))), false},
		{"address 8 off", list(sd(far), sd()), false},
		{"b reads", list(sd(), ld()), false},
		{"lr reads", list(sd(), lr()), false},
		{"sc fails", list(ld(), failed()), false},
		{"a is no memory event", list(failed(), sd()), false},
		{"a's address is not known", list(ld(unknown), sd()), false},
		{"b's address is not known", list(ld(), sd(unknown)), false},
		{"no address is known", list(ld(unknown), sd(unknown)), false},
		{"something between", list(ld(), sd(), amo(), ecall(), sd()), true},
	})
}

func TestTwoReads(t *testing.T) {
	other := from(1, 0)
	holds(t, 2, []example{
		{"initial and other", list(ld(), ld(other)), true},
		{"other and initial", list(ld(other), ld()), true},
		{"another hart", list(ld(from(1, 3)), ld(from(2, 3))), true},
		{"another record", list(ld(from(1, 3)), ld(from(1, 4))), true},
		{"the same", list(ld(other), ld(other)), false},
		{"both initial", list(ld(), ld()), false},
		{"the same value", list(ld(func(e *api.Event) { e.In = 5 }), ld(other, func(e *api.Event) { e.In = 5 })), true},
		{"another value", list(ld(other, func(e *api.Event) { e.In = 5 }), ld(other)), false},
		{"lr and amo", list(lr(), amo(other)), true},
		{"amo and lr", list(amo(), lr(other)), true},
		{"a waits", list(ld(waits), ld(other)), false},
		{"b waits", list(ld(other), ld(waits)), false},
		{"another address", list(ld(), ld(other, to(8))), false},
		{"a writes", list(sd(), ld(other)), false},
		{"b writes", list(ld(other), sd()), false},
		{"a's address is not known", list(ld(unknown), ld(other)), false},
		{"b's address is not known", list(ld(), ld(other, unknown)), false},
		{"no address is known", list(ld(unknown), ld(other, unknown)), false},
		{"a write to it between", list(ld(), sd(), ld(other)), false},
		{"an amo between", list(ld(), amo(), ld(other)), false},
		{"an sc between", list(ld(), sc(), ld(other)), false},
		{"a write that waits between", list(ld(), sd(waits), ld(other)), false},
		{"a write elsewhere between", list(ld(), sd(to(8)), ld(other)), true},
		{"a write with an unknown address between", list(ld(), sd(unknown), ld(other)), true},
		{"a failed sc between", list(ld(), failed(), ld(other)), true},
		{"an sc that waits between", list(ld(), failed(waits), ld(other)), true},
		{"a read between", list(ld(), ld(other), ld(from(1, 2))), true},
		{"the last one between writes", list(ld(), addi(), ld(), sd(), ld(other)), false},
		{"the first one between writes", list(ld(), sd(), ld(), addi(), ld(other)), false},
	})
}

func TestReadOfAtomic(t *testing.T) {
	// All operations, with a number on each side: a is amo..d or sc.d.
	for op := -1; op <= 89; op++ {
		name := isa.Name(op)
		a := event(op)
		a.Write = true
		want := isAmo(name) || name == "sc.d"
		holds(t, 3, []example{
			{name, list(a, ld(from(0, 0))), want},
			{name + " read elsewhere", list(a, ld(from(0, 0), to(8))), want},
			{name + " and amo", list(a, amo(from(0, 0))), want},
			{name + " with something between", list(addi(), a, addi(), lr(from(0, 1)))[1:], want},
		})
	}
	second := list(sd(), amo(), ld(from(0, 1)))
	if !Holds(second, 3, 1, 2) || Holds(second, 3, 0, 2) {
		t.Error("the store that is read")
	}
	holds(t, 3, []example{
		{"initial", list(amo(), ld()), false},
		{"another hart", list(amo(), ld(from(1, 0))), false},
		{"another record", list(amo(), ld(from(0, 1))), false},
		{"a later amo", list(amo(), amo(), ld(from(0, 1))), false},
		{"b waits", list(amo(), ld(from(0, 0), waits)), false},
		{"b only writes", list(sc(), sd(from(0, 0))), false},
		{"a waits", list(amo(waits), ld(from(0, 0))), true},
		{"sc fails", list(failed(), ld(from(0, 0))), false},
	})
	// Src names the record by its hart and its index there, not by its index in the list.
	behind := list(sd(on(2)), sd(on(2)), amo(on(3)), ld(on(3), from(3, 0)), ld(on(3), from(3, 2)), ld(on(3), from(2, 0)))
	for b, want := range map[int]bool{3: true, 4: false, 5: false} {
		if Holds(behind, 3, 2, b) != want {
			t.Errorf("index %d: %v", b, !want)
		}
	}
}

func TestFences(t *testing.T) {
	kinds := []api.Event{ld(to(8)), sd(to(8)), amo(to(8)), ld(to(8), waits), sd(to(8), waits), lr(to(8)), sc(to(8))}
	for imm := range 256 {
		for _, a := range kinds {
			for _, b := range kinds {
				b.Addr = 16
				before := a.Read && imm&0x20 != 0 || a.Write && imm&0x10 != 0
				behind := b.Read && imm&0x02 != 0 || b.Write && imm&0x01 != 0
				l := list(a, fence(imm), b)
				if Holds(l, 4, 0, 2) != (before && behind) {
					t.Errorf("fence %#x: %+v", imm, l)
				}
				agreesAt(t, l, 0, 2)
			}
		}
	}
	holds(t, 4, []example{
		{"r, w", list(ld(), fence(0x21), sd(to(8))), true},
		{"two halves", list(ld(), fence(0x20), fence(0x01), sd(to(8))), false},
		{"sets of two fences", list(sd(), fence(0x13), fence(0x31), ld(to(8))), true},
		{"no set of two", list(sd(), fence(0x23), fence(0x31), ld(to(8))), false},
		{"input and output", list(sd(), fence(0xcc), sd(to(8))), false},
		{"a fence before", list(fence(0x33), sd(), sd(to(8)))[1:], false},
		{"something around", list(sd(), addi(), ld(), fence(0x33), ld(), addi(), ld(to(8))), true},
	})
	around := list(fence(0x33), ecall(), sd(), ld(to(8)), fence(0x33), ecall())
	if Rule(around, 2, 3) != 0 {
		t.Error("fences that are not between")
	}
	if l := list(sd(), ld(to(8)), fence(0x33), sd(to(16))); Rule(l, 0, 1) != 0 || Rule(l, 0, 3) != 4 || Rule(l, 1, 3) != 4 {
		t.Error("a fence is between some")
	}
}

// Only a fence and an ecall order what is around them, whatever Imm is.
func TestFencesAmongOperations(t *testing.T) {
	for op := -1; op <= 89; op++ {
		name := isa.Name(op)
		m := event(op, func(e *api.Event) { e.Instr.Imm = 0x33 })
		holds(t, 4, []example{
			{name + " before a read", list(sd(), m, ld(to(8))), name == "fence"},
			{name + " before a write", list(ld(), m, sd(to(8))), name == "fence" || name == "ecall"},
		})
	}
}

func TestEcall(t *testing.T) {
	holds(t, 4, []example{
		{"sd sd", list(sd(), ecall(), sd(to(8))), true},
		{"ld sd", list(ld(), ecall(), sd(to(8))), true},
		{"ld amo", list(ld(), ecall(), amo(to(8))), true},
		{"ld sc", list(ld(), ecall(), sc(to(8))), true},
		{"both wait", list(ld(waits), ecall(), sd(to(8), waits)), true},
		{"b reads", list(sd(), ecall(), ld(to(8))), false},
		{"lr reads", list(sd(), ecall(), lr(to(8))), false},
		{"sc fails", list(sd(), ecall(), failed(to(8))), false},
		{"a is no memory event", list(failed(), ecall(), sd(to(8))), false},
		{"ecall behind another", list(sd(), addi(), ecall(), ld(), sd(to(8))), true},
	})
}

// The marks of an instruction, as two bits.
func marked(e api.Event, marks int) api.Event {
	e.Instr.Aq, e.Instr.Rl = marks&1 != 0, marks&2 != 0
	return e
}

func TestMarks(t *testing.T) {
	kinds := []api.Event{lr(), sc(), amo(), lr(waits), sc(waits), amo(waits), failed(), ld(), sd()}
	for first := range 4 {
		for second := range 4 {
			for _, a := range kinds {
				for _, b := range kinds {
					b.Addr = 8
					l := list(marked(a, first), addi(), marked(b, second))
					both := Memory(a) && Memory(b)
					for rule, want := range map[int]bool{
						5: both && first&1 != 0,
						6: both && second&2 != 0,
						7: both && first != 0 && second != 0,
					} {
						if Holds(l, rule, 0, 2) != want {
							t.Errorf("rule %d: %v: %+v", rule, !want, l)
						}
					}
					agreesAt(t, l, 0, 2)
				}
			}
		}
	}
	// Marks of what is between order nothing around it.
	for marks := range 4 {
		if l := list(ld(), marked(amo(to(8)), marks), ld(to(16))); Rule(l, 0, 2) != 0 {
			t.Errorf("marks %d between", marks)
		}
	}
}

func TestPairedConditional(t *testing.T) {
	far := to(8)
	holds(t, 8, []example{
		{"lr sc", list(lr(), sc()), true},
		{"another address", list(lr(), sc(far)), true},
		{"both wait", list(lr(waits), sc(waits)), true},
		{"an ld, an sd, an amo and a branch between", list(lr(), ld(), sd(), amo(), event(api.OpBne), sc(far)), true},
		{"an lr between", list(lr(), lr(), sc()), false},
		{"an lr that waits between", list(lr(), lr(waits), sc()), false},
		{"an sc between", list(lr(), sc(), sc()), false},
		{"a failed sc between", list(lr(), failed(), sc()), false},
		{"an sc that waits between", list(lr(), failed(waits), sc()), false},
		{"an sc elsewhere between", list(lr(), addi(), failed(far), addi(), sc()), false},
		{"sc fails", list(lr(), failed()), false},
		{"sc waits", list(lr(), failed(waits)), false},
		{"sc lr", list(sc(), lr()), false},
		{"lr lr", list(lr(), lr()), false},
		{"sc sc", list(sc(), sc()), false},
		{"ld sc", list(ld(), sc()), false},
		{"lr sd", list(lr(), sd()), false},
		{"an sc before", list(sc(), lr(), sc())[1:], true},
	})
	if l := list(lr(), lr(far), sc(), sc()); !Holds(l, 8, 1, 2) || Holds(l, 8, 0, 2) || Holds(l, 8, 1, 3) || Holds(l, 8, 0, 3) {
		t.Error("the last lr and the next sc")
	}
}

// The operations of rule 8: each one as a, as b, and as m.
func TestPairedOperations(t *testing.T) {
	as := func(op int, e api.Event) api.Event {
		e.Instr.Op = op
		return e
	}
	for op := -1; op <= 89; op++ {
		name := isa.Name(op)
		holds(t, 8, []example{
			{name + " as a", list(as(op, ld()), sc(to(8))), name == "lr.d"},
			{name + " as b", list(lr(), as(op, sd(to(8)))), name == "sc.d"},
			{name + " between", list(lr(), event(op), sc(to(8))), name != "lr.d" && name != "sc.d"},
		})
	}
}

// Where a stands in a list of numbers, and where it does not.
var numberLists = []struct {
	l   []int
	has bool // 2 is among them
}{
	{nil, false}, {[]int{}, false}, {[]int{2}, true}, {[]int{0}, false}, {[]int{3}, false}, {[]int{1, 2}, true},
	{[]int{2, 3}, true}, {[]int{0, 1, 2, 3}, true}, {[]int{0, 1, 3}, false}, {[]int{3, 2, 1}, true},
	{[]int{0, 1}, false}, {[]int{-2, 1 << 32, 1<<32 + 2, most, least}, false},
}

func TestDependencies(t *testing.T) {
	reads := []api.Event{ld(to(8)), lr(to(8)), ld(to(8), waits)}
	writes := []api.Event{sd(to(8)), sc(to(8)), amo(to(8)), sd(to(8), waits)}
	for _, n := range numberLists {
		for _, b := range slices.Concat(reads, writes, []api.Event{failed(to(8)), addi()}) {
			b.Addr = 16
			for rule, of := range map[int]change{9: addrOf(n.l...), 10: dataOf(n.l...), 11: ctrlOf(n.l...)} {
				dependent := b
				of(&dependent)
				// a is event 2 of the list, but record 1 of its hart.
				l := list(ld(on(1)), ld(), ld(to(8)), addi(), dependent)
				want := n.has && Memory(b) && (rule != 11 || b.Write)
				if Holds(l, rule, 2, 4) != want {
					t.Errorf("rule %d, %v: %v: %+v", rule, n.l, !want, b)
				}
				for _, another := range []int{9, 10, 11} {
					if another != rule && Holds(l, another, 2, 4) {
						t.Errorf("rule %d, %v: rule %d", rule, n.l, another)
					}
				}
				agrees(t, l)
			}
		}
	}
	holds(t, 9, []example{{"sc.d fails", list(ld(), failed(addrOf(0))), false}})
	holds(t, 9, []example{{"on a store-conditional", list(sc(), ld(to(8), addrOf(0))), true}})
	holds(t, 9, []example{{"on one that failed", list(failed(), ld(to(8), addrOf(0))), false}})
	holds(t, 10, []example{{"on a failed one", list(failed(), sd(to(8), dataOf(0))), false}})
	holds(t, 11, []example{{"on a failed one", list(failed(), sd(to(8), ctrlOf(0))), false}})
	holds(t, 10, []example{{"data of amo", list(ld(), amo(to(8), dataOf(0))), true}})
}

func TestPassedOn(t *testing.T) {
	there := to(8)
	read := ld(there, from(0, 1))
	examples := []example{
		{"address", list(ld(), sd(there, addrOf(0)), read), true},
		{"data", list(ld(), sd(there, dataOf(0)), read), true},
		{"both", list(ld(), sd(there, addrOf(0), dataOf(0)), read), true},
		{"of an amo", list(ld(), amo(there, dataOf(0)), amo(there, from(0, 1))), true},
		{"of an sc", list(ld(), sc(there, dataOf(0)), lr(there, from(0, 1))), true},
		{"the store waits", list(ld(), sd(there, dataOf(0), waits), read), true},
		{"a waits", list(ld(waits), sd(there, dataOf(0)), read), true},
		{"a writes", list(sc(), sd(there, dataOf(0)), read), true},
		{"control", list(ld(), sd(there, ctrlOf(0)), read), false},
		{"nothing", list(ld(), sd(there), read), false},
		{"another event", list(ld(), sd(there, addrOf(1), dataOf(2)), read), false},
		{"b waits", list(ld(), sd(there, dataOf(0)), ld(there, from(0, 1), waits)), false},
		{"b writes", list(ld(), sd(there, dataOf(0)), sd(there, from(0, 1))), false},
		{"initial", list(ld(), sd(there, dataOf(0)), ld(there)), false},
		{"another hart's", list(ld(), sd(there, dataOf(0)), ld(there, from(1, 1))), false},
		{"another store", list(ld(), sd(there, dataOf(0)), sd(there), ld(there, from(0, 2))), false},
		{"the first of two", list(ld(), sd(there, dataOf(0)), sd(there), ld(there, from(0, 1))), true},
		{"the second of two", list(ld(), addi(), sd(there, dataOf(0)), ld(there, from(0, 2))), true},
		{"a read in place of the store", list(ld(), ld(there, addrOf(0)), read), false},
		{"an sc that failed", list(ld(), failed(there, dataOf(0)), read), false},
		{"a store of another hart", list(ld(), sd(on(1), there, dataOf(0)), ld(there, from(1, 0))), false},
		{"a store before a", list(sd(there, dataOf(1)), ld(), ld(there, from(0, 0)))[1:], false},
		{"a is what is read", list(sd(there, dataOf(0)), ld(there, from(0, 0))), false},
		{"b is the store", list(ld(), amo(there, dataOf(0), from(0, 1))), false},
	}
	holds(t, 12, examples)
	// The store is named by its index in its hart, and a by its index in the list.
	l := list(ld(on(1)), ld(on(1)), ld(), sd(there, dataOf(2)), ld(there, from(0, 1)))
	if !Holds(l, 12, 2, 4) {
		t.Error("a second hart")
	}
	agrees(t, l)
}

func TestAddressBetween(t *testing.T) {
	there := to(8)
	holds(t, 13, []example{
		{"of a read", list(ld(), ld(there, addrOf(0)), sd(to(16))), true},
		{"of a write", list(ld(), sd(there, addrOf(0)), sd(to(16))), true},
		{"of an amo", list(ld(), amo(there, addrOf(0)), amo(to(16))), true},
		{"of an lr", list(ld(), lr(there, addrOf(0)), sc(to(16))), true},
		{"of a failed sc", list(ld(), failed(there, addrOf(0)), sd(to(16))), true},
		{"of an sc that waits", list(ld(), failed(there, addrOf(0), waits), sd(to(16))), true},
		{"all wait", list(ld(waits), ld(there, addrOf(0), waits), sd(to(16), waits)), true},
		{"the first of three", list(ld(), ld(there, addrOf(0)), addi(), ecall(), sd(to(16))), true},
		{"the last of three", list(ld(), addi(), fence(0), ld(there, addrOf(0)), sd(to(16))), true},
		{"data", list(ld(), sd(there, dataOf(0)), sd(to(16))), false},
		{"control", list(ld(), sd(there, ctrlOf(0)), sd(to(16))), false},
		{"another event", list(ld(), ld(there, addrOf(1, 2)), sd(to(16))), false},
		{"b reads", list(ld(), ld(there, addrOf(0)), ld(to(16))), false},
		{"b fails", list(ld(), ld(there, addrOf(0)), failed(to(16))), false},
		{"a has failed", list(failed(), ld(there, addrOf(0)), sd(to(16))), false},
		{"b's own address", list(ld(), sd(there, addrOf(0))), false},
		{"of another hart", list(ld(), ld(on(1), there, addrOf(0)), sd(to(16))), false},
	})
	behind := list(ld(), sd(there), ld(to(16), addrOf(0)))
	if Holds(behind, 13, 0, 1) {
		t.Error("an event behind b")
	}
}

// P16.1: what is no pair, and what is no rule.

// busy returns a list in which all rules but 8 order the first event before the last one.
func busy() []api.Event {
	a := amo(acquires, releases, from(1, 0))
	m := sd(to(8), addrOf(0), dataOf(0))
	b := amo(acquires, releases, from(0, 0), addrOf(0), dataOf(0), ctrlOf(0))
	return list(a, m, fence(0xff), ecall(), b)
}

func TestBusy(t *testing.T) {
	l := busy()
	for rule := 1; rule <= 13; rule++ {
		if want := rule != 8 && rule != 12; Holds(l, rule, 0, 4) != want {
			t.Errorf("rule %d: %v", rule, !want)
		}
	}
	agrees(t, l)
	l[4].Src.At = 1
	if !Holds(l, 12, 0, 4) || Holds(l, 3, 0, 4) {
		t.Error("the store between is read")
	}
	agrees(t, l)
}

func TestNoRule(t *testing.T) {
	for _, l := range [][]api.Event{busy(), list(marked(lr(), 3), marked(sc(), 3))} {
		for _, rule := range []int{0, -1, 14, 15, 16, 17, -13, 32, 256 + 1, 1<<32 + 1, 1<<32 + 5, most, least, least + 1, least + 5} {
			for a := range l {
				for b := range l {
					if Holds(l, rule, a, b) {
						t.Errorf("rule %d, %d before %d", rule, a, b)
					}
				}
			}
		}
	}
}

// noIndices are numbers that are no index of a list of 5.
var noIndices = []int{-1, -2, -5, 5, 6, 7, 64, 1 << 32, 1<<32 + 4, most, least, least + 4}

func TestNoEvent(t *testing.T) {
	l := busy()
	wide := append(busy(), busy()...)
	for rule := range 14 {
		for _, none := range noIndices {
			for i := range l {
				for _, p := range [][2]int{{i, none}, {none, i}, {none, none}} {
					if Holds(l, rule, p[0], p[1]) || Holds(wide[:5], rule, p[0], p[1]) {
						t.Errorf("rule %d, %v", rule, p)
					}
					if Rule(l, p[0], p[1]) != 0 || Rule(wide[:5], p[0], p[1]) != 0 {
						t.Errorf("%v", p)
					}
				}
			}
		}
		for _, none := range append(noIndices, 0) {
			if Holds(nil, rule, none, none+1) || Holds([]api.Event{}, rule, none, 0) || Holds(nil, rule, 0, none) {
				t.Errorf("rule %d, %d of nothing", rule, none)
			}
		}
	}
	if Rule(nil, 0, 1) != 0 || Rule(nil, 0, 0) != 0 || Rule([]api.Event{}, -1, 0) != 0 || Rule(l[:1], 0, 0) != 0 {
		t.Error("rules of nothing")
	}
}

// A pair is in the order of the list, of one hart, and of memory events.
func TestNoPair(t *testing.T) {
	for rule := range 14 {
		l := busy()
		for a := range l {
			for b := range a + 1 {
				if Holds(l, rule, a, b) || Rule(l, a, b) != 0 {
					t.Errorf("rule %d, %d before %d", rule, a, b)
				}
			}
		}
		for _, i := range []int{0, 4} {
			for _, hart := range []int{1, -1, 8, most, least} {
				l := busy()
				l[i].Hart = hart
				if Holds(l, rule, 0, 4) || Rule(l, 0, 4) != 0 {
					t.Errorf("rule %d, hart %d", rule, hart)
				}
			}
			l := busy()
			l[i].Read, l[i].Write = false, false
			if Holds(l, rule, 0, 4) || Rule(l, 0, 4) != 0 {
				t.Errorf("rule %d, event %d is no memory event", rule, i)
			}
		}
	}
}

// Harts are told apart by their numbers, also where their events alternate.
func TestHartsBetween(t *testing.T) {
	one, there := on(1), to(8)
	for _, m := range []api.Event{fence(0x33), ecall(), ld(there, addrOf(0)), sd(there, dataOf(0))} {
		l := list(ld(), m, sd(to(16)), ld(there, from(1, 0)), sd(to(24)))
		one(&l[1])
		agrees(t, l)
		for b := 2; b < 5; b++ {
			if n := Rule(l, 0, b); n != 0 {
				t.Errorf("%+v of hart 1 is between 0 and %d: rule %d", m, b, n)
			}
		}
	}
	// What would stop an order does not, if it is of another hart.
	l := list(lr(to(16)), sd(one, to(16)), failed(one), lr(from(1, 0), to(16), on(0)))
	if !Holds(l, 2, 0, 3) {
		t.Error("a write of another hart")
	}
	l = list(lr(to(16)), failed(one), sc(to(24)))
	if !Holds(l, 8, 0, 2) {
		t.Error("an sc of another hart")
	}
	agrees(t, l)
}

// An iterator over what is between ends where its loop ends: otherwise Go panics.
func TestBetween(t *testing.T) {
	l := list(ld(), sd(on(1)), ld(), addi(), ld(on(1)), sd(), ld())
	for n := range 4 {
		var seen []int
		for m, e := range between(l, 0, 6) {
			if len(seen) == n {
				break
			}
			if e != &l[m] {
				t.Errorf("%d comes with %+v", m, e)
			}
			seen = append(seen, m)
		}
		if !slices.Equal(seen, []int{2, 3, 5}[:n]) {
			t.Errorf("%v", seen)
		}
	}
	for _, p := range [][2]int{{0, 1}, {0, 2}, {6, 7}} {
		for m := range between(l, p[0], p[1]) {
			t.Errorf("%d is between %v", m, p)
		}
	}
}

// P16.1: the smallest rule.

// sole are lists in which only one rule orders the first event before the last one.
func sole() map[int][]api.Event {
	there := to(8)
	return map[int][]api.Event{
		1:  list(ld(), sd()),
		2:  list(ld(), ld(from(1, 0))),
		3:  list(sc(), ld(from(0, 0))),
		4:  list(ld(), fence(0x33), ld(there)),
		5:  list(lr(acquires), ld(there)),
		6:  list(ld(), sc(there, releases)),
		7:  list(sc(releases), lr(there, acquires)),
		8:  list(lr(), sc(there)),
		9:  list(ld(), ld(there, addrOf(0))),
		10: list(ld(), sd(there, dataOf(0))),
		11: list(ld(), sd(there, ctrlOf(0))),
		12: list(ld(), sd(there, dataOf(0)), ld(there, from(0, 1))),
		13: list(ld(), ld(there, addrOf(0)), sd(to(16))),
	}
}

func TestSoleRules(t *testing.T) {
	if len(sole()) != 13 {
		t.Fatal(len(sole()))
	}
	for rule, l := range sole() {
		last := len(l) - 1
		if n := Rule(l, 0, last); n != rule {
			t.Errorf("rule %d: %d", rule, n)
		}
		if !All(l).Has(0, last) {
			t.Errorf("rule %d is missing in All", rule)
		}
		for other := 1; other <= 13; other++ {
			if Holds(l, other, 0, last) != (other == rule) {
				t.Errorf("rule %d: rule %d: %v", rule, other, other != rule)
			}
		}
		agrees(t, l)
	}
}

// Of two rules that apply, the smaller one is returned.
func TestSmallestRule(t *testing.T) {
	there := to(8)
	for _, c := range []struct {
		l     []api.Event
		rules []int
	}{
		{list(ld(), amo(from(1, 0))), []int{1, 2}},
		{list(amo(from(1, 0)), ld(from(0, 0))), []int{2, 3}},
		{list(amo(), addi(), amo(from(0, 0))), []int{1, 2, 3}},
		{list(amo(acquires), fence(0x33), ld(there)), []int{4, 5}},
		{list(amo(acquires), amo(there, releases)), []int{5, 6, 7}},
		{list(amo(releases), amo(there, releases)), []int{6, 7}},
		{list(lr(releases), sc(there, acquires)), []int{7, 8}},
		{list(lr(), sc(there, addrOf(0), dataOf(0), ctrlOf(0))), []int{8, 9, 10, 11}},
		{list(ld(), sd(there, addrOf(0), dataOf(0), ctrlOf(0))), []int{9, 10, 11}},
		{list(ld(), sd(there, dataOf(0), ctrlOf(0))), []int{10, 11}},
		{list(ld(), ld(to(16), addrOf(0)), sd(there, ctrlOf(0))), []int{11, 13}},
		{list(ld(), sd(there, addrOf(0)), amo(there, from(0, 1))), []int{12, 13}},
		{list(ld(), sd(addrOf(0)), sd()), []int{1, 13}},
	} {
		last := len(c.l) - 1
		if n := Rule(c.l, 0, last); n != c.rules[0] {
			t.Errorf("%v: %d", c.rules, n)
		}
		for rule := 1; rule <= 13; rule++ {
			if want := slices.Contains(c.rules, rule); Holds(c.l, rule, 0, last) != want {
				t.Errorf("%v: rule %d: %v", c.rules, rule, !want)
			}
		}
	}
}

// Small lists: each first event with each one between and each last one.
func TestTriples(t *testing.T) {
	there := to(8)
	sources := []change{from(-1, 0), from(0, 0), from(0, 1), from(1, 0)}
	var first, between, last []api.Event
	for _, c := range []change{to(0), there, acquires, releases, waits, unknown} {
		first = append(first, ld(c), sd(c), lr(c), sc(c), amo(c), failed(c))
		between = append(between, ld(c), sd(c), lr(c), sc(c), amo(c), failed(c))
	}
	for _, s := range sources[1:] {
		first = append(first, ld(s), amo(s))
		between = append(between, ld(s), amo(s))
	}
	for _, of := range []change{addrOf(0), dataOf(0), ctrlOf(0), addrOf(2), dataOf(1)} {
		between = append(between, ld(of), sd(there, of), amo(there, of), failed(there, of), sd(there, of, waits))
	}
	for _, imm := range []int{0x33, 0x21, 0x23, 0x31, 0x11, 0x12, 0xcc} {
		between = append(between, fence(imm))
	}
	between = append(between, addi(), ecall(), sd(on(1)), failed(on(1)), event(api.OpEcall, on(1)))
	for _, s := range sources {
		for _, c := range []change{to(0), there, releases, waits, addrOf(0, 1), dataOf(1), ctrlOf(0)} {
			last = append(last, ld(s, c), sd(s, c), lr(s, c), sc(s, c), amo(s, c), failed(s, c))
		}
	}
	for _, a := range first {
		for _, m := range between {
			for _, b := range last {
				l := list(a, m, b)
				agreesAt(t, l, 0, 2)
			}
		}
		if t.Failed() {
			return
		}
	}
}

// Random lists.

var operations = []int{
	api.OpLd, api.OpLd, api.OpLd, api.OpSd, api.OpSd, api.OpSd, api.OpLrD, api.OpScD, api.OpScD, api.OpAmoswapD,
	api.OpAmoaddD, api.OpAmomaxuD, api.OpFence, api.OpFence, api.OpEcall, api.OpAddi, api.OpBeq,
}

// randomNumbers returns some indices of a list of n, in ascending order.
func randomNumbers(r *rand.Rand, n int) []int {
	var l []int
	for i := range n {
		if r.IntN(6) == 0 {
			l = append(l, i)
		}
	}
	return l
}

// randomEvent returns an event at index i of a list, which is not always one that
// replaying makes.
func randomEvent(r *rand.Rand, i int) api.Event {
	e := access(operations[r.IntN(len(operations))])
	e.Addr = 8 * r.IntN(2)
	if e.Instr.Op == api.OpFence {
		e.Instr.Imm = r.IntN(256)
	}
	if e.Instr.Op == api.OpScD && r.IntN(2) == 0 {
		e.Write = false
	}
	if e.Read {
		e.Src = api.Ref{Hart: r.IntN(3) - 1, At: r.IntN(i + 1)}
	}
	if e.Read || e.Write || e.Instr.Op == api.OpScD {
		e.AddrOf, e.DataOf = randomNumbers(r, i), randomNumbers(r, i)
		e.Wait = r.IntN(5) == 0
		e.Instr.Aq, e.Instr.Rl = r.IntN(12) == 0, r.IntN(12) == 0
	}
	e.CtrlOf = randomNumbers(r, i)
	e.Known = r.IntN(20) != 0
	return e
}

// randomList returns a list of n events of two harts, which alternate if mixed is set.
func randomList(r *rand.Rand, n int, mixed bool) []api.Event {
	end := r.IntN(n + 1)
	var l []api.Event
	for i := range n {
		e := randomEvent(r, i)
		if i >= end || mixed && r.IntN(3) == 0 {
			e.Hart = 1
		}
		l = append(l, e)
	}
	return list(l...)
}

func TestRandomLists(t *testing.T) {
	r := rand.New(rand.NewPCG(16, 1))
	for i := range 6000 {
		agrees(t, randomList(r, 1+r.IntN(9), i%3 == 0))
		if t.Failed() {
			return
		}
	}
	for range 20 {
		agrees(t, randomList(r, 30+r.IntN(20), false))
	}
}

// The random lists show each rule, alone and among others.
func TestRandomListsReachRules(t *testing.T) {
	r := rand.New(rand.NewPCG(16, 2))
	var alone, among, missing [14]int
	for range 3000 {
		l := randomList(r, 8, false)
		for a := range l {
			for b := range l {
				var rules []int
				for rule := 1; rule <= 13; rule++ {
					if Holds(l, rule, a, b) {
						rules = append(rules, rule)
					} else if isPair(l, a, b) {
						missing[rule]++
					}
				}
				for _, rule := range rules {
					among[rule]++
					if len(rules) == 1 {
						alone[rule]++
					}
				}
			}
		}
	}
	for rule := 1; rule <= 13; rule++ {
		if alone[rule] < 20 || among[rule] < 100 || missing[rule] < 1000 {
			t.Errorf("rule %d: alone %d, among %d, missing %d", rule, alone[rule], among[rule], missing[rule])
		}
	}
}

// P16.2: the relation of all pairs.

func TestAllOfNothing(t *testing.T) {
	for _, l := range [][]api.Event{nil, {}} {
		if r := All(l); r == nil || r.Len() != 0 || len(r.Pairs()) != 0 {
			t.Errorf("%+v", r)
		}
	}
	for _, e := range []api.Event{ld(), addi(), busy()[4]} {
		if r := All(list(e)); r.Len() != 1 || len(r.Pairs()) != 0 {
			t.Errorf("%+v: %v on %d", e, r.Pairs(), r.Len())
		}
	}
}

func TestAllExample(t *testing.T) {
	l := list(ld(), sd(to(8), dataOf(0)), fence(0x11), sd(to(16)), failed(), ld(to(16)), ld(on(1)), sd(on(1)))
	want := [][2]int{{0, 1}, {1, 3}, {6, 7}}
	if got := All(l).Pairs(); !slices.Equal(got, want) {
		t.Errorf("%v; want %v", got, want)
	}
}

// stores returns n stores to one address, all of which are ordered.
func stores(n int) []api.Event {
	var l []api.Event
	for range n {
		l = append(l, sd())
	}
	return list(l...)
}

func TestAllLimit(t *testing.T) {
	for _, n := range []int{1, 2, 63, 64, 65, maxEvents - 1, maxEvents, maxEvents + 1, maxEvents + 88, 2 * maxEvents} {
		r := All(stores(n))
		elements := min(n, maxEvents)
		if r.Len() != elements || len(r.Pairs()) != elements*(elements-1)/2 {
			t.Errorf("%d events: %d pairs on %d", n, len(r.Pairs()), r.Len())
		}
		for _, p := range r.Pairs() {
			if p[0] >= p[1] {
				t.Fatalf("%d events: %v", n, p)
			}
		}
	}
}

// What comes after the first 512 events does not matter; for Rule and Holds it is there.
func TestBeyondLimit(t *testing.T) {
	r := rand.New(rand.NewPCG(16, 3))
	l := randomList(r, maxEvents, false)
	more := slices.Concat(l, stores(40))
	if !slices.Equal(All(more).Pairs(), All(l).Pairs()) {
		t.Error("more events than 512")
	}
	l = stores(3 * maxEvents)
	for _, p := range [][2]int{{0, maxEvents}, {maxEvents - 1, maxEvents}, {maxEvents, maxEvents + 1}, {0, 3*maxEvents - 1}} {
		if Rule(l, p[0], p[1]) != 1 || !Holds(l, 1, p[0], p[1]) {
			t.Errorf("%v", p)
		}
	}
	l = slices.Concat(list(ld()), make([]api.Event, 2*maxEvents), list(sd(to(8), dataOf(0))))
	if n := Rule(l, 0, len(l)-1); n != 10 {
		t.Errorf("far away: %d", n)
	}
}

func TestLargeList(t *testing.T) {
	r := rand.New(rand.NewPCG(16, 4))
	l := randomList(r, maxEvents, false)
	for i := range l {
		l[i].AddrOf, l[i].DataOf, l[i].CtrlOf = nil, nil, nil
		if i > 0 && r.IntN(4) == 0 {
			l[i].AddrOf = []int{r.IntN(i)}
		}
		l[i].Addr = 8 * r.IntN(200)
		l[i].Instr.Aq, l[i].Instr.Rl = false, false
		if op := l[i].Instr.Op; (op == api.OpFence || op == api.OpEcall) && r.IntN(20) != 0 {
			l[i].Instr.Op = api.OpAddi
		}
	}
	all := All(l)
	related := 0
	for range 10000 {
		a, b := r.IntN(maxEvents), r.IntN(maxEvents)
		want := smallest(l, a, b)
		if n := Rule(l, a, b); n != want || all.Has(a, b) != (want != 0) {
			t.Errorf("%d before %d: rule %d, %v in All; want %d", a, b, n, all.Has(a, b), want)
		}
		if want != 0 {
			related++
		}
	}
	if all.Len() != maxEvents || related < 100 || related > 3000 {
		t.Errorf("%d elements, %d of 10000 pairs are related", all.Len(), related)
	}
}

func TestAllIsNew(t *testing.T) {
	l := sole()[13]
	first, second := All(l), All(l)
	if !first.Add(2, 0) || second.Has(2, 0) || All(l).Has(2, 0) {
		t.Error("two results are one")
	}
}

// P16.3: consequences.

func TestOrderOfHarts(t *testing.T) {
	r := rand.New(rand.NewPCG(16, 5))
	for i := range 500 {
		l := randomList(r, 30, i%2 == 0)
		all := All(l)
		for _, p := range all.Pairs() {
			a, b := l[p[0]], l[p[1]]
			if p[0] >= p[1] || a.Hart != b.Hart || !Memory(a) || !Memory(b) || a.At >= b.At {
				t.Fatalf("%v: %+v, %+v", p, a, b)
			}
		}
		order, ok := all.Order()
		if !ok || !slices.IsSorted(order) {
			t.Fatalf("%v, %v", order, ok)
		}
	}
}

// positions calls f for each memory event at index x of random lists of one hart.
func positions(seed uint64, f func(l []api.Event, x int)) {
	r := rand.New(rand.NewPCG(16, seed))
	for range 300 {
		l := randomList(r, 12, false)
		for i := range l {
			l[i].Hart, l[i].At = 0, i
		}
		for x := range l {
			f(slices.Clone(l), x)
		}
	}
}

func TestAcquire(t *testing.T) {
	positions(6, func(l []api.Event, x int) {
		l[x].Instr.Aq = true
		r := All(l)
		for b := x + 1; b < len(l); b++ {
			if want := Memory(l[x]) && Memory(l[b]); want && !r.Has(x, b) || !want && r.Has(x, b) {
				t.Fatalf("%d before %d: %v in %+v", x, b, !want, l)
			}
		}
	})
}

func TestRelease(t *testing.T) {
	positions(7, func(l []api.Event, x int) {
		l[x].Instr.Rl = true
		r := All(l)
		for a := range x {
			if want := Memory(l[x]) && Memory(l[a]); want && !r.Has(a, x) || !want && r.Has(a, x) {
				t.Fatalf("%d before %d: %v in %+v", a, x, !want, l)
			}
		}
	})
}

func TestFullFence(t *testing.T) {
	for _, imm := range []int{0x33, 0xff, 0xf3, 0x3f} {
		positions(8, func(l []api.Event, x int) {
			l[x] = fence(imm)
			r := All(l)
			for a := range x {
				for b := x + 1; b < len(l); b++ {
					if want := Memory(l[a]) && Memory(l[b]); want && !r.Has(a, b) || !want && r.Has(a, b) {
						t.Fatalf("%d before %d: %v in %+v", a, b, !want, l)
					}
				}
			}
		})
	}
}

// The rules once more, as combinations of whole relations, for lists that replaying makes.

// where returns the relation that contains the pairs of which f is true.
func where(n int, f func(a, b int) bool) *rel.Rel {
	r := rel.New(n)
	for a := range n {
		for b := range n {
			if f(a, b) {
				r.Add(a, b)
			}
		}
	}
	return r
}

// dependency returns the relation that leads to each event from those in a list of its.
func dependency(l []api.Event, of func(e api.Event) []int) *rel.Rel {
	return where(len(l), func(a, b int) bool { return slices.Contains(of(l[b]), a) })
}

// without returns the pairs of r that are not in s.
func without(r, s *rel.Rel) *rel.Rel {
	return where(r.Len(), func(a, b int) bool { return r.Has(a, b) && !s.Has(a, b) })
}

// relations returns the relation of each rule.
func relations(l []api.Event) map[int]*rel.Rel {
	n := len(l)
	is := func(f func(e api.Event) bool) *rel.Rel {
		return where(n, func(a, b int) bool { return a == b && f(l[a]) })
	}
	op := func(names ...string) *rel.Rel {
		return is(func(e api.Event) bool { return slices.Contains(names, isa.Name(e.Instr.Op)) })
	}
	chain := func(l ...*rel.Rel) *rel.Rel {
		r := l[0]
		for _, s := range l[1:] {
			r = r.After(s)
		}
		return r
	}
	memory := is(func(e api.Event) bool { return e.Read || e.Write })
	w := is(func(e api.Event) bool { return e.Write })
	done := is(func(e api.Event) bool { return e.Read && !e.Wait })
	po := where(n, func(a, b int) bool { return a < b && l[a].Hart == l[b].Hart })
	loc := where(n, func(a, b int) bool { return a < b && l[a].Hart == l[b].Hart && l[a].Addr == l[b].Addr })
	loc = chain(memory, loc, memory)
	same := where(n, func(a, b int) bool { return l[a].Src == l[b].Src })
	rfi := chain(w, where(n, func(a, b int) bool {
		return a < b && l[a].Hart == l[b].Hart && l[b].Src == api.Ref{Hart: l[a].Hart, At: l[a].At}
	}), done)
	addr := dependency(l, func(e api.Event) []int { return e.AddrOf })
	data := dependency(l, func(e api.Event) []int { return e.DataOf })
	ctrl := dependency(l, func(e api.Event) []int { return e.CtrlOf })
	fences := rel.New(n)
	for i, e := range l {
		if e.Instr.Op == api.OpFence {
			pred := is(func(x api.Event) bool { return x.Read && e.Instr.Imm&32 != 0 || x.Write && e.Instr.Imm&16 != 0 })
			succ := is(func(x api.Event) bool { return x.Read && e.Instr.Imm&2 != 0 || x.Write && e.Instr.Imm&1 != 0 })
			here := where(n, func(a, b int) bool { return a == i && b == i })
			fences = fences.Union(chain(pred, po, here, po, succ))
		}
	}
	aq := is(func(e api.Event) bool { return e.Instr.Aq })
	rl := is(func(e api.Event) bool { return e.Instr.Rl })
	atomics := is(func(e api.Event) bool { return isAmo(isa.Name(e.Instr.Op)) || isa.Name(e.Instr.Op) == "sc.d" })
	reserving := op("lr.d", "sc.d")
	m := func(r *rel.Rel) *rel.Rel { return chain(memory, r, memory) }
	return map[int]*rel.Rel{
		1:  m(loc.After(w)),
		2:  without(m(chain(done, loc, done)), same.Union(loc.After(w).After(loc))),
		3:  m(chain(atomics, rfi)),
		4:  m(fences.Union(chain(po, op("ecall"), po, w))),
		5:  m(chain(aq, po)),
		6:  m(chain(po, rl)),
		7:  m(chain(aq.Union(rl), po, aq.Union(rl))),
		8:  without(m(chain(op("lr.d"), po, op("sc.d"))), chain(po, reserving, po)),
		9:  m(addr),
		10: m(data),
		11: m(chain(ctrl, w)),
		12: m(addr.Union(data).After(rfi)),
		13: m(chain(addr, po, w)),
	}
}

// prologue puts the address of the data into x4 and x9, and the number of the call into a7.
var prologue = []string{"lui x4, 4096", "addi x17, x0, 1", "addi x9, x4, 0"}

// lines are the instructions that random programs consist of.
var lines = strings.Split("ld x5, 0(x4);ld x6, 8(x4);sd x5, 8(x4);sd x6, 0(x4);ld x7, 0(x9);sd x5, 0(x9);add x9, x4, x5;add x9, x4, x6;"+
	"addi x9, x4, 8;add x6, x6, x5;beq x5, x6, 4;bne x5, x0, 4;lr.d x5, (x4);lr.d.aq x6, (x9);sc.d x8, x5, (x4);sc.d.rl x8, x6, (x9);"+
	"amoswap.d x6, x5, (x4);amomax.d.rl x5, x6, (x4);amoadd.d.aq x7, x0, (x9);fence rw, rw;fence r, w;fence w, r;fence w, w;fence r, rw;"+
	"addi x10, x5, 1;ecall;xor x5, x5, x5;addi x6, x0, 8;add x5, x5, x8", ";")

func assemble(t testing.TB, texts ...string) []api.Instr {
	t.Helper()
	var l []api.Instr
	for _, s := range texts {
		i, e := text.Parse(s)
		if e != api.OK {
			t.Fatalf("%s: %d", s, e)
		}
		l = append(l, i)
	}
	return l
}

// imageOf returns an image with a hart for each program, and four doublewords of data.
func imageOf(t testing.TB, programs ...[]api.Instr) api.Image {
	t.Helper()
	im := api.Image{Data: make([]int, 4)}
	for _, p := range programs {
		w, at, e := enc.All(p)
		if e != api.OK {
			t.Fatalf("%+v: %d", p[at], e)
		}
		im.Entries = append(im.Entries, len(im.Code))
		im.Code = append(im.Code, w...)
	}
	return im
}

// record returns the records of n instructions from word first on, which do nothing.
func record(first, n int) []api.Rec {
	var l []api.Rec
	for i := range n {
		l = append(l, api.Rec{PC: codeBase + 4*(first+i), Src: initial})
	}
	return l
}

// randomEvents returns the events of a random candidate, or none if that is not one that
// can be replayed.
func randomEvents(t *testing.T, r *rand.Rand, harts, n int) []api.Event {
	var programs [][]api.Instr
	for range harts {
		p := assemble(t, prologue...)
		for range n {
			p = append(p, assemble(t, lines[r.IntN(len(lines))])...)
		}
		programs = append(programs, p)
	}
	im := imageOf(t, programs...)
	var c api.Cand
	for h, p := range programs {
		l := record(im.Entries[h], len(p))
		for i := range l {
			reads, writes := isa.Access(p[i].Op)
			if !reads && !writes {
				continue
			}
			if r.IntN(12) == 0 {
				l[i].Wait = true
			} else if reads {
				l[i].Val = 8 * r.IntN(2)
				switch r.IntN(3) {
				case 0:
					l[i].Src = api.Ref{Hart: h, At: r.IntN(i)}
				case 1:
					l[i].Src = api.Ref{Hart: r.IntN(harts), At: r.IntN(len(l))}
				}
			} else if p[i].Op == api.OpScD {
				l[i].Fail = r.IntN(2) == 0
			}
		}
		c.Harts = append(c.Harts, l)
	}
	l, _ := replay.Run(im, c)
	return l
}

func TestReplayedCandidates(t *testing.T) {
	r := rand.New(rand.NewPCG(16, 9))
	var seen [14]int
	for replayed := 0; replayed < 2000; {
		l := randomEvents(t, r, 1+r.IntN(2), 4+r.IntN(10))
		if l == nil {
			continue
		}
		replayed++
		union := rel.New(len(l))
		for rule, want := range relations(l) {
			got := where(len(l), func(a, b int) bool { return Holds(l, rule, a, b) })
			if !slices.Equal(got.Pairs(), want.Pairs()) {
				t.Fatalf("rule %d: %v; want %v in %+v", rule, got.Pairs(), want.Pairs(), l)
			}
			union = union.Union(want)
			seen[rule] += len(want.Pairs())
		}
		if got := All(l).Pairs(); !slices.Equal(got, union.Pairs()) {
			t.Fatalf("%v; want %v in %+v", got, union.Pairs(), l)
		}
		agrees(t, l)
	}
	for rule := 1; rule <= 13; rule++ {
		if seen[rule] < 50 {
			t.Errorf("rule %d only %d times", rule, seen[rule])
		}
	}
}

// Programs whose order is known. The numbers count from behind the prologue, but for those
// in Src, which count from its beginning.
func TestPrograms(t *testing.T) {
	for _, c := range []struct {
		program string
		change  map[int]api.Rec // what records read, and whether they wait or failed
		want    map[[2]int]int
	}{
		{"sd x5, 0(x4);ld x6, 8(x4)", nil, nil},
		{"ld x5, 0(x4);sd x6, 8(x4)", nil, nil},
		{"ld x5, 0(x4);sd x5, 8(x4)", nil, map[[2]int]int{{0, 1}: 10}},
		{"ld x5, 0(x4);xor x5, x5, x5;add x9, x9, x5;ld x6, 8(x9)", nil, map[[2]int]int{{0, 3}: 9}},
		{"ld x5, 0(x4);beq x5, x0, 4;ld x6, 8(x4);sd x6, 16(x4)", nil, map[[2]int]int{{0, 3}: 11, {2, 3}: 10}},
		{"ld x5, 0(x4);ld x6, 0(x4)", map[int]api.Rec{1: {Val: 5, Src: api.Ref{At: 4}}}, map[[2]int]int{{0, 1}: 2}},
		{"ld x5, 0(x4);sd x5, 8(x4);ld x6, 8(x4)", map[int]api.Rec{2: {Src: api.Ref{At: 4}}}, map[[2]int]int{{0, 1}: 10, {0, 2}: 12}},
		{"ld x5, 0(x4);add x9, x9, x5;ld x6, 8(x9);sd x0, 16(x4)", nil, map[[2]int]int{{0, 2}: 9, {0, 3}: 13}},
		{"ld x5, 0(x4);add x9, x9, x5;sc.d x6, x0, (x9);sd x0, 16(x4)", map[int]api.Rec{2: {Src: initial, Fail: true}}, map[[2]int]int{{0, 3}: 13}},
		{"ld x5, 0(x4);add x9, x9, x5;sc.d x6, x0, (x9);sd x0, 16(x4)", map[int]api.Rec{2: {Src: initial, Wait: true}}, map[[2]int]int{{0, 3}: 13}},
		{"lr.d x5, (x4);sc.d x6, x0, (x4);sd x6, 8(x4)", nil, map[[2]int]int{{0, 1}: 1, {1, 2}: 10}},
		{"lr.d x5, (x4);sc.d x6, x0, (x4);sd x6, 8(x4)", map[int]api.Rec{1: {Src: initial, Fail: true}}, nil},
		{"lr.d.aq x5, (x4);sc.d x6, x0, (x4);sd x6, 8(x4)", map[int]api.Rec{1: {Src: initial, Fail: true}}, map[[2]int]int{{0, 2}: 5}},
		{"lr.d x5, (x4);addi x9, x4, 8;sc.d x6, x0, (x9)", nil, map[[2]int]int{{0, 2}: 8}},
		{"amoadd.d x5, x0, (x4);ld x6, 0(x4)", map[int]api.Rec{1: {Src: api.Ref{At: 3}}}, map[[2]int]int{{0, 1}: 2}},
		{"ld x5, 8(x4);addi x10, x0, 7;ecall;sd x0, 0(x4);ld x6, 16(x4)", nil, map[[2]int]int{{0, 3}: 4}},
		{"ld x5, 8(x4);fence r, w;sd x0, 0(x4);fence w, r;ld x6, 16(x4)", nil, map[[2]int]int{{0, 2}: 4, {2, 4}: 4}},
		{"ld x5, 8(x4);amoswap.d.rl x6, x0, (x4);ld x7, 16(x4)", nil, map[[2]int]int{{0, 1}: 6}},
		{"ld x5, 8(x4);amoswap.d.aq x6, x0, (x4);ld x7, 16(x4)", nil, map[[2]int]int{{1, 2}: 5}},
	} {
		start := len(prologue)
		p := assemble(t, slices.Concat(prologue, strings.Split(c.program, ";"))...)
		l := record(0, len(p))
		for i, r := range c.change {
			r.PC = l[start+i].PC
			l[start+i] = r
		}
		events, e := replay.Run(imageOf(t, p), api.Cand{Harts: [][]api.Rec{l}})
		if e != api.OK {
			t.Errorf("%s: %d", c.program, e)
			continue
		}
		for a := range events {
			for b := range events {
				if n, want := Rule(events, a, b), c.want[[2]int{a - start, b - start}]; n != want {
					t.Errorf("%s: %d before %d: rule %d; want %d", c.program, a-start, b-start, n, want)
				}
			}
		}
		if n := len(All(events).Pairs()); n != len(c.want) {
			t.Errorf("%s: %d pairs; want %d", c.program, n, len(c.want))
		}
	}
}

// Rules of the whole document.

func deepClone(l []api.Event) []api.Event {
	l = slices.Clone(l)
	for i := range l {
		l[i].AddrOf, l[i].DataOf, l[i].CtrlOf = slices.Clone(l[i].AddrOf), slices.Clone(l[i].DataOf), slices.Clone(l[i].CtrlOf)
	}
	return l
}

func TestArgumentsAreNotModified(t *testing.T) {
	r := rand.New(rand.NewPCG(16, 10))
	for range 100 {
		whole := randomList(r, 20, false)
		before := deepClone(whole)
		l := whole[:12]
		for a := range l {
			for b := range l {
				Rule(l, a, b)
				Holds(l, 1+r.IntN(13), a, b)
			}
		}
		All(l)
		if !reflect.DeepEqual(whole, before) {
			t.Fatal("modified")
		}
	}
}

// What lies beyond the length of a list does not matter.
func TestMemoryBeyond(t *testing.T) {
	l := list(ld(), ld(to(8)), sd(to(16)), ld(addrOf(0, 1)), fence(0x33), sd())[:3]
	if r := All(l); r.Len() != 3 || len(r.Pairs()) != 0 {
		t.Errorf("%v on %d", r.Pairs(), r.Len())
	}
	numbers := []int{5, 0, 1}
	l = list(ld(), sd(to(8), dataOf(numbers[:1]...)))
	if Rule(l, 0, 1) != 0 {
		t.Error("numbers beyond")
	}
}

// The functions end without a panic, whatever they are given.
func TestAnything(t *testing.T) {
	r := rand.New(rand.NewPCG(16, 11))
	numbers := []int{0, 1, 2, -1, 3, 8, 14, 21, 63, 64, 76, 77, 255, 256, most, least, 1 << 32}
	number := func() int { return numbers[r.IntN(len(numbers))] }
	some := func() []int {
		var l []int
		for range r.IntN(4) {
			l = append(l, number())
		}
		return l
	}
	flag := func() bool { return r.IntN(2) == 0 }
	for range 3000 {
		var l []api.Event
		for range r.IntN(8) {
			// A fence has no negative Imm, of which the chapter could name the sets.
			i := api.Instr{Op: number(), Rd: number(), A: number(), B: number(), Imm: number() & most, Aq: flag(), Rl: flag()}
			e := api.Event{Hart: r.IntN(2), At: number(), PC: number(), Instr: i, Addr: number(), Known: flag(), Read: flag(),
				Write: flag(), In: number(), Out: number(), Ready: flag(), Src: api.Ref{Hart: number(), At: number()}, Wait: flag(),
				AddrOf: some(), DataOf: some(), CtrlOf: some()}
			l = append(l, e)
		}
		for range 20 {
			Holds(l, number(), number(), number())
			Rule(l, number(), number())
		}
		agrees(t, l)
		if t.Failed() {
			return
		}
	}
}
