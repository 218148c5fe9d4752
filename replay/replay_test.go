package replay

import (
	"fmt"
	"maps"
	"math"
	"math/rand/v2"
	"reflect"
	"slices"
	"strings"
	"testing"

	"spinnaker/alu"
	"spinnaker/api"
	"spinnaker/cand"
	"spinnaker/enc"
	"spinnaker/image"
	"spinnaker/isa"
	"spinnaker/text"
)

const (
	most  = math.MaxInt
	least = math.MinInt
)

// The places of code and data as numbers, so that the tests say what the document says.
const (
	codeBase = 65536
	dataBase = 16777216
)

var initial = api.Ref{Hart: -1}

// asm returns the instructions of these texts.
func asm(t testing.TB, texts ...string) []api.Instr {
	t.Helper()
	var l []api.Instr
	for _, s := range texts {
		i, e := text.Parse(s)
		if e != api.OK {
			t.Fatalf("%s: %d", s, e)
		}
		l = append(l, i)
	}
	return l
}

// imageOf returns an image with this code, four doublewords of data, and a hart for each
// entry; without entries, one hart that begins with word 0.
func imageOf(t testing.TB, code []api.Instr, entries ...int) api.Image {
	t.Helper()
	w, at, e := enc.All(code)
	if e != api.OK {
		t.Fatalf("instruction %d, %+v: %d", at, code[at], e)
	}
	if len(entries) == 0 {
		entries = []int{0}
	}
	return api.Image{Code: w, Data: make([]int, 4), Entries: entries}
}

// at returns the record of word i without anything else.
func at(i int) api.Rec {
	return api.Rec{PC: codeBase + 4*i, Src: initial}
}

func reading(i, val int) api.Rec {
	r := at(i)
	r.Val = val
	return r
}

func waiting(i int) api.Rec {
	r := at(i)
	r.Wait = true
	return r
}

func failing(i int) api.Rec {
	r := at(i)
	r.Fail = true
	return r
}

// path returns the records of these words without anything else.
func path(words ...int) []api.Rec {
	var l []api.Rec
	for _, i := range words {
		l = append(l, at(i))
	}
	return l
}

// line returns the records of the first n words.
func line(n int) []api.Rec {
	var l []api.Rec
	for i := range n {
		l = append(l, at(i))
	}
	return l
}

func candOf(harts ...[]api.Rec) api.Cand {
	return api.Cand{Harts: harts}
}

// The chapter, written down separately: the words of its sentences stand for themselves.

var doublewords = strings.Fields("ld sd lr.d sc.d amoswap.d amoadd.d amoxor.d amoand.d amoor.d amomin.d amomax.d amominu.d amomaxu.d")

var others = strings.Fields("lb lh lw lbu lhu lwu sb sh sw lr.w sc.w amoswap.w amoadd.w amoxor.w amoand.w amoor.w amomin.w amomax.w amominu.w amomaxu.w")

func isAmo(name string) bool {
	return strings.HasPrefix(name, "amo")
}

// reads and writes are the definition of these words.
func reads(name string) bool {
	return name == "ld" || name == "lr.d" || isAmo(name)
}

func writes(name string, r api.Rec) bool {
	return name == "sd" || isAmo(name) || name == "sc.d" && !r.Fail && !r.Wait
}

// content is what the model keeps of a register; at first, that is nothing.
type content struct {
	value   int
	unknown bool
	on      map[int]bool
}

func (c content) list() []int {
	return slices.Sorted(maps.Keys(c.on))
}

func joined(l ...content) map[int]bool {
	m := map[int]bool{}
	for _, c := range l {
		maps.Copy(m, c.on)
	}
	return m
}

// model replays a hart by the chapter's sentences.
type model struct {
	im      api.Image
	hart    int
	before  int // the number of events of the harts before
	done    int
	x       [32]content
	next    content
	control content
	tape    []int
}

func newModel(im api.Image, hart, before int) *model {
	return &model{im: im, hart: hart, before: before, next: content{value: codeBase + 4*im.Entries[hart]}}
}

// error is the list of errors of a record.
func (m *model) error(r api.Rec) api.Errno {
	if m.next.unknown {
		return api.ErrOrder
	}
	if r.PC != m.next.value {
		return api.ErrSame
	}
	i, ok := image.Fetch(m.im, r.PC)
	name := isa.Name(i.Op)
	if !ok || name == "" || name == "ebreak" {
		return api.ErrNone
	}
	if name == "ecall" {
		if m.x[17].unknown || m.x[10].unknown {
			return api.ErrForm
		}
		if m.x[17].value != 1 {
			return api.ErrNone
		}
	}
	holds := r.Val != 0 || r.Src != initial
	wide := slices.Contains(doublewords, name)
	if !wide && !slices.Contains(others, name) {
		if r.Wait || r.Fail || holds {
			return api.ErrForm
		}
		return api.OK
	}
	addr := m.x[i.A].value + i.Imm
	switch {
	case !wide:
		return api.ErrNone
	case m.x[i.A].unknown:
		return api.ErrForm
	case addr < dataBase || addr >= dataBase+8*len(m.im.Data) || addr%8 != 0:
		return api.ErrNone
	case r.Fail && name != "sc.d":
		return api.ErrForm
	case holds && (!reads(name) || r.Wait):
		return api.ErrForm
	case writes(name, r) && m.x[i.B].unknown && !r.Wait:
		return api.ErrForm
	}
	return api.OK
}

// event carries out a record without an error.
func (m *model) event(r api.Rec) api.Event {
	i, _ := image.Fetch(m.im, r.PC)
	name := isa.Name(i.Op)
	a, b := m.x[i.A], m.x[i.B]
	e := api.Event{Hart: m.hart, At: m.done, PC: r.PC, Src: r.Src, Wait: r.Wait, Instr: i, CtrlOf: m.control.list()}
	m.next = content{value: r.PC + 4}
	rd := content{}
	switch {
	case name == "lui":
		rd.value = i.Imm << 12
	case name == "auipc":
		rd.value = r.PC + i.Imm<<12
	case name == "jal":
		rd.value = r.PC + 4
		m.next.value = r.PC + i.Imm
	case name == "jalr":
		rd.value = r.PC + 4
		m.next = content{value: (a.value + i.Imm) &^ 1, unknown: a.unknown}
		m.control.on = joined(m.control, a)
	case name == "fence":
	case name == "ecall":
		m.tape = append(m.tape, m.x[10].value)
	case isa.Form(i.Op) == api.FormB:
		if taken, _ := alu.Taken(i.Op, a.value, b.value); taken {
			m.next.value = r.PC + i.Imm
		}
		m.next.unknown = a.unknown || b.unknown
		m.control.on = joined(m.control, a, b)
	case slices.Contains(doublewords, name):
		rd = m.access(&e, name, r)
	case isa.Form(i.Op) == api.FormR:
		v, _ := alu.Eval(i.Op, a.value, b.value)
		rd = content{value: v, unknown: a.unknown || b.unknown, on: joined(a, b)}
	default:
		v, _ := alu.Eval(i.Op, a.value, i.Imm)
		rd = content{value: v, unknown: a.unknown, on: joined(a)}
	}
	if rd.unknown {
		rd.value = 0
	}
	if isa.Form(i.Op) != api.FormS && isa.Form(i.Op) != api.FormB && i.Rd != 0 {
		m.x[i.Rd] = rd
	}
	m.done++
	return e
}

// access completes the event of an access, and returns what Rd gets.
func (m *model) access(e *api.Event, name string, r api.Rec) content {
	a, b := m.x[e.Instr.A], m.x[e.Instr.B]
	e.Read, e.Write = reads(name), writes(name, r)
	e.Addr, e.Known, e.AddrOf = a.value, true, a.list()
	if name == "ld" || name == "sd" {
		e.Addr += e.Instr.Imm
	}
	if e.Read {
		e.In = r.Val
	}
	if e.Write {
		e.Ready = !b.unknown && !(isAmo(name) && r.Wait)
		e.Out = b.value
		if isAmo(name) {
			e.Out, _ = alu.Amo(e.Instr.Op, r.Val, b.value)
		}
		if !e.Ready {
			e.Out = 0
		}
	}
	if name != "ld" && name != "lr.d" {
		e.DataOf = b.list()
	}
	this := map[int]bool{m.before + m.done: true}
	switch {
	case e.Read:
		return content{value: r.Val, unknown: r.Wait, on: this}
	case r.Fail:
		return content{value: 1}
	}
	return content{unknown: r.Wait, on: this}
}

// wantRun is P15.1.
func wantRun(im api.Image, c api.Cand) ([]api.Event, [][]int, api.Errno) {
	if e := image.Check(im); e != api.OK {
		return nil, nil, e
	}
	if len(im.Entries) != len(c.Harts) {
		return nil, nil, api.ErrRange
	}
	if e := cand.Check(c); e != api.OK {
		return nil, nil, e
	}
	var events []api.Event
	var tapes [][]int
	for n, records := range c.Harts {
		m := newModel(im, n, len(events))
		for _, r := range records {
			if e := m.error(r); e != api.OK {
				return nil, nil, e
			}
			events = append(events, m.event(r))
		}
		tapes = append(tapes, m.tape)
	}
	return events, tapes, api.OK
}

func sameEvent(a, b api.Event) bool {
	lists := slices.Equal(a.AddrOf, b.AddrOf) && slices.Equal(a.DataOf, b.DataOf) && slices.Equal(a.CtrlOf, b.CtrlOf)
	a.AddrOf, a.DataOf, a.CtrlOf = nil, nil, nil
	b.AddrOf, b.DataOf, b.CtrlOf = nil, nil, nil
	return lists && reflect.DeepEqual(a, b)
}

func sameTapes(a, b [][]int) bool {
	return slices.EqualFunc(a, b, slices.Equal[[]int])
}

// agrees tests that Run and Tapes return what the model does, and returns that.
func agrees(t testing.TB, what string, im api.Image, c api.Cand) ([]api.Event, [][]int, api.Errno) {
	t.Helper()
	want, wantTapes, wantE := wantRun(im, c)
	events, e := Run(im, c)
	if e != wantE || len(events) != len(want) {
		t.Fatalf("%s: Run: %d events, %d; want %d events, %d", what, len(events), e, len(want), wantE)
	}
	for n, v := range events {
		if !sameEvent(v, want[n]) {
			t.Fatalf("%s: event %d: %+v; want %+v", what, n, v, want[n])
		}
	}
	tapes, e := Tapes(im, c)
	if e != wantE || !sameTapes(tapes, wantTapes) {
		t.Fatalf("%s: Tapes: %v, %d; want %v, %d", what, tapes, e, wantTapes, wantE)
	}
	return events, tapes, e
}

// run returns the events of a candidate without errors.
func run(t testing.TB, what string, im api.Image, c api.Cand) []api.Event {
	t.Helper()
	events, _, e := agrees(t, what, im, c)
	if e != api.OK {
		t.Fatalf("%s: %d", what, e)
	}
	return events
}

// fails tests that Run and Tapes return this error, and nothing beside it.
func fails(t testing.TB, what string, im api.Image, c api.Cand, want api.Errno) {
	t.Helper()
	agrees(t, what, im, c)
	if l, e := Run(im, c); l != nil || e != want {
		t.Errorf("%s: Run: %v, %d; want %d", what, l, e, want)
	}
	if l, e := Tapes(im, c); l != nil || e != want {
		t.Errorf("%s: Tapes: %v, %d; want %d", what, l, e, want)
	}
}

// state is what a register holds.
type state struct {
	value int
	known bool
	from  []int
}

func sameState(a, b state) bool {
	return a.value == b.value && a.known == b.known && slices.Equal(a.from, b.from)
}

// after returns what the registers hold after a hart recorded l of a program that does
// not use x31, and what control depends on. Each register is shown by a store that
// waits, which is there behind the program.
func after(t testing.TB, what string, program []api.Instr, l []api.Rec) ([31]state, []int) {
	t.Helper()
	n := len(program)
	code := append(slices.Clone(program), asm(t, "lui x31, 4096")...)
	l = append(slices.Clone(l), at(n))
	var states [31]state
	for r := range states {
		code = append(code, asm(t, fmt.Sprintf("sd x%d, 0(x31)", r))...)
		l = append(l, waiting(n+1+r))
	}
	events := run(t, what, imageOf(t, code), candOf(l))
	events = events[len(events)-len(states):]
	for r, e := range events {
		states[r] = state{e.Out, e.Ready, e.DataOf}
	}
	return states, events[0].CtrlOf
}

// holds tests what register r holds after a program.
func holds(t testing.TB, what string, program []api.Instr, l []api.Rec, r int, want state) {
	t.Helper()
	states, _ := after(t, what, program, l)
	if !sameState(states[r], want) {
		t.Errorf("%s: x%d: %+v; want %+v", what, r, states[r], want)
	}
}

// numbers of all kinds.
var edges = []int{0, 1, -1, 2, -2, 31, 32, 63, 64, 2047, -2048, dataBase, 1<<31 - 1, -1 << 31, 1 << 31, 1 << 32, 0x123456789abcdef, most, least, least + 1}

// The chapter's example.
func TestExample(t *testing.T) {
	// Without the lui, x4 is 0, which is no address of data.
	im := imageOf(t, asm(t, "lui x4, 4096", "ld x5, 0(x4)", "sd x5, 8(x4)"))
	l := line(3)
	l[1].Val = 9
	events := run(t, "example", im, candOf(l))
	want := []api.Event{
		{At: 0, PC: 65536, Instr: api.Instr{Op: api.OpLui, Rd: 4, Imm: 4096}, Src: initial},
		{At: 1, PC: 65540, Instr: api.Instr{Op: api.OpLd, Rd: 5, A: 4}, Src: initial, Addr: 1 << 24, Known: true, Read: true, In: 9},
		{At: 2, PC: 65544, Instr: api.Instr{Op: api.OpSd, A: 4, B: 5, Imm: 8}, Src: initial, Addr: 1<<24 + 8, Known: true, Write: true, Out: 9, Ready: true, DataOf: []int{1}},
	}
	for n, e := range events {
		if !sameEvent(e, want[n]) {
			t.Errorf("event %d: %+v; want %+v", n, e, want[n])
		}
	}
}

// What all events have.

func TestEventsOfRecords(t *testing.T) {
	code := asm(t, "lui x4, 4096", "ld x5, 0(x4)", "addi x6, x5, 1", "lui x4, 4096", "lr.d x5, (x4)")
	im := imageOf(t, code, 3, 0, 0)
	a, b := path(3, 4), path(0, 1, 2)
	a[1].Val, a[1].Src = -5, api.Ref{Hart: 2, At: 1}
	b[1].Wait = true
	c := candOf(a, nil, b)
	events := run(t, "three harts", im, c)
	if len(events) != 5 {
		t.Fatal(len(events))
	}
	for n, want := range []api.Event{
		{Hart: 0, At: 0, PC: 65548, Src: initial, Instr: code[3]},
		{Hart: 0, At: 1, PC: 65552, Src: api.Ref{Hart: 2, At: 1}, Instr: code[4], Addr: 1 << 24, Known: true, Read: true, In: -5},
		{Hart: 2, At: 0, PC: 65536, Src: initial, Instr: code[0]},
		{Hart: 2, At: 1, PC: 65540, Src: initial, Wait: true, Instr: code[1], Addr: 1 << 24, Known: true, Read: true},
		{Hart: 2, At: 2, PC: 65544, Src: initial, Instr: code[2]},
	} {
		if !sameEvent(events[n], want) {
			t.Errorf("event %d: %+v; want %+v", n, events[n], want)
		}
	}
}

func TestNoRecords(t *testing.T) {
	im := imageOf(t, asm(t, "ebreak"), 0, 0)
	for what, c := range map[string]api.Cand{"nil": candOf(nil, nil), "empty": candOf([]api.Rec{}, []api.Rec{})} {
		events, tapes, e := agrees(t, what, im, c)
		if e != api.OK || len(events) != 0 || len(tapes) != 2 {
			t.Errorf("%s: %v, %v, %d", what, events, tapes, e)
		}
	}
}

// Registers at first, and x0.

func TestRegistersAtFirst(t *testing.T) {
	states, control := after(t, "nothing", nil, nil)
	for r, s := range states {
		if !sameState(s, state{known: true}) {
			t.Errorf("x%d: %+v", r, s)
		}
	}
	if len(control) != 0 {
		t.Error(control)
	}
}

func TestEachRegister(t *testing.T) {
	for r := range 31 {
		// Register r is set, and then no other one holds that.
		states, _ := after(t, "set", []api.Instr{{Op: api.OpAddi, Rd: r, Imm: 7}}, line(1))
		for s := range states {
			want := state{known: true}
			if s == r && r != 0 {
				want.value = 7
			}
			if !sameState(states[s], want) {
				t.Errorf("addi x%d: x%d: %+v", r, s, states[s])
			}
		}
	}
}

func TestRegisterZeroStays(t *testing.T) {
	// x5 is not known, and x6 is where word 2 stands.
	start := asm(t, "lui x4, 4096", "ld x5, 0(x4)", "auipc x6, 0")
	for s, l := range map[string][]api.Rec{
		"lui x0, 1":              {at(3)},
		"auipc x0, 1":            {at(3)},
		"addi x0, x5, 3":         {at(3)},
		"add x0, x5, x4":         {at(3)},
		"jal x0, 4":              {at(3)},
		"jalr x0, 8(x6)":         {at(3)},
		"ld x0, 0(x4)":           {reading(3, 5), waiting(3)},
		"lr.d x0, (x4)":          {reading(3, 5), waiting(3)},
		"amoadd.d x0, x4, (x4)":  {reading(3, 5), waiting(3)},
		"sc.d x0, x4, (x4)":      {at(3), waiting(3), failing(3)},
		"amoswap.d x0, x5, (x4)": {waiting(3)},
	} {
		for _, r := range l {
			holds(t, s, append(start, asm(t, s)...), []api.Rec{at(0), waiting(1), at(2), r}, 0, state{known: true})
		}
	}
}

// lui, auipc, and the operations from addi to remuw.

func TestUpper(t *testing.T) {
	for _, imm := range []int{0, 1, -1, 4096, -4096, 1<<19 - 1, -1 << 19} {
		// x5 is not known ahead.
		start := asm(t, "lui x4, 4096", "ld x5, 0(x4)")
		l := []api.Rec{at(0), waiting(1), at(2)}
		holds(t, "lui", append(start, api.Instr{Op: api.OpLui, Rd: 5, Imm: imm}), l, 5, state{imm * 4096, true, nil})
		holds(t, "auipc", append(start, api.Instr{Op: api.OpAuipc, Rd: 5, Imm: imm}), l, 5, state{65544 + imm*4096, true, nil})
	}
}

// loaded returns a program that loads x5 and x6 and then does i, and its records, in
// which the loads with the numbers in wait wait.
func loaded(t testing.TB, i api.Instr, v, w int, wait ...int) ([]api.Instr, []api.Rec) {
	program := append(asm(t, "lui x4, 4096", "ld x5, 0(x4)", "ld x6, 8(x4)"), i)
	l := []api.Rec{at(0), reading(1, v), reading(2, w), at(3)}
	for _, n := range wait {
		l[n] = waiting(n)
	}
	return program, l
}

func TestComputeRegisters(t *testing.T) {
	for op := api.OpAdd; op <= api.OpRemuw; op++ {
		i := api.Instr{Op: op, Rd: 7, A: 5, B: 6}
		for n, v := range edges {
			for _, w := range []int{edges[(n+7)%len(edges)], edges[(n+12)%len(edges)], v, 0} {
				program, l := loaded(t, i, v, w)
				want, _ := alu.Eval(op, v, w)
				holds(t, isa.Name(op), program, l, 7, state{want, true, []int{1, 2}})
			}
		}
		for _, wait := range [][]int{{1}, {2}, {1, 2}} {
			program, l := loaded(t, i, 7, 9, wait...)
			holds(t, isa.Name(op), program, l, 7, state{0, false, []int{1, 2}})
		}
		seven, _ := alu.Eval(op, 7, 7)
		program, l := loaded(t, api.Instr{Op: op, Rd: 5, A: 5, B: 5}, 7, 9)
		holds(t, isa.Name(op), program, l, 5, state{seven, true, []int{1}})
		left, _ := alu.Eval(op, 7, 0)
		program, l = loaded(t, api.Instr{Op: op, Rd: 6, A: 5}, 7, 9)
		holds(t, isa.Name(op), program, l, 6, state{left, true, []int{1}})
		right, _ := alu.Eval(op, 0, 9)
		program, l = loaded(t, api.Instr{Op: op, Rd: 6, B: 6}, 7, 9)
		holds(t, isa.Name(op), program, l, 6, state{right, true, []int{2}})
		none, _ := alu.Eval(op, 0, 0)
		program, l = loaded(t, api.Instr{Op: op, Rd: 6}, 7, 9, 1, 2)
		holds(t, isa.Name(op), program, l, 6, state{none, true, nil})
	}
}

func TestComputeImmediates(t *testing.T) {
	for op := api.OpAddi; op <= api.OpSraiw; op++ {
		imms := []int{0, 1, 5, 31}
		if isa.Form(op) == api.FormI {
			imms = []int{0, 1, -1, 6, 2047, -2048}
		}
		for _, imm := range imms {
			i := api.Instr{Op: op, Rd: 7, A: 5, Imm: imm}
			for _, v := range edges {
				program, l := loaded(t, i, v, 9)
				want, _ := alu.Eval(op, v, imm)
				holds(t, isa.Name(op), program, l, 7, state{want, true, []int{1}})
			}
			// What x6 holds does not matter, nor what the instruction's own register did.
			program, l := loaded(t, i, 7, 9, 2)
			want, _ := alu.Eval(op, 7, imm)
			holds(t, isa.Name(op), program, l, 7, state{want, true, []int{1}})
			program, l = loaded(t, api.Instr{Op: op, Rd: 6, Imm: imm}, 7, 9, 2)
			want, _ = alu.Eval(op, 0, imm)
			holds(t, isa.Name(op), program, l, 6, state{want, true, nil})
			program, l = loaded(t, i, 7, 9, 1)
			holds(t, isa.Name(op), program, l, 7, state{0, false, []int{1}})
		}
	}
}

// The upper limit of the shifts by numbers.
func TestComputeShifts(t *testing.T) {
	for _, op := range []int{api.OpSlli, api.OpSrli, api.OpSrai} {
		for _, imm := range []int{32, 63} {
			program, l := loaded(t, api.Instr{Op: op, Rd: 7, A: 5, Imm: imm}, -3, 9)
			want, _ := alu.Eval(op, -3, imm)
			holds(t, isa.Name(op), program, l, 7, state{want, true, []int{1}})
		}
	}
}

// What depends on several events depends on all of them, through any number of
// computations, until the register is set anew.
func TestComputeChains(t *testing.T) {
	program := asm(t, "lui x4, 4096", "ld x5, 0(x4)", "ld x6, 8(x4)", "add x7, x5, x6", "lr.d x8, (x4)", "sub x7, x7, x8", "addi x9, x7, 1", "ld x5, 0(x4)", "addi x5, x0, 2", "andi x6, x6, 0")
	l := line(10)
	l[1].Val, l[2].Val, l[4].Val, l[7].Val = 10, 20, 3, 77
	states, _ := after(t, "chain", program, l)
	for r, want := range map[int]state{
		5: {2, true, nil},
		6: {0, true, []int{2}},
		7: {27, true, []int{1, 2, 4}},
		8: {3, true, []int{4}},
		9: {28, true, []int{1, 2, 4}},
	} {
		if !sameState(states[r], want) {
			t.Errorf("x%d: %+v; want %+v", r, states[r], want)
		}
	}
	l[2] = waiting(2)
	states, _ = after(t, "chain", program, l)
	for r, want := range map[int]state{
		5: {2, true, nil},
		6: {0, false, []int{2}},
		7: {0, false, []int{1, 2, 4}},
		9: {0, false, []int{1, 2, 4}},
	} {
		if !sameState(states[r], want) {
			t.Errorf("x2 waits: x%d: %+v; want %+v", r, states[r], want)
		}
	}
}

// Jumps, branches, and control.

func TestJal(t *testing.T) {
	// Forward over two words, backward over one, and on to the end.
	program := asm(t, "jal x1, 12", "addi x6, x0, 1", "jal x3, 8", "jal x2, -4")
	states, control := after(t, "jal", program, path(0, 3, 2))
	for r, want := range []int{0, 65540, 65552, 65548, 0, 0, 0} {
		if !sameState(states[r], state{want, true, nil}) {
			t.Errorf("x%d: %+v; want %d", r, states[r], want)
		}
	}
	if len(control) != 0 {
		t.Error(control)
	}
	im := imageOf(t, program)
	for i := range 5 {
		if i != 3 {
			fails(t, "jal elsewhere", im, candOf(path(0, i)), api.ErrSame)
		}
	}
	// A jump may leave the code; then no record follows.
	for _, far := range []int{16, -4, 1<<20 - 2, -1 << 20, 2} {
		im := imageOf(t, append([]api.Instr{{Op: api.OpJal, Rd: 1, Imm: far}}, program[1:]...))
		run(t, "far", im, candOf(path(0)))
		r := at(0)
		r.PC += far
		fails(t, "far", im, candOf([]api.Rec{at(0), r}), api.ErrNone)
	}
}

func TestJalr(t *testing.T) {
	// x5 is loaded, so that any target can be tried.
	for _, rd := range []int{0, 1, 5} {
		for _, imm := range []int{0, 1, 2, 3, -1, -4, 4, 7, 2047, -2048} {
			for _, odd := range []int{0, 1} {
				i := api.Instr{Op: api.OpJalr, Rd: rd, A: 5, Imm: imm}
				program := append(asm(t, "lui x4, 4096", "ld x5, 0(x4)"), i)
				// The three words above and the end, which is at 65548.
				target := 65548 - imm + odd
				l := []api.Rec{at(0), reading(1, target), at(2)}
				states, control := after(t, "jalr", program, l)
				wants := map[int]state{0: {0, true, nil}, 1: {0, true, nil}, 5: {target, true, []int{1}}}
				if rd != 0 {
					wants[rd] = state{65548, true, nil}
				}
				for r, want := range wants {
					if !sameState(states[r], want) {
						t.Errorf("jalr x%d, %d: x%d: %+v; want %+v", rd, imm, r, states[r], want)
					}
				}
				if !slices.Equal(control, []int{1}) {
					t.Errorf("jalr x%d, %d: control %v", rd, imm, control)
				}
			}
		}
	}
}

func TestJalrTargets(t *testing.T) {
	im := imageOf(t, asm(t, "lui x4, 4096", "ld x5, 0(x4)", "jalr x1, 1(x5)", "fence rw, rw"))
	run := func(target, pc int) api.Cand {
		return candOf([]api.Rec{at(0), reading(1, target), at(2), {PC: pc, Src: initial}})
	}
	for target, pc := range map[int]int{
		65547: 65548, 65548: 65548, 65549: 65550, 65550: 65550,
		most: least, least: least, -1: 0, -2: -2, 0: 0, most - 1: most - 1, -3: -2, least + 1: least + 2,
	} {
		if pc != 65548 {
			fails(t, "target without code", im, run(target, pc), api.ErrNone)
		} else if _, _, e := agrees(t, "target", im, run(target, pc)); e != api.OK {
			t.Errorf("%d: %d", target, e)
		}
		for _, off := range []int{1, -1, 2, 4, 1 << 32, least} {
			fails(t, "another target", im, run(target, pc+off), api.ErrSame)
		}
	}
	// x0 and what was computed are known; what waits is not.
	zero := imageOf(t, asm(t, "jalr x1, 0(x0)"))
	fails(t, "x0", zero, candOf([]api.Rec{at(0), {PC: 0, Src: initial}}), api.ErrNone)
	unknown := candOf([]api.Rec{at(0), waiting(1), at(2)})
	if _, _, e := agrees(t, "unknown target", im, unknown); e != api.OK {
		t.Errorf("unknown target that nothing follows: %d", e)
	}
	for _, pc := range []int{65548, 65540, 0, 1, 4} {
		c := candOf([]api.Rec{at(0), waiting(1), at(2), {PC: pc, Src: initial}})
		fails(t, "unknown target", im, c, api.ErrOrder)
	}
}

// Operands that tell the six branches apart.
var operands = [][2]int{{0, 0}, {1, 1}, {-1, -1}, {0, 1}, {1, 0}, {-1, 0}, {0, -1}, {-1, 1}, {1, -1}, {least, most}, {most, least}, {least, least}}

func TestBranches(t *testing.T) {
	for op := api.OpBeq; op <= api.OpBgeu; op++ {
		for _, v := range operands {
			is := map[int]bool{
				api.OpBeq: v[0] == v[1], api.OpBne: v[0] != v[1],
				api.OpBlt: v[0] < v[1], api.OpBge: v[0] >= v[1],
				api.OpBltu: uint(v[0]) < uint(v[1]), api.OpBgeu: uint(v[0]) >= uint(v[1]),
			}[op]
			program, l := loaded(t, api.Instr{Op: op, A: 5, B: 6, Imm: 8}, v[0], v[1])
			program = append(program, asm(t, "fence rw, rw", "fence rw, rw")...)
			im := imageOf(t, program)
			next, wrong := 4, 5
			if is {
				next, wrong = 5, 4
			}
			events := run(t, isa.Name(op), im, candOf(append(l, at(next))))
			if len(events[3].CtrlOf) != 0 || !slices.Equal(events[4].CtrlOf, []int{1, 2}) {
				t.Errorf("%s: control %v, %v", isa.Name(op), events[3].CtrlOf, events[4].CtrlOf)
			}
			fails(t, isa.Name(op), im, candOf(append(l, at(wrong))), api.ErrSame)
			fails(t, isa.Name(op), im, candOf(append(l, at(3))), api.ErrSame)
		}
	}
}

func TestBranchesUnknown(t *testing.T) {
	for op := api.OpBeq; op <= api.OpBgeu; op++ {
		for _, wait := range [][]int{{1}, {2}, {1, 2}} {
			for _, imm := range []int{4, 8} {
				program, l := loaded(t, api.Instr{Op: op, A: 5, B: 6, Imm: imm}, 0, 0, wait...)
				program = append(program, asm(t, "fence rw, rw", "fence rw, rw")...)
				im := imageOf(t, program)
				run(t, isa.Name(op), im, candOf(l))
				for i := range 6 {
					fails(t, isa.Name(op), im, candOf(append(l, at(i))), api.ErrOrder)
				}
			}
		}
		// A register is unknown even against itself.
		program, l := loaded(t, api.Instr{Op: op, A: 5, B: 5, Imm: 4}, 0, 0, 1)
		program = append(program, asm(t, "fence rw, rw")...)
		fails(t, isa.Name(op), imageOf(t, program), candOf(append(l, at(4))), api.ErrOrder)
		// What is not asked may be unknown.
		program, l = loaded(t, api.Instr{Op: op, A: 5, Imm: 4}, 3, 0, 2)
		program = append(program, asm(t, "fence rw, rw")...)
		run(t, isa.Name(op), imageOf(t, program), candOf(append(l, at(4))))
	}
}

func TestBranchesBackward(t *testing.T) {
	// A loop of three rounds, in which x5 is counted down.
	program := asm(t, "addi x5, x0, 3", "addi x5, x5, -1", "bne x5, x0, -4")
	holds(t, "loop", program, path(0, 1, 2, 1, 2, 1, 2), 5, state{0, true, nil})
	im := imageOf(t, append(program, asm(t, "fence r, r")...))
	fails(t, "loop left early", im, candOf(path(0, 1, 2, 1, 2, 3)), api.ErrSame)
	fails(t, "loop done again", im, candOf(path(0, 1, 2, 1, 2, 1, 2, 1)), api.ErrSame)
	far := []api.Instr{{Op: api.OpBeq, Imm: -4096}}
	fails(t, "far", imageOf(t, far), candOf([]api.Rec{at(0), {PC: 65536 - 4096, Src: initial}}), api.ErrNone)
	far[0].Imm = 4094
	fails(t, "far", imageOf(t, far), candOf([]api.Rec{at(0), {PC: 65536 + 4094, Src: initial}}), api.ErrNone)
}

// Control only grows, whatever becomes of the registers.
func TestControl(t *testing.T) {
	program := asm(t,
		"lui x4, 4096", "ld x5, 0(x4)", "ld x6, 0(x4)", "ld x7, 0(x4)",
		"beq x5, x0, 4", "addi x5, x0, 0", "beq x0, x0, 4", "beq x5, x0, 4",
		"auipc x8, 0", "add x8, x8, x6", "jalr x1, 12(x8)", "jal x1, 4",
		"bne x7, x5, 4", "lui x9, 5")
	events := run(t, "control", imageOf(t, program), candOf(line(14)))
	for n, e := range events {
		var want []int
		switch {
		case n > 12:
			want = []int{1, 2, 3}
		case n > 10:
			want = []int{1, 2}
		case n > 4:
			want = []int{1}
		}
		if !slices.Equal(e.CtrlOf, want) {
			t.Errorf("event %d: control %v; want %v", n, e.CtrlOf, want)
		}
		if len(e.DataOf) != 0 || len(e.AddrOf) != 0 {
			t.Errorf("event %d: %+v", n, e)
		}
	}
	// Control does not go into registers.
	states, _ := after(t, "control", program, line(14))
	for _, r := range []int{1, 5, 9} {
		if len(states[r].from) != 0 {
			t.Errorf("x%d: %+v", r, states[r])
		}
	}
}

// Fences and prints.

func TestFence(t *testing.T) {
	for _, imm := range []int{0, 1, 51, 255} {
		program, l := loaded(t, api.Instr{Op: api.OpFence, Imm: imm}, 5, 6)
		states, control := after(t, "fence", program, l)
		for r, want := range map[int]state{0: {0, true, nil}, 4: {dataBase, true, nil}, 5: {5, true, []int{1}}, 6: {6, true, []int{2}}, 7: {0, true, nil}} {
			if !sameState(states[r], want) {
				t.Errorf("fence %d: x%d: %+v", imm, r, states[r])
			}
		}
		if len(control) != 0 {
			t.Errorf("fence %d: control %v", imm, control)
		}
	}
}

func TestTapes(t *testing.T) {
	code := asm(t,
		"addi x17, x0, 1", "addi x10, x0, -7", "ecall", "ecall", "addi x10, x10, 1", "ecall",
		"lui x4, 4096", "ld x10, 0(x4)", "ld x17, 8(x4)", "ecall")
	im := imageOf(t, code, 6, 0, 0, 0)
	b := path(6, 7, 8, 9)
	b[1].Val, b[2].Val = least, 1
	c := candOf(b, path(0, 1), path(0, 1, 2, 3, 4, 5), nil)
	_, tapes, e := agrees(t, "tapes", im, c)
	if e != api.OK || !sameTapes(tapes, [][]int{{least}, {}, {-7, -7, -6}, {}}) {
		t.Errorf("%v, %d", tapes, e)
	}
	// An ecall changes no register, and control does not depend on what it prints.
	events := run(t, "tapes", im, candOf(b, nil, nil, nil))
	if x := events[3]; x.Read || x.Write || x.Known || x.DataOf != nil || x.AddrOf != nil || x.CtrlOf != nil || x.Instr.Op != api.OpEcall {
		t.Errorf("%+v", x)
	}
	states, control := after(t, "ecall", code[:4], line(4))
	if !sameState(states[10], state{-7, true, nil}) || !sameState(states[17], state{1, true, nil}) || control != nil {
		t.Error(states, control)
	}
}

// Accesses.

// wide returns the instruction of an access with x7 as Rd, x5 as A, and x6 as B.
func wide(t testing.TB, name string) api.Instr {
	op, ok := isa.Find(name)
	if !ok {
		t.Fatal(name)
	}
	i := api.Instr{Op: op, Rd: 7, A: 5, B: 6}
	switch name {
	case "ld", "lr.d", "lb", "lh", "lw", "lbu", "lhu", "lwu", "lr.w":
		i.B = 0
	case "sd", "sb", "sh", "sw":
		i.Rd = 0
	}
	return i
}

// accessed returns a program that loads x5 and x6 and then does the access that this name
// stands for at the second doubleword, and its records, which end with r.
func accessed(t testing.TB, name string, w int, r api.Rec) (api.Image, []api.Rec) {
	i := wide(t, name)
	program, l := loaded(t, i, dataBase+8, w)
	r.PC = l[3].PC
	l[3] = r
	return imageOf(t, program), l
}

func TestLoads(t *testing.T) {
	for _, name := range []string{"ld", "lr.d"} {
		for _, v := range edges {
			for _, src := range []api.Ref{initial, {Hart: 0, At: 2}, {Hart: 0, At: 0}, {Hart: 0, At: 3}} {
				im, l := accessed(t, name, 9, api.Rec{Val: v, Src: src})
				e := run(t, name, im, candOf(l))[3]
				want := api.Event{At: 3, PC: 65548, Instr: wide(t, name), Addr: dataBase + 8, Known: true, Read: true, In: v, Src: src, AddrOf: []int{1}}
				if !sameEvent(e, want) {
					t.Errorf("%s: %+v; want %+v", name, e, want)
				}
			}
			program, l := loaded(t, wide(t, name), dataBase+8, 9)
			l[3].Val = v
			holds(t, name, program, l, 7, state{v, true, []int{3}})
		}
		im, l := accessed(t, name, 9, waiting(0))
		e := run(t, name, im, candOf(l))[3]
		want := api.Event{At: 3, PC: 65548, Instr: wide(t, name), Addr: dataBase + 8, Known: true, Read: true, Src: initial, Wait: true, AddrOf: []int{1}}
		if !sameEvent(e, want) {
			t.Errorf("%s: %+v; want %+v", name, e, want)
		}
		program, l := loaded(t, wide(t, name), dataBase+8, 9)
		l[3].Wait = true
		holds(t, name, program, l, 7, state{0, false, []int{3}})
	}
}

func TestStores(t *testing.T) {
	for _, v := range edges {
		for _, wait := range []bool{false, true} {
			im, l := accessed(t, "sd", v, api.Rec{Src: initial, Wait: wait})
			e := run(t, "sd", im, candOf(l))[3]
			want := api.Event{At: 3, PC: 65548, Instr: wide(t, "sd"), Addr: dataBase + 8, Known: true, Write: true, Out: v, Ready: true, Src: initial, Wait: wait, AddrOf: []int{1}, DataOf: []int{2}}
			if !sameEvent(e, want) {
				t.Errorf("sd: %+v; want %+v", e, want)
			}
		}
	}
	// Only a store that waits may have a value that is not known.
	im, l := accessed(t, "sd", 9, waiting(0))
	l[2] = waiting(2)
	e := run(t, "sd", im, candOf(l))[3]
	want := api.Event{At: 3, PC: 65548, Instr: wide(t, "sd"), Addr: dataBase + 8, Known: true, Write: true, Src: initial, Wait: true, AddrOf: []int{1}, DataOf: []int{2}}
	if !sameEvent(e, want) {
		t.Errorf("sd: %+v; want %+v", e, want)
	}
	l[3].Wait = false
	fails(t, "sd", im, candOf(l), api.ErrForm)
	// A store sets no register.
	program, l := loaded(t, wide(t, "sd"), dataBase, 9)
	states, _ := after(t, "sd", program, l)
	for r, want := range map[int]state{0: {0, true, nil}, 5: {dataBase, true, []int{1}}, 6: {9, true, []int{2}}, 7: {0, true, nil}} {
		if !sameState(states[r], want) {
			t.Errorf("sd: x%d: %+v", r, states[r])
		}
	}
}

func TestConditionals(t *testing.T) {
	for _, c := range []struct {
		what     string
		r        api.Rec
		write    bool
		rd       state
		mayGuess bool // B need not be known
	}{
		{"done", at(3), true, state{0, true, []int{3}}, false},
		{"waits", waiting(3), false, state{0, false, []int{3}}, true},
		{"failed", failing(3), false, state{1, true, nil}, true},
	} {
		for _, v := range edges {
			im, l := accessed(t, "sc.d", v, c.r)
			e := run(t, c.what, im, candOf(l))[3]
			want := api.Event{At: 3, PC: 65548, Instr: wide(t, "sc.d"), Addr: dataBase + 8, Known: true, Write: c.write, Ready: c.write, Src: initial, Wait: c.r.Wait, AddrOf: []int{1}, DataOf: []int{2}}
			if c.write {
				want.Out = v
			}
			if !sameEvent(e, want) {
				t.Errorf("%s: %+v; want %+v", c.what, e, want)
			}
		}
		program, l := loaded(t, wide(t, "sc.d"), dataBase+8, 9)
		l[3] = c.r
		holds(t, c.what, program, l, 7, c.rd)
		im, l := accessed(t, "sc.d", 9, c.r)
		l[2] = waiting(2)
		if !c.mayGuess {
			fails(t, c.what, im, candOf(l), api.ErrForm)
			continue
		}
		if e := run(t, c.what, im, candOf(l))[3]; e.Out != 0 || e.Ready || e.Write || !slices.Equal(e.DataOf, []int{2}) {
			t.Errorf("%s: %+v", c.what, e)
		}
	}
}

func TestAmos(t *testing.T) {
	for op := api.OpAmoswapD; op <= api.OpAmomaxuD; op++ {
		name := isa.Name(op)
		for n, v := range edges {
			for _, w := range []int{edges[(n+5)%len(edges)], edges[(n+11)%len(edges)], v} {
				src := api.Ref{Hart: 0, At: n % 4}
				im, l := accessed(t, name, w, api.Rec{Val: v, Src: src})
				e := run(t, name, im, candOf(l))[3]
				out, _ := alu.Amo(op, v, w)
				want := api.Event{At: 3, PC: 65548, Instr: wide(t, name), Addr: dataBase + 8, Known: true, Read: true, Write: true, In: v, Out: out, Ready: true, Src: src, AddrOf: []int{1}, DataOf: []int{2}}
				if !sameEvent(e, want) {
					t.Errorf("%s: %+v; want %+v", name, e, want)
				}
			}
			program, l := loaded(t, wide(t, name), dataBase+8, 9)
			l[3].Val = v
			holds(t, name, program, l, 7, state{v, true, []int{3}})
		}
		for _, guess := range []bool{false, true} {
			im, l := accessed(t, name, -9, waiting(0))
			if guess {
				l[2] = waiting(2)
			}
			e := run(t, name, im, candOf(l))[3]
			want := api.Event{At: 3, PC: 65548, Instr: wide(t, name), Addr: dataBase + 8, Known: true, Read: true, Write: true, Src: initial, Wait: true, AddrOf: []int{1}, DataOf: []int{2}}
			if !sameEvent(e, want) {
				t.Errorf("%s: %+v; want %+v", name, e, want)
			}
		}
		program, l := loaded(t, wide(t, name), dataBase+8, 9)
		l[3].Wait = true
		holds(t, name, program, l, 7, state{0, false, []int{3}})
		im, l := accessed(t, name, 9, reading(0, 4))
		l[2] = waiting(2)
		fails(t, name, im, candOf(l), api.ErrForm)
	}
}

// An access may have its own register as address or data: both are what they were before.
func TestAccessOwnRegister(t *testing.T) {
	for _, s := range []string{"ld x5, 0(x5)", "lr.d x5, (x5)", "sc.d x5, x6, (x5)", "sc.d x6, x6, (x5)", "amoadd.d x5, x6, (x5)", "amoadd.d x6, x6, (x5)", "amoadd.d x5, x5, (x5)", "sd x5, 0(x5)"} {
		i := asm(t, s)[0]
		program, l := loaded(t, i, dataBase, 9)
		e := run(t, s, imageOf(t, program), candOf(l))[3]
		if e.Addr != dataBase || !slices.Equal(e.AddrOf, []int{1}) || i.B == 6 && !slices.Equal(e.DataOf, []int{2}) || i.B == 5 && !slices.Equal(e.DataOf, []int{1}) {
			t.Errorf("%s: %+v", s, e)
		}
	}
}

func TestOrderedAccesses(t *testing.T) {
	for _, s := range []string{"lr.d.aq x5, (x4)", "lr.d.aqrl x5, (x4)", "sc.d.rl x5, x4, (x4)", "amoswap.d.aqrl x5, x4, (x4)", "amomax.d.aq x5, x4, (x4)"} {
		program := asm(t, "lui x4, 4096", s)
		e := run(t, s, imageOf(t, program), candOf(line(2)))[1]
		if e.Instr != program[1] || e.Addr != dataBase || !e.Known {
			t.Errorf("%s: %+v", s, e)
		}
	}
}

func TestAddresses(t *testing.T) {
	for _, name := range doublewords {
		for _, imm := range []int{0, 8, -8, 24, 2040, -2048, 1, 4, -1} {
			i := wide(t, name)
			if name == "ld" || name == "sd" {
				i.Imm = imm
			} else if imm != 0 {
				continue
			}
			for _, addr := range []int{dataBase, dataBase + 8, dataBase + 24, dataBase + 32, dataBase - 8, dataBase + 1, dataBase + 4, dataBase + 7, 0, -8, codeBase, least, most, -dataBase, dataBase + 1<<32, dataBase * 2} {
				program, l := loaded(t, i, addr-i.Imm, 9)
				is := slices.Contains([]int{dataBase, dataBase + 8, dataBase + 24}, addr)
				if !is {
					fails(t, name, imageOf(t, program), candOf(l), api.ErrNone)
				} else if e := run(t, name, imageOf(t, program), candOf(l))[3]; e.Addr != addr {
					t.Errorf("%s, %d: %+v", name, imm, e)
				}
			}
		}
	}
	// Without data, there is no address.
	im := imageOf(t, asm(t, "lui x4, 4096", "ld x5, 0(x4)"))
	im.Data = nil
	fails(t, "no data", im, candOf(line(2)), api.ErrNone)
	// What data holds does not matter.
	im.Data = []int{77}
	if e := run(t, "other data", im, candOf(line(2)))[1]; e.In != 0 {
		t.Errorf("%+v", e)
	}
}

// Errors.

func TestErrorsOfArguments(t *testing.T) {
	im := imageOf(t, asm(t, "lui x4, 4096"), 0, 0)
	fine := candOf(line(1), line(1))
	run(t, "fine", im, fine)
	long := candOf(make([]api.Rec, 1025), line(1))
	many := candOf(make([][]api.Rec, 9)...)
	form := candOf(line(1), []api.Rec{{PC: codeBase, Src: initial, Wait: true, Fail: true}})
	other := candOf(line(1))
	noCode := api.Image{Entries: []int{0, 0}}
	tooLong := api.Image{Code: im.Code, Data: make([]int, 4097), Entries: []int{0, 0}}
	noEntry := api.Image{Code: im.Code, Entries: []int{0, 1}}
	for _, c := range []struct {
		what string
		im   api.Image
		c    api.Cand
		want api.Errno
	}{
		{"no code", noCode, fine, api.ErrRange},
		{"too much data", tooLong, fine, api.ErrLong},
		{"no entry", noEntry, fine, api.ErrRange},
		{"nothing", api.Image{}, api.Cand{}, api.ErrRange},
		{"too much data, too few harts", tooLong, other, api.ErrLong},
		{"too much data, no candidate", tooLong, form, api.ErrLong},
		{"no entry, too many records", noEntry, long, api.ErrRange},
		{"no code, no candidate", noCode, form, api.ErrRange},
		{"fewer harts", im, other, api.ErrRange},
		{"no harts", im, api.Cand{}, api.ErrRange},
		{"more harts", im, candOf(line(1), line(1), nil), api.ErrRange},
		{"too many harts", im, many, api.ErrRange},
		{"fewer harts, too many records", im, candOf(long.Harts[0]), api.ErrRange},
		{"fewer harts, no candidate", im, candOf(form.Harts[1]), api.ErrRange},
		{"too many records", im, long, api.ErrLong},
		{"Wait and Fail", im, form, api.ErrForm},
		{"Src of no hart", im, candOf(line(1), []api.Rec{{PC: codeBase, Src: api.Ref{Hart: 2}}}), api.ErrForm},
		{"another Src", im, candOf(line(1), []api.Rec{{PC: codeBase, Src: api.Ref{Hart: -1, At: 1}}}), api.ErrForm},
		{"an empty row", im, api.Cand{Harts: fine.Harts, Rows: []api.Row{{}}}, api.ErrForm},
		{"the error of a record and no candidate", im, candOf(path(1), form.Harts[1]), api.ErrForm},
		{"the error of a record and an empty row", im, api.Cand{Harts: [][]api.Rec{path(1), nil}, Rows: []api.Row{{}}}, api.ErrForm},
		{"the error of a record and too many records", im, candOf(path(1), make([]api.Rec, 1025)), api.ErrLong},
	} {
		fails(t, c.what, c.im, c.c, c.want)
	}
}

// The error of a record holds its number, also inside of another error.
func TestFault(t *testing.T) {
	for number, text := range map[api.Errno]string{api.ErrForm: "error 1", api.ErrNone: "error 4", api.ErrSame: "error 7", api.ErrOrder: "error 8"} {
		err := fault{number}
		if err.Error() != text || numberOf(err) != number || numberOf(fmt.Errorf("record 3: %w", err)) != number {
			t.Errorf("%d: %s, %d", number, err.Error(), numberOf(err))
		}
	}
	if e := numberOf(nil); e != api.OK {
		t.Errorf("nil: %d", e)
	}
}

func TestFirstRecord(t *testing.T) {
	im := imageOf(t, asm(t, "fence r, r", "fence r, r", "fence r, r"), 2, 0, 1)
	run(t, "entries", im, candOf(path(2), path(0, 1, 2), path(1, 2)))
	for _, pc := range []int{0, codeBase - 4, codeBase, codeBase + 4, codeBase + 7, codeBase + 9, codeBase + 10, codeBase + 12, -codeBase - 8, most, least, codeBase + 8 + 1<<32} {
		fails(t, "another PC", im, candOf([]api.Rec{{PC: pc, Src: initial}}, nil, nil), api.ErrSame)
	}
	fails(t, "another PC", im, candOf(nil, path(1), nil), api.ErrSame)
	fails(t, "another PC", im, candOf(nil, nil, path(2)), api.ErrSame)
}

// Instructions that lead to the next word.
func TestFollowing(t *testing.T) {
	for _, s := range []string{"lui x5, 1", "auipc x5, 1", "addi x5, x0, 1", "mul x5, x0, x0", "fence r, r", "ecall", "ld x5, 0(x4)", "sd x5, 0(x4)", "lr.d x5, (x4)", "sc.d x5, x5, (x4)", "amoor.d x5, x5, (x4)"} {
		im := imageOf(t, asm(t, "lui x4, 4096", "addi x17, x0, 1", s, "fence r, r", "fence r, r"))
		run(t, s, im, candOf(line(4)))
		for _, i := range []int{0, 1, 2, 4, 5, 6, -1} {
			fails(t, s, im, candOf(append(line(3), at(i))), api.ErrSame)
		}
		r := at(3)
		for _, off := range []int{1, 2, -1, 1 << 32, least} {
			r.PC = at(3).PC + off
			fails(t, s, im, candOf(append(line(3), r)), api.ErrSame)
		}
	}
}

func TestNoInstruction(t *testing.T) {
	im := imageOf(t, asm(t, "fence r, r", "ebreak", "fence r, r"))
	fails(t, "ebreak", im, candOf(line(2)), api.ErrNone)
	for _, w := range []uint32{0, 7, 0x73 | 1<<21, 0xffffffff} {
		im.Code[1] = w
		fails(t, "no instruction", im, candOf(line(2)), api.ErrNone)
		r := waiting(1)
		r.Val = 7
		fails(t, "no instruction that waits", im, candOf([]api.Rec{at(0), r}), api.ErrNone)
	}
	// Behind the last word, there is no code.
	fails(t, "no code", imageOf(t, asm(t, "fence r, r")), candOf(line(2)), api.ErrNone)
	fails(t, "no code", imageOf(t, asm(t, "jal x0, -4")), candOf(path(0, -1)), api.ErrNone)
	fails(t, "ebreak with Val", imageOf(t, asm(t, "ebreak")), candOf([]api.Rec{reading(0, 1)}), api.ErrNone)
	// What never is recorded may stand in the code.
	run(t, "jumped over", imageOf(t, asm(t, "jal x0, 8", "ebreak", "fence r, r")), candOf(path(0, 2)))
}

func TestCalls(t *testing.T) {
	im := imageOf(t, asm(t, "lui x4, 4096", "ld x10, 0(x4)", "ld x17, 8(x4)", "ecall", "fence r, r"))
	calls := func(v int, wait ...int) []api.Rec {
		l := []api.Rec{at(0), reading(1, 5), reading(2, v), at(3), at(4)}
		for _, n := range wait {
			l[n] = waiting(n)
		}
		return l
	}
	run(t, "print", im, candOf(calls(1)))
	for _, v := range []int{0, 2, 3, 4, -1, 1 + 1<<32, 1 + 1<<31, least + 1, most} {
		fails(t, "another call", im, candOf(calls(v)), api.ErrNone)
		fails(t, "another call of what is not known", im, candOf(calls(v, 1)), api.ErrForm)
	}
	fails(t, "unknown argument", im, candOf(calls(1, 1)), api.ErrForm)
	fails(t, "unknown call", im, candOf(calls(1, 2)), api.ErrForm)
	fails(t, "unknown both", im, candOf(calls(1, 1, 2)), api.ErrForm)
	for what, r := range spoilt(3) {
		l := calls(1)
		l[3] = r
		fails(t, "print with "+what, im, candOf(l), api.ErrForm)
		l = calls(2)
		l[3] = r
		fails(t, "another call with "+what, im, candOf(l), api.ErrNone)
	}
	// Without any instruction ahead, a7 and a0 are 0 and known.
	fails(t, "call 0", imageOf(t, asm(t, "ecall")), candOf(line(1)), api.ErrNone)
}

// spoilt returns records of word i with what only accesses have.
func spoilt(i int) map[string]api.Rec {
	src := at(i)
	src.Src = api.Ref{}
	return map[string]api.Rec{"Wait": waiting(i), "Fail": failing(i), "Val": reading(i, 1), "Src": src, "a great Val": reading(i, least)}
}

func TestNoAccess(t *testing.T) {
	for _, s := range []string{"lui x5, 1", "auipc x5, 1", "jal x1, 4", "jalr x1, 12(x7)", "beq x0, x0, 4", "bltu x0, x0, 8", "fence r, r", "addi x5, x0, 1", "addiw x5, x0, 1", "slli x5, x0, 1", "add x5, x0, x0", "remuw x5, x0, x0"} {
		im := imageOf(t, asm(t, "auipc x7, 0", s))
		run(t, s, im, candOf(line(2)))
		for what, r := range spoilt(1) {
			fails(t, s+" with "+what, im, candOf([]api.Rec{at(0), r}), api.ErrForm)
		}
	}
}

func TestOtherWidths(t *testing.T) {
	for _, name := range others {
		for _, addr := range []int{dataBase, dataBase + 4, 0} {
			program, l := loaded(t, wide(t, name), addr, 9)
			fails(t, name, imageOf(t, program), candOf(l), api.ErrNone)
			for what, r := range spoilt(3) {
				l[3] = r
				fails(t, name+" with "+what, imageOf(t, program), candOf(l), api.ErrNone)
			}
			// Nor does it help that the address is not known.
			program, l = loaded(t, wide(t, name), addr, 9, 1, 2)
			fails(t, name, imageOf(t, program), candOf(l), api.ErrNone)
		}
	}
}

func TestUnknownAddress(t *testing.T) {
	for _, name := range doublewords {
		program, l := loaded(t, wide(t, name), 0, 9, 1)
		im := imageOf(t, program)
		fails(t, name, im, candOf(l), api.ErrForm)
		l[3].Wait = true
		fails(t, name, im, candOf(l), api.ErrForm)
	}
}

// What the record of an access may hold: all combinations of Wait or Fail, Val, and Src.
func TestFieldsOfAccesses(t *testing.T) {
	for _, name := range doublewords {
		for _, mode := range []string{"", "Wait", "Fail"} {
			for _, val := range []int{0, 1, -1, least} {
				for _, src := range []api.Ref{initial, {}, {At: 3}} {
					r := api.Rec{Val: val, Src: src, Wait: mode == "Wait", Fail: mode == "Fail"}
					got := val != 0 || src != initial
					ok := (mode != "Fail" || name == "sc.d") && (!got || reads(name) && mode == "")
					im, l := accessed(t, name, 9, r)
					if !ok {
						fails(t, name+" "+mode, im, candOf(l), api.ErrForm)
						// The address is asked for first.
						program, l := loaded(t, wide(t, name), dataBase+32, 9)
						r.PC = at(3).PC
						l[3] = r
						fails(t, name+" "+mode+" elsewhere", imageOf(t, program), candOf(l), api.ErrNone)
						continue
					}
					run(t, name+" "+mode, im, candOf(l))
				}
			}
		}
	}
}

// The first record with an error decides, hart by hart.
func TestFirstError(t *testing.T) {
	code := asm(t, "fence r, r", "ebreak", "lw x5, 0(x0)", "beq x0, x0, 8", "lui x4, 4096", "ld x5, 0(x4)", "jalr x0, 0(x5)")
	im := imageOf(t, code, 0, 4)
	same, none, form := path(0, 2), path(0, 1), []api.Rec{waiting(0)}
	order := append([]api.Rec{at(4), waiting(5), at(6)}, at(0))
	fine := path(0)
	for _, c := range []struct {
		a, b []api.Rec
		want api.Errno
	}{
		{same, order, api.ErrSame},
		{none, order, api.ErrNone},
		{form, order, api.ErrForm},
		{fine, order, api.ErrOrder},
		{nil, order, api.ErrOrder},
		{same, path(4, 6), api.ErrSame},
		{none, path(4, 6), api.ErrNone},
		{form, path(4, 6), api.ErrForm},
		{fine, path(4, 6), api.ErrSame},
		{append(path(0, 1), at(7)), nil, api.ErrNone},
		{append(path(0, 3), waiting(0)), nil, api.ErrSame},
		{append([]api.Rec{waiting(0)}, at(7)), nil, api.ErrForm},
	} {
		fails(t, fmt.Sprint(c.a, c.b), im, candOf(c.a, c.b), c.want)
	}
	// A record that must not follow has no other error.
	r := waiting(1)
	r.Val, r.Src = 3, api.Ref{}
	fails(t, "unknown PC", im, candOf(fine, append(order[:3:3], r)), api.ErrOrder)
	fails(t, "another PC", im, candOf(append(path(0), r, at(0))[1:], nil), api.ErrSame)
}

// Limits.

func TestLargest(t *testing.T) {
	// Each load is added up and stored, and so depends on all loads before.
	code := asm(t, "lui x4, 4096", "ld x5, 0(x4)", "add x6, x6, x5", "sd x6, 8(x4)", "beq x5, x5, -12")
	im := imageOf(t, code, 0, 0, 0, 0, 0, 0, 0, 0)
	var harts [][]api.Rec
	for h := range 8 {
		l := line(1)
		for n := 1; n < 1024; n++ {
			l = append(l, at(1+(n-1)%4))
			if n%4 == 1 {
				l[n].Val = h
			}
		}
		harts = append(harts, l)
	}
	events := run(t, "largest", im, candOf(harts...))
	if len(events) != 8192 {
		t.Fatal(len(events))
	}
	last := events[8191]
	if last.Out != 256*7 || len(last.DataOf) != 256 || len(last.CtrlOf) != 255 || last.DataOf[0] != 7169 || last.DataOf[255] != 8189 || last.CtrlOf[254] != 8185 {
		t.Errorf("%+v", last)
	}
}

// Each event alone is what another one depends on.
func TestEachEventAlone(t *testing.T) {
	for _, start := range [][]string{{"lui x4, 4096"}, {"lui x4, 4096", "fence r, r"}} {
		code := asm(t, start...)
		for len(code) < 1023 {
			code = append(code, asm(t, "ld x5, 0(x4)", "sd x5, 8(x4)")...)
		}
		code = code[:1024]
		code[1023] = asm(t, "fence r, r")[0]
		im := imageOf(t, code, 0, 0)
		events := run(t, "each event", im, candOf(line(3), line(1024)))
		for n := 3 + len(start) + 1; n < 1026; n += 2 {
			if !slices.Equal(events[n].DataOf, []int{n - 1}) {
				t.Errorf("event %d: %v", n, events[n].DataOf)
			}
		}
	}
}

func TestLastWordOfCode(t *testing.T) {
	im := api.Image{Code: make([]uint32, api.MaxCode), Entries: []int{api.MaxCode - 1}}
	im.Code[api.MaxCode-1] = imageOf(t, asm(t, "auipc x5, 0")).Code[0]
	events := run(t, "last word", im, candOf(path(262143)))
	if events[0].PC != 65536+4*262143 {
		t.Errorf("%+v", events[0])
	}
}

// P15.2: Number.

func TestNumber(t *testing.T) {
	for _, sizes := range [][]int{{}, {0}, {1}, {3, 0, 2}, {0, 0, 1, 0}, {1024, 1024, 5}, {1, 2, 3, 4, 5, 6, 7, 8}, {2000, 1, 1, 1, 1, 1, 1, 1, 1, 1, 3}} {
		var harts [][]api.Rec
		for _, n := range sizes {
			harts = append(harts, make([]api.Rec, n))
		}
		c := api.Cand{Harts: harts}
		want := 0
		for h, n := range sizes {
			for i := range n {
				if got := Number(c, api.Ref{Hart: h, At: i}); got != want {
					t.Fatalf("%v: hart %d, %d: %d; want %d", sizes, h, i, got, want)
				}
				want++
			}
			for _, i := range []int{-1, n, n + 1, most, least, n + 1<<32, -n} {
				if i >= 0 && i < n || i == 0 && n > 0 {
					continue
				}
				if got := Number(c, api.Ref{Hart: h, At: i}); got != -1 {
					t.Errorf("%v: hart %d, %d: %d", sizes, h, i, got)
				}
			}
		}
		for _, h := range []int{-1, len(sizes), len(sizes) + 1, most, least, 1 << 32, -1 << 32} {
			for _, i := range []int{0, 1, -1, most, least} {
				if got := Number(c, api.Ref{Hart: h, At: i}); got != -1 {
					t.Errorf("%v: hart %d, %d: %d", sizes, h, i, got)
				}
			}
		}
	}
}

// The number of a record is that of its event.
func TestNumberOfEvents(t *testing.T) {
	g := rand.New(rand.NewPCG(15, 3))
	for range 300 {
		im, c := random(t, g)
		events, _ := Run(im, c)
		for n, e := range events {
			if got := Number(c, api.Ref{Hart: e.Hart, At: e.At}); got != n {
				t.Fatalf("hart %d, %d: %d; want %d", e.Hart, e.At, got, n)
			}
		}
	}
}

// Random candidates, most of which are without errors.

// pool is the registers that random instructions use.
var pool = []int{0, 1, 4, 4, 5, 6, 7, 7, 10, 17}

func pick[T any](g *rand.Rand, l []T) T {
	return l[g.IntN(len(l))]
}

// randomInstr returns a valid instruction, for which access and control are more likely
// than they are among all operations.
func randomInstr(g *rand.Rand) api.Instr {
	var op int
	switch n := g.IntN(100); {
	case n < 45:
		op, _ = isa.Find(pick(g, doublewords))
		if n < 15 {
			op = pick(g, []int{api.OpLd, api.OpSd, api.OpLrD, api.OpScD})
		}
	case n < 60:
		op = api.OpBeq + g.IntN(6)
	case n < 67:
		op = pick(g, []int{api.OpJal, api.OpJalr})
	case n < 72:
		op = api.OpEcall
	case n < 76:
		op = api.OpFence
	case n < 78:
		op = 1 + g.IntN(api.OpAmomaxuD)
	default:
		op = api.OpAddi + g.IntN(api.OpRemuw-api.OpAddi+1)
	}
	i := api.Instr{Op: op}
	switch isa.Form(op) {
	case api.FormU:
		i.Rd, i.Imm = pick(g, pool), pick(g, []int{0, 1, -1, 16, 4096})
	case api.FormJ:
		i.Rd, i.Imm = pick(g, pool), 4*g.IntN(9)-12
	case api.FormI, api.FormS:
		i.Rd, i.A, i.Imm = pick(g, pool), pick(g, pool), pick(g, []int{0, 0, 0, 1, -1, 4, 8, 8, 16, -8, 24, 2047, -2048})
		if isa.Form(op) == api.FormS {
			i.Rd, i.B = 0, pick(g, pool)
		}
	case api.FormB:
		i.A, i.B, i.Imm = pick(g, pool), pick(g, pool), 4*g.IntN(9)-12
	case api.FormR, api.FormAmo:
		i.Rd, i.A, i.B = pick(g, pool), pick(g, pool), pick(g, pool)
	case api.FormShift, api.FormSmall:
		i.Rd, i.A, i.Imm = pick(g, pool), pick(g, pool), g.IntN(32)
	case api.FormFence:
		i.Imm = g.IntN(256)
	case api.FormLr:
		i.Rd, i.A = pick(g, pool), pick(g, pool)
	}
	if f := isa.Form(op); f == api.FormLr || f == api.FormAmo {
		i.Aq, i.Rl = g.IntN(4) == 0, g.IntN(4) == 0
	}
	// Most of them leave the addresses alone, and access data.
	if rd := i.Rd; (rd == 4 || rd == 6 || rd == 7 || rd == 17) && g.IntN(10) != 0 {
		i.Rd = 5
	}
	if reads, writes := isa.Access(op); (reads || writes) && g.IntN(10) != 0 {
		i.A = pick(g, []int{4, 7})
		if i.Imm != 0 {
			i.Imm = 8
		}
	}
	if op == api.OpJalr && g.IntN(4) != 0 {
		i.A, i.Imm = 6, 4*g.IntN(12)
	}
	return i
}

// randomImage returns an image whose harts begin with what gives addresses of data to x4
// and x7, of which the second one depends on a load, and an address of code to x6.
func randomImage(t testing.TB, g *rand.Rand) api.Image {
	start := asm(t, "lui x4, 4096", "addi x17, x0, 1", "auipc x6, 0", "ld x7, 0(x4)", "lr.d x5, (x4)", "slt x7, x7, x7", "add x7, x7, x4")
	var code []api.Instr
	var entries []int
	for range 1 + g.IntN(3) {
		entries = append(entries, len(code))
		code = append(code, start...)
		for range 3 + g.IntN(20) {
			code = append(code, randomInstr(g))
		}
	}
	im := imageOf(t, code, entries...)
	im.Data = make([]int, 1+g.IntN(4))
	if g.IntN(4) == 0 {
		im.Code[g.IntN(len(im.Code))] = g.Uint32()
	}
	return im
}

// randomRec returns a record that may follow, unless nothing may or it is to be spoilt.
func randomRec(g *rand.Rand, m *model) api.Rec {
	r := api.Rec{PC: m.next.value, Src: initial}
	i, _ := image.Fetch(m.im, r.PC)
	name := isa.Name(i.Op)
	if reads(name) && g.IntN(8) != 0 {
		r.Val = pick(g, []int{0, 1, -1, 8, dataBase, dataBase + 8, r.PC + 8, codeBase, g.Int(), -g.Int()})
		if g.IntN(2) == 0 {
			r.Src = api.Ref{}
		}
	} else if slices.Contains(doublewords, name) {
		r.Wait = g.IntN(4) != 0
		r.Fail = name == "sc.d" && !r.Wait && g.IntN(2) == 0
	}
	if g.IntN(100) == 0 {
		switch g.IntN(5) {
		case 0:
			r.PC = pick(g, []int{r.PC + 4, r.PC - 4, r.PC + 1, 0, codeBase})
		case 1:
			r.Val++
		case 2:
			r.Src = api.Ref{}
		case 3:
			r.Wait = !r.Wait
		case 4:
			r.Fail = !r.Fail
		}
	}
	return r
}

// randomRecords returns records that a hart of im may have; rarely, the last one has an
// error.
func randomRecords(g *rand.Rand, m *model) []api.Rec {
	var l []api.Rec
	for range g.IntN(60) {
		r := randomRec(g, m)
		if m.error(r) != api.OK {
			if g.IntN(10) != 0 {
				break
			}
			return append(l, r)
		}
		l = append(l, r)
		m.event(r)
	}
	return l
}

// random returns an image and a candidate for it. What the model says of them stands in
// wantRun.
func random(t testing.TB, g *rand.Rand) (api.Image, api.Cand) {
	im := randomImage(t, g)
	var c api.Cand
	for h := range im.Entries {
		c.Harts = append(c.Harts, randomRecords(g, newModel(im, h, 0)))
	}
	for _, l := range c.Harts {
		for i := range l {
			for l[i].Src != initial {
				h := g.IntN(len(c.Harts))
				if n := len(c.Harts[h]); n > 0 {
					l[i].Src = api.Ref{Hart: h, At: g.IntN(n)}
					break
				}
			}
		}
	}
	if l := c.Harts[0]; len(l) > 0 && g.IntN(2) == 0 {
		c.Rows = []api.Row{{Addr: pick(g, []int{0, dataBase, -8}), L: []api.Ref{{At: g.IntN(len(l))}}}}
	}
	return im, c
}

func TestRandom(t *testing.T) {
	g := rand.New(rand.NewPCG(15, 1))
	// How often each error was returned, and how many events there were of some kinds.
	errors := map[api.Errno]int{}
	kinds := map[string]int{}
	for n := range 20000 {
		im, c := random(t, g)
		events, tapes, e := agrees(t, fmt.Sprint("run ", n), im, c)
		errors[e]++
		for _, v := range events {
			name := isa.Name(v.Instr.Op)
			kinds[name]++
			if v.Write && !v.Ready {
				kinds["not ready"]++
			}
			if len(v.AddrOf) > 0 && len(v.DataOf) > 0 && len(v.CtrlOf) > 1 {
				kinds["dependent"]++
			}
		}
		for _, l := range tapes {
			kinds["printed"] += len(l)
		}
	}
	for _, e := range []api.Errno{api.OK, api.ErrForm, api.ErrNone, api.ErrSame, api.ErrOrder} {
		if errors[e] < 30 {
			t.Errorf("error %d: %d times", e, errors[e])
		}
	}
	for _, name := range append([]string{"not ready", "dependent", "printed", "jal", "jalr", "beq", "bgeu", "fence", "lui", "auipc", "remuw", "srai"}, doublewords...) {
		if kinds[name] < 30 {
			t.Errorf("%s: %d times", name, kinds[name])
		}
	}
}

// P15.3.

// shifted returns the events of a hart as they are if its first one has the number 0.
func shifted(events []api.Event, hart int) []api.Event {
	first := slices.IndexFunc(events, func(e api.Event) bool { return e.Hart == hart })
	var l []api.Event
	for _, e := range events {
		if e.Hart != hart {
			continue
		}
		for _, of := range []*[]int{&e.AddrOf, &e.DataOf, &e.CtrlOf} {
			*of = slices.Clone(*of)
			for i := range *of {
				(*of)[i] -= first
			}
		}
		l = append(l, e)
	}
	return l
}

func TestHartsAreApart(t *testing.T) {
	g := rand.New(rand.NewPCG(15, 2))
	for range 3000 {
		im, c := random(t, g)
		events, e := Run(im, c)
		if e != api.OK {
			continue
		}
		tapes, _ := Tapes(im, c)
		for h := range c.Harts {
			// The other harts record less, and there are no rows, or others.
			other := api.Cand{Harts: slices.Clone(c.Harts)}
			for i := range other.Harts {
				other.Harts[i] = slices.Clone(c.Harts[i])
				if i != h {
					other.Harts[i] = other.Harts[i][:g.IntN(len(c.Harts[i])+1)]
				}
			}
			for i := range other.Harts {
				for k, r := range other.Harts[i] {
					if r.Src.Hart >= 0 && r.Src.At >= len(other.Harts[r.Src.Hart]) {
						other.Harts[i][k].Src = api.Ref{Hart: i, At: k}
					}
				}
			}
			changed, e := Run(im, other)
			if e != api.OK {
				t.Fatal(e)
			}
			a, b := shifted(events, h), shifted(changed, h)
			for i := range a {
				a[i].Src, b[i].Src = initial, initial
			}
			if !slices.EqualFunc(a, b, sameEvent) {
				t.Fatalf("hart %d: %+v; %+v", h, a, b)
			}
			if l, _ := Tapes(im, other); !slices.Equal(l[h], tapes[h]) {
				t.Fatalf("hart %d: tape %v; %v", h, l[h], tapes[h])
			}
		}
	}
}

// Other harts and rows do not matter even where they are no possible ones of a machine.
func TestRowsDoNotMatter(t *testing.T) {
	im := imageOf(t, asm(t, "lui x4, 4096", "ld x5, 0(x4)", "sd x5, 0(x4)"), 0, 0)
	l := line(3)
	l[1].Val, l[1].Src = 5, api.Ref{Hart: 1, At: 0}
	events := run(t, "no rows", im, candOf(l, line(1)))
	for _, rows := range [][]api.Row{
		{{Addr: dataBase, L: []api.Ref{{Hart: 0, At: 2}}}},
		{{Addr: 3, L: []api.Ref{{Hart: 1, At: 0}, {Hart: 0, At: 0}}}, {Addr: dataBase, L: []api.Ref{{Hart: 0, At: 1}}}},
	} {
		c := candOf(l, line(1))
		c.Rows = rows
		if !slices.EqualFunc(run(t, "rows", im, c), events, sameEvent) {
			t.Error(rows)
		}
	}
}

func TestDependencies(t *testing.T) {
	g := rand.New(rand.NewPCG(15, 4))
	for range 3000 {
		im, c := random(t, g)
		events, _ := Run(im, c)
		for n, e := range events {
			for _, of := range [][]int{e.AddrOf, e.DataOf, e.CtrlOf} {
				for i, d := range of {
					if d < 0 || d >= n || events[d].Hart != e.Hart || !events[d].Read && events[d].Instr.Op != api.OpScD || i > 0 && of[i-1] >= d {
						t.Fatalf("event %d depends on %v", n, of)
					}
				}
			}
		}
	}
}

// Rule 3: arguments are neither modified nor kept, and results are new memory.

// parted returns an image and a candidate whose lists have memory behind their lengths.
func parted(t testing.TB) (api.Image, api.Cand) {
	im := imageOf(t, asm(t, "lui x4, 4096", "ld x5, 0(x4)", "addi x17, x0, 1", "beq x5, x0, 4", "ecall", "amoadd.d x6, x5, (x4)", "jal x0, -4"), 0, 0, 0)
	im.Code, im.Data, im.Entries = im.Code[:6:7], im.Data[:2:4], im.Entries[:2:3]
	l := line(9)
	c := api.Cand{Harts: [][]api.Rec{l[:6:9], line(8)[:5:8], line(2)}[:2:3]}
	c.Rows = []api.Row{{Addr: 1, L: []api.Ref{{At: 1}, {At: 2}}[:1:2]}, {Addr: 2}}[:1:2]
	return im, c
}

func TestArgumentsAreNotModified(t *testing.T) {
	im, c := parted(t)
	wantIm, wantC := parted(t)
	for range 2 {
		if _, e := Run(im, c); e != api.OK {
			t.Fatal(e)
		}
		Tapes(im, c)
		Number(c, api.Ref{Hart: 1, At: 2})
	}
	whole := func(im api.Image, c api.Cand) string {
		s := fmt.Sprint(im.Code[:7], im.Data[:4], im.Entries[:3])
		for _, l := range c.Harts[:3] {
			s += fmt.Sprint(l[:cap(l)])
		}
		return s + fmt.Sprint(c.Rows[:2], c.Rows[0].L[:2])
	}
	if whole(im, c) != whole(wantIm, wantC) {
		t.Errorf("%s; before: %s", whole(im, c), whole(wantIm, wantC))
	}
}

func TestResultsAreNew(t *testing.T) {
	im, c := parted(t)
	wantEvents, wantTapes, _ := wantRun(im, c)
	events, _ := Run(im, c)
	tapes, _ := Tapes(im, c)
	// Each list is written over, in its own memory only.
	var lists []*[]int
	for n := range events {
		lists = append(lists, &events[n].AddrOf, &events[n].DataOf, &events[n].CtrlOf)
	}
	for n := range tapes {
		lists = append(lists, &tapes[n])
	}
	for n, l := range lists {
		for i := range *l {
			(*l)[i] = n
		}
		*l = append(*l, n)
	}
	for n, l := range lists {
		if slices.ContainsFunc(*l, func(v int) bool { return v != n }) {
			t.Fatalf("list %d shares memory: %v", n, *l)
		}
	}
	clear(events)
	again, _ := Run(im, c)
	againTapes, _ := Tapes(im, c)
	if !slices.EqualFunc(again, wantEvents, sameEvent) || !sameTapes(againTapes, wantTapes) {
		t.Error("two calls returned the same memory")
	}
	clear(im.Code)
	clear(c.Harts[0])
	clear(c.Harts)
	if !slices.EqualFunc(again, wantEvents, sameEvent) || !sameTapes(againTapes, wantTapes) {
		t.Error("results hang on the arguments")
	}
}

// Rule 5: all values are permitted.
func TestAnything(t *testing.T) {
	for what, c := range map[string]api.Cand{
		"nothing":      {},
		"numbers":      {Harts: [][]api.Rec{{{PC: least, Val: least, Src: api.Ref{Hart: least, At: most}}}}, Rows: []api.Row{{Addr: most}}},
		"nine harts":   {Harts: make([][]api.Rec, 9)},
		"many records": {Harts: [][]api.Rec{make([]api.Rec, 5000)}},
		"rows":         {Harts: [][]api.Rec{nil}, Rows: make([]api.Row, 3)},
	} {
		for _, im := range []api.Image{{}, imageOf(t, asm(t, "ebreak")), {Code: []uint32{0}, Entries: []int{least}}, {Code: make([]uint32, 1), Entries: make([]int, 9)}, {Entries: []int{0}}} {
			agrees(t, what, im, c)
		}
	}
}
