package dec

import (
	"bytes"
	"math/bits"
	"slices"
	"strconv"
	"strings"
	"testing"

	"spinnaker/api"
	"spinnaker/enc"
	"spinnaker/isa"
)

// chapterWords is the table of the words of the operations in the chapter of
// layer 4; each row begins with the first and the last operation that it is of.
var chapterWords = []struct{ first, last, words string }{
	{"lui", "bgeu", "37 17 6f 67 63 1063 4063 5063 6063 7063"},
	{"lb", "sd", "3 1003 2003 3003 4003 5003 6003 23 1023 2023 3023"},
	{"addi", "sraiw", "13 2013 3013 4013 6013 7013 1013 5013 40005013 1b 101b 501b 4000501b"},
	{"add", "sraw", "33 40000033 1033 2033 3033 4033 5033 40005033 6033 7033 3b 4000003b 103b 503b 4000503b"},
	{"mul", "remuw", "2000033 2001033 2002033 2003033 2004033 2005033 2006033 2007033 200003b 200403b 200503b 200603b 200703b"},
	{"fence", "ebreak", "f 73 100073"},
	{"lr.w", "amomaxu.w", "1000202f 1800202f 800202f 202f 2000202f 6000202f 4000202f 8000202f a000202f c000202f e000202f"},
	{"lr.d", "amomaxu.d", "1000302f 1800302f 800302f 302f 2000302f 6000302f 4000302f 8000302f a000302f c000302f e000302f"},
}

// span is bits of a field of an instruction, from high to low, and the bit of the
// word at which the lowest one stands.
type span struct {
	field         string
	high, low, at int
}

// chapterForm is a form as the chapters describe it: where the bits of its fields
// stand, and the values of Imm.
type chapterForm struct {
	form        int
	spans       []span
	least, most int
	even        bool
}

var (
	spanRd = span{"Rd", 4, 0, 7}
	spanA  = span{"A", 4, 0, 15}
	spanB  = span{"B", 4, 0, 20}
	spanAq = span{"Aq", 0, 0, 26}
	spanRl = span{"Rl", 0, 0, 25}
)

var chapterForms = []chapterForm{
	{api.FormU, []span{spanRd, {"Imm", 19, 0, 12}}, -1 << 19, 1<<19 - 1, false},
	{api.FormJ, []span{spanRd, {"Imm", 20, 20, 31}, {"Imm", 10, 1, 21}, {"Imm", 11, 11, 20}, {"Imm", 19, 12, 12}}, -1 << 20, 1<<20 - 2, true},
	{api.FormI, []span{spanRd, spanA, {"Imm", 11, 0, 20}}, -2048, 2047, false},
	{api.FormB, []span{spanA, spanB, {"Imm", 12, 12, 31}, {"Imm", 10, 5, 25}, {"Imm", 4, 1, 8}, {"Imm", 11, 11, 7}}, -4096, 4094, true},
	{api.FormS, []span{spanA, spanB, {"Imm", 11, 5, 25}, {"Imm", 4, 0, 7}}, -2048, 2047, false},
	{api.FormR, []span{spanRd, spanA, spanB}, 0, 0, false},
	{api.FormShift, []span{spanRd, spanA, {"Imm", 5, 0, 20}}, 0, 63, false},
	{api.FormSmall, []span{spanRd, spanA, {"Imm", 4, 0, 20}}, 0, 31, false},
	{api.FormFence, []span{{"Imm", 7, 0, 20}}, 0, 255, false},
	{api.FormNone, nil, 0, 0, false},
	{api.FormLr, []span{spanRd, spanA, spanAq, spanRl}, 0, 0, false},
	{api.FormAmo, []span{spanRd, spanA, spanB, spanAq, spanRl}, 0, 0, false},
}

// operationRow is an operation as the chapters describe it.
type operationRow struct {
	op   int
	base uint32
	open uint32
	form chapterForm
}

// chapterOperations returns all operations, in the order of their numbers.
func chapterOperations(t *testing.T) []operationRow {
	t.Helper()
	var l []operationRow
	for _, row := range chapterWords {
		first, _ := isa.Find(row.first)
		if first != len(l)+1 {
			t.Fatalf("%s stands behind %d operations", row.first, len(l))
		}
		for _, s := range strings.Fields(row.words) {
			w, err := strconv.ParseUint(s, 16, 32)
			if err != nil {
				t.Fatal(err)
			}
			op := len(l) + 1
			f := formOf(t, op)
			l = append(l, operationRow{op, uint32(w), f.open(), f})
		}
		if last, _ := isa.Find(row.last); last != len(l) {
			t.Fatalf("%s to %s: another number of words", row.first, row.last)
		}
	}
	return l
}

// formOf returns the form of operation op, as the chapters have it.
func formOf(t *testing.T, op int) chapterForm {
	t.Helper()
	for _, f := range chapterForms {
		if f.form == isa.Form(op) {
			return f
		}
	}
	t.Fatalf("no form of %d", op)
	return chapterForm{}
}

// uses reports whether the form uses the field.
func (f chapterForm) uses(field string) bool {
	return slices.ContainsFunc(f.spans, func(s span) bool { return s.field == field })
}

// open returns the bits of a word that the form fills.
func (f chapterForm) open() uint32 {
	var w uint32
	for _, s := range f.spans {
		for k := s.low; k <= s.high; k++ {
			w |= 1 << (s.at + k - s.low)
		}
	}
	return w
}

// imms returns values of Imm that the form may have: the least and the greatest
// one, each single bit, and all bits but one.
func (f chapterForm) imms() []int {
	l := []int{0, f.least, f.most}
	for k := range 21 {
		l = append(l, 1<<k, -1<<k, f.most^1<<k, f.least^1<<k)
	}
	return slices.DeleteFunc(l, func(v int) bool { return v < f.least || v > f.most || f.even && v&1 == 1 })
}

// sample returns a valid instruction in which no field that the form uses is 0.
func (r operationRow) sample() api.Instr {
	return r.only(api.Instr{Op: r.op, Rd: 21, A: 11, B: 14, Imm: 26, Aq: true, Rl: true})
}

// only returns i with those of its fields that its form uses.
func (r operationRow) only(i api.Instr) api.Instr {
	o := api.Instr{Op: r.op}
	for _, s := range r.form.spans {
		switch s.field {
		case "Rd":
			o.Rd = i.Rd
		case "A":
			o.A = i.A
		case "B":
			o.B = i.B
		case "Imm":
			o.Imm = i.Imm
		case "Aq":
			o.Aq = i.Aq
		case "Rl":
			o.Rl = i.Rl
		}
	}
	return o
}

// fieldOf returns what the field of i holds, as bits.
func fieldOf(i api.Instr, field string) uint64 {
	switch field {
	case "Rd":
		return uint64(i.Rd)
	case "A":
		return uint64(i.A)
	case "B":
		return uint64(i.B)
	case "Imm":
		return uint64(i.Imm)
	}
	if field == "Aq" && i.Aq || field == "Rl" && i.Rl {
		return 1
	}
	return 0
}

// word places the bits of i one by one.
func (r operationRow) word(i api.Instr) uint32 {
	w := r.base
	for _, s := range r.form.spans {
		for k := s.low; k <= s.high; k++ {
			w |= uint32(fieldOf(i, s.field)>>k&1) << (s.at + k - s.low)
		}
	}
	return w
}

// instruction takes the fields out of w, bit by bit.
func (r operationRow) instruction(w uint32) api.Instr {
	var i api.Instr
	for _, s := range r.form.spans {
		v := 0
		for k := s.low; k <= s.high; k++ {
			v |= int(w>>(s.at+k-s.low)&1) << k
		}
		switch s.field {
		case "Rd":
			i.Rd = v
		case "A":
			i.A = v
		case "B":
			i.B = v
		case "Imm":
			i.Imm |= v
		case "Aq":
			i.Aq = v == 1
		case "Rl":
			i.Rl = v == 1
		}
	}
	if i.Imm > r.form.most {
		i.Imm += 2 * r.form.least
	}
	i.Op = r.op
	return i
}

// slowDecode holds w against every operation.
func slowDecode(l []operationRow, w uint32) api.Instr {
	for _, r := range l {
		if w&^r.open == r.base {
			return r.instruction(w)
		}
	}
	return api.Instr{Imm: int(w)}
}

// scatter returns a word that hangs on all bits of k.
func scatter(k int) uint32 {
	v := uint64(k+1) * 0x9e3779b97f4a7c15
	v ^= v >> 29
	v *= 0xbf58476d1ce4e5b9
	return uint32(v >> 32)
}

// wrong reports whether Decode or Is does not give what it should for w.
func wrong(w uint32, want api.Instr) bool {
	return Decode(w) != want || Is(w) != (want.Op != 0)
}

func checkDecode(t *testing.T, w uint32, want api.Instr) {
	t.Helper()
	if wrong(w, want) {
		t.Errorf("%08x: Decode %+v, Is %v; want %+v", w, Decode(w), Is(w), want)
	}
}

func checkNone(t *testing.T, w uint32) {
	t.Helper()
	checkDecode(t, w, api.Instr{Imm: int(w)})
}

// The tables of the tests are whole: each operation has a word and a form, no
// field of a form stands where its operations have bits of their own or where
// another field stands, and no word is of two operations.
func TestChapterTables(t *testing.T) {
	l := chapterOperations(t)
	if len(l) != 87 {
		t.Fatalf("%d operations have a word", len(l))
	}
	for k, r := range l {
		n := 0
		for _, s := range r.form.spans {
			n += s.high - s.low + 1
		}
		if r.base&r.open != 0 || bits.OnesCount32(r.open) != n {
			t.Errorf("%s: %08x, %08x", isa.Name(r.op), r.base, r.open)
		}
		if i := r.sample(); !isa.May(i) {
			t.Errorf("%+v is not valid", i)
		}
		for _, q := range l[:k] {
			if (q.base^r.base)&^q.open&^r.open == 0 {
				t.Errorf("%s and %s share a word", isa.Name(q.op), isa.Name(r.op))
			}
		}
	}
}

// P5.1: words that encode an instruction.

func TestDecodeExamples(t *testing.T) {
	for w, want := range map[uint32]api.Instr{
		0xfff00093: {Op: api.OpAddi, Rd: 1, Imm: -1},
		0x00000013: {Op: api.OpAddi},
		0x80000fb7: {Op: api.OpLui, Rd: 31, Imm: -1 << 19},
		0xfffff517: {Op: api.OpAuipc, Rd: 10, Imm: -1},
		0x0010006f: {Op: api.OpJal, Imm: 2048},
		0x7ffff0ef: {Op: api.OpJal, Rd: 1, Imm: 1<<20 - 2},
		0x800000ef: {Op: api.OpJal, Rd: 1, Imm: -1 << 20},
		0x00008067: {Op: api.OpJalr, A: 1},
		0x002080e3: {Op: api.OpBeq, A: 1, B: 2, Imm: 2048},
		0x81eff063: {Op: api.OpBgeu, A: 31, B: 30, Imm: -4096},
		0x7e62cfe3: {Op: api.OpBlt, A: 5, B: 6, Imm: 4094},
		0xff813503: {Op: api.OpLd, Rd: 10, A: 2, Imm: -8},
		0x7ff34283: {Op: api.OpLbu, Rd: 5, A: 6, Imm: 2047},
		0x80530023: {Op: api.OpSb, A: 6, B: 5, Imm: -2048},
		0xfff12e23: {Op: api.OpSw, A: 2, B: 31, Imm: -4},
		0x02029293: {Op: api.OpSlli, Rd: 5, A: 5, Imm: 32},
		0x03f2d293: {Op: api.OpSrli, Rd: 5, A: 5, Imm: 63},
		0x43f2d293: {Op: api.OpSrai, Rd: 5, A: 5, Imm: 63},
		0x41f3d31b: {Op: api.OpSraiw, Rd: 6, A: 7, Imm: 31},
		0x405201b3: {Op: api.OpSub, Rd: 3, A: 4, B: 5},
		0x03ffafb3: {Op: api.OpMulhsu, Rd: 31, A: 31, B: 31},
		0x02c5f53b: {Op: api.OpRemuw, Rd: 10, A: 11, B: 12},
		0x0ff0000f: {Op: api.OpFence, Imm: 0xff},
		0x0210000f: {Op: api.OpFence, Imm: 16*api.FenceR + api.FenceW},
		0x00000073: {Op: api.OpEcall},
		0x00100073: {Op: api.OpEbreak},
		0x140522af: {Op: api.OpLrW, Rd: 5, A: 10, Aq: true},
		0x160532af: {Op: api.OpLrD, Rd: 5, A: 10, Aq: true, Rl: true},
		0x19df2faf: {Op: api.OpScW, Rd: 31, A: 30, B: 29},
		0x0ab532af: {Op: api.OpAmoswapD, Rd: 5, A: 10, B: 11, Rl: true},
		0xe43130af: {Op: api.OpAmomaxuD, Rd: 1, A: 2, B: 3, Aq: true},
		0xe7ffafaf: {Op: api.OpAmomaxuW, Rd: 31, A: 31, B: 31, Aq: true, Rl: true},
	} {
		checkDecode(t, w, want)
	}
}

func TestWordsOfOperations(t *testing.T) {
	for _, r := range chapterOperations(t) {
		checkDecode(t, r.base, api.Instr{Op: r.op})
		checkDecode(t, r.word(r.sample()), r.sample())
	}
}

// The bit of the word at which each bit of Imm stands, from bit 0 on, form by
// form, written out once more.
func TestSingleBitsOfImm(t *testing.T) {
	none := -1
	places := map[int][]int{
		api.FormU:     {12, 13, 14, 15, 16, 17, 18, 19, 20, 21, 22, 23, 24, 25, 26, 27, 28, 29, 30, 31},
		api.FormJ:     {none, 21, 22, 23, 24, 25, 26, 27, 28, 29, 30, 20, 12, 13, 14, 15, 16, 17, 18, 19, 31},
		api.FormI:     {20, 21, 22, 23, 24, 25, 26, 27, 28, 29, 30, 31},
		api.FormB:     {none, 8, 9, 10, 11, 25, 26, 27, 28, 29, 30, 7, 31},
		api.FormS:     {7, 8, 9, 10, 11, 25, 26, 27, 28, 29, 30, 31},
		api.FormShift: {20, 21, 22, 23, 24, 25},
		api.FormSmall: {20, 21, 22, 23, 24},
		api.FormFence: {20, 21, 22, 23, 24, 25, 26, 27},
	}
	for _, r := range chapterOperations(t) {
		l := places[r.form.form]
		if r.form.uses("Imm") == (l == nil) {
			t.Errorf("%s: places %v", isa.Name(r.op), l)
		}
		for k, at := range l {
			if at == none {
				continue
			}
			imm := 1 << k
			if r.form.least < 0 && k == len(l)-1 {
				imm = -imm
			}
			checkDecode(t, r.base|1<<at, api.Instr{Op: r.op, Imm: imm})
		}
	}
}

func TestLeastAndGreatestImm(t *testing.T) {
	for _, c := range []struct {
		form          int
		least, most   int
		atLeast, full uint32
	}{
		{api.FormU, -524288, 524287, 0x80000000, 0x7ffff000},
		{api.FormJ, -1048576, 1048574, 0x80000000, 0x7ffff000},
		{api.FormI, -2048, 2047, 0x80000000, 0x7ff00000},
		{api.FormB, -4096, 4094, 0x80000000, 0x7e000f80},
		{api.FormS, -2048, 2047, 0x80000000, 0x7e000f80},
		{api.FormShift, 0, 63, 0, 0x03f00000},
		{api.FormSmall, 0, 31, 0, 0x01f00000},
		{api.FormFence, 0, 255, 0, 0x0ff00000},
	} {
		for _, r := range chapterOperations(t) {
			if r.form.form != c.form {
				continue
			}
			checkDecode(t, r.base|c.atLeast, api.Instr{Op: r.op, Imm: c.least})
			checkDecode(t, r.base|c.full, api.Instr{Op: r.op, Imm: c.most})
			// In the midst of other fields.
			i := r.sample()
			i.Imm = c.least
			checkDecode(t, r.word(i), i)
			i.Imm = c.most
			checkDecode(t, r.word(i), i)
		}
	}
}

// A signed Imm all of whose bits are set is -1, or -2 where it is even.
func TestImmOfOnesOnly(t *testing.T) {
	for _, r := range chapterOperations(t) {
		switch r.form.form {
		case api.FormU:
			checkDecode(t, r.base|0xfffff000, api.Instr{Op: r.op, Imm: -1})
		case api.FormI:
			checkDecode(t, r.base|0xfff00000, api.Instr{Op: r.op, Imm: -1})
		case api.FormS:
			checkDecode(t, r.base|0xfe000f80, api.Instr{Op: r.op, Imm: -1})
		case api.FormJ:
			checkDecode(t, r.base|0xfffff000, api.Instr{Op: r.op, Imm: -2})
		case api.FormB:
			checkDecode(t, r.base|0xfe000f80, api.Instr{Op: r.op, Imm: -2})
		}
	}
}

// Every Imm that an operation of each form may have.
func TestEveryImm(t *testing.T) {
	seen := map[int]bool{}
	for _, r := range chapterOperations(t) {
		if seen[r.form.form] {
			continue
		}
		seen[r.form.form] = true
		i := r.sample()
		for i.Imm = r.form.least; i.Imm <= r.form.most; i.Imm++ {
			if r.form.even && i.Imm&1 == 1 {
				continue
			}
			if w := r.word(i); wrong(w, r.only(i)) {
				t.Fatalf("%08x: %+v; want %+v", w, Decode(w), i)
			}
		}
	}
}

// Each register in each field that a form uses, alone and among others.
func TestRegisters(t *testing.T) {
	for _, r := range chapterOperations(t) {
		for _, c := range []struct {
			field string
			set   func(*api.Instr, int)
			at    int
		}{
			{"Rd", func(i *api.Instr, n int) { i.Rd = n }, 7},
			{"A", func(i *api.Instr, n int) { i.A = n }, 15},
			{"B", func(i *api.Instr, n int) { i.B = n }, 20},
		} {
			if !r.form.uses(c.field) {
				continue
			}
			for n := range 32 {
				alone, among := api.Instr{Op: r.op}, r.sample()
				c.set(&alone, n)
				c.set(&among, n)
				checkDecode(t, r.base|uint32(n)<<c.at, alone)
				checkDecode(t, r.word(among), among)
			}
		}
	}
}

// Registers 0 and 31 in all fields at once.
func TestRegistersAtTheEdges(t *testing.T) {
	for _, r := range chapterOperations(t) {
		for k := range 8 {
			i := r.only(api.Instr{Rd: k & 1 * 31, A: k >> 1 & 1 * 31, B: k >> 2 & 1 * 31})
			checkDecode(t, r.word(i), i)
		}
	}
}

func TestAqAndRl(t *testing.T) {
	n := 0
	for _, r := range chapterOperations(t) {
		if !r.form.uses("Aq") {
			continue
		}
		n++
		checkDecode(t, r.base|0x4000000, api.Instr{Op: r.op, Aq: true})
		checkDecode(t, r.base|0x2000000, api.Instr{Op: r.op, Rl: true})
		checkDecode(t, r.base|0x6000000, api.Instr{Op: r.op, Aq: true, Rl: true})
		for k := range 4 {
			i := r.sample()
			i.Aq, i.Rl = k&1 == 1, k&2 == 2
			checkDecode(t, r.word(i), i)
		}
	}
	if n != 22 {
		t.Errorf("%d operations have Aq and Rl", n)
	}
}

// P5.1: words that encode no instruction. Imm is the word, also where its most
// significant bit is set.

func TestDecodeNothing(t *testing.T) {
	for w, imm := range map[uint32]int{
		0:          0,
		1:          1,
		0x7f:       127,
		0x200073:   2097267,
		0x7fffffff: 2147483647,
		0x80000000: 2147483648,
		0x80000001: 2147483649,
		0xabcd1234: 2882343476,
		0xfffffffe: 4294967294,
		0xffffffff: 4294967295,
	} {
		checkDecode(t, w, api.Instr{Op: api.OpIllegal, Imm: imm})
	}
}

// Words whose fixed bits are those of no operation, form by form.
func TestFixedBits(t *testing.T) {
	for _, w := range []uint32{
		0x36, 0x35, 0x27, 0x57, 0x77, 0x16, 0x07, 0x6d, 0x6e, 0x4f, 0x2b, 0x5b, 0x7b, // opcodes that there are not
		0x1067, 0x2067, 0x7067, 0xfff07067, // jalr with another f3
		0x2063, 0x3063, 0x80003063, // branches that there are not
		0x7003, 0xfff07003, // loads that there are not
		0x4023, 0x5023, 0x6023, 0x7023, 0xfe007fa3, // stores that there are not
		0x201b, 0x301b, 0x401b, 0x601b, 0x701b, 0xfff0701b, // others next to addiw
		0x4000033 | 1<<30, 0x80000033, 0x4001033, 0x8000033, 0xfe000033, 0x40001033, 0x40002033, 0x40003033, 0x40004033, 0x40006033, 0x40007033, // R with another f7
		0x42000033, 0x42005033, 0x6000033, 0x82000033, 0x22004033,
		0x203b, 0x303b, 0x403b, 0x603b, 0x703b, 0x4000103b, 0x4000203b, 0x4000403b, 0x200103b, 0x200203b, 0x200303b, 0x4200003b,
		0x100f, 0x200f, 0x700f, // fence.i and others
		0x1073, 0x2073, 0x3073, 0x5073, 0x30200073, 0x10500073, 0x200073, 0x300073, 0x80000073, 0x80100073, 0x1100073, // csr, mret, wfi and others
		0x2f, 0x102f, 0x402f, 0x502f, 0x602f, 0x702f, 0x1000002f, 0x1000702f, 0x800102f, // widths that there are not
		0x2800202f, 0x3000202f, 0x5000202f, 0x4800302f, 0xe800202f, 0xf000302f, 0xf800202f, // atomics that there are not
	} {
		checkNone(t, w)
	}
}

func TestShiftsOutOfRange(t *testing.T) {
	for _, base := range []uint32{0x1013, 0x5013, 0x40005013} {
		for _, rest := range []uint32{0, 0x00000f80, 0x000f8000, 0x000f8f80, 0x03f00000, 0x03ff8f80} {
			checkNone(t, base|rest|1<<26)
			checkNone(t, base|rest|1<<27)
			checkNone(t, base|rest|1<<28)
			checkNone(t, base|rest|1<<29)
			checkNone(t, base|rest|1<<31)
		}
	}
	for _, base := range []uint32{0x101b, 0x501b, 0x4000501b} {
		for _, rest := range []uint32{0, 0x00000f80, 0x000f8000, 0x000f8f80, 0x01f00000, 0x01ff8f80} {
			checkNone(t, base|rest|1<<25) // a shift by 32 and more
			checkNone(t, base|rest|1<<26)
			checkNone(t, base|rest|1<<27)
			checkNone(t, base|rest|1<<28)
			checkNone(t, base|rest|1<<29)
			checkNone(t, base|rest|1<<31)
		}
	}
	// There is no arithmetic shift to the left.
	checkNone(t, 0x40001013)
	checkNone(t, 0x4000101b)
}

// Fields that must be zero, with each of their bits.
func TestFieldsThatMustBeZero(t *testing.T) {
	for k := range 5 {
		checkNone(t, 0x1000202f|1<<(20+k)) // lr with B
		checkNone(t, 0x1000302f|1<<(20+k))
		checkNone(t, 0x160532af|1<<(20+k))
		checkNone(t, 0x0ff0000f|1<<(7+k)) // fence with Rd
		checkNone(t, 0x0000000f|1<<(7+k))
		checkNone(t, 0x0ff0000f|1<<(15+k)) // fence with A
		checkNone(t, 0x0000000f|1<<(15+k))
		checkNone(t, 0x00000073|1<<(7+k)) // ecall and ebreak with Rd and A
		checkNone(t, 0x00000073|1<<(15+k))
		checkNone(t, 0x00100073|1<<(7+k))
		checkNone(t, 0x00100073|1<<(15+k))
	}
	for k := range 4 {
		checkNone(t, 0x0ff0000f|1<<(28+k)) // what fence.tso and others have
		checkNone(t, 0x0000000f|1<<(28+k))
	}
	checkNone(t, 0x8330000f) // fence.tso
	for k := 21; k < 32; k++ {
		checkNone(t, 0x73|1<<k)
		checkNone(t, 0x100073|1<<k)
	}
}

// Words that differ in one bit from a word of an instruction: where the operation
// determines the bit, it is a word of another one or of none.
func TestWordsThatDifferInOneBit(t *testing.T) {
	l := chapterOperations(t)
	none := 0
	for _, r := range l {
		high := r.only(api.Instr{Rd: 31, A: 31, B: 31, Imm: r.form.most, Aq: true, Rl: true})
		low := r.only(api.Instr{Imm: r.form.least})
		for _, i := range []api.Instr{{Op: r.op}, r.sample(), high, low} {
			w := r.word(i)
			checkDecode(t, w, i)
			for k := range 32 {
				x := w ^ 1<<k
				checkDecode(t, x, slowDecode(l, x))
				if Decode(x).Op == r.op == (r.open>>k&1 == 0) {
					t.Errorf("%08x and %08x: %+v", w, x, Decode(x))
				}
				if !Is(x) {
					none++
				}
			}
		}
	}
	if none < 1000 {
		t.Errorf("only %d words encode no instruction", none)
	}
}

func TestWordsThatDifferInTwoBits(t *testing.T) {
	l := chapterOperations(t)
	for _, r := range l {
		w := r.word(r.sample())
		for k := range 32 {
			for n := range k {
				x := w ^ 1<<k ^ 1<<n
				checkDecode(t, x, slowDecode(l, x))
			}
		}
	}
}

// Every opcode with every f3 and f7; the other bits are all 0, all 1, or mixed.
func TestEveryOpcodeAndFunction(t *testing.T) {
	l := chapterOperations(t)
	for opcode := range uint32(128) {
		for f3 := range uint32(8) {
			for f7 := range uint32(128) {
				w := opcode | f3<<12 | f7<<25
				for _, rest := range []uint32{0, 0x00100000, 0x01ff8f80, scatter(int(w)) & 0x01ff8f80} {
					if want := slowDecode(l, w|rest); wrong(w|rest, want) {
						t.Fatalf("%08x: Decode %+v, Is %v; want %+v", w|rest, Decode(w|rest), Is(w|rest), want)
					}
				}
			}
		}
	}
}

// Words from all over, and the words of instructions from all over.
func TestManyWords(t *testing.T) {
	l := chapterOperations(t)
	for k := range 300000 {
		w := scatter(k)
		r := l[k%len(l)]
		for _, x := range []uint32{w, w&r.open | r.base} {
			if want := slowDecode(l, x); wrong(x, want) {
				t.Fatalf("%08x: Decode %+v, Is %v; want %+v", x, Decode(x), Is(x), want)
			}
		}
	}
}

// P5.2.

func checkAll(t *testing.T, b []byte, want []api.Instr) {
	t.Helper()
	before := slices.Clone(b)
	l, e := All(b)
	if !slices.Equal(l, want) || e != api.OK {
		t.Errorf("All(%x) = %+v, %d; want %+v", b, l, e, want)
	}
	if !bytes.Equal(b, before) {
		t.Errorf("All changed %x to %x", before, b)
	}
}

func TestAllOfNothing(t *testing.T) {
	checkAll(t, nil, nil)
	checkAll(t, []byte{}, nil)
	checkAll(t, []byte{0x93, 0, 0xf0, 0xff}[:0], nil)
}

func TestAll(t *testing.T) {
	addi := api.Instr{Op: api.OpAddi, Rd: 1, Imm: -1}
	jal := api.Instr{Op: api.OpJal, Rd: 1, Imm: -4}
	checkAll(t, []byte{0x93, 0x00, 0xf0, 0xff}, []api.Instr{addi})
	checkAll(t, []byte{0xef, 0xf0, 0xdf, 0xff, 0x73, 0, 0, 0, 0x93, 0x00, 0xf0, 0xff, 0x93, 0x00, 0xf0, 0xff},
		[]api.Instr{jal, {Op: api.OpEcall}, addi, addi})
	// The bytes of a word in the other order are another word.
	checkAll(t, []byte{0xff, 0xf0, 0x00, 0x93}, []api.Instr{{Imm: 0x9300f0ff}})
}

func TestAllOperations(t *testing.T) {
	var b []byte
	var want []api.Instr
	for _, r := range chapterOperations(t) {
		for _, i := range []api.Instr{r.sample(), {Op: r.op}} {
			w := r.word(i)
			b = append(b, byte(w), byte(w>>8), byte(w>>16), byte(w>>24))
			want = append(want, i)
		}
	}
	for n := range len(want) + 1 {
		checkAll(t, b[:4*n], want[:n])
		checkAll(t, b[4*n:], want[n:])
	}
}

// Words that encode no instruction stand in their places like all others.
func TestAllWithWordsOfNothing(t *testing.T) {
	good := api.Instr{Op: api.OpSd, A: 2, B: 8, Imm: 16}
	goodBytes := []byte{0x23, 0x38, 0x81, 0x00}
	for _, c := range []struct {
		b   []byte
		imm int
	}{
		{[]byte{0, 0, 0, 0}, 0},
		{[]byte{0x7f, 0, 0, 0}, 0x7f},
		{[]byte{0xff, 0xff, 0xff, 0xff}, 0xffffffff},
		{[]byte{0, 0, 0, 0x80}, 0x80000000},
		{[]byte{0x78, 0x56, 0x34, 0x12}, 0x12345678},
	} {
		bad := api.Instr{Imm: c.imm}
		checkAll(t, c.b, []api.Instr{bad})
		checkAll(t, slices.Concat(c.b, goodBytes, goodBytes), []api.Instr{bad, good, good})
		checkAll(t, slices.Concat(goodBytes, c.b, goodBytes), []api.Instr{good, bad, good})
		checkAll(t, slices.Concat(goodBytes, goodBytes, c.b), []api.Instr{good, good, bad})
		checkAll(t, slices.Concat(c.b, goodBytes, c.b), []api.Instr{bad, good, bad})
		checkAll(t, slices.Concat(c.b, c.b, c.b), []api.Instr{bad, bad, bad})
		for k := range 20 {
			bs := bytes.Repeat(goodBytes, 20)
			want := slices.Repeat([]api.Instr{good}, 20)
			copy(bs[4*k:], c.b)
			want[k] = bad
			checkAll(t, bs, want)
		}
	}
}

// Bytes of no whole words, whatever stands in them, and whatever stands behind
// them within their capacity.
func TestAllOfOtherLengths(t *testing.T) {
	for _, whole := range [][]byte{
		bytes.Repeat([]byte{0x93, 0x00, 0xf0, 0xff}, 20),
		make([]byte, 80),
		bytes.Repeat([]byte{0xff}, 80),
	} {
		for n := range len(whole) {
			if n%4 == 0 {
				continue
			}
			before := slices.Clone(whole)
			if l, e := All(whole[:n]); len(l) != 0 || e != api.ErrForm {
				t.Errorf("All(%x) = %+v, %d; want nothing, ErrForm", whole[:n], l, e)
			}
			if !bytes.Equal(whole, before) {
				t.Errorf("All changed %x to %x", before, whole)
			}
		}
	}
}

func TestAllOfManyWords(t *testing.T) {
	l := chapterOperations(t)
	var b []byte
	var want []api.Instr
	for k := range 20000 {
		w := scatter(k)
		if k%3 > 0 {
			r := l[k%len(l)]
			w = w&r.open | r.base
		}
		b = append(b, byte(w), byte(w>>8), byte(w>>16), byte(w>>24))
		want = append(want, slowDecode(l, w))
	}
	if got, e := All(b); !slices.Equal(got, want) || e != api.OK {
		t.Errorf("other instructions, error %d", e)
	}
}

func TestAllGivesNewMemory(t *testing.T) {
	b := []byte{0x73, 0, 0, 0, 0x73, 0, 0x10, 0}
	one, _ := All(b)
	two, _ := All(b)
	one[0] = api.Instr{Op: api.OpLui}
	clear(b)
	if !slices.Equal(two, []api.Instr{{Op: api.OpEcall}, {Op: api.OpEbreak}}) {
		t.Errorf("%+v", two)
	}
}

// P5.3.

func TestDecodeInvertsEncode(t *testing.T) {
	registers := []int{0, 1, 10, 16, 31}
	n := 0
	for _, r := range chapterOperations(t) {
		for _, rd := range registers {
			for _, a := range registers {
				for _, b := range registers {
					for _, imm := range r.form.imms() {
						for k := range 4 {
							i := r.only(api.Instr{Rd: rd, A: a, B: b, Imm: imm, Aq: k&1 == 1, Rl: k&2 == 2})
							w, e := enc.Encode(i)
							if wrong(w, i) || e != api.OK {
								t.Fatalf("%+v: %08x, %d, which is %+v", i, w, e, Decode(w))
							}
							n++
						}
					}
				}
			}
		}
	}
	if n < 500000 {
		t.Errorf("only %d instructions", n)
	}
}

func TestEncodeInvertsDecode(t *testing.T) {
	l := chapterOperations(t)
	for k := range 300000 {
		w := scatter(k)
		r := l[k%len(l)]
		for _, x := range []uint32{w, w&r.open | r.base} {
			i := Decode(x)
			v, e := enc.Encode(i)
			if Is(x) && (v != x || e != api.OK) {
				t.Fatalf("%08x is %+v, which is %08x, %d", x, i, v, e)
			}
			if !Is(x) && e != api.ErrForm {
				t.Fatalf("%08x is %+v, which has the word %08x", x, i, v)
			}
		}
		if x := w&r.open | r.base; !Is(x) {
			t.Fatalf("%08x encodes no instruction", x)
		}
	}
}

func TestAllInvertsEncodeAll(t *testing.T) {
	var l []api.Instr
	for _, r := range chapterOperations(t) {
		for _, imm := range r.form.imms() {
			i := r.sample()
			i.Imm = imm
			l = append(l, r.only(i))
		}
	}
	ws, _, e := enc.All(l)
	if e != api.OK {
		t.Fatal(e)
	}
	checkAll(t, enc.Bytes(ws), l)
}
