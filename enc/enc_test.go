package enc

import (
	"bytes"
	"math"
	"math/bits"
	"slices"
	"strconv"
	"strings"
	"testing"

	"spinnaker/api"
	"spinnaker/isa"
)

// chapterWords is the chapter's table of the words of the operations; each row
// begins with the first and the last operation that it is of.
var chapterWords = []struct{ first, last, words string }{
	{"lui", "bgeu", "37 17 6f 67 63 1063 4063 5063 6063 7063"},
	{"lb", "sd", "3 1003 2003 3003 4003 5003 6003 23 1023 2023 3023"},
	{"addi", "sraiw", "13 2013 3013 4013 6013 7013 1013 5013 40005013 1b 101b 501b 4000501b"},
	{"add", "sraw", "33 40000033 1033 2033 3033 4033 5033 40005033 6033 7033 3b 4000003b 103b 503b 4000503b"},
	{"mul", "remuw", "2000033 2001033 2002033 2003033 2004033 2005033 2006033 2007033 200003b 200403b 200503b 200603b 200703b"},
	{"fence", "ebreak", "f 73 100073"},
	{"lr.w", "amomaxu.w", "1000202f 1800202f 800202f 202f 2000202f 6000202f 4000202f 8000202f a000202f c000202f e000202f"},
	{"lr.d", "amomaxu.d", "1000302f 1800302f 800302f 302f 2000302f 6000302f 4000302f 8000302f a000302f c000302f e000302f"},
}

// span is bits of a field of an instruction, from high to low, and the bit of the
// word at which the lowest one stands.
type span struct {
	field         string
	high, low, at int
}

// chapterForm is a form as the chapters describe it: where the bits of its fields
// stand, and the values of Imm.
type chapterForm struct {
	form        int
	spans       []span
	least, most int
	even        bool
}

var (
	spanRd = span{"Rd", 4, 0, 7}
	spanA  = span{"A", 4, 0, 15}
	spanB  = span{"B", 4, 0, 20}
	spanAq = span{"Aq", 0, 0, 26}
	spanRl = span{"Rl", 0, 0, 25}
)

var chapterForms = []chapterForm{
	{api.FormU, []span{spanRd, {"Imm", 19, 0, 12}}, -1 << 19, 1<<19 - 1, false},
	{api.FormJ, []span{spanRd, {"Imm", 20, 20, 31}, {"Imm", 10, 1, 21}, {"Imm", 11, 11, 20}, {"Imm", 19, 12, 12}}, -1 << 20, 1<<20 - 2, true},
	{api.FormI, []span{spanRd, spanA, {"Imm", 11, 0, 20}}, -2048, 2047, false},
	{api.FormB, []span{spanA, spanB, {"Imm", 12, 12, 31}, {"Imm", 10, 5, 25}, {"Imm", 4, 1, 8}, {"Imm", 11, 11, 7}}, -4096, 4094, true},
	{api.FormS, []span{spanA, spanB, {"Imm", 11, 5, 25}, {"Imm", 4, 0, 7}}, -2048, 2047, false},
	{api.FormR, []span{spanRd, spanA, spanB}, 0, 0, false},
	{api.FormShift, []span{spanRd, spanA, {"Imm", 5, 0, 20}}, 0, 63, false},
	{api.FormSmall, []span{spanRd, spanA, {"Imm", 4, 0, 20}}, 0, 31, false},
	{api.FormFence, []span{{"Imm", 7, 0, 20}}, 0, 255, false},
	{api.FormNone, nil, 0, 0, false},
	{api.FormLr, []span{spanRd, spanA, spanAq, spanRl}, 0, 0, false},
	{api.FormAmo, []span{spanRd, spanA, spanB, spanAq, spanRl}, 0, 0, false},
}

// noOperations are numbers that are no operation. Those beyond 32 bits become
// one if they are cut.
var noOperations = []int{
	0, -1, -2, -66, -87, 88, 89, 98, 100, 127, 128, 255, 256, 1<<16 + 5, 1<<32 + 1, 1<<32 + 22, 1<<32 + 87,
	-1<<32 + 1, math.MaxInt32, math.MinInt32, math.MaxInt, math.MinInt, math.MinInt + 1, math.MinInt + 87,
}

// number returns the number of an operation that there is.
func number(t *testing.T, name string) int {
	t.Helper()
	op, ok := isa.Find(name)
	if !ok {
		t.Fatalf("no operation %q", name)
	}
	return op
}

// wordsByOperation returns the word of each operation, as the chapter has it.
func wordsByOperation(t *testing.T) map[int]uint32 {
	t.Helper()
	m := map[int]uint32{}
	for _, row := range chapterWords {
		op := number(t, row.first)
		for _, s := range strings.Fields(row.words) {
			w, err := strconv.ParseUint(s, 16, 32)
			if err != nil {
				t.Fatal(err)
			}
			m[op] = uint32(w)
			op++
		}
		if op-1 != number(t, row.last) {
			t.Fatalf("%s to %s: another number of words", row.first, row.last)
		}
	}
	return m
}

// formOf returns the form of operation op, as the chapters have it.
func formOf(t *testing.T, op int) chapterForm {
	t.Helper()
	for _, f := range chapterForms {
		if f.form == isa.Form(op) {
			return f
		}
	}
	t.Fatalf("no form of %d", op)
	return chapterForm{}
}

// eachOperation calls f for every operation.
func eachOperation(t *testing.T, f func(op int, base uint32, form chapterForm)) {
	t.Helper()
	m := wordsByOperation(t)
	for op := 1; op <= 87; op++ {
		f(op, m[op], formOf(t, op))
	}
}

// uses reports whether the form uses the field.
func (f chapterForm) uses(field string) bool {
	return slices.ContainsFunc(f.spans, func(s span) bool { return s.field == field })
}

// open returns the bits of a word that the form fills.
func (f chapterForm) open() uint32 {
	var w uint32
	for _, s := range f.spans {
		for k := s.low; k <= s.high; k++ {
			w |= 1 << (s.at + k - s.low)
		}
	}
	return w
}

// sample returns a valid instruction in which no field that the form uses is 0.
func (f chapterForm) sample(op int) api.Instr {
	i := api.Instr{Op: op}
	for _, s := range f.spans {
		switch s.field {
		case "Rd":
			i.Rd = 21
		case "A":
			i.A = 11
		case "B":
			i.B = 14
		case "Aq":
			i.Aq = true
		case "Rl":
			i.Rl = true
		case "Imm":
			i.Imm = 26
		}
	}
	return i
}

// imms returns values of Imm that the form may have: the least and the greatest
// one, each single bit, and all bits but one.
func (f chapterForm) imms() []int {
	l := []int{0, f.least, f.most}
	for k := range 21 {
		l = append(l, 1<<k, -1<<k, f.most^1<<k, f.least^1<<k)
	}
	return slices.DeleteFunc(l, func(v int) bool { return v < f.least || v > f.most || f.even && v&1 == 1 })
}

// fieldOf returns what the field of i holds, as bits.
func fieldOf(i api.Instr, field string) uint64 {
	switch field {
	case "Rd":
		return uint64(i.Rd)
	case "A":
		return uint64(i.A)
	case "B":
		return uint64(i.B)
	case "Imm":
		return uint64(i.Imm)
	case "Aq":
		if i.Aq {
			return 1
		}
	case "Rl":
		if i.Rl {
			return 1
		}
	}
	return 0
}

// slowEncode places the bits of i one by one.
func (f chapterForm) slowEncode(base uint32, i api.Instr) uint32 {
	w := base
	for _, s := range f.spans {
		for k := s.low; k <= s.high; k++ {
			w |= uint32(fieldOf(i, s.field)>>k&1) << (s.at + k - s.low)
		}
	}
	return w
}

// slowDecode takes the fields of the form out of w, bit by bit.
func (f chapterForm) slowDecode(op int, w uint32) api.Instr {
	values := map[string]int{}
	for _, s := range f.spans {
		for k := s.low; k <= s.high; k++ {
			values[s.field] |= int(w>>(s.at+k-s.low)&1) << k
		}
	}
	imm := values["Imm"]
	if imm > f.most {
		imm += 2 * f.least
	}
	return api.Instr{Op: op, Rd: values["Rd"], A: values["A"], B: values["B"], Imm: imm, Aq: values["Aq"] == 1, Rl: values["Rl"] == 1}
}

func checkEncode(t *testing.T, i api.Instr, want uint32) {
	t.Helper()
	if w, e := Encode(i); w != want || e != api.OK {
		t.Errorf("Encode(%+v) = %08x, %d; want %08x", i, w, e, want)
	}
}

func checkNoWord(t *testing.T, i api.Instr) {
	t.Helper()
	if w, e := Encode(i); w != 0 || e != api.ErrForm {
		t.Errorf("Encode(%+v) = %08x, %d; want 0, ErrForm", i, w, e)
	}
}

// The tables of the tests are whole: each operation has a word and a form, and no
// field of a form stands where its operations have bits of their own, or where
// another field stands.
func TestChapterTables(t *testing.T) {
	if n := len(wordsByOperation(t)); n != 87 {
		t.Fatalf("%d operations have a word", n)
	}
	eachOperation(t, func(op int, base uint32, f chapterForm) {
		n := 0
		for _, s := range f.spans {
			n += s.high - s.low + 1
		}
		if base&f.open() != 0 || bits.OnesCount32(f.open()) != n {
			t.Errorf("%s: %08x, %08x", isa.Name(op), base, f.open())
		}
		if i := f.sample(op); !isa.May(i) {
			t.Errorf("%+v is not valid", i)
		}
	})
}

// P4.1: Encode.

func TestEncodeExamples(t *testing.T) {
	for i, want := range map[api.Instr]uint32{
		{Op: api.OpAddi, Rd: 1, Imm: -1}:                               0xfff00093,
		{Op: api.OpAddi}:                                               0x00000013,
		{Op: api.OpLui, Rd: 31, Imm: -1 << 19}:                         0x80000fb7,
		{Op: api.OpAuipc, Rd: 10, Imm: -1}:                             0xfffff517,
		{Op: api.OpJal, Rd: 0, Imm: 2048}:                              0x0010006f,
		{Op: api.OpJal, Rd: 1, Imm: 1<<20 - 2}:                         0x7ffff0ef,
		{Op: api.OpJal, Rd: 1, Imm: -1 << 20}:                          0x800000ef,
		{Op: api.OpJalr, Rd: 0, A: 1}:                                  0x00008067,
		{Op: api.OpBeq, A: 1, B: 2, Imm: 2048}:                         0x002080e3,
		{Op: api.OpBgeu, A: 31, B: 30, Imm: -4096}:                     0x81eff063,
		{Op: api.OpBlt, A: 5, B: 6, Imm: 4094}:                         0x7e62cfe3,
		{Op: api.OpLd, Rd: 10, A: 2, Imm: -8}:                          0xff813503,
		{Op: api.OpLbu, Rd: 5, A: 6, Imm: 2047}:                        0x7ff34283,
		{Op: api.OpSb, A: 6, B: 5, Imm: -2048}:                         0x80530023,
		{Op: api.OpSw, A: 2, B: 31, Imm: -4}:                           0xfff12e23,
		{Op: api.OpSlli, Rd: 5, A: 5, Imm: 32}:                         0x02029293,
		{Op: api.OpSrli, Rd: 5, A: 5, Imm: 63}:                         0x03f2d293,
		{Op: api.OpSraiw, Rd: 6, A: 7, Imm: 31}:                        0x41f3d31b,
		{Op: api.OpSub, Rd: 3, A: 4, B: 5}:                             0x405201b3,
		{Op: api.OpMulhsu, Rd: 31, A: 31, B: 31}:                       0x03ffafb3,
		{Op: api.OpRemuw, Rd: 10, A: 11, B: 12}:                        0x02c5f53b,
		{Op: api.OpFence, Imm: 0xff}:                                   0x0ff0000f,
		{Op: api.OpFence, Imm: 16*api.FenceR + api.FenceW}:             0x0210000f,
		{Op: api.OpEcall}:                                              0x00000073,
		{Op: api.OpLrW, Rd: 5, A: 10, Aq: true}:                        0x140522af,
		{Op: api.OpLrD, Rd: 5, A: 10, Aq: true, Rl: true}:              0x160532af,
		{Op: api.OpScW, Rd: 31, A: 30, B: 29}:                          0x19df2faf,
		{Op: api.OpAmoswapD, Rd: 5, A: 10, B: 11, Rl: true}:            0x0ab532af,
		{Op: api.OpAmomaxuD, Rd: 1, A: 2, B: 3, Aq: true}:              0xe43130af,
		{Op: api.OpAmomaxuW, Rd: 31, A: 31, B: 31, Aq: true, Rl: true}: 0xe7ffafaf,
	} {
		checkEncode(t, i, want)
	}
}

// With no field set, what remains is the word of the operation.
func TestWordsOfOperations(t *testing.T) {
	eachOperation(t, func(op int, base uint32, f chapterForm) {
		checkEncode(t, api.Instr{Op: op}, base)
	})
}

// The bit of the word at which each bit of Imm stands, from bit 0 on, form by
// form, written out once more.
func TestSingleBitsOfImm(t *testing.T) {
	none := -1
	places := map[int][]int{
		api.FormU:     {12, 13, 14, 15, 16, 17, 18, 19, 20, 21, 22, 23, 24, 25, 26, 27, 28, 29, 30, 31},
		api.FormJ:     {none, 21, 22, 23, 24, 25, 26, 27, 28, 29, 30, 20, 12, 13, 14, 15, 16, 17, 18, 19, 31},
		api.FormI:     {20, 21, 22, 23, 24, 25, 26, 27, 28, 29, 30, 31},
		api.FormB:     {none, 8, 9, 10, 11, 25, 26, 27, 28, 29, 30, 7, 31},
		api.FormS:     {7, 8, 9, 10, 11, 25, 26, 27, 28, 29, 30, 31},
		api.FormShift: {20, 21, 22, 23, 24, 25},
		api.FormSmall: {20, 21, 22, 23, 24},
		api.FormFence: {20, 21, 22, 23, 24, 25, 26, 27},
	}
	eachOperation(t, func(op int, base uint32, f chapterForm) {
		l := places[f.form]
		for k, at := range l {
			if at == none {
				continue
			}
			imm := 1 << k
			if f.least < 0 && k == len(l)-1 {
				imm = -imm
			}
			checkEncode(t, api.Instr{Op: op, Imm: imm}, base|1<<at)
			// All bits of the field but this one.
			rest := f.least ^ f.most ^ 1<<k
			if f.least < 0 && k != len(l)-1 {
				checkEncode(t, api.Instr{Op: op, Imm: rest}, base|f.only("Imm").open()&^(1<<at))
			}
		}
		if f.uses("Imm") == (l == nil) {
			t.Errorf("%s: places %v", isa.Name(op), l)
		}
	})
}

// only returns the form with no other field than this one.
func (f chapterForm) only(field string) chapterForm {
	f.spans = slices.DeleteFunc(slices.Clone(f.spans), func(s span) bool { return s.field != field })
	return f
}

func TestLeastAndGreatestImm(t *testing.T) {
	for _, c := range []struct {
		form          int
		least, most   int
		atLeast, full uint32
	}{
		{api.FormU, -524288, 524287, 0x80000000, 0x7ffff000},
		{api.FormJ, -1048576, 1048574, 0x80000000, 0x7ffff000},
		{api.FormI, -2048, 2047, 0x80000000, 0x7ff00000},
		{api.FormB, -4096, 4094, 0x80000000, 0x7e000f80},
		{api.FormS, -2048, 2047, 0x80000000, 0x7e000f80},
		{api.FormShift, 0, 63, 0, 0x03f00000},
		{api.FormSmall, 0, 31, 0, 0x01f00000},
		{api.FormFence, 0, 255, 0, 0x0ff00000},
	} {
		eachOperation(t, func(op int, base uint32, f chapterForm) {
			if f.form != c.form {
				return
			}
			step := 1
			if f.even {
				step = 2
			}
			checkEncode(t, api.Instr{Op: op, Imm: c.least}, base|c.atLeast)
			checkEncode(t, api.Instr{Op: op, Imm: c.most}, base|c.full)
			checkNoWord(t, api.Instr{Op: op, Imm: c.least - step})
			checkNoWord(t, api.Instr{Op: op, Imm: c.most + step})
			// In the midst of other fields, which keep their bits.
			i := f.sample(op)
			i.Imm = c.least
			checkEncode(t, i, f.slowEncode(base, i))
			i.Imm = c.most
			checkEncode(t, i, f.slowEncode(base, i))
		})
	}
}

// Imm -1 sets all bits of the field; where it may not be odd, -2 does.
func TestImmOfOnesOnly(t *testing.T) {
	eachOperation(t, func(op int, base uint32, f chapterForm) {
		i := api.Instr{Op: op, Imm: -1}
		switch f.form {
		case api.FormU:
			checkEncode(t, i, base|0xfffff000)
		case api.FormI:
			checkEncode(t, i, base|0xfff00000)
		case api.FormS:
			checkEncode(t, i, base|0xfe000f80)
		default:
			checkNoWord(t, i)
		}
		i.Imm = -2
		switch f.form {
		case api.FormJ:
			checkEncode(t, i, base|0xfffff000)
		case api.FormB:
			checkEncode(t, i, base|0xfe000f80)
		}
	})
}

// Each register in each field that a form uses, alone and among others.
func TestRegisters(t *testing.T) {
	eachOperation(t, func(op int, base uint32, f chapterForm) {
		for _, c := range []struct {
			field string
			set   func(*api.Instr, int)
			at    int
		}{
			{"Rd", func(i *api.Instr, r int) { i.Rd = r }, 7},
			{"A", func(i *api.Instr, r int) { i.A = r }, 15},
			{"B", func(i *api.Instr, r int) { i.B = r }, 20},
		} {
			for r := range 32 {
				alone, among := api.Instr{Op: op}, f.sample(op)
				c.set(&alone, r)
				c.set(&among, r)
				if r > 0 && !f.uses(c.field) {
					checkNoWord(t, alone)
					checkNoWord(t, among)
					continue
				}
				checkEncode(t, alone, base|uint32(r)<<c.at)
				checkEncode(t, among, f.slowEncode(base, among))
			}
		}
	})
}

func TestAqAndRl(t *testing.T) {
	eachOperation(t, func(op int, base uint32, f chapterForm) {
		if !f.uses("Aq") {
			return
		}
		checkEncode(t, api.Instr{Op: op, Aq: true}, base|0x4000000)
		checkEncode(t, api.Instr{Op: op, Rl: true}, base|0x2000000)
		checkEncode(t, api.Instr{Op: op, Aq: true, Rl: true}, base|0x6000000)
		i := f.sample(op)
		i.Rl = false
		checkEncode(t, i, f.slowEncode(base, i))
		i.Aq, i.Rl = false, true
		checkEncode(t, i, f.slowEncode(base, i))
	})
}

// All combinations of what stands at the edges of the fields.
func TestEncodeCombinations(t *testing.T) {
	registers := []int{0, 1, 10, 16, 31}
	eachOperation(t, func(op int, base uint32, f chapterForm) {
		for _, rd := range registers {
			for _, a := range registers {
				for _, b := range registers {
					for _, imm := range f.imms() {
						i := api.Instr{Op: op, Imm: imm}
						if f.uses("Rd") {
							i.Rd = rd
						}
						if f.uses("A") {
							i.A = a
						}
						if f.uses("B") {
							i.B = b
						}
						checkEncode(t, i, f.slowEncode(base, i))
					}
				}
			}
		}
	})
}

// Every Imm that an operation of each form may have.
func TestEveryImm(t *testing.T) {
	seen := map[int]bool{}
	eachOperation(t, func(op int, base uint32, f chapterForm) {
		if seen[f.form] {
			return
		}
		seen[f.form] = true
		i := f.sample(op)
		for i.Imm = f.least; i.Imm <= f.most; i.Imm++ {
			if f.even && i.Imm&1 == 1 {
				checkNoWord(t, i)
			} else {
				checkEncode(t, i, f.slowEncode(base, i))
			}
		}
	})
}

// P4.1: what is not valid.

func TestEncodeNotValid(t *testing.T) {
	for _, i := range []api.Instr{
		{}, {Imm: 0xfff00093}, {Op: 88}, {Op: -1}, {Rd: 1, A: 2, B: 3},
		{Op: api.OpJal, Rd: 1, Imm: 1}, {Op: api.OpJal, Rd: 1, Imm: -1}, {Op: api.OpJal, Imm: 1<<20 - 1},
		{Op: api.OpBeq, A: 1, B: 2, Imm: 3}, {Op: api.OpBgeu, A: 1, B: 2, Imm: -4095}, {Op: api.OpBne, Imm: 4095},
		{Op: api.OpAddi, Rd: 32}, {Op: api.OpAddi, Rd: -1}, {Op: api.OpAddi, A: 32}, {Op: api.OpAddi, Imm: 2048}, {Op: api.OpAddi, Imm: 0xfff}, {Op: api.OpAddi, B: 1},
		{Op: api.OpLui, Rd: 5, Imm: 0x80000}, {Op: api.OpLui, Rd: 5, Imm: 0x12345000}, {Op: api.OpLui, Rd: 5, A: 1},
		{Op: api.OpSd, Rd: 1}, {Op: api.OpSd, A: 1, B: -1}, {Op: api.OpSd, A: 1, B: 2, Imm: -2049},
		{Op: api.OpSlli, Rd: 1, A: 1, Imm: 64}, {Op: api.OpSlli, Rd: 1, A: 1, Imm: -1}, {Op: api.OpSrai, Rd: 1, A: 1, Imm: 0x400},
		{Op: api.OpSlliw, Rd: 1, A: 1, Imm: 32}, {Op: api.OpSraiw, Rd: 1, A: 1, Imm: -1},
		{Op: api.OpAdd, Rd: 1, A: 2, B: 3, Imm: 1}, {Op: api.OpAdd, Rd: 1, A: 2, B: 32}, {Op: api.OpAdd, Aq: true}, {Op: api.OpAdd, Rl: true},
		{Op: api.OpFence, Imm: 256}, {Op: api.OpFence, Imm: -1}, {Op: api.OpFence, Rd: 1}, {Op: api.OpFence, A: 1}, {Op: api.OpFence, Aq: true},
		{Op: api.OpEcall, Rd: 10}, {Op: api.OpEcall, A: 10}, {Op: api.OpEbreak, B: 1}, {Op: api.OpEbreak, Imm: 1},
		{Op: api.OpLrD, Rd: 1, A: 2, B: 3}, {Op: api.OpLrW, Rd: 1, A: 2, Imm: 4}, {Op: api.OpAmoaddD, Rd: 1, A: 2, B: 3, Imm: 8}, {Op: api.OpScD, Rd: 1, A: 32, B: 3},
	} {
		checkNoWord(t, i)
	}
}

func TestEncodeNoOperation(t *testing.T) {
	for _, op := range noOperations {
		checkNoWord(t, api.Instr{Op: op})
		checkNoWord(t, api.Instr{Op: op, Rd: 1, A: 2, B: 3, Imm: 4})
		checkNoWord(t, api.Instr{Op: op, Rd: 1, A: 2, B: 3, Aq: true, Rl: true})
	}
}

// One field of a valid instruction is out of its range, or is not used and not 0.
func TestEncodeOneFieldNotValid(t *testing.T) {
	numbers := []int{-1, 32, 33, 64, -32, 1 << 31, 1 << 32, 1<<32 + 5, -1 << 32, math.MaxInt, math.MinInt, math.MinInt + 5}
	eachOperation(t, func(op int, base uint32, f chapterForm) {
		for _, i := range []api.Instr{{Op: op}, f.sample(op)} {
			for _, v := range numbers {
				rd, a, b := i, i, i
				rd.Rd, a.A, b.B = v, v, v
				checkNoWord(t, rd)
				checkNoWord(t, a)
				checkNoWord(t, b)
			}
			checkUnused(t, f, i)
			for _, v := range []int{f.least - 1, f.most + 1, f.least - 2, f.most + 2, 1 << 21, 1 << 31, 1 << 32, 1<<32 + 2, -1 << 32, math.MaxInt, math.MaxInt - 1, math.MinInt} {
				i.Imm = v
				checkNoWord(t, i)
			}
		}
	})
}

// checkUnused sets each field that the form of i does not use.
func checkUnused(t *testing.T, f chapterForm, i api.Instr) {
	t.Helper()
	for field, set := range map[string]func(*api.Instr){
		"Rd":  func(i *api.Instr) { i.Rd = 1 },
		"A":   func(i *api.Instr) { i.A = 31 },
		"B":   func(i *api.Instr) { i.B = 2 },
		"Imm": func(i *api.Instr) { i.Imm = 2 },
		"Aq":  func(i *api.Instr) { i.Aq = true },
		"Rl":  func(i *api.Instr) { i.Rl = true },
	} {
		if !f.uses(field) {
			changed := i
			set(&changed)
			checkNoWord(t, changed)
		}
	}
}

func TestEncodeOddImm(t *testing.T) {
	for op := 1; op <= 87; op++ {
		if f := formOf(t, op); f.even {
			for imm := f.least - 1; imm <= f.most+1; imm += 2 {
				checkNoWord(t, api.Instr{Op: op, Imm: imm})
			}
		}
	}
}

// P4.1: All.

func checkAll(t *testing.T, l []api.Instr, want []uint32) {
	t.Helper()
	before := slices.Clone(l)
	ws, at, e := All(l)
	if !slices.Equal(ws, want) || at != 0 || e != api.OK {
		t.Errorf("All(%+v) = %08x, %d, %d; want %08x", l, ws, at, e, want)
	}
	if !slices.Equal(l, before) {
		t.Errorf("All changed %+v to %+v", before, l)
	}
}

func checkAllFails(t *testing.T, l []api.Instr, want int) {
	t.Helper()
	if ws, at, e := All(l); len(ws) != 0 || at != want || e != api.ErrForm {
		t.Errorf("All(%+v) = %08x, %d, %d; want nothing, %d, ErrForm", l, ws, at, e, want)
	}
}

func TestAllOfNothing(t *testing.T) {
	checkAll(t, nil, nil)
	checkAll(t, []api.Instr{}, nil)
}

func TestAll(t *testing.T) {
	addi := api.Instr{Op: api.OpAddi, Rd: 1, Imm: -1}
	jal := api.Instr{Op: api.OpJal, Rd: 1, Imm: -4}
	checkAll(t, []api.Instr{addi}, []uint32{0xfff00093})
	checkAll(t, []api.Instr{addi, jal, {Op: api.OpEcall}, addi, addi}, []uint32{0xfff00093, 0xffdff0ef, 0x73, 0xfff00093, 0xfff00093})
	var l []api.Instr
	var want []uint32
	eachOperation(t, func(op int, base uint32, f chapterForm) {
		i := f.sample(op)
		l = append(l, i, api.Instr{Op: op})
		want = append(want, f.slowEncode(base, i), base)
	})
	checkAll(t, l, want)
	for n := range len(l) {
		checkAll(t, l[:n], want[:n])
		checkAll(t, l[n:], want[n:])
	}
}

// Only the first one of those that are not valid counts, wherever it stands.
func TestAllNotValid(t *testing.T) {
	good := api.Instr{Op: api.OpAdd, Rd: 1, A: 2, B: 3}
	for _, bad := range []api.Instr{{}, {Op: 88}, {Op: -1}, {Op: api.OpAdd, Rd: 32}, {Op: api.OpJal, Imm: 1}, {Op: api.OpEcall, Rd: 1}, {Op: api.OpAddi, Imm: 2048}} {
		checkAllFails(t, []api.Instr{bad}, 0)
		checkAllFails(t, []api.Instr{bad, good, good}, 0)
		checkAllFails(t, []api.Instr{good, bad, good}, 1)
		checkAllFails(t, []api.Instr{good, good, bad}, 2)
		checkAllFails(t, []api.Instr{bad, good, bad}, 0)
		checkAllFails(t, []api.Instr{bad, bad, bad}, 0)
		checkAllFails(t, []api.Instr{good, bad, bad, good, bad}, 1)
		checkAllFails(t, []api.Instr{good, good, good, bad, {}}, 3)
		for k := range 20 {
			l := slices.Repeat([]api.Instr{good}, 20)
			l[k] = bad
			checkAllFails(t, l, k)
			l[19] = bad
			checkAllFails(t, l, k)
		}
	}
}

func TestAllGivesNewMemory(t *testing.T) {
	l := []api.Instr{{Op: api.OpEcall}, {Op: api.OpEbreak}}
	one, _, _ := All(l)
	two, _, _ := All(l)
	one[0] = 0
	l[1] = api.Instr{}
	if !slices.Equal(two, []uint32{0x73, 0x100073}) {
		t.Errorf("%08x", two)
	}
}

// P4.2.

func TestBytes(t *testing.T) {
	for _, c := range []struct {
		l    []uint32
		want []byte
	}{
		{nil, nil},
		{[]uint32{}, nil},
		{[]uint32{0}, []byte{0, 0, 0, 0}},
		{[]uint32{0x12345678}, []byte{0x78, 0x56, 0x34, 0x12}},
		{[]uint32{0xffffffff}, []byte{0xff, 0xff, 0xff, 0xff}},
		{[]uint32{0x80000001}, []byte{1, 0, 0, 0x80}},
		{[]uint32{0xfff00093, 0x73}, []byte{0x93, 0, 0xf0, 0xff, 0x73, 0, 0, 0}},
		{[]uint32{1, 0, 2, 1}, []byte{1, 0, 0, 0, 0, 0, 0, 0, 2, 0, 0, 0, 1, 0, 0, 0}},
	} {
		before := slices.Clone(c.l)
		if b := Bytes(c.l); !bytes.Equal(b, c.want) {
			t.Errorf("Bytes(%08x) = %x; want %x", c.l, b, c.want)
		}
		if !slices.Equal(c.l, before) {
			t.Errorf("Bytes changed %08x to %08x", before, c.l)
		}
	}
}

// Each single bit of a word stands in its byte.
func TestBytesOfSingleBits(t *testing.T) {
	var l []uint32
	want := make([]byte, 32*4)
	for k := range 32 {
		l = append(l, 1<<k)
		want[4*k+k/8] = 1 << (k % 8)
	}
	if b := Bytes(l); !bytes.Equal(b, want) {
		t.Errorf("%x", b)
	}
}

// Words that encode no instruction have bytes too, and many words have them in
// the order of the list.
func TestBytesOfManyWords(t *testing.T) {
	var l []uint32
	var want []byte
	for k := range 1000 {
		w := uint32(k) * 0x9e3779b9
		l = append(l, w)
		want = append(want, byte(w), byte(w>>8), byte(w>>16), byte(w>>24))
	}
	if b := Bytes(l); !bytes.Equal(b, want) {
		t.Error("another order of bytes")
	}
}

func TestBytesGivesNewMemory(t *testing.T) {
	l := []uint32{1, 2}
	one, two := Bytes(l), Bytes(l)
	one[0] = 9
	if two[0] != 1 || l[0] != 1 {
		t.Errorf("%x, %x", two, l)
	}
}

// P4.3.

// Two operations differ in a bit that none of them leaves open, so that no
// values of their fields give them one word.
func TestOperationsDiffer(t *testing.T) {
	// closed are the bits that are alike in all words of an operation, as Encode
	// makes them.
	type closed struct{ mask, word uint32 }
	var l []closed
	eachOperation(t, func(op int, base uint32, f chapterForm) {
		zeros := ^uint32(0)
		var ones uint32
		for _, imm := range f.imms() {
			for _, full := range []bool{false, true} {
				i := api.Instr{Op: op}
				if full {
					i = f.sample(op)
					i.Rd, i.A, i.B = min(i.Rd, 1)*31, min(i.A, 1)*31, min(i.B, 1)*31
				}
				i.Imm = imm
				w, e := Encode(i)
				if e != api.OK {
					t.Fatalf("%+v: %d", i, e)
				}
				ones |= w
				zeros &= w
			}
		}
		l = append(l, closed{^(ones ^ zeros), zeros})
	})
	for k, p := range l {
		for _, q := range l[:k] {
			if (p.word^q.word)&p.mask&q.mask == 0 {
				t.Errorf("%08x, %08x", p, q)
			}
		}
	}
}

// The fields of an instruction can be read from its word again, so that no two
// instructions of one operation have the same word.
func TestFieldsDiffer(t *testing.T) {
	eachOperation(t, func(op int, base uint32, f chapterForm) {
		check := func(i api.Instr) {
			w, e := Encode(i)
			if got := f.slowDecode(op, w); got != i || e != api.OK {
				t.Errorf("Encode(%+v) = %08x, %d, which is %+v", i, w, e, got)
			}
		}
		for _, imm := range f.imms() {
			for r := range 32 {
				i := f.sample(op)
				i.Rd, i.A, i.B, i.Imm = min(i.Rd, 1)*r, min(i.A, 1)*(31-r), min(i.B, 1)*(r^21), imm
				check(i)
				i.Aq = false
				check(i)
				i.Rl = false
				check(i)
			}
		}
	})
}

func TestDifferentInstructionsHaveDifferentWords(t *testing.T) {
	of := map[uint32]api.Instr{}
	valid := map[api.Instr]bool{}
	add := func(i api.Instr) {
		w, e := Encode(i)
		if e != api.OK {
			return
		}
		if other, isThere := of[w]; isThere && other != i {
			t.Errorf("%+v and %+v have the word %08x", i, other, w)
		}
		of[w] = i
		valid[i] = true
	}
	for op := 1; op <= 87; op++ {
		for _, rd := range []int{0, 1, 31} {
			for _, a := range []int{0, 2, 31} {
				for _, b := range []int{0, 5, 31} {
					for _, imm := range formOf(t, op).imms() {
						for k := range 4 {
							add(api.Instr{Op: op, Rd: rd, A: a, B: b, Imm: imm, Aq: k&1 == 1, Rl: k&2 == 2})
						}
					}
				}
			}
		}
	}
	if len(of) != len(valid) || len(of) < 5000 {
		t.Errorf("%d words of %d instructions", len(of), len(valid))
	}
}
