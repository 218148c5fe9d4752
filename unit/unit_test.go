package unit

import (
	"math"
	"math/big"
	"math/rand/v2"
	"slices"
	"testing"

	"spinnaker/alu"
	"spinnaker/api"
	"spinnaker/dec"
	"spinnaker/enc"
	"spinnaker/isa"
)

const (
	most  = math.MaxInt
	least = math.MinInt
)

// strangers are numbers that are no register. Those beyond 32 bits become one if
// they are cut.
var strangers = []int{-1, -2, -31, -32, -33, 32, 33, 40, 63, 64, 100, 256, 1 << 31, 1 << 32, 1<<32 + 5, -1<<32 + 5, most, most - 31, least, least + 5}

// noKinds are numbers that are no kind of item.
var noKinds = []int{-1, -2, -5, 5, 6, 7, 100, 256, 1 << 32, 1<<32 + 1, 1<<32 + 4, -1<<32 + 1, most, least, least + 1}

func instr(i api.Instr) api.Item { return api.Item{Kind: api.ItemInstr, Instr: i} }
func label(n int) api.Item       { return api.Item{Kind: api.ItemLabel, N: n} }
func jump(n int) api.Item        { return api.Item{Kind: api.ItemJump, N: n} }
func branch(op, a, b, n int) api.Item {
	return api.Item{Kind: api.ItemIf, N: n, Instr: api.Instr{Op: op, A: a, B: b}}
}
func constant(rd, n int) api.Item {
	return api.Item{Kind: api.ItemConst, N: n, Instr: api.Instr{Rd: rd}}
}
func noted(it api.Item, n int) api.Item    { it.Note = n; return it }
func numbered(it api.Item, n int) api.Item { it.N = n; return it }

var (
	nop   = instr(api.Instr{Op: api.OpAddi})
	ecall = instr(api.Instr{Op: api.OpEcall})
	// wrong is not well formed: there is no such operation.
	wrong = instr(api.Instr{})
	beq   = branch(api.OpBeq, 5, 6, 0)
)

// samples are items of each kind that are well formed.
func samples() map[int][]api.Item {
	return map[int][]api.Item{
		0: {nop, ecall, instr(api.Instr{Op: api.OpSd, A: 2, B: 31, Imm: -2048}), instr(api.Instr{Op: api.OpLrD, Rd: 1, A: 2, Aq: true, Rl: true}),
			instr(api.Instr{Op: api.OpBeq, A: 1, B: 2, Imm: 8}), instr(api.Instr{Op: api.OpJal, Imm: -4})},
		1: {label(0), label(7), label(most)},
		2: {jump(0), jump(7), jump(most)},
		3: {beq, branch(api.OpBne, 0, 0, 0), branch(api.OpBlt, 31, 31, 7), branch(api.OpBge, 1, 0, 1), branch(api.OpBltu, 0, 1, 2), branch(api.OpBgeu, 10, 11, most)},
		4: {constant(0, 0), constant(31, most), constant(5, least), constant(1, -1)},
	}
}

// The reference: what the chapter says, written down in another way.

// mention is which fields the definition of a kind mentions.
type mention struct {
	instr bool // Instr, an instruction or branch
	rd    bool // Instr.Rd alone
	label bool // N, a label
	n     bool // N, any number
}

var mentions = [5]mention{
	{instr: true},
	{label: true},
	{label: true},
	{instr: true, label: true},
	{rd: true, n: true},
}

// wantFormed is the definition of a well formed item.
func wantFormed(it api.Item) bool {
	if it.Kind < 0 || it.Kind > 4 || it.Note < 0 {
		return false
	}
	m := mentions[it.Kind]
	rest := it
	rest.Kind, rest.Note = 0, 0
	if m.instr {
		rest.Instr = api.Instr{}
	}
	if m.rd {
		rest.Instr.Rd = 0
	}
	if m.label || m.n {
		rest.N = 0
	}
	if rest != (api.Item{}) {
		return false
	}
	if m.instr && !isa.May(it.Instr) || m.label && it.N < 0 || m.rd && (it.Instr.Rd < 0 || it.Instr.Rd > 31) {
		return false
	}
	return it.Kind != 3 || isa.Form(it.Instr.Op) == api.FormB && it.Instr.Imm == 0
}

// wantCheck is P9.1.
func wantCheck(l []api.Item) (int, api.Errno) {
	at := func(k int, n int, l []api.Item) bool {
		return slices.ContainsFunc(l, func(it api.Item) bool { return it.Kind == k && it.N == n })
	}
	for k, it := range l {
		if !wantFormed(it) {
			return k, 1
		}
	}
	for k, it := range l {
		if it.Kind == 1 && at(1, it.N, l[:k]) {
			return k, 5
		}
	}
	for k, it := range l {
		if (it.Kind == 2 || it.Kind == 3) && !at(1, it.N, l) {
			return k, 4
		}
	}
	return 0, 0
}

// signed returns the number that the n lowest bits of v form, signed.
func signed(v *big.Int, n uint) *big.Int {
	power := new(big.Int).Lsh(big.NewInt(1), n)
	v = new(big.Int).Mod(v, power)
	if v.Bit(int(n)-1) == 1 {
		v.Sub(v, power)
	}
	return v
}

func number(v *big.Int) int { return int(v.Int64()) }

// wantLoad is the definition of the loading of n into rd, with numbers of any size.
func wantLoad(rd, n int) []api.Instr {
	v := big.NewInt(int64(n))
	if -2048 <= n && n <= 2047 {
		return []api.Instr{{Op: api.OpAddi, Rd: rd, A: 0, Imm: n}}
	}
	lo := signed(v, 12)
	hi := signed(new(big.Int).Sub(v, lo), 64)
	hi.Rsh(hi, 12)
	var l []api.Instr
	add := api.OpAddi
	if -2147483648 <= n && n <= 2147483647 {
		l = []api.Instr{{Op: api.OpLui, Rd: rd, Imm: number(signed(hi, 20))}}
		add = api.OpAddiw
	} else {
		halvings := 0
		for two := big.NewInt(2); hi.Bit(0) == 0; halvings++ {
			hi.Quo(hi, two)
		}
		l = append(wantLoad(rd, number(hi)), api.Instr{Op: api.OpSlli, Rd: rd, A: rd, Imm: 12 + halvings})
	}
	if lo.Sign() != 0 {
		l = append(l, api.Instr{Op: add, Rd: rd, A: rd, Imm: number(lo)})
	}
	return l
}

// wantExpand is what P9.2 says of Expand, for a loading of no instructions where rd
// is no register.
func wantExpand(l []api.Item) []api.Item {
	var out []api.Item
	for _, it := range l {
		if it.Kind != 4 {
			out = append(out, it)
		} else if rd := it.Instr.Rd; rd >= 0 && rd < 32 {
			for _, i := range wantLoad(rd, it.N) {
				out = append(out, api.Item{Kind: 0, Instr: i, N: 0, Note: it.Note})
			}
		}
	}
	return out
}

// constants are the edges that the chapter's definition has, and numbers whose lo
// is 0 or negative, or whose hi is halved often.
func constants() []int {
	l := []int{
		0, 1, -1, -2049, -2048, 2047, 2048, 2049, 4094, 4095, 4096, 4097, -4096, -4097, 6143, 6144, -6144, -6145,
		-1<<31 - 2049, -1<<31 - 2048, -1<<31 - 1, -1 << 31, -1<<31 + 1, -1<<31 + 2047, -1<<31 + 2048,
		1<<31 - 4096, 1<<31 - 2049, 1<<31 - 2048, 1<<31 - 2047, 1<<31 - 1, 1 << 31, 1<<31 + 1, 1<<31 + 2047, 1<<31 + 2048, 1<<31 + 4096,
		1<<32 - 2049, 1<<32 - 2048, 1<<32 - 1, 1 << 32, 1<<32 + 1, -1 << 32,
		least, least + 1, least + 2047, least + 2048, least + 2049, least + 4096, least + 4095,
		most, most - 1, most - 2047, most - 2048, most - 2049, most - 4095, most - 4096,
		0x123456789abcdef0, -0x123456789abcdef0, 0x7ffffffffffff000, 0x7ffffffffffff800, 0x7ffffffffffff7ff, 0x0123456789abcdef,
		0x8000000080000, 0x7ffff7ffff7ff800, 0x5555555555555555, -0x5555555555555556, api.CodeBase, api.DataBase, api.DataBase + 8*api.MaxData,
	}
	for k := range 64 {
		p := 1 << k
		for _, d := range []int{0, 1, 5, 2047, 2048, 2049, 4095, 4096, 1 << 31, 3 << 33} {
			l = append(l, p+d, p-d, -p+d, -p-d, 5*p+d, -5*p-d, 0x7ff*p+d, 0x801*p-d)
		}
	}
	r := rand.New(rand.NewPCG(9, 3))
	for range 4000 {
		v := int(r.Uint64()) >> r.IntN(64)
		k := r.IntN(64)
		l = append(l, v, v<<k, v&^4095, v|2048, v>>k<<k)
	}
	return l
}

// P9.1.

// checkIs tests what Check returns, and that the reference says the same.
func checkIs(t *testing.T, l []api.Item, at int, want api.Errno) {
	t.Helper()
	if k, e := Check(l); k != at || e != want {
		t.Errorf("Check(%+v) = %d, %d; want %d, %d", l, k, e, at, want)
	}
	if k, e := wantCheck(l); k != at || e != want {
		t.Fatalf("the reference of %+v: %d, %d; want %d, %d", l, k, e, at, want)
	}
}

// formedIs tests whether Check takes it as well formed, alone and behind others.
// The label that it may name is placed, or it is one that is placed nowhere else.
func formedIs(t *testing.T, it api.Item, want bool) {
	t.Helper()
	if wantFormed(it) != want {
		t.Fatalf("the reference of %+v: %v; want %v", it, !want, want)
	}
	behind := []api.Item{nop, constant(3, 9), it}
	if !want {
		checkIs(t, []api.Item{it}, 0, api.ErrForm)
		checkIs(t, behind, 2, api.ErrForm)
		return
	}
	if it.Kind == api.ItemJump || it.Kind == api.ItemIf {
		checkIs(t, []api.Item{it}, 0, api.ErrNone)
		checkIs(t, behind, 2, api.ErrNone)
		behind = append(behind, label(it.N))
	}
	checkIs(t, behind, 0, api.OK)
}

func TestCheckOfNoItems(t *testing.T) {
	checkIs(t, nil, 0, api.OK)
	checkIs(t, []api.Item{}, 0, api.OK)
}

func TestCheckOfEachKind(t *testing.T) {
	if len(samples()) != 5 {
		t.Fatalf("%d kinds", len(samples()))
	}
	for kind, l := range samples() {
		for _, it := range l {
			if it.Kind != kind {
				t.Fatalf("%+v is not of the kind %d", it, kind)
			}
			formedIs(t, it, true)
		}
	}
	for _, kind := range noKinds {
		formedIs(t, api.Item{Kind: kind}, false)
		for _, l := range samples() {
			for _, it := range l {
				it.Kind = kind
				formedIs(t, it, false)
			}
		}
	}
}

// An item of one kind is well formed as another one only where the fields agree.
func TestCheckOfSamplesAsOtherKinds(t *testing.T) {
	for _, l := range samples() {
		for _, it := range l {
			for kind := range 5 {
				it.Kind = kind
				formedIs(t, it, wantFormed(it))
			}
		}
	}
	formedIs(t, numbered(nop, 1), false)
	formedIs(t, api.Item{Kind: api.ItemLabel, Instr: nop.Instr}, false)
	formedIs(t, api.Item{Kind: api.ItemJump, Instr: api.Instr{Op: api.OpJal}}, false)
	formedIs(t, api.Item{Kind: api.ItemConst, Instr: api.Instr{Op: api.OpAddi, Rd: 5}}, false)
}

// changes are the instruction with one field more that is not 0.
func changes(i api.Instr) []api.Instr {
	var l []api.Instr
	for _, v := range []int{1, -1, 5, 31, 32, 1 << 32, most, least} {
		op, rd, a, b, imm := i, i, i, i, i
		op.Op, rd.Rd, a.A, b.B, imm.Imm = v, v, v, v, v
		l = append(l, op, rd, a, b, imm)
	}
	aq, rl, both := i, i, i
	aq.Aq, rl.Rl, both.Aq, both.Rl = true, true, true, true
	return append(l, aq, rl, both)
}

func TestCheckOfFieldsThatAreNotMentioned(t *testing.T) {
	for _, n := range []int{1, -1, 2, 5, 1 << 32, most, least} {
		for _, it := range samples()[api.ItemInstr] {
			formedIs(t, numbered(it, n), false)
		}
	}
	for _, kind := range []int{api.ItemLabel, api.ItemJump} {
		for _, it := range samples()[kind] {
			for _, i := range changes(api.Instr{}) {
				it.Instr = i
				formedIs(t, it, false)
			}
		}
	}
	for _, it := range samples()[api.ItemConst] {
		for _, i := range changes(it.Instr) {
			changed := it
			changed.Instr = i
			// A change of Rd alone may make another register of it.
			isRd := i == api.Instr{Rd: i.Rd}
			formedIs(t, changed, isRd && 0 <= i.Rd && i.Rd <= 31)
		}
	}
	for _, it := range samples()[api.ItemIf] {
		for _, rd := range []int{1, 31, -1, 32, most} {
			it.Instr.Rd = rd
			formedIs(t, it, false)
		}
	}
	for _, i := range []api.Instr{{Op: api.OpBeq, Aq: true}, {Op: api.OpBeq, Rl: true}, {Op: api.OpBgeu, A: 1, B: 2, Aq: true, Rl: true}} {
		formedIs(t, api.Item{Kind: api.ItemIf, Instr: i}, false)
	}
}

func TestCheckOfNotes(t *testing.T) {
	for _, l := range samples() {
		for _, it := range l {
			for _, note := range []int{0, 1, 2, 31, 4096, 1 << 32, most} {
				formedIs(t, noted(it, note), true)
			}
			for _, note := range []int{-1, -2, -1 << 32, least, least + 1} {
				formedIs(t, noted(it, note), false)
			}
		}
	}
}

func TestCheckOfLabels(t *testing.T) {
	for _, it := range []api.Item{label(0), jump(0), beq} {
		for _, n := range []int{0, 1, 2, 100, 1 << 31, 1 << 32, most - 1, most} {
			formedIs(t, numbered(it, n), true)
		}
		for _, n := range []int{-1, -2, -100, -1 << 32, least, least + 1} {
			formedIs(t, numbered(it, n), false)
			// It does not help that the label is placed: there is none of this number.
			checkIs(t, []api.Item{numbered(it, n), label(n)}, 0, api.ErrForm)
		}
	}
	// The N of a constant is no label.
	for _, n := range []int{0, -1, 7, most, least} {
		formedIs(t, constant(5, n), true)
	}
}

func TestCheckOfRegisters(t *testing.T) {
	for r := range 32 {
		formedIs(t, constant(r, 7), true)
		formedIs(t, branch(api.OpBlt, r, 0, 1), true)
		formedIs(t, branch(api.OpBlt, 0, r, 1), true)
		formedIs(t, instr(api.Instr{Op: api.OpAdd, Rd: r, A: 31 - r, B: r}), true)
	}
	for _, r := range strangers {
		formedIs(t, constant(r, 7), false)
		formedIs(t, branch(api.OpBlt, r, 0, 1), false)
		formedIs(t, branch(api.OpBlt, 0, r, 1), false)
		formedIs(t, instr(api.Instr{Op: api.OpAdd, Rd: r}), false)
		formedIs(t, instr(api.Instr{Op: api.OpAdd, A: r}), false)
		formedIs(t, instr(api.Instr{Op: api.OpAdd, B: r}), false)
	}
}

func TestCheckOfBranches(t *testing.T) {
	branches := 0
	for op := -2; op < 100; op++ {
		isBranch := op >= api.OpBeq && op <= api.OpBgeu
		if isBranch {
			branches++
		}
		formedIs(t, branch(op, 0, 0, 3), isBranch)
		formedIs(t, branch(op, 5, 31, 3), isBranch)
	}
	if branches != 6 {
		t.Fatalf("%d branches", branches)
	}
	for _, imm := range []int{2, -2, 4, 8, 1, -1, 4094, -4096, 4096, 1 << 32, most, least} {
		it := beq
		it.Instr.Imm = imm
		formedIs(t, it, false)
	}
	for _, it := range samples()[api.ItemInstr] {
		it.Kind = api.ItemIf
		formedIs(t, it, false)
	}
}

func TestCheckOfInstructions(t *testing.T) {
	for _, i := range []api.Instr{
		{}, {Op: -1}, {Op: 88}, {Op: 1 << 32}, {Op: 1<<32 + api.OpAdd}, {Rd: 1}, {Op: api.OpIllegal, Imm: 7},
		{Op: api.OpAddi, Imm: 2048}, {Op: api.OpAddi, Imm: -2049}, {Op: api.OpAddi, B: 1}, {Op: api.OpAddi, Aq: true}, {Op: api.OpAddi, Rl: true},
		{Op: api.OpAdd, Imm: 1}, {Op: api.OpLui, A: 1}, {Op: api.OpLui, Imm: 1 << 19}, {Op: api.OpSd, Rd: 1}, {Op: api.OpSlli, Imm: 64}, {Op: api.OpSlli, Imm: -1},
		{Op: api.OpFence, Imm: 256}, {Op: api.OpEcall, Rd: 10}, {Op: api.OpLrD, B: 1}, {Op: api.OpBeq, Imm: 1}, {Op: api.OpJal, Imm: 1 << 20},
	} {
		formedIs(t, instr(i), false)
	}
	for op := api.OpLui; op <= api.OpAmomaxuD; op++ {
		formedIs(t, instr(api.Instr{Op: op}), true)
	}
}

// Faults do not make up for each other: all items of these fields agree with the
// reference, also where several of them are at fault.
func TestCheckOfSeveralFaults(t *testing.T) {
	var instructions []api.Instr
	for _, op := range []int{-1, api.OpIllegal, api.OpAddi, api.OpAdd, api.OpBeq, api.OpBgeu, api.OpEcall, 88} {
		for _, rd := range []int{-1, 0, 31, 32} {
			for _, a := range []int{-1, 0, 5, 32} {
				for _, imm := range []int{0, 4, 5, 4096} {
					i := api.Instr{Op: op, Rd: rd, A: a, Imm: imm}
					b, aq := i, i
					b.B, aq.Aq = 1, true
					instructions = append(instructions, i, b, aq)
				}
			}
		}
	}
	formed := 0
	for kind := -1; kind <= 5; kind++ {
		for _, n := range []int{-1, 0, 7} {
			for _, note := range []int{-1, 0, 9} {
				for _, i := range instructions {
					it := api.Item{Kind: kind, Instr: i, N: n, Note: note}
					want := wantFormed(it)
					if want {
						formed++
					}
					formedIs(t, it, want)
				}
			}
		}
	}
	if formed < 100 {
		t.Errorf("only %d items are well formed", formed)
	}
}

func TestCheckOfPlacedLabels(t *testing.T) {
	checkIs(t, []api.Item{label(0), label(0)}, 1, api.ErrTwice)
	checkIs(t, []api.Item{label(most), nop, label(most)}, 2, api.ErrTwice)
	checkIs(t, []api.Item{label(0), label(1), label(2)}, 0, api.OK)
	checkIs(t, []api.Item{label(2), label(1), label(0)}, 0, api.OK)
	checkIs(t, []api.Item{label(1), label(2), label(2), label(1)}, 2, api.ErrTwice)
	checkIs(t, []api.Item{label(1), label(2), label(1), label(2)}, 2, api.ErrTwice)
	checkIs(t, []api.Item{label(3), label(3), label(3)}, 1, api.ErrTwice)
	checkIs(t, []api.Item{noted(label(3), 1), noted(label(3), 2)}, 1, api.ErrTwice)
	checkIs(t, []api.Item{label(0), label(1 << 32)}, 0, api.OK)
	// Jumps, branches and constants place no label.
	checkIs(t, []api.Item{jump(3), label(3), jump(3), jump(3), branch(api.OpBne, 1, 2, 3), constant(3, 3), constant(3, 3)}, 0, api.OK)
}

func TestCheckOfNamedLabels(t *testing.T) {
	checkIs(t, []api.Item{jump(1), nop, label(1)}, 0, api.OK)
	checkIs(t, []api.Item{label(1), nop, jump(1)}, 0, api.OK)
	checkIs(t, []api.Item{beq, label(0)}, 0, api.OK)
	checkIs(t, []api.Item{label(0), beq}, 0, api.OK)
	checkIs(t, []api.Item{jump(most), label(most)}, 0, api.OK)
	checkIs(t, []api.Item{jump(0)}, 0, api.ErrNone)
	checkIs(t, []api.Item{beq}, 0, api.ErrNone)
	checkIs(t, []api.Item{label(2), jump(3)}, 1, api.ErrNone)
	checkIs(t, []api.Item{label(3), jump(3), jump(4), jump(5)}, 2, api.ErrNone)
	checkIs(t, []api.Item{label(3), branch(api.OpBlt, 1, 2, 4), jump(5)}, 1, api.ErrNone)
	checkIs(t, []api.Item{jump(5), branch(api.OpBlt, 1, 2, 4)}, 0, api.ErrNone)
	checkIs(t, []api.Item{jump(5), branch(api.OpBlt, 1, 2, 4), label(5)}, 1, api.ErrNone)
	checkIs(t, []api.Item{label(0), jump(1 << 32)}, 1, api.ErrNone)
	// A constant of that number is no label, and neither is an instruction.
	checkIs(t, []api.Item{constant(5, 7), jump(7)}, 1, api.ErrNone)
	checkIs(t, []api.Item{nop, jump(0), ecall}, 1, api.ErrNone)
}

func TestCheckOrderOfErrors(t *testing.T) {
	for _, bad := range []api.Item{wrong, label(-1), jump(-1), constant(32, 1), noted(nop, -1), {Kind: 5}, {Kind: -1}} {
		checkIs(t, []api.Item{label(3), label(3), bad}, 2, api.ErrForm)
		checkIs(t, []api.Item{jump(3), bad}, 1, api.ErrForm)
		checkIs(t, []api.Item{jump(3), label(1), label(1), nop, bad, bad}, 4, api.ErrForm)
		checkIs(t, []api.Item{bad, label(3), label(3), jump(1)}, 0, api.ErrForm)
	}
	checkIs(t, []api.Item{jump(3), label(1), label(1)}, 2, api.ErrTwice)
	checkIs(t, []api.Item{beq, nop, label(1), jump(9), label(1), label(1)}, 4, api.ErrTwice)
	checkIs(t, []api.Item{label(1), label(1), jump(3)}, 1, api.ErrTwice)
	checkIs(t, []api.Item{jump(3), label(3), label(3)}, 2, api.ErrTwice)
}

// All units of up to five items of these few agree with the reference.
func TestCheckOfEverySmallUnit(t *testing.T) {
	few := []api.Item{nop, label(0), label(1), jump(0), branch(api.OpBge, 1, 2, 1), constant(2, 1), wrong}
	var grow func(l []api.Item)
	grow = func(l []api.Item) {
		at, e := wantCheck(l)
		if k, got := Check(l); k != at || got != e {
			t.Errorf("Check(%+v) = %d, %d; want %d, %d", l, k, got, at, e)
		}
		if len(l) == 5 {
			return
		}
		for _, it := range few {
			grow(append(slices.Clone(l), it))
		}
	}
	grow(nil)
}

// A long unit whose last item is at fault.
func TestCheckOfLongUnits(t *testing.T) {
	const n = 1 << 18
	l := make([]api.Item, 0, 2*n+1)
	for k := range n {
		l = append(l, label(k), jump(n-1-k))
	}
	for _, c := range []struct {
		last api.Item
		e    api.Errno
	}{{wrong, api.ErrForm}, {label(n - 1), api.ErrTwice}, {jump(n), api.ErrNone}} {
		if at, e := Check(append(l, c.last)); at != 2*n || e != c.e {
			t.Errorf("%d, %d; want %d, %d", at, e, 2*n, c.e)
		}
	}
	if at, e := Check(append(l, label(n))); at != 0 || e != api.OK {
		t.Errorf("%d, %d", at, e)
	}
	if v := Labels(l); v != n {
		t.Errorf("Labels: %d", v)
	}
}

// P9.2: Load.

func TestLoadExamples(t *testing.T) {
	addi := func(a, imm int) api.Instr { return api.Instr{Op: api.OpAddi, Rd: 5, A: a, Imm: imm} }
	lui := func(imm int) api.Instr { return api.Instr{Op: api.OpLui, Rd: 5, Imm: imm} }
	addiw := func(imm int) api.Instr { return api.Instr{Op: api.OpAddiw, Rd: 5, A: 5, Imm: imm} }
	slli := func(imm int) api.Instr { return api.Instr{Op: api.OpSlli, Rd: 5, A: 5, Imm: imm} }
	for n, want := range map[int][]api.Instr{
		0:                  {addi(0, 0)},
		1:                  {addi(0, 1)},
		-1:                 {addi(0, -1)},
		2047:               {addi(0, 2047)},
		-2048:              {addi(0, -2048)},
		2048:               {lui(1), addiw(-2048)},
		-2049:              {lui(-1), addiw(2047)},
		4095:               {lui(1), addiw(-1)},
		4096:               {lui(1)},
		4097:               {lui(1), addiw(1)},
		-4096:              {lui(-1)},
		1 << 24:            {lui(4096)},
		1<<31 - 1:          {lui(-1 << 19), addiw(-1)},
		1<<31 - 2048:       {lui(-1 << 19), addiw(-2048)},
		1<<31 - 2049:       {lui(1<<19 - 1), addiw(2047)},
		-1 << 31:           {lui(-1 << 19)},
		-1<<31 + 2047:      {lui(-1 << 19), addiw(2047)},
		-1<<31 + 2048:      {lui(-1<<19 + 1), addiw(-2048)},
		1 << 31:            {addi(0, 1), slli(31)},
		1<<31 + 1:          {addi(0, 1), slli(31), addi(5, 1)},
		1<<31 + 2048:       {lui(128), addiw(1), slli(12), addi(5, -2048)},
		-1<<31 - 1:         {addi(0, -1), slli(31), addi(5, -1)},
		-1<<31 - 2048:      {addi(0, -1), slli(31), addi(5, -2048)},
		-1<<31 - 2049:      {lui(-128), addiw(-1), slli(12), addi(5, 2047)},
		1 << 32:            {addi(0, 1), slli(32)},
		1<<32 - 1:          {addi(0, 1), slli(32), addi(5, -1)},
		3 << 40:            {addi(0, 3), slli(40)},
		-5 << 50:           {addi(0, -5), slli(50)},
		1 << 62:            {addi(0, 1), slli(62)},
		most:               {addi(0, -1), slli(63), addi(5, -1)},
		most - 4095:        {addi(0, 1), slli(51), addi(5, -1), slli(12)},
		least:              {addi(0, -1), slli(63)},
		least + 1:          {addi(0, -1), slli(63), addi(5, 1)},
		4096 << 40:         {addi(0, 1), slli(52)},
		0x123456789abcdef0: {lui(0x247), addiw(-1875), slli(14), addi(5, -947), slli(12), addi(5, 1511), slli(13), addi(5, -272)},
	} {
		if l := Load(5, n); !slices.Equal(l, want) {
			t.Errorf("Load(5, %d) = %+v; want %+v", n, l, want)
		}
		if l := wantLoad(5, n); !slices.Equal(l, want) {
			t.Fatalf("the reference of 5, %d: %+v; want %+v", n, l, want)
		}
	}
}

func TestLoadOfConstants(t *testing.T) {
	for _, n := range constants() {
		if l, want := Load(7, n), wantLoad(7, n); !slices.Equal(l, want) {
			t.Errorf("Load(7, %d) = %+v; want %+v", n, l, want)
		}
	}
	for n := -10000; n <= 10000; n++ {
		if l, want := Load(7, n), wantLoad(7, n); !slices.Equal(l, want) {
			t.Errorf("Load(7, %d) = %+v; want %+v", n, l, want)
		}
	}
}

func TestLoadIntoRegisters(t *testing.T) {
	for rd := range 32 {
		for _, n := range []int{0, -2048, 2048, 4096, -1 << 31, 1 << 31, least, most, 0x123456789abcdef0} {
			if l, want := Load(rd, n), wantLoad(rd, n); !slices.Equal(l, want) {
				t.Errorf("Load(%d, %d) = %+v; want %+v", rd, n, l, want)
			}
		}
	}
	for _, rd := range strangers {
		for _, n := range []int{0, -2048, 2048, 4096, -1 << 31, 1 << 31, least, most, 0x123456789abcdef0} {
			if l := Load(rd, n); len(l) != 0 {
				t.Errorf("Load(%d, %d) = %+v; want nothing", rd, n, l)
			}
		}
	}
}

// P9.2: Expand.

// expandIs tests what Expand returns, and that it leaves its argument.
func expandIs(t *testing.T, l, want []api.Item) {
	t.Helper()
	before := slices.Clone(l)
	if got := Expand(l); !slices.Equal(got, want) {
		t.Errorf("Expand(%+v) = %+v; want %+v", l, got, want)
	}
	if got := wantExpand(l); !slices.Equal(got, want) {
		t.Fatalf("the reference of %+v: %+v; want %+v", l, got, want)
	}
	if !slices.Equal(l, before) {
		t.Errorf("the unit became %+v; before: %+v", l, before)
	}
}

func TestExpand(t *testing.T) {
	expandIs(t, nil, nil)
	expandIs(t, []api.Item{}, nil)
	expandIs(t, []api.Item{constant(5, 7)}, []api.Item{instr(api.Instr{Op: api.OpAddi, Rd: 5, Imm: 7})})
	lui := noted(instr(api.Instr{Op: api.OpLui, Rd: 6, Imm: 1}), 9)
	addiw := noted(instr(api.Instr{Op: api.OpAddiw, Rd: 6, A: 6, Imm: -2048}), 9)
	expandIs(t, []api.Item{noted(constant(6, 2048), 9)}, []api.Item{lui, addiw})
	expandIs(t,
		[]api.Item{label(1), noted(constant(6, 4096), 9), noted(nop, 4), noted(constant(6, 2048), 9), noted(jump(1), 2), branch(api.OpBlt, 5, 6, 1), constant(0, 0)},
		[]api.Item{label(1), lui, noted(nop, 4), lui, addiw, noted(jump(1), 2), branch(api.OpBlt, 5, 6, 1), nop})
	for _, n := range constants()[:200] {
		l := []api.Item{nop, noted(constant(3, n), 5), noted(jump(n), 6), constant(31, -n)}
		expandIs(t, l, wantExpand(l))
	}
	for _, l := range samples() {
		if l[0].Kind != api.ItemConst {
			expandIs(t, l, l)
		}
		expandIs(t, l, wantExpand(l))
	}
}

// Expand takes what is not well formed as it is, and constants by Rd, N and Note alone.
func TestExpandOfWhatIsNotWellFormed(t *testing.T) {
	strange := api.Instr{Op: -7, Rd: 77, A: -1, B: 99, Imm: most, Aq: true, Rl: true}
	l := []api.Item{wrong, label(-1), label(-1), jump(-5), {Kind: 5, Instr: strange, N: 3, Note: -4}, {Kind: -1, N: 4096}, {Kind: 1<<32 + 4, N: 4096},
		{Kind: api.ItemIf, Instr: strange, N: -9}, {Kind: api.ItemInstr, Instr: strange, N: 4096, Note: least}, {Kind: api.ItemLabel, Instr: strange, N: least}}
	expandIs(t, l, l)
	for _, rd := range strangers {
		expandIs(t, []api.Item{constant(rd, 5)}, nil)
		expandIs(t, []api.Item{nop, noted(constant(rd, 1<<40+1), 7), ecall}, []api.Item{nop, ecall})
	}
	addi := api.Instr{Op: api.OpAddi, Rd: 4, Imm: 5}
	for _, note := range []int{-1, least, most} {
		expandIs(t, []api.Item{noted(constant(4, 5), note)}, []api.Item{noted(instr(addi), note)})
	}
	for _, i := range changes(api.Instr{}) {
		i.Rd = 4
		expandIs(t, []api.Item{{Kind: api.ItemConst, Instr: i, N: 5}}, []api.Item{instr(addi)})
	}
}

// A valid unit stays valid without its constants.
func TestExpandedUnitsAreValid(t *testing.T) {
	var l []api.Item
	for k, n := range constants() {
		l = append(l, noted(constant(k%32, n), k), label(k), jump(k/2))
	}
	isValid := func(l []api.Item) {
		t.Helper()
		if at, e := Check(l); at != 0 || e != api.OK {
			t.Errorf("%d, %d", at, e)
		}
	}
	isValid(l)
	isValid(Expand(l))
	if slices.ContainsFunc(Expand(l), func(it api.Item) bool { return it.Kind == api.ItemConst }) {
		t.Error("there is a constant left")
	}
}

// P9.2: Labels and Instr.

func TestLabels(t *testing.T) {
	for _, c := range []struct {
		l    []api.Item
		want int
	}{
		{nil, 0},
		{[]api.Item{}, 0},
		{[]api.Item{nop, ecall}, 0},
		{[]api.Item{label(0)}, 1},
		{[]api.Item{label(7)}, 8},
		{[]api.Item{label(7), label(3)}, 8},
		{[]api.Item{label(3), label(7)}, 8},
		{[]api.Item{label(3), nop, label(7), nop, label(5)}, 8},
		{[]api.Item{label(4), label(4)}, 5},
		{[]api.Item{label(most - 1)}, most},
		// The sum is computed modulo 2^64.
		{[]api.Item{label(most)}, least},
		{[]api.Item{label(most), label(5)}, least},
		{[]api.Item{label(5), label(most), label(most - 1)}, least},
		// What is not placed does not count.
		{[]api.Item{jump(9), branch(api.OpBeq, 1, 2, 9), constant(9, 9), numbered(nop, 9), {Kind: 5, N: 9}, {Kind: -1, N: 9}, {Kind: 1<<32 + 1, N: 9}}, 0},
		{[]api.Item{jump(9), label(2), branch(api.OpBeq, 1, 2, 9), constant(9, 9)}, 3},
		// Negative labels.
		{[]api.Item{label(-1)}, 0},
		{[]api.Item{label(-2)}, 0},
		{[]api.Item{label(least)}, 0},
		{[]api.Item{label(-5), label(-3), label(least), label(-1)}, 0},
		{[]api.Item{label(-5), label(0), label(-3)}, 1},
		{[]api.Item{label(6), label(-1)}, 7},
		{[]api.Item{label(-1), label(most)}, least},
		// Labels that are not well formed in another field.
		{[]api.Item{{Kind: api.ItemLabel, N: 6, Note: -1}}, 7},
		{[]api.Item{{Kind: api.ItemLabel, N: 6, Instr: api.Instr{Op: 99, Rd: 50}}}, 7},
		{[]api.Item{wrong, label(6), label(6), wrong}, 7},
	} {
		if n := Labels(c.l); n != c.want {
			t.Errorf("Labels(%+v) = %d; want %d", c.l, n, c.want)
		}
	}
}

func TestInstr(t *testing.T) {
	l := append(changes(api.Instr{}), changes(api.Instr{Op: api.OpAmoaddD, Rd: 1, A: 2, B: 3})...)
	l = append(l, api.Instr{}, nop.Instr, beq.Instr, api.Instr{Op: -7, Rd: 77, A: -1, B: 99, Imm: most, Aq: true, Rl: true})
	for _, i := range l {
		for _, note := range []int{0, 1, 12, most, -1, least} {
			it := Instr(i, note)
			if it.Kind != 0 || it.Instr != i || it.N != 0 || it.Note != note {
				t.Errorf("Instr(%+v, %d) = %+v", i, note, it)
			}
		}
	}
}

// P9.3.

// execute executes instructions that load a number, with the operations of alu.
func execute(t *testing.T, l []api.Instr, x [32]int) [32]int {
	t.Helper()
	for _, i := range l {
		if !isa.May(i) {
			t.Fatalf("%+v is not valid", i)
		}
		var v int
		if i.Op == api.OpLui {
			v = alu.Upper(i.Imm)
		} else {
			var ok bool
			if v, ok = alu.Eval(i.Op, x[i.A], i.Imm); !ok {
				t.Fatalf("%+v computes nothing", i)
			}
		}
		if rd, ok := isa.Writes(i); ok {
			x[rd] = v
		}
	}
	return x
}

// registers returns contents of registers that are not all alike.
func registers(seed uint64) [32]int {
	r := rand.New(rand.NewPCG(seed, 9))
	var x [32]int
	for k := 1; k < 32; k++ {
		x[k] = int(r.Uint64()) >> r.IntN(64)
	}
	return x
}

// loads tests that the loading of n into rd leaves n there and changes nothing else.
func loads(t *testing.T, rd, n int, x [32]int) {
	t.Helper()
	l := Load(rd, n)
	if len(l) == 0 || len(l) > 8 {
		t.Errorf("the loading of %d has %d instructions", n, len(l))
	}
	want := x
	if rd != 0 {
		want[rd] = n
	}
	if got := execute(t, l, x); got != want {
		t.Errorf("Load(%d, %d): %v; want %v", rd, n, got, want)
	}
}

func TestLoadingsExecuted(t *testing.T) {
	var ones [32]int
	for r := 1; r < 32; r++ {
		ones[r] = -1
	}
	for k, n := range constants() {
		loads(t, 1+k%31, n, registers(uint64(k)))
		loads(t, 5, n, ones)
		loads(t, 31, n, [32]int{})
		loads(t, 0, n, ones)
	}
	for rd := range 32 {
		for _, n := range []int{0, -1, 2048, 4095, -1 << 31, 1 << 31, least, most, 0x123456789abcdef0} {
			loads(t, rd, n, registers(uint64(rd)))
		}
	}
}

// Eight instructions are needed at times, so that the bound is no smaller one.
func TestLongestLoading(t *testing.T) {
	longest := 0
	for _, n := range constants() {
		longest = max(longest, len(Load(5, n)))
	}
	if longest != 8 || len(Load(5, 0x123456789abcdef0)) != 8 {
		t.Errorf("%d, %d", longest, len(Load(5, 0x123456789abcdef0)))
	}
}

// Loadings are code: their words are those of the same instructions.
func TestLoadingsAreCode(t *testing.T) {
	for _, n := range constants()[:300] {
		for _, i := range Load(9, n) {
			w, e := enc.Encode(i)
			if e != api.OK || dec.Decode(w) != i {
				t.Errorf("%+v: %#x, %d", i, w, e)
			}
		}
	}
}

// Rule 3: arguments are neither modified nor kept, and results are new memory.

func TestUnitsAreNotModified(t *testing.T) {
	whole := []api.Item{label(1), constant(5, 1<<40+1), jump(1), label(1), constant(6, 2048), wrong}
	before := slices.Clone(whole)
	for n := range len(whole) + 1 {
		// Behind the length of the unit, there is memory that does not belong to it.
		Check(whole[:n])
		Expand(whole[:n])
		Labels(whole[:n])
		if !slices.Equal(whole, before) {
			t.Fatalf("the unit became %+v", whole)
		}
	}
}

func TestResultsAreNew(t *testing.T) {
	for _, l := range [][]api.Item{{nop, label(1), jump(1)}, {nop}, {constant(5, 2048), nop}} {
		before := slices.Clone(l)
		want := wantExpand(l)
		first, second := Expand(l), Expand(l)
		clear(first)
		if !slices.Equal(l, before) || !slices.Equal(second, want) {
			t.Errorf("%+v became %+v, and its expansion %+v", before, l, second)
		}
		clear(l)
		if !slices.Equal(second, want) {
			t.Errorf("what Expand returned hangs on its argument: %+v", second)
		}
	}
	first, second := Load(5, most), Load(5, most)
	clear(first)
	if !slices.Equal(second, wantLoad(5, most)) {
		t.Errorf("Load returned the same memory twice: %+v", second)
	}
}
