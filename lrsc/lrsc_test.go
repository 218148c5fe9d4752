package lrsc

import (
	"fmt"
	"math"
	"math/rand/v2"
	"slices"
	"strings"
	"testing"

	"spinnaker/api"
	"spinnaker/isa"
	"spinnaker/text"
)

const (
	most  = math.MaxInt
	least = math.MinInt
)

// The sizes of loops as numbers, so that the tests say what the document says.
const (
	shortest = 3
	greatest = 16
)

type list = []api.Instr

// The instructions of which most loops of the tests are made.
var (
	lrD = api.Instr{Op: api.OpLrD, Rd: 5, A: 10}
	lrW = api.Instr{Op: api.OpLrW, Rd: 5, A: 10}
	scD = api.Instr{Op: api.OpScD, Rd: 7, A: 10, B: 8}
	scW = api.Instr{Op: api.OpScW, Rd: 7, A: 10, B: 8}
	nop = api.Instr{Op: api.OpAddi}
	// wrong is not valid: there is no such operation.
	wrong = api.Instr{}
)

// bne and jal return a branch and a jump that lead over n instructions.
func bne(n int) api.Instr { return api.Instr{Op: api.OpBne, A: 7, Imm: 4 * n} }
func jal(n int) api.Instr { return api.Instr{Op: api.OpJal, Imm: 4 * n} }

// plain holds instructions that may stand in a loop and do not write register 10.
var plain = list{
	nop,
	{Op: api.OpLui, Rd: 6, Imm: -1},
	{Op: api.OpAdd, Rd: 10 + 1, A: 10, B: 5},
	bne(1),
	{Op: api.OpSraw, Rd: 31, A: 10, B: 10},
	jal(3),
	{Op: api.OpAuipc, Imm: 10},
}

// fill returns n instructions that may stand in a loop.
func fill(n int) list {
	l := make(list, n)
	for k := range l {
		l[k] = plain[k%len(plain)]
	}
	return l
}

// loop returns a loop of n instructions of which the one at index s is the
// store-conditional. It is constrained unless n or s forbid it.
func loop(n, s int) list {
	return slices.Concat(list{lrD}, fill(s-1), list{scD}, fill(n-s-2), list{bne(1 - n)})
}

// with returns l with i at index k.
func with(l list, k int, i api.Instr) list {
	l = slices.Clone(l)
	l[k] = i
	return l
}

// asm returns the instructions whose texts stand in s, separated by semicolons.
func asm(t *testing.T, s string) list {
	t.Helper()
	var l list
	for one := range strings.SplitSeq(s, ";") {
		i, e := text.Parse(strings.TrimSpace(one))
		if e != api.OK {
			t.Fatalf("%q is no instruction", one)
		}
		l = append(l, i)
	}
	return l
}

// show writes instructions down, also those that are not valid.
func show(l list) string {
	var s []string
	for _, i := range l {
		one := text.Text(i)
		if one == "" {
			one = fmt.Sprintf("%+v", i)
		}
		s = append(s, one)
	}
	return strings.Join(s, "; ")
}

// The reference: what the chapter says, written down in another way.

// permitted is lui, auipc, and addi to sraw.
const permitted = " lui auipc addi slti sltiu xori ori andi slli srli srai addiw slliw srliw sraiw" +
	" add sub sll slt sltu xor srl sra or and addw subw sllw srlw sraw "

const branches = " beq bne blt bge bltu bgeu "

func isOneOf(names string, i api.Instr) bool {
	return strings.Contains(names, " "+isa.Name(i.Op)+" ")
}

// wantJumps reports whether i is a branch, or jal with Rd 0.
func wantJumps(i api.Instr) bool {
	return isOneOf(branches, i) || isOneOf(" jal ", i) && i.Rd == 0
}

func wantPlain(i api.Instr) bool {
	return isOneOf(permitted, i) || wantJumps(i) && i.Imm > 0
}

// wantLoop reports whether the instructions from index p to q of l are a
// constrained loop. Every condition of the chapter is a line of its own.
func wantLoop(l list, p, q int) bool {
	if q-p+1 < shortest || q-p+1 > greatest || slices.ContainsFunc(l[p:q+1], func(i api.Instr) bool { return !isa.May(i) }) {
		return false
	}
	lr, last := l[p], l[q]
	s := slices.IndexFunc(l[p+1:], func(i api.Instr) bool { return isOneOf(" sc.w sc.d ", i) }) + p + 1
	if !isOneOf(" lr.w lr.d ", lr) || s == p || s >= q {
		return false
	}
	sequence, sc, retry := l[p+1:s], l[s], l[s+1:q]
	writes := func(i api.Instr) bool { return i.Rd == lr.A && i.Rd != 0 }
	no := func(i api.Instr) bool { return !wantPlain(i) }
	return isa.Name(sc.Op)[2:] == isa.Name(lr.Op)[2:] &&
		sc.A == lr.A &&
		!writes(lr) && !slices.ContainsFunc(sequence, writes) &&
		!slices.ContainsFunc(sequence, no) &&
		!slices.ContainsFunc(retry, no) &&
		wantJumps(last) && last.Imm == 4*(p-q)
}

// wantLength is the length of the loop at index p of l, of which there is at most
// one.
func wantLength(t *testing.T, l list, p int) int {
	t.Helper()
	found := 0
	for q := range l {
		if p < 0 || p > q || !wantLoop(l, p, q) {
			continue
		}
		if found != 0 {
			t.Fatalf("two loops begin at %d of %s", p, show(l))
		}
		found = q - p + 1
	}
	return found
}

func wantAll(t *testing.T, l list) (int, bool) {
	t.Helper()
	for p, i := range l {
		if isOneOf(" lr.w lr.d ", i) && wantLength(t, l, p) == 0 {
			return p, false
		}
	}
	return 0, true
}

// hidden returns l with memory beyond its length, which holds tail, and a function
// that reports whether l and that memory are as they were.
func hidden(l, tail list) (list, func() bool) {
	whole := slices.Concat(l, tail)
	before := slices.Clone(whole)
	return whole[:len(l)], func() bool { return slices.Equal(whole, before) }
}

// lengthIs tests what Length returns, and that the reference returns the same.
func lengthIs(t *testing.T, l list, p, want int) {
	t.Helper()
	arg, isSame := hidden(l, list{scD, bne(-len(l))})
	if n := Length(arg, p); n != want {
		t.Errorf("Length(%s, %d) = %d; want %d", show(l), p, n, want)
	}
	if n := wantLength(t, l, p); n != want {
		t.Fatalf("the reference of %s at %d: %d; want %d", show(l), p, n, want)
	}
	if !isSame() {
		t.Errorf("Length modified %s", show(l))
	}
}

// allIs tests what All returns, and that the reference returns the same.
func allIs(t *testing.T, l list, want int, wantOK bool) {
	t.Helper()
	arg, isSame := hidden(l, list{scD, bne(-len(l)), lrD})
	if p, ok := All(arg); p != want || ok != wantOK {
		t.Errorf("All(%s) = %d, %v; want %d, %v", show(l), p, ok, want, wantOK)
	}
	if p, ok := wantAll(t, l); p != want || ok != wantOK {
		t.Fatalf("the reference of %s: %d, %v; want %d, %v", show(l), p, ok, want, wantOK)
	}
	if !isSame() {
		t.Errorf("All modified %s", show(l))
	}
}

// agrees tests Length at every index of l, and All of l, against the reference,
// and returns the number of loops in l.
func agrees(t *testing.T, l list) int {
	t.Helper()
	loops := 0
	for p := -1; p <= len(l); p++ {
		want := wantLength(t, l, p)
		lengthIs(t, l, p, want)
		if want != 0 {
			loops++
		}
	}
	at, ok := wantAll(t, l)
	allIs(t, l, at, ok)
	return loops
}

// P12.1: loops as texts.

func TestLoops(t *testing.T) {
	for _, c := range []struct {
		s    string
		want int
	}{
		{"lr.d x5, (x10); bne x5, x6, 12; sc.d x7, x8, (x10); bne x7, x0, -12", 4},
		{"lr.d x5, (x10); sc.d x7, x8, (x10); bne x7, x0, -8", 3},
		{"lr.w x5, (x10); sc.w x7, x8, (x10); bne x7, x0, -8", 3},
		{"lr.w.aq x5, (x10); add x5, x5, x6; sc.w.rl x7, x5, (x10); bne x7, x0, -12", 4},
		{"lr.d.aqrl x5, (x10); slt x7, x5, x8; bne x7, x0, 8; addi x5, x8, 0; sc.d.aqrl x7, x5, (x10); bne x7, x0, -20", 6},
		{"lr.d x5, (x10); sc.d x7, x5, (x10); beq x7, x0, 8; jal x0, -12", 4},
		{"lr.d x5, (x10); sc.d x0, x5, (x10); jal x0, -8", 3},
		{"lr.d x0, (x10); sc.d x5, x10, (x10); bgeu x0, x5, -8", 3},
		{"lr.d x5, (x10); sc.d x10, x5, (x10); bne x10, x0, -8", 3},

		{"lr.d x5, (x10); sc.d x7, x8, (x10)", 0},
		{"lr.d x5, (x10); bne x7, x0, -4", 0},
		{"lr.d x5, (x10); sc.d x7, x8, (x10); addi x7, x0, 0", 0},
		{"lr.d x5, (x10); sc.d x7, x8, (x10); ecall", 0},
		{"lr.d x5, (x10); sc.d x7, x8, (x10); bne x7, x0, 8", 0},
		{"lr.d x5, (x10); sc.d x7, x8, (x10); bne x7, x0, -8; ecall", 3},
		{"ld x5, 0(x10); sc.d x7, x8, (x10); bne x7, x0, -8", 0},
		{"amoadd.d x5, x6, (x10); sc.d x7, x8, (x10); bne x7, x0, -8", 0},
		{"sc.d x5, x6, (x10); sc.d x7, x8, (x10); bne x7, x0, -8", 0},
		{"lr.d x5, (x10); sd x8, 0(x10); bne x7, x0, -8", 0},
		{"lr.d x5, (x10); amoswap.d x7, x8, (x10); bne x7, x0, -8", 0},
		{"lr.d x5, (x10); lr.d x5, (x10); sc.d x7, x8, (x10); bne x7, x0, -12", 0},
		{"lr.d x5, (x10); mul x5, x5, x6; sc.d x7, x5, (x10); bne x7, x0, -12", 0},
		{"lr.d x5, (x10); fence rw, rw; sc.d x7, x5, (x10); bne x7, x0, -12", 0},
		{"lr.d x5, (x10); sc.d x7, x5, (x10); fence rw, rw; bne x7, x0, -12", 0},
	} {
		l := asm(t, c.s)
		lengthIs(t, l, 0, c.want)
		agrees(t, l)
	}
}

// Loops of 3 to 20 instructions, with the store-conditional at every place: right
// behind the load-reserved one, right before the last one, and, where n is 17 or
// more, also too far away. Fewer than 3 instructions are no loop.
func TestSizes(t *testing.T) {
	for n := shortest; n <= 20; n++ {
		for s := 1; s <= n-2; s++ {
			want := n
			if n > greatest {
				want = 0
			}
			lengthIs(t, loop(n, s), 0, want)
			lengthIs(t, with(loop(n, s), n-1, jal(1-n)), 0, want)
		}
	}
	lengthIs(t, list{lrD, scD}, 0, 0)
	lengthIs(t, list{lrD, bne(-1)}, 0, 0)
	lengthIs(t, list{lrD, scD, bne(-1)}, 0, 0)
	lengthIs(t, list{lrD}, 0, 0)
}

// The first store-conditional is the one that counts.
func TestStoreConditional(t *testing.T) {
	otherA := api.Instr{Op: api.OpScD, Rd: 7, A: 11, B: 8}
	swapped := api.Instr{Op: api.OpScD, Rd: 7, A: 8, B: 10}
	for _, c := range []struct {
		l    list
		want int
	}{
		{list{lrD, nop, scD, bne(-3)}, 4},
		{list{lrW, nop, scW, bne(-3)}, 4},
		{list{lrD, nop, scW, bne(-3)}, 0},
		{list{lrW, nop, scD, bne(-3)}, 0},
		{list{lrD, nop, otherA, bne(-3)}, 0},
		{list{lrD, nop, swapped, bne(-3)}, 0},
		{list{lrD, nop, nop, bne(-3)}, 0},
		{list{lrD, nop, nop, scD}, 0},
		// A later one would fit.
		{list{lrD, scW, scD, bne(-3)}, 0},
		{list{lrD, otherA, scD, bne(-3)}, 0},
		{list{lrD, scD, scD, bne(-3)}, 0},
		{list{lrD, scD, nop, scD, bne(-4)}, 0},
		{list{lrD, scD, scW, bne(-3)}, 0},
		{list{lrD, {Op: api.OpScD, Rd: 32, A: 10}, scD, bne(-3)}, 0},
		{slices.Concat(loop(17, 3)[:16], list{scD, bne(-17)}), 0},
		// The next one is behind the last instruction, or it is none of the loop.
		{list{lrD, bne(-1), scD, bne(-3)}, 0},
		{list{lrD, nop, bne(-2), scD, bne(-4)}, 0},
		{list{lrD, scD, bne(-2), scW}, 3},
	} {
		lengthIs(t, c.l, 0, c.want)
	}
	for a := range 32 {
		sc := api.Instr{Op: api.OpScD, A: a}
		for b := range 32 {
			want := 0
			if a == b {
				want = 3
			}
			lengthIs(t, list{{Op: api.OpLrD, A: b}, sc, bne(-2)}, 0, want)
		}
	}
}

// Aq and Rl, and what else registers say, change nothing.
func TestOtherFields(t *testing.T) {
	for bits := range 16 {
		lr, sc := lrW, scW
		lr.Aq, lr.Rl, sc.Aq, sc.Rl = bits&1 > 0, bits&2 > 0, bits&4 > 0, bits&8 > 0
		lengthIs(t, list{lr, nop, sc, bne(-3)}, 0, 4)
	}
	for r := range 32 {
		lr, sc := lrD, scD
		lr.Rd, sc.Rd, sc.B = r, r, 31-r
		want := 3
		if r == lrD.A {
			want = 0
		}
		lengthIs(t, list{lr, sc, {Op: api.OpBltu, A: r, B: 31 - r, Imm: -8}}, 0, want)
		lr.Rd = 5
		lengthIs(t, list{lr, sc, {Op: api.OpBltu, A: r, B: 31 - r, Imm: -8}}, 0, 3)
	}
}

// writers returns an instruction of each operation that may stand in a loop and
// has an Rd, with this Rd.
func writers(rd int) list {
	var l list
	for name := range strings.FieldsSeq(permitted) {
		op, _ := isa.Find(name)
		l = append(l, api.Instr{Op: op, Rd: rd})
	}
	return l
}

// Every instruction may write the register A behind the store-conditional, and none
// from the load-reserved one on may write it before.
func TestWrites(t *testing.T) {
	for a := range 32 {
		lr, sc := api.Instr{Op: api.OpLrD, Rd: (a + 1) % 32, A: a}, api.Instr{Op: api.OpScD, Rd: a, A: a, B: a}
		l := slices.Concat(list{lr}, fill(3), list{sc}, fill(3), list{bne(-8)})
		for k, i := range l[1:4] {
			if i.Rd == a {
				l[1+k] = nop
			}
		}
		lengthIs(t, l, 0, 9)
		lengthIs(t, with(l, 0, api.Instr{Op: api.OpLrD, Rd: a, A: a}), 0, lengthIf(9, a == 0))
		for rd := range 32 {
			for _, i := range writers(rd) {
				for _, k := range []int{1, 3, 5} {
					lengthIs(t, with(l, k, i), 0, lengthIf(9, k > 4 || rd == 0 || rd != a))
				}
			}
		}
	}
}

// lengthIf returns n if there is a loop, and 0 otherwise.
func lengthIf(n int, isLoop bool) int {
	if isLoop {
		return n
	}
	return 0
}

// A loop may read the register A as it likes.
func TestReadsOfTheAddress(t *testing.T) {
	for _, i := range writers(6) {
		i.A = 10
		if isa.Form(i.Op) == api.FormR {
			i.B = 10
		} else if isa.Form(i.Op) == api.FormU {
			i.A = 0
		}
		lengthIs(t, list{lrD, i, scD, i, bne(-4)}, 0, 5)
	}
	lengthIs(t, list{lrD, {Op: api.OpBeq, A: 10, B: 10, Imm: 4}, scD, {Op: api.OpBeq, A: 10, B: 10, Imm: -12}}, 0, 4)
}

// samples returns valid instructions of operation op: with each register in each
// field, and with Imm of each sign, even and odd.
func samples(op int) list {
	var l list
	for _, imm := range []int{0, 1, 2, 3, 4, 6, 8, 12, 20, 2047, 4094, -1, -2, -4, -8, -12, -16, -2048, -4096, 1<<20 - 2, -1 << 20} {
		for _, r := range []int{0, 1, 6, 31} {
			for bits := range 32 {
				i := api.Instr{Op: op, Imm: imm, Aq: bits&8 > 0, Rl: bits&16 > 0}
				i.Rd, i.A, i.B = r*(bits&1), r*(bits>>1&1), r*(bits>>2&1)
				if isa.May(i) {
					l = append(l, i)
				}
			}
		}
	}
	return l
}

// Every operation in the sequence and in the retry, at each place of a loop.
func TestEveryOperation(t *testing.T) {
	l := slices.Concat(list{lrD}, fill(3), list{scD}, fill(3), list{bne(-8)})
	for op := api.OpLui; op <= api.OpAmomaxuD; op++ {
		tried := samples(op)
		if len(tried) == 0 {
			t.Errorf("no sample of %s", isa.Name(op))
		}
		for _, i := range tried {
			for _, k := range []int{1, 2, 3, 5, 6, 7} {
				lengthIs(t, with(l, k, i), 0, lengthIf(9, wantPlain(i)))
			}
		}
	}
}

// Jumps and branches in the loop: forward ones only, and none that keeps a return
// address.
func TestForward(t *testing.T) {
	// Those that lead forward lead inside of the loop, to its end, or outside.
	forward := []int{2, 4, 6, 8, 12, 16, 20, 24, 28, 400, 4092, 4094}
	behind := []int{0, -2, -4, -8, -12, -18, -22, -24, -400, -4094, -4096}
	for _, k := range []int{1, 2, 4, 5} {
		l := slices.Concat(list{lrD}, fill(2), list{scD}, fill(2), list{bne(-6)})
		for name := range strings.FieldsSeq(branches) {
			op, _ := isa.Find(name)
			for _, imm := range forward {
				lengthIs(t, with(l, k, api.Instr{Op: op, A: 5, B: 31, Imm: imm}), 0, 7)
			}
			for _, imm := range behind {
				lengthIs(t, with(l, k, api.Instr{Op: op, A: 5, B: 31, Imm: imm}), 0, 0)
			}
		}
		for rd := range 32 {
			for _, imm := range append(forward, 4096, 1<<20-2) {
				lengthIs(t, with(l, k, api.Instr{Op: api.OpJal, Rd: rd, Imm: imm}), 0, lengthIf(7, rd == 0))
			}
			for _, imm := range append(behind, -4098, -1<<20) {
				lengthIs(t, with(l, k, api.Instr{Op: api.OpJal, Rd: rd, Imm: imm}), 0, 0)
			}
		}
		for _, i := range (list{{Op: api.OpJalr, Imm: 8}, {Op: api.OpJalr, Rd: 1, A: 5}, {Op: api.OpJalr, Imm: 4}}) {
			lengthIs(t, with(l, k, i), 0, 0)
		}
	}
}

// The last instruction, wherever it leads.
func TestLast(t *testing.T) {
	for n := shortest; n <= greatest; n++ {
		l := loop(n, 1)
		for to := -20; to <= 20; to++ {
			for part := range 4 {
				imm := 4*(to-n+1) + part
				for name := range strings.FieldsSeq(branches) {
					op, _ := isa.Find(name)
					lengthIs(t, with(l, n-1, api.Instr{Op: op, A: 1, B: 2, Imm: imm}), 0, lengthIf(n, to == 0 && part == 0))
				}
				lengthIs(t, with(l, n-1, api.Instr{Op: api.OpJal, Imm: imm}), 0, lengthIf(n, to == 0 && part == 0))
				lengthIs(t, with(l, n-1, api.Instr{Op: api.OpJal, Rd: 1, Imm: imm}), 0, 0)
			}
		}
		for rd := 1; rd < 32; rd++ {
			lengthIs(t, with(l, n-1, api.Instr{Op: api.OpJal, Rd: rd, Imm: 4 - 4*n}), 0, 0)
		}
		for op := range api.OpAmomaxuD + 1 {
			for _, i := range (list{{Op: op, Imm: 4 - 4*n}, {Op: op}}) {
				lengthIs(t, with(l, n-1, i), 0, lengthIf(n, i.Imm < 0 && wantJumps(i)))
			}
		}
	}
}

// A further branch back to the beginning ends the loop, or there is none.
func TestFurtherBranchBack(t *testing.T) {
	for k := 1; k <= 9; k++ {
		for _, i := range (list{bne(-k), jal(-k)}) {
			l := slices.Concat(list{lrD}, fill(3), list{scD}, fill(5), list{bne(-10)})
			lengthIs(t, with(l, k, i), 0, lengthIf(k+1, k > 4))
		}
	}
	// It is the second one from which the loop is too long.
	l := loop(17, 8)
	lengthIs(t, l, 0, 0)
	lengthIs(t, with(l, 15, bne(-15)), 0, 16)
}

// faults returns instructions like i that are not valid.
func faults(i api.Instr) list {
	var l list
	for _, r := range []int{-1, 32, 42, most, least} {
		l = append(l, i, i, i)
		l[len(l)-3].Rd, l[len(l)-2].A, l[len(l)-1].B = r, r, r
	}
	for _, imm := range []int{i.Imm + 1, i.Imm + 1<<20, i.Imm + 1<<32, most, least} {
		l = append(l, i)
		l[len(l)-1].Imm = imm
	}
	l = append(l, i, i, i)
	l[len(l)-3].Op, l[len(l)-2].Aq, l[len(l)-1].Rl = i.Op+1000, !i.Aq, !i.Rl
	return slices.DeleteFunc(append(l, wrong), isa.May)
}

// An instruction that is not valid, at each place of a loop, and outside of it.
func TestNotValid(t *testing.T) {
	for _, n := range []int{3, 4, 7, greatest} {
		for s := 1; s <= n-2; s++ {
			l := loop(n, s)
			for k := range n {
				for _, i := range faults(l[k]) {
					lengthIs(t, with(l, k, i), 0, 0)
					allIs(t, with(l, k, i), 0, k == 0 && !isOneOf(" lr.w lr.d ", i))
				}
			}
			for _, i := range faults(l[n-1]) {
				lengthIs(t, append(loop(n, s), i), 0, n)
				lengthIs(t, slices.Concat(list{i}, l, list{i}), 1, n)
				allIs(t, slices.Concat(list{i}, l, list{i}), 0, true)
			}
		}
	}
	// An unused field that is not 0 is enough.
	for _, l := range []list{
		{{Op: api.OpLrD, Rd: 5, A: 10, B: 1}, scD, bne(-2)},
		{{Op: api.OpLrD, Rd: 5, A: 10, Imm: 4}, scD, bne(-2)},
		{{Op: api.OpLrD, A: 32}, {Op: api.OpScD, A: 32}, bne(-2)},
		{{Op: api.OpLrD, A: -1}, {Op: api.OpScD, A: -1}, bne(-2)},
		{lrD, {Op: api.OpScD, Rd: 7, A: 10, Imm: 1}, bne(-2)},
		{lrD, scD, {Op: api.OpBne, Rd: 1, Imm: -8}},
		{lrD, scD, {Op: api.OpJal, A: 1, Imm: -8}},
		{lrD, {Op: api.OpLui, Rd: 6, A: 1}, scD, bne(-3)},
		{lrD, scD, {Op: api.OpAddi, Rd: 6, Imm: 2048}, bne(-3)},
		{lrD, {Op: api.OpBeq, Imm: 4096}, scD, bne(-3)},
		{lrD, {Op: api.OpBeq, Imm: 5}, scD, bne(-3)},
		{lrD, scD, {Op: api.OpJal, Imm: 1 << 20}, bne(-3)},
	} {
		lengthIs(t, l, 0, 0)
		allIs(t, l, 0, false)
	}
}

// Numbers that are no index, and lists without instructions.
func TestNoIndex(t *testing.T) {
	l := slices.Concat(loop(4, 2), loop(5, 1))
	lengthIs(t, l, 0, 4)
	lengthIs(t, l, 4, 5)
	for _, p := range []int{1, 2, 3, 5, 6, 7, 8} {
		lengthIs(t, l, p, 0)
	}
	for _, p := range []int{
		-1, -2, -4, -9, len(l), len(l) + 1, 1 << 31, 1 << 32, 1<<32 + 4, -1 << 31, -1 << 32, 1 << 61, 1 << 62, -1 << 62,
		most, most - 1, most - 14, most - 15, most - 16, least, least + 1, least + 4, least + 16,
	} {
		lengthIs(t, l, p, 0)
		lengthIs(t, list{}, p, 0)
		lengthIs(t, nil, p, 0)
		if n := Length(nil, p); n != 0 {
			t.Errorf("Length(nil, %d) = %d", p, n)
		}
	}
	lengthIs(t, list{}, 0, 0)
	lengthIs(t, nil, 0, 0)
	if p, ok := All(nil); p != 0 || !ok {
		t.Errorf("All(nil) = %d, %v", p, ok)
	}
}

// A list that ends inside a loop, also where the rest of the loop stands in the
// memory beyond.
func TestCutOff(t *testing.T) {
	for n := shortest; n <= greatest; n++ {
		for s := 1; s <= n-2; s++ {
			l := slices.Concat(fill(2), loop(n, s))
			for end := range l {
				arg, isSame := hidden(l[:end], l[end:])
				if got := Length(arg, 2); got != 0 {
					t.Errorf("Length(%s, 2) = %d", show(l[:end]), got)
				}
				at, ok := All(arg)
				if want := end <= 2; ok != want || at != lengthIf(2, !want) {
					t.Errorf("All(%s) = %d, %v", show(l[:end]), at, ok)
				}
				if !isSame() {
					t.Errorf("%s was modified", show(l))
				}
			}
			lengthIs(t, l, 2, n)
		}
	}
}

// P12.2.

func TestAll(t *testing.T) {
	good, short, word := loop(4, 2), loop(3, 1), list{lrW, scW, jal(-2)}
	bad := list{lrD, scW, bne(-2)}
	for _, c := range []struct {
		l      list
		want   int
		wantOK bool
	}{
		{nil, 0, true},
		{list{}, 0, true},
		{list{nop}, 0, true},
		{fill(40), 0, true},
		{list{scD, bne(-1), scW, wrong, {Op: 1000}, {Op: -1}}, 0, true},
		{list{lrD}, 0, false},
		{list{lrW}, 0, false},
		{list{nop, lrD}, 1, false},
		{list{nop, nop, lrW}, 2, false},
		{good, 0, true},
		{word, 0, true},
		{bad, 0, false},
		{slices.Concat(good, short, word, good), 0, true},
		{slices.Concat(good, bad), 4, false},
		{slices.Concat(bad, good), 0, false},
		{slices.Concat(good, short, bad, good, bad), 7, false},
		{slices.Concat(fill(9), good, fill(9), bad, fill(9)), 22, false},
		{slices.Concat(good, short, list{lrW}), 7, false},
		{slices.Concat(good, short, list{lrW, wrong}), 7, false},
		{list{lrD, lrD, scD, bne(-2)}, 0, false},
		{list{lrD, scD, lrD, scD, bne(-2)}, 0, false},
		{list{lrD, scD, bne(-2), lrD, scD, bne(-4)}, 3, false},
		// There are load-reserved instructions that are not valid.
		{list{nop, {Op: api.OpLrD, Rd: 5, A: 32}, scD, bne(-2)}, 1, false},
		{slices.Concat(good, list{{Op: api.OpLrW, Imm: 1}}), 4, false},
	} {
		allIs(t, c.l, c.want, c.wantOK)
	}
}

// Many loops in one list, of which each in turn is none.
func TestAllOfMany(t *testing.T) {
	var l list
	var at []int
	for n := shortest; n <= greatest; n++ {
		for s := 1; s <= n-2; s++ {
			l = append(l, fill(s%4)...)
			at = append(at, len(l))
			l = append(l, loop(n, s)...)
		}
	}
	allIs(t, l, 0, true)
	for k, p := range at {
		broken := with(l, p+1, wrong)
		allIs(t, broken, p, false)
		for _, later := range at[k+1:] {
			broken[later+1] = wrong
		}
		allIs(t, broken, p, false)
	}
}

// P12.3.

// Instructions of every operation, and those that are not valid, before and behind
// a loop.
func TestAround(t *testing.T) {
	others := list{wrong, {Op: -1}, {Op: 1000, Rd: most}, {Op: api.OpAddi, Rd: 32}, bne(-1), bne(1), jal(-3), scD, scW, lrD, lrW}
	for op := range api.OpAmomaxuD + 1 {
		others = append(others, api.Instr{Op: op}, api.Instr{Op: op, Rd: 10, A: 10}, api.Instr{Op: op, A: 10, B: 10, Imm: -4})
	}
	for _, n := range []int{shortest, 9, greatest} {
		l := loop(n, n/2)
		for _, before := range others {
			for _, behind := range others {
				for _, times := range []int{1, 3} {
					whole := slices.Concat(slices.Repeat(list{before}, times), l, slices.Repeat(list{behind}, times))
					if got := Length(whole, times); got != n {
						t.Errorf("Length(%s, %d) = %d; want %d", show(whole), times, got, n)
					}
				}
			}
		}
	}
}

// What precedes an index changes nothing there, whether a loop begins at it or not.
func TestBefore(t *testing.T) {
	r := rand.New(rand.NewPCG(12, 3))
	for range 3000 {
		l, before := near(r), near(r)
		lengthIs(t, slices.Concat(before, l), len(before), wantLength(t, l, 0))
	}
}

// Every list of few instructions, and random lists.

func TestEveryShortList(t *testing.T) {
	some := list{
		lrD, lrW, scD, scW, nop, wrong, {Op: api.OpAddi, Rd: 10}, {Op: api.OpMul, Rd: 6},
		bne(1), jal(2), bne(0), bne(-1), bne(-2), bne(-3), jal(-3), {Op: api.OpJal, Rd: 1, Imm: -8}, {Op: api.OpLrD, Rd: 10, A: 10},
	}
	lists, loops := 0, 0
	var extend func(l list, left int)
	extend = func(l list, left int) {
		lists++
		loops += agrees(t, l)
		for _, i := range some {
			if left > 0 {
				extend(append(slices.Clip(l), i), left-1)
			}
		}
	}
	extend(nil, 3)
	extend(list{lrD}, 3)
	extend(list{lrW, nop, scW}, 2)
	if lists < 10000 || loops < 40 {
		t.Errorf("only %d lists with %d loops", lists, loops)
	}
}

// near returns a random list that is a loop of 3 to 18 instructions, or nearly so.
func near(r *rand.Rand) list {
	n := shortest + r.IntN(greatest)
	l := loop(n, 1+r.IntN(n-2))
	if r.IntN(2) == 0 {
		for k := range l {
			if l[k].Op == api.OpLrD || l[k].Op == api.OpScD {
				l[k].Op += api.OpLrW - api.OpLrD
			}
		}
	}
	for range r.IntN(3) {
		disturb(r, l)
	}
	switch r.IntN(6) {
	case 0:
		return l[:r.IntN(n)]
	case 1:
		return slices.Delete(l, 0, 1)
	case 2:
		return slices.Insert(l, r.IntN(n), plain[r.IntN(len(plain))])
	}
	return l
}

// disturb changes one field of an instruction of l, or the whole instruction.
func disturb(r *rand.Rand, l list) {
	i := &l[r.IntN(len(l))]
	switch r.IntN(8) {
	case 0:
		i.Op = r.IntN(api.OpAmomaxuD + 2)
	case 1:
		i.Rd = []int{0, 1, 10, 10, 31, 32}[r.IntN(6)]
	case 2:
		i.A = []int{0, 10, 10, 11, -1}[r.IntN(5)]
	case 3:
		i.B = r.IntN(33)
	case 4:
		i.Imm = 4 * (r.IntN(37) - 18)
	case 5:
		i.Imm += r.IntN(9) - 4
	case 6:
		*i = l[r.IntN(len(l))]
	case 7:
		tried := samples(1 + r.IntN(api.OpAmomaxuD))
		*i = tried[r.IntN(len(tried))]
	}
}

func TestRandomLists(t *testing.T) {
	r := rand.New(rand.NewPCG(12, 1))
	loops, none := 0, 0
	for range 6000 {
		var l list
		for range 1 + r.IntN(3) {
			l = append(l, near(r)...)
		}
		loops += agrees(t, l)
		if _, ok := wantAll(t, l); !ok {
			none++
		}
	}
	if loops < 2000 || none < 2000 {
		t.Errorf("only %d loops, and %d lists in which one is none", loops, none)
	}
}
