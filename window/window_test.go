package window

import (
	"fmt"
	"math"
	"math/rand/v2"
	"reflect"
	"slices"
	"strings"
	"testing"

	"spinnaker/alu"
	"spinnaker/api"
	"spinnaker/enc"
	"spinnaker/isa"
	"spinnaker/text"
)

// Places as numbers, so that the tests say what the document says.
const (
	codeBase = 65536
	dataBase = 16777216
)

var none = api.Ref{Hart: -1}

// program returns an image of these instructions, which semicolons separate, and of n
// doublewords of data. A word in hexadecimal stands for itself.
func program(t testing.TB, n int, lines string) api.Image {
	t.Helper()
	im := api.Image{Data: make([]int, n), Entries: []int{0}}
	for line := range strings.SplitSeq(lines, ";") {
		im.Code = append(im.Code, assemble(t, strings.TrimSpace(line)))
	}
	return im
}

func assemble(t testing.TB, line string) uint32 {
	t.Helper()
	var w uint32
	if n, err := fmt.Sscanf(line, "0x%x", &w); n == 1 && err == nil {
		return w
	}
	return encode(t, parse(t, line))
}

func parse(t testing.TB, line string) api.Instr {
	t.Helper()
	i, e := text.Parse(line)
	if e != api.OK {
		t.Fatalf("%q: %d", line, e)
	}
	return i
}

func encode(t testing.TB, i api.Instr) uint32 {
	t.Helper()
	w, e := enc.Encode(i)
	if e != api.OK {
		t.Fatalf("%+v: %d", i, e)
	}
	return w
}

// fetchAll returns a window into which the instructions of im have been fetched, one
// behind the other, as if nothing were ever taken.
func fetchAll(im api.Image) *Window {
	w := &Window{}
	for i := range im.Code {
		w.L = append(w.L, Fetch(im, codeBase+4*i, codeBase+4*i+4))
		if op := w.L[i].Instr.Op; isa.Branch(op) {
			w.L[i] = Fetch(im, codeBase+4*i, 0)
		}
	}
	return w
}

// windowOf returns the image and the window of a program with 2 doublewords of data.
func windowOf(t testing.TB, lines string) (api.Image, *Window) {
	t.Helper()
	im := program(t, 2, lines)
	return im, fetchAll(im)
}

// clone returns a copy of w that shares no memory with it.
func clone(w *Window) *Window {
	return &Window{Regs: w.Regs, L: slices.Clone(w.L)}
}

// same reports whether windows are equal, whether or not lists without entries are nil.
func same(a, b *Window) bool {
	return a.Regs == b.Regs && slices.Equal(a.L, b.L)
}

// perform does to entry i what a machine does that performs a read of this value.
func perform(w *Window, i, v int) {
	e := &w.L[i]
	e.Val, e.Ready, e.Done = v, true, true
}

// The chapter, written down separately: what it says of operations, by their names.

var arithmetic = strings.Fields(`addi slti sltiu xori ori andi slli srli srai addiw slliw srliw sraiw
	add sub sll slt sltu xor srl sra or and addw subw sllw srlw sraw
	mul mulh mulhsu mulhu div divu rem remu mulw divw divuw remw remuw`)

var (
	branches = strings.Fields("beq bne blt bge bltu bgeu")
	narrow   = strings.Fields(`lb lh lw lbu lhu lwu sb sh sw
		lr.w sc.w amoswap.w amoadd.w amoxor.w amoand.w amoor.w amomin.w amomax.w amominu.w amomaxu.w`)
	wide = strings.Fields(`ld sd
		lr.d sc.d amoswap.d amoadd.d amoxor.d amoand.d amoor.d amomin.d amomax.d amominu.d amomaxu.d`)
	others = strings.Fields("lui auipc jal jalr fence ecall ebreak")
)

func is(i api.Instr, names ...string) bool {
	return slices.Contains(names, isa.Name(i.Op))
}

// theFetched returns the entry of instruction i, or of no code.
func theFetched(i api.Instr, isCode bool, pc, guess int) Entry {
	e := Entry{PC: pc, Instr: i, Next: pc + 4, Src: none}
	switch {
	case !isCode:
		e.Instr, e.Bad = api.Instr{}, 5
	case i.Op == 0:
		e.Bad = 4
	case is(i, "ebreak"):
		e.Bad = 7
	case is(i, narrow...):
		e.Bad = 6
	case is(i, "fence"):
		e.Done = true
	case is(i, "lui"):
		e.Done, e.Ready, e.Val = true, true, i.Imm*4096
	case is(i, "auipc"):
		e.Done, e.Ready, e.Val = true, true, pc+i.Imm*4096
	case is(i, "jal"):
		e.Done, e.Ready, e.Val, e.Next = true, true, pc+4, pc+i.Imm
	case is(i, "jalr"):
		e.Ready, e.Val, e.Next = true, pc+4, guess
	case is(i, branches...) && guess != 0:
		e.Next = pc + i.Imm
	}
	return e
}

// theRegister returns register r at entry i of w: the entries are applied one after the
// other, and it is what stands there then.
func theRegister(w *Window, i, r int) (int, bool) {
	var known [32]bool
	for r := range known {
		known[r] = true
	}
	regs := w.Regs
	for n, e := range w.L {
		if n < i && !is(e.Instr, "sd", "fence", "ecall", "ebreak") && !is(e.Instr, branches...) && !is(e.Instr, "sb", "sh", "sw", "") {
			regs[e.Instr.Rd], known[e.Instr.Rd] = e.Val, e.Ready
		}
	}
	if r <= 0 || r > 31 {
		return 0, true
	}
	if !known[r] {
		return 0, false
	}
	return regs[r], true
}

// theCan reports whether entry i of w can be executed.
func theCan(w *Window, i int) bool {
	if i < 0 || i >= len(w.L) || w.L[i].Bad != 0 || w.L[i].Done {
		return false
	}
	e := w.L[i]
	_, a := theRegister(w, i, e.Instr.A)
	_, b := theRegister(w, i, e.Instr.B)
	if slices.Contains([]int{api.FormB, api.FormR}, isa.Form(e.Instr.Op)) {
		a = a && b
	}
	if is(e.Instr, arithmetic...) || is(e.Instr, branches...) || is(e.Instr, "jalr") {
		return a
	}
	return is(e.Instr, wide...) && !e.Known && a
}

// theExecuted returns w after entry i, which can be executed, was.
func theExecuted(w *Window, im api.Image, i int) *Window {
	w = clone(w)
	e := &w.L[i]
	a, _ := theRegister(w, i, e.Instr.A)
	b, _ := theRegister(w, i, e.Instr.B)
	next := e.Next
	switch {
	case is(e.Instr, wide...):
		if is(e.Instr, "ld", "sd") {
			a += e.Instr.Imm
		}
		if a >= dataBase && a < dataBase+8*len(im.Data) && a%8 == 0 {
			e.Addr, e.Known = a, true
		} else {
			e.Bad = 6
		}
		return w
	case is(e.Instr, "jalr"):
		next = a + e.Instr.Imm
		if next%2 != 0 {
			next--
		}
	case is(e.Instr, branches...):
		next = e.PC + 4
		if taken, _ := alu.Taken(e.Instr.Op, a, b); taken {
			next = e.PC + e.Instr.Imm
		}
	case isa.Form(e.Instr.Op) == api.FormR:
		e.Val, _ = alu.Eval(e.Instr.Op, a, b)
		e.Ready = true
	default:
		e.Val, _ = alu.Eval(e.Instr.Op, a, e.Instr.Imm)
		e.Ready = true
	}
	e.Done = true
	if next != e.Next {
		e.Next = next
		w.L = w.L[:i+1]
	}
	return w
}

// theRetired returns w after its first entry was retired, if it can be.
func theRetired(w *Window) (*Window, Entry, bool) {
	if len(w.L) == 0 || w.L[0].Bad != 0 || !w.L[0].Done {
		return w, Entry{}, false
	}
	rest := &Window{L: w.L[1:]}
	rest.Regs[0] = w.Regs[0]
	for r := 1; r < 32; r++ {
		// What the entry writes is known, because it is complete.
		rest.Regs[r], _ = theRegister(w, 1, r)
	}
	return rest, w.L[0], true
}

// randomInstr returns a valid instruction.
func randomInstr(rng *rand.Rand, names []string, registers int) api.Instr {
	op, _ := isa.Find(names[rng.IntN(len(names))])
	i := api.Instr{Op: op}
	u := func(n int) int { return rng.IntN(n) }
	switch isa.Form(op) {
	case api.FormU:
		i.Rd, i.Imm = u(registers), u(1<<20)-1<<19
	case api.FormJ:
		i.Rd, i.Imm = u(registers), 4*u(4)
	case api.FormI:
		i.Rd, i.A, i.Imm = u(registers), u(registers), u(64)-32
	case api.FormB:
		i.A, i.B, i.Imm = u(registers), u(registers), 4*u(6)-8
	case api.FormS:
		i.A, i.B, i.Imm = u(registers), u(registers), 8*u(3)
	case api.FormR:
		i.Rd, i.A, i.B = u(registers), u(registers), u(registers)
	case api.FormShift:
		i.Rd, i.A, i.Imm = u(registers), u(registers), u(64)
	case api.FormSmall:
		i.Rd, i.A, i.Imm = u(registers), u(registers), u(32)
	case api.FormFence:
		i.Imm = u(256)
	case api.FormLr:
		i.Rd, i.A, i.Aq, i.Rl = u(registers), u(registers), u(2) == 0, u(2) == 0
	case api.FormAmo:
		i.Rd, i.A, i.B, i.Aq, i.Rl = u(registers), u(registers), u(registers), u(2) == 0, u(2) == 0
	}
	return i
}

// P19.1: Fetch, on entries written out.
func TestFetchWritten(t *testing.T) {
	for _, c := range []struct {
		line  string
		guess int
		want  Entry
	}{
		{"lui x5, 3", 1, Entry{Next: 65544, Val: 12288, Ready: true, Done: true}},
		{"lui x0, -1", 0, Entry{Next: 65544, Val: -4096, Ready: true, Done: true}},
		{"auipc x5, 1", 1, Entry{Next: 65544, Val: 69636, Ready: true, Done: true}},
		{"auipc x5, -17", 0, Entry{Next: 65544, Val: -4092, Ready: true, Done: true}},
		{"jal x1, 100", 9, Entry{Next: 65640, Val: 65544, Ready: true, Done: true}},
		{"jal x0, -4", 0, Entry{Next: 65536, Val: 65544, Ready: true, Done: true}},
		{"jalr x1, 4(x5)", 65600, Entry{Next: 65600, Val: 65544, Ready: true}},
		{"jalr x0, 0(x0)", 0, Entry{Next: 0, Val: 65544, Ready: true}},
		{"jalr x1, 0(x5)", -3, Entry{Next: -3, Val: 65544, Ready: true}},
		{"beq x5, x6, 16", 0, Entry{Next: 65544}},
		{"beq x5, x6, 16", 1, Entry{Next: 65556}},
		{"bgeu x5, x6, -4", -1, Entry{Next: 65536}},
		{"blt x5, x6, 16", math.MinInt, Entry{Next: 65556}},
		{"fence r, w", 1, Entry{Next: 65544, Done: true}},
		{"ecall", 1, Entry{Next: 65544}},
		{"ebreak", 1, Entry{Next: 65544, Bad: 7}},
		{"addi x5, x6, 7", 1, Entry{Next: 65544}},
		{"remuw x5, x6, x7", 1, Entry{Next: 65544}},
		{"ld x5, 8(x4)", 1, Entry{Next: 65544}},
		{"sd x5, 8(x4)", 1, Entry{Next: 65544}},
		{"lr.d.aq x5, (x4)", 1, Entry{Next: 65544}},
		{"sc.d.rl x5, x6, (x4)", 1, Entry{Next: 65544}},
		{"amomaxu.d x5, x6, (x4)", 1, Entry{Next: 65544}},
		{"lw x5, 8(x4)", 1, Entry{Next: 65544, Bad: 6}},
		{"lbu x0, 0(x0)", 0, Entry{Next: 65544, Bad: 6}},
		{"sb x5, 8(x4)", 0, Entry{Next: 65544, Bad: 6}},
		{"lr.w x5, (x4)", 0, Entry{Next: 65544, Bad: 6}},
		{"sc.w x5, x6, (x4)", 0, Entry{Next: 65544, Bad: 6}},
		{"amoadd.w x5, x6, (x4)", 0, Entry{Next: 65544, Bad: 6}},
		{"0x0", 1, Entry{Next: 65544, Bad: 4}},
		{"0xffffffff", 0, Entry{Next: 65544, Bad: 4}},
	} {
		im := program(t, 0, "fence rw, rw;"+c.line+";fence rw, rw")
		want := c.want
		want.PC, want.Src = 65540, none
		if want.Bad == 4 {
			want.Instr.Imm = int(assemble(t, c.line))
		} else {
			want.Instr = parse(t, c.line)
		}
		if got := Fetch(im, 65540, c.guess); got != want {
			t.Errorf("%s, %d: %+v; want %+v", c.line, c.guess, got, want)
		}
	}
}

// P19.1: Fetch, for every operation and every prediction.
func TestFetchAll(t *testing.T) {
	all := slices.Concat(arithmetic, branches, narrow, wide, others)
	if len(all) != api.OpAmomaxuD {
		t.Fatal(len(all))
	}
	rng := rand.New(rand.NewPCG(19, 1))
	for _, name := range all {
		for range 50 {
			i := randomInstr(rng, []string{name}, 32)
			im := api.Image{Code: make([]uint32, 20), Entries: []int{0}}
			at := rng.IntN(20)
			im.Code[at] = encode(t, i)
			for _, guess := range []int{0, 1, -1, 2, codeBase, codeBase + 4*at + 4, math.MaxInt, math.MinInt, rng.Int()} {
				pc := codeBase + 4*at
				if got, want := Fetch(im, pc, guess), theFetched(i, true, pc, guess); got != want {
					t.Fatalf("%s, %d: %+v; want %+v", name, guess, got, want)
				}
			}
		}
	}
}

// P19.1: Fetch where there is no code, whatever else the image has.
func TestFetchNoCode(t *testing.T) {
	im := program(t, 1, "jal x1, 8; jal x1, 8")
	for _, pc := range []int{0, 1, -4, 4, codeBase - 4, codeBase - 1, codeBase + 1, codeBase + 2, codeBase + 6, codeBase + 8,
		codeBase + 12, dataBase, math.MinInt, math.MinInt + codeBase, math.MaxInt - 3, math.MaxInt} {
		for _, guess := range []int{0, 1, codeBase} {
			want := Entry{PC: pc, Next: pc + 4, Bad: 5, Src: none}
			if got := Fetch(im, pc, guess); got != want {
				t.Errorf("%d: %+v", pc, got)
			}
		}
	}
	if got := Fetch(api.Image{}, codeBase, 0); got != theFetched(api.Instr{}, false, codeBase, 0) {
		t.Errorf("%+v", got)
	}
	// The image need not be valid.
	im.Entries = nil
	if got := Fetch(im, codeBase+4, 0); got != theFetched(parse(t, "jal x1, 8"), true, codeBase+4, 0) {
		t.Errorf("%+v", got)
	}
}

// P19.1: the last word of the largest code is fetched, and nothing behind it.
func TestFetchLimit(t *testing.T) {
	im := api.Image{Code: make([]uint32, 262144), Entries: []int{0}}
	im.Code[262143] = assemble(t, "auipc x7, 0")
	if e := Fetch(im, 1114108, 0); e.Val != 1114108 || e.Bad != 0 || e.Next != 1114112 {
		t.Error(e)
	}
	if e := Fetch(im, 1114112, 0); e.Bad != 5 {
		t.Error(e)
	}
	if e := Fetch(im, 1114104, 0); e.Bad != 4 {
		t.Error(e)
	}
}

// P19.1: Reg, on a window written out.
func TestRegWritten(t *testing.T) {
	_, w := windowOf(t, `addi x5, x0, 1; lui x5, 1; sd x5, 0(x4); ld x6, 0(x4); jalr x7, 0(x6);
		addi x0, x5, 5; ld x0, 0(x4); lui x0, 9; beq x5, x6, 8; lui x6, 2; addi x5, x5, 1`)
	for r := range w.Regs {
		w.Regs[r] = 100 + r
	}
	type want struct {
		i, r  int
		v     int
		known bool
	}
	for _, c := range []want{
		{0, 5, 105, true}, // nothing is ahead of the first entry
		{0, 31, 131, true},
		{0, 1, 101, true},
		{1, 5, 0, false}, // the addition has not been executed
		{2, 5, 4096, true},
		{3, 5, 4096, true},
		{9, 5, 4096, true},
		{10, 5, 4096, true},
		{11, 5, 0, false},
		{3, 6, 106, true}, // an entry is not ahead of itself
		{4, 6, 0, false},
		{9, 6, 0, false},
		{10, 6, 8192, true},
		{11, 6, 8192, true},
		{4, 7, 107, true},
		{5, 7, codeBase + 20, true}, // ready, but not done
		{11, 7, codeBase + 20, true},
		{11, 4, 104, true}, // a store and a branch write no register
		{11, 8, 108, true},
		{0, 0, 0, true},
		{6, 0, 0, true},
		{8, 0, 0, true},
		{11, 0, 0, true},
		{-1, 5, 105, true},
		{math.MinInt, 6, 106, true},
		{12, 6, 8192, true},
		{math.MaxInt, 6, 8192, true},
		{math.MaxInt, 5, 0, false},
		{11, -1, 0, true},
		{11, 32, 0, true},
		{11, math.MinInt, 0, true},
		{11, math.MaxInt, 0, true},
		{-1, 32, 0, true},
	} {
		if v, known := w.Reg(c.i, c.r); v != c.v || known != c.known {
			t.Errorf("Reg(%d, %d) = %d, %v; want %d, %v", c.i, c.r, v, known, c.v, c.known)
		}
	}
	perform(w, 3, -77)
	if v, known := w.Reg(4, 6); v != -77 || !known {
		t.Error(v, known)
	}
	w.L[10].Val = 55
	if v, known := w.Reg(11, 5); v != 0 || known {
		t.Error("a value that is not ready is shown:", v, known)
	}
}

// P19.1: every register of a window without entries, and behind an entry that writes it.
func TestRegEach(t *testing.T) {
	for r := 1; r < 32; r++ {
		w := &Window{}
		w.Regs[0] = 4
		w.Regs[r] = 7
		for _, i := range []int{-1, 0, 1, 100} {
			for q := range 32 {
				want := 0
				if q == r {
					want = 7
				}
				if v, known := w.Reg(i, q); v != want || !known {
					t.Fatal(r, i, q, v, known)
				}
			}
		}
		im := api.Image{Code: []uint32{encode(t, api.Instr{Op: api.OpAddi, Rd: r, Imm: 3})}}
		w.L = append(w.L, Fetch(im, codeBase, 0))
		for q := range 32 {
			if v, known := w.Reg(1, q); v != 0 || known != (q != r) {
				t.Fatal(r, q, v, known)
			}
		}
		if !w.Execute(im, 0) {
			t.Fatal(r)
		}
		if v, known := w.Reg(1, r); v != 3 || !known {
			t.Fatal(r, v, known)
		}
		if v, known := w.Reg(0, r); v != 7 || !known {
			t.Fatal(r, v, known)
		}
	}
}

// P19.2, example 1.
func TestExample(t *testing.T) {
	im, w := windowOf(t, "addi x5, x0, 3; add x6, x5, x5")
	if !w.Can(0) || w.Can(1) || w.Execute(im, 1) || !w.Execute(im, 0) || w.Can(0) || w.Execute(im, 0) {
		t.Fatal(w)
	}
	if !w.Can(1) || !w.Execute(im, 1) || w.L[1].Val != 6 {
		t.Error(w)
	}
}

// P19.2: what can be executed while the register x5 is not known, and what can be while
// all are.
func TestCanEach(t *testing.T) {
	rng := rand.New(rand.NewPCG(19, 2))
	for _, name := range slices.Concat(arithmetic, branches, narrow, wide, others) {
		for range 400 {
			i := randomInstr(rng, []string{name}, 8)
			im := api.Image{Code: []uint32{assemble(t, "addi x5, x0, 8"), encode(t, i)}, Data: make([]int, 2)}
			w := fetchAll(im)
			_, b := isa.Reads(i)
			isAccess := is(i, wide...)
			computes := is(i, arithmetic...) || is(i, branches...) || is(i, "jalr")
			want := (computes || isAccess) && i.A != 5 && (i.B != 5 || !b || isAccess)
			if w.Can(1) != want {
				t.Fatalf("%s: Can is %v", text.Text(i), !want)
			}
			w.Execute(im, 0)
			if w.Can(1) != (computes || isAccess) {
				t.Fatalf("%s: Can is not %v, but all is known", text.Text(i), computes || isAccess)
			}
		}
	}
}

// P19.2: entries that there are not, or that are bad or done, cannot be executed, and what
// cannot be executed changes nothing.
func TestCannot(t *testing.T) {
	im, w := windowOf(t, `addi x5, x0, 1; ebreak; lw x6, 0(x0); 0x0; ecall; fence rw, rw; lui x6, 1; auipc x6, 1;
		jal x6, 4; add x6, x5, x0; ld x6, 0(x5); sd x6, 0(x5); amoadd.d x6, x7, (x5); bne x0, x5, 4; jalr x6, 0(x5)`)
	w.L = append(w.L, Fetch(im, 0, 0))
	before := clone(w)
	for i := 1; i < len(w.L); i++ {
		if w.Can(i) || w.Execute(im, i) {
			t.Error(i)
		}
	}
	for _, i := range []int{-1, len(w.L), len(w.L) + 1, math.MinInt, math.MaxInt} {
		if w.Can(i) || w.Execute(im, i) {
			t.Error(i)
		}
	}
	if !same(w, before) {
		t.Error(w)
	}
	w.L[0].Bad = api.StopBreak
	if w.Can(0) || w.Execute(im, 0) {
		t.Error("bad")
	}
}

// P19.2: the results of operations, written out.
func TestExecuteArithmetic(t *testing.T) {
	for _, c := range []struct {
		line string
		want int
	}{
		{"addi x7, x5, -3", 17}, {"addi x7, x0, 5", 5}, {"addi x7, x6, 0", -7},
		{"slti x7, x6, -6", 1}, {"sltiu x7, x6, 6", 0}, {"xori x7, x5, -1", -21}, {"andi x7, x5, 6", 4}, {"ori x7, x5, 3", 23},
		{"slli x7, x5, 40", 21990232555520}, {"srli x7, x6, 60", 15}, {"srai x7, x6, 1", -4},
		{"addiw x7, x6, 2", -5}, {"slliw x7, x5, 30", 0}, {"srliw x7, x6, 28", 15}, {"sraiw x7, x6, 2", -2},
		{"add x7, x5, x6", 13}, {"sub x7, x5, x6", 27}, {"sub x7, x6, x5", -27}, {"slt x7, x6, x5", 1}, {"sltu x7, x6, x5", 0},
		{"sll x7, x6, x5", -7340032}, {"div x7, x5, x6", -2}, {"rem x7, x5, x6", 6}, {"divu x7, x6, x5", 922337203685477580},
		{"div x7, x5, x0", -1}, {"rem x7, x6, x0", -7}, {"mul x7, x5, x6", -140}, {"mulhu x7, x5, x6", 19}, {"remuw x7, x6, x5", 9},
		{"add x5, x5, x5", 40}, {"add x0, x5, x5", 40},
	} {
		im, w := windowOf(t, c.line)
		w.Regs[5], w.Regs[6] = 20, -7
		want := w.L[0]
		want.Val, want.Ready, want.Done = c.want, true, true
		regs := w.Regs
		if !w.Execute(im, 0) || w.L[0] != want || len(w.L) != 1 || w.Regs != regs {
			t.Errorf("%s: %+v; want %d", c.line, w.L[0], c.want)
		}
	}
}

// P19.2: addresses of accesses, and what is done where there is no doubleword.
func TestExecuteAccess(t *testing.T) {
	last := dataBase + 8
	for _, c := range []struct {
		line string
		a    int
		addr int // 0: there is no doubleword
	}{
		{"ld x7, 0(x5)", dataBase, dataBase},
		{"ld x7, 8(x5)", dataBase, last},
		{"ld x7, -8(x5)", last, dataBase},
		{"ld x7, 16(x5)", dataBase, 0},
		{"ld x7, -8(x5)", dataBase, 0},
		{"ld x7, 4(x5)", dataBase, 0},
		{"ld x7, 4(x5)", dataBase + 4, last},
		{"ld x7, 1(x5)", last, 0},
		{"ld x0, 0(x5)", last, last},
		{"ld x7, 0(x0)", dataBase, 0},
		{"ld x7, 0(x5)", codeBase, 0},
		{"ld x7, 8(x5)", math.MaxInt, 0},
		{"ld x7, -8(x5)", math.MinInt, 0},
		{"sd x6, 0(x5)", dataBase, dataBase},
		{"sd x6, 8(x5)", dataBase, last},
		{"sd x6, -8(x5)", dataBase, 0},
		{"sd x5, 16(x5)", dataBase, 0},
		{"sd x0, 7(x5)", dataBase + 1, last},
		{"lr.d x7, (x5)", dataBase, dataBase},
		{"lr.d x7, (x5)", last, last},
		{"lr.d x7, (x5)", dataBase + 4, 0},
		{"sc.d x7, x6, (x5)", last, last},
		{"sc.d x7, x6, (x5)", last + 8, 0},
		{"amoswap.d x7, x6, (x5)", dataBase, dataBase},
		{"amomaxu.d x7, x6, (x5)", dataBase - 8, 0},
		{"amoadd.d x5, x5, (x5)", last, last},
	} {
		im, w := windowOf(t, c.line+"; addi x8, x8, 1")
		w.Regs[5], w.Regs[6] = c.a, 99
		want := clone(w)
		want.L[0].Addr, want.L[0].Known = c.addr, c.addr != 0
		if c.addr == 0 {
			want.L[0].Bad = 6
		}
		if !w.Execute(im, 0) || !same(w, want) {
			t.Errorf("%s, %d: %+v; want %+v", c.line, c.a, w.L[0], want.L[0])
		}
		if w.Can(0) || w.Execute(im, 0) {
			t.Errorf("%s, %d: can be executed again", c.line, c.a)
		}
	}
}

// P19.2: an access needs the register of its address, not that of its data, and gets its
// address while nothing else of it is known.
func TestExecuteStoreAhead(t *testing.T) {
	im, w := windowOf(t, "ld x6, 0(x5); sd x6, 8(x5); sc.d x7, x6, (x5); amoor.d x5, x6, (x5); lr.d x7, (x5)")
	w.Regs[5] = dataBase
	for _, i := range []int{3, 1, 2, 0} {
		if !w.Execute(im, i) || !w.L[i].Known || w.L[i].Done || w.L[i].Ready || w.L[i].Val != 0 {
			t.Error(i, w.L[i])
		}
	}
	if w.Can(4) {
		t.Error("the address is what the amo reads")
	}
	perform(w, 3, dataBase+8)
	if !w.Execute(im, 4) || w.L[4].Addr != dataBase+8 {
		t.Error(w.L[4])
	}
}

// P19.2: accesses that are done are not executed, even if their address is not known.
func TestAccessDone(t *testing.T) {
	im, w := windowOf(t, "ld x6, 0(x5); sd x6, 8(x5)")
	w.Regs[5] = dataBase
	perform(w, 0, 3)
	if w.Can(0) || w.Execute(im, 0) || !w.Can(1) {
		t.Error(w)
	}
}

// P19.2: branches and jumps, and what is behind them.
func TestExecuteBranch(t *testing.T) {
	const here = codeBase + 4
	for _, c := range []struct {
		line  string
		guess int
		a, b  int
		next  int
		stays bool
	}{
		{"beq x5, x6, 16", 0, 3, 3, here + 16, false},
		{"beq x5, x6, 16", 0, 3, 4, here + 4, true},
		{"beq x5, x6, 16", 1, 3, 3, here + 16, true},
		{"beq x5, x6, 16", 1, 3, 4, here + 4, false},
		{"bne x5, x6, -4", 7, 3, 4, here - 4, true},
		{"bne x5, x6, -4", 7, 3, 3, here + 4, false},
		{"blt x5, x6, 8", 0, -1, 0, here + 8, false},
		{"blt x5, x6, 8", 0, 0, -1, here + 4, true},
		{"bge x5, x6, 8", 0, 0, -1, here + 8, false},
		{"bltu x5, x6, 8", 0, 0, -1, here + 8, false},
		{"bgeu x5, x6, 8", 0, 0, -1, here + 4, true},
		{"beq x5, x5, 4", 0, 3, 9, here + 4, true}, // taken, to what follows
		{"beq x5, x5, 4", 1, 3, 9, here + 4, true},
		{"beq x5, x0, 0", 1, 0, 9, here, true}, // to itself
		{"jalr x7, 4(x5)", here, 100, 0, 104, false},
		{"jalr x7, 4(x5)", 104, 100, 0, 104, true},
		{"jalr x7, 4(x5)", 105, 100, 0, 104, false},
		{"jalr x7, 5(x5)", 104, 100, 0, 104, true}, // the last bit is cleared
		{"jalr x7, 0(x5)", 104, 105, 0, 104, true},
		{"jalr x7, 1(x5)", 106, 105, 0, 106, true},
		{"jalr x7, -1(x5)", -2, 0, 0, -2, true},
		{"jalr x7, -8(x5)", math.MaxInt - 7, math.MinInt, 0, math.MaxInt - 7, true},
		{"jalr x5, 4(x5)", 104, 100, 0, 104, true}, // it reads what was there before
		{"jalr x0, 0(x0)", 0, 0, 0, 0, true},
		{"jalr x0, 0(x0)", here + 4, 0, 0, 0, false},
	} {
		im := program(t, 0, "lui x9, 1;"+c.line+"; lui x8, 1; lui x8, 2")
		w := &Window{L: []Entry{Fetch(im, codeBase, 0), Fetch(im, here, c.guess)}}
		w.Regs[5], w.Regs[6] = c.a, c.b
		w.L = append(w.L, Fetch(im, here+4, 0), Fetch(im, here+8, 0))
		want := clone(w)
		want.L[1].Done, want.L[1].Next = true, c.next
		if !c.stays {
			want.L = want.L[:2]
		}
		if !w.Execute(im, 1) || !same(w, want) {
			t.Errorf("%+v: %+v", c, w)
		}
		if w.Can(1) {
			t.Errorf("%+v: can be executed again", c)
		}
	}
}

// P19.2: what is removed stays as it was in memory that others may hold, also if entries
// are appended to what remains.
func TestCutLists(t *testing.T) {
	im, w := windowOf(t, "jal x1, 4; beq x0, x0, 8; addi x5, x0, 1; addi x6, x0, 1")
	// The last entry stands beyond the length of the list.
	held := slices.Clone(w.L)
	w.L = held[:3]
	copied := slices.Clone(held)
	if _, ok := w.Retire(); !ok || len(w.L) != 2 {
		t.Fatal(w)
	}
	w.L = append(w.L, Fetch(im, 0, 0))
	if !slices.Equal(held, copied) {
		t.Error("Retire:", held)
	}
	w = &Window{L: held[1:3]}
	if !w.Execute(im, 0) || len(w.L) != 1 {
		t.Fatal(w)
	}
	w.L = append(w.L, Fetch(im, 0, 0), Fetch(im, 0, 0))
	if !slices.Equal(held[2:], copied[2:]) {
		t.Error("Execute:", held)
	}
	if w.L[1].Bad != api.StopFetch || w.L[2].Bad != api.StopFetch {
		t.Error(w)
	}
}

// P19.2: Retire, on a window written out.
func TestRetire(t *testing.T) {
	im, w := windowOf(t, "lui x5, 1; addi x6, x5, 1; sd x6, 0(x7); lui x0, 3; fence rw, rw; beq x0, x0, 4; ld x9, 0(x7); jalr x8, 4(x0)")
	w.Regs[7] = dataBase
	retire := func(want bool, regs map[int]int) {
		t.Helper()
		before := clone(w)
		e, ok := w.Retire()
		if ok != want {
			t.Fatal(before.L[0], ok)
		}
		if !ok {
			if e != (Entry{}) || !same(w, before) {
				t.Fatal(e, w)
			}
			return
		}
		for r, v := range regs {
			before.Regs[r] = v
		}
		if e != before.L[0] || w.Regs != before.Regs || !slices.Equal(w.L, before.L[1:]) {
			t.Fatal(e, w, before)
		}
	}
	retire(true, map[int]int{5: 4096})
	retire(false, nil)
	w.Execute(im, 0)
	retire(true, map[int]int{6: 4097})
	w.Execute(im, 0)
	w.L[0].Ready, w.L[0].Val = true, 17
	retire(false, nil) // it is not done
	w.L[0].Done = true
	retire(true, nil)
	retire(true, nil)
	retire(true, nil)
	retire(false, nil) // the branch has not been executed
	w.Execute(im, 0)
	retire(true, nil)
	w.Execute(im, 0)
	retire(false, nil)
	perform(w, 0, -5)
	retire(true, map[int]int{9: -5})
	retire(false, nil) // the jump is ready, but not done
	w.Execute(im, 0)
	retire(true, map[int]int{8: codeBase + 32})
	if e, ok := w.Retire(); ok || e != (Entry{}) {
		t.Error(e)
	}
}

// P19.2: an entry at which the hart stops is not retired, and neither is an ecall.
func TestRetireBad(t *testing.T) {
	for _, line := range []string{"ebreak", "0x0", "lw x5, 0(x0)", "sd x5, 0(x0)", "ecall"} {
		im, w := windowOf(t, line)
		w.Execute(im, 0)
		if e, ok := w.Retire(); ok || e != (Entry{}) || len(w.L) != 1 {
			t.Error(line, e)
		}
	}
	_, w := windowOf(t, "lui x5, 1")
	w.L[0].Bad = api.StopAccess
	if e, ok := w.Retire(); ok || e != (Entry{}) || w.Regs[5] != 0 {
		t.Error(e)
	}
	// Whether an ecall is done is the machine's to say.
	_, w = windowOf(t, "ecall; lui x5, 1")
	w.L[0].Done = true
	if e, ok := w.Retire(); !ok || e.Instr.Op != api.OpEcall || len(w.L) != 1 || w.Regs != [32]int{} {
		t.Error(e, w)
	}
}

// P19.1, P19.2: a nil window has nothing.
func TestNil(t *testing.T) {
	var w *Window
	for _, i := range []int{-1, 0, 1} {
		for _, r := range []int{-1, 0, 5, 32} {
			if v, known := w.Reg(i, r); v != 0 || known {
				t.Error(i, r, v, known)
			}
		}
		if w.Can(i) || w.Execute(api.Image{}, i) {
			t.Error(i)
		}
	}
	if e, ok := w.Retire(); ok || e != (Entry{}) {
		t.Error(e)
	}
	w = &Window{}
	if e, ok := w.Retire(); ok || e != (Entry{}) || w.Can(0) || w.Execute(api.Image{}, 0) {
		t.Error(e)
	}
}

// play is a window into which instructions are fetched and executed as dice say.
type play struct {
	rng *rand.Rand
	im  api.Image
	w   *Window
	pc  int
}

// newPlay returns a play of a random program.
func newPlay(t testing.TB, rng *rand.Rand, names []string) *play {
	p := &play{rng: rng, im: api.Image{Data: make([]int, 3), Entries: []int{0}}, w: &Window{}, pc: codeBase}
	for range 12 {
		p.im.Code = append(p.im.Code, encode(t, randomInstr(rng, names, 8)))
	}
	if rng.IntN(8) == 0 {
		p.im.Code[rng.IntN(12)] = 0
	}
	for r := range p.w.Regs {
		p.w.Regs[r] = p.number()
	}
	return p
}

// number returns a number that may be a value, an address of data or one of code.
func (p *play) number() int {
	switch p.rng.IntN(4) {
	case 0:
		return p.rng.IntN(3)
	case 1:
		return int(p.rng.Uint64())
	case 2:
		return codeBase + 4*p.rng.IntN(12)
	}
	return dataBase + 8*p.rng.IntN(4)
}

// guess returns a prediction for the instruction that is fetched next.
func (p *play) guess() int {
	if p.rng.IntN(2) == 0 {
		return 0
	}
	return codeBase + 4*p.rng.IntN(13)
}

func (p *play) fetch() {
	guess := p.guess()
	e := Fetch(p.im, p.pc, guess)
	p.w.L = append(p.w.L, e)
	p.pc = e.Next
}

// read makes entry i, if its address is known, ready and done.
func (p *play) read(i int) {
	if e := p.w.L[i]; e.Known && !e.Done {
		perform(p.w, i, p.number())
	}
}

var played = slices.Concat(arithmetic, branches, wide, wide, branches, others, []string{"lw", "sb", "amoadd.w"})

// check holds Reg and Can against the chapter, for all registers and entries.
func (p *play) check(t *testing.T) {
	before := clone(p.w)
	for i := -1; i <= len(p.w.L)+1; i++ {
		for r := -1; r <= 32; r++ {
			v, known := p.w.Reg(i, r)
			if theV, theKnown := theRegister(p.w, i, r); v != theV || known != theKnown {
				t.Fatalf("Reg(%d, %d) = %d, %v; want %d, %v in %+v", i, r, v, known, theV, theKnown, p.w)
			}
		}
		if got, want := p.w.Can(i), theCan(p.w, i); got != want {
			t.Fatalf("Can(%d) = %v in %+v", i, got, p.w)
		}
	}
	if !same(p.w, before) {
		t.Fatal("changed by Reg or Can")
	}
}

// P19.1, P19.2: random windows, step by step.
func TestRandom(t *testing.T) {
	counts := map[string]int{}
	for seed := range uint64(6000) {
		p := newPlay(t, rand.New(rand.NewPCG(19, 100+seed)), played)
		code, data := slices.Clone(p.im.Code), slices.Clone(p.im.Data)
		for range 40 {
			switch n := len(p.w.L); {
			case n < 3 || p.rng.IntN(4) == 0:
				p.fetch()
			case p.rng.IntN(6) == 0:
				p.read(p.rng.IntN(n))
			case p.rng.IntN(6) == 0:
				want, theE, theOk := theRetired(clone(p.w))
				e, ok := p.w.Retire()
				if e != theE || ok != theOk || !same(p.w, want) {
					t.Fatalf("Retire: %+v, %v; want %+v, %v", e, ok, theE, theOk)
				}
				counts[fmt.Sprint("retire ", ok)]++
			default:
				i := p.rng.IntN(n+2) - 1
				want := clone(p.w)
				can := theCan(p.w, i)
				if can {
					want = theExecuted(p.w, p.im, i)
				}
				if ok := p.w.Execute(p.im, i); ok != can || !same(p.w, want) {
					t.Fatalf("Execute(%d): %v\n%+v\nwant %v\n%+v", i, ok, p.w, can, want)
				}
				p.pc = p.w.L[len(p.w.L)-1].Next
				counts[fmt.Sprint("execute ", can, " cut ", len(p.w.L) < n)]++
			}
		}
		p.check(t)
		if !slices.Equal(code, p.im.Code) || !slices.Equal(data, p.im.Data) {
			t.Fatal("the image was changed")
		}
	}
	for _, kind := range []string{"retire true", "retire false", "execute true cut true", "execute true cut false", "execute false cut false"} {
		if counts[kind] < 1000 {
			t.Error(kind, counts[kind])
		}
	}
}

// outcomes adds to found all windows to which executing entries of w leads in which
// nothing more can be executed.
func outcomes(w *Window, im api.Image, seen, found map[string]bool) {
	key := fmt.Sprint(w.L)
	if seen[key] {
		return
	}
	seen[key] = true
	done := true
	for i := range w.L {
		next := clone(w)
		if next.Execute(im, i) {
			done = false
			outcomes(next, im, seen, found)
		}
	}
	if done {
		found[key] = true
	}
}

// oneAfterTheOther executes entries, always the first one that can be.
func oneAfterTheOther(w *Window, im api.Image) {
	for i := 0; i < len(w.L); i++ {
		w.Execute(im, i)
	}
}

// P19.3: all orders in which entries can be executed lead to the same window, that of
// executing them one after the other.
func TestOrders(t *testing.T) {
	counts := map[bool]int{}
	for seed := range uint64(3000) {
		p := newPlay(t, rand.New(rand.NewPCG(19, 10000+seed)), played)
		for range 7 {
			p.fetch()
			if i := len(p.w.L) - 1; p.rng.IntN(3) == 0 && p.w.L[i].Src == none && isWide(p.w.L[i]) {
				// A read that was performed, wherever that was.
				p.w.L[i].Addr, p.w.L[i].Known = dataBase, true
				p.read(i)
			}
		}
		seen, found := map[string]bool{}, map[string]bool{}
		outcomes(p.w, p.im, seen, found)
		oneAfterTheOther(p.w, p.im)
		if len(found) != 1 || !found[fmt.Sprint(p.w.L)] {
			t.Fatalf("%v: not %v", found, p.w.L)
		}
		counts[len(seen) > 20]++
	}
	if counts[true] < 1000 {
		t.Error(counts)
	}
}

func isWide(e Entry) bool {
	return is(e.Instr, wide...)
}

// interpreter executes instructions that do not access memory, one after the other, as
// layer 15 says.
type interpreter struct {
	regs [32]int
	pc   int
}

func (m *interpreter) step(i api.Instr) {
	a, b := m.regs[i.A], m.regs[i.B]
	next := m.pc + 4
	switch {
	case is(i, "jal"):
		m.regs[i.Rd] = next
		next = m.pc + i.Imm
	case is(i, "jalr"):
		m.regs[i.Rd] = next
		next = a + i.Imm - (a+i.Imm)&1
	case is(i, "lui"):
		m.regs[i.Rd] = i.Imm << 12
	case is(i, "auipc"):
		m.regs[i.Rd] = m.pc + i.Imm<<12
	case is(i, branches...):
		if taken, _ := alu.Taken(i.Op, a, b); taken {
			next = m.pc + i.Imm
		}
	case is(i, arithmetic...):
		if isa.Form(i.Op) != api.FormR {
			b = i.Imm
		}
		m.regs[i.Rd], _ = alu.Eval(i.Op, a, b)
	}
	m.regs[0] = 0
	m.pc = next
}

// P19.2, P19.3: what is retired, in whatever order it was executed and whatever was
// predicted, is what a machine retires that executes one instruction after the other.
func TestInterpreted(t *testing.T) {
	names := slices.Concat(arithmetic, branches, branches, []string{"lui", "auipc", "jal", "jalr", "fence"})
	retired := 0
	for seed := range uint64(2000) {
		p := newPlay(t, rand.New(rand.NewPCG(19, 20000+seed)), names)
		p.w.Regs[0] = 0
		m := interpreter{regs: p.w.Regs, pc: p.pc}
		for range 150 {
			if n := len(p.w.L); n < 8 && p.rng.IntN(3) == 0 {
				p.fetch()
				continue
			}
			if n := len(p.w.L); n > 0 && p.rng.IntN(3) != 0 {
				p.w.Execute(p.im, p.rng.IntN(n))
				p.pc = p.w.L[len(p.w.L)-1].Next
				continue
			}
			e, ok := p.w.Retire()
			if !ok {
				continue
			}
			if e.PC != m.pc {
				t.Fatal(e, m.pc)
			}
			m.step(e.Instr)
			if m.pc != e.Next || p.w.Regs != m.regs {
				t.Fatalf("%s: %+v; want %+v", text.Text(e.Instr), p.w.Regs, m)
			}
			retired++
		}
	}
	if retired < 10000 {
		t.Error(retired)
	}
}

// P19.1, P19.2: windows may have any number of entries.
func TestManyEntries(t *testing.T) {
	im := program(t, 0, "addi x5, x5, 1")
	w := &Window{}
	for range 3000 {
		w.L = append(w.L, Fetch(im, codeBase, 0))
	}
	for i := range w.L {
		if w.Can(i+1) || !w.Execute(im, i) {
			t.Fatal(i)
		}
	}
	if v, known := w.Reg(3000, 5); v != 3000 || !known {
		t.Error(v, known)
	}
	if v, known := w.Reg(64, 5); v != 64 || !known {
		t.Error(v, known)
	}
	for n := range 3000 {
		if e, ok := w.Retire(); !ok || e.Val != n+1 || w.Regs[5] != n+1 {
			t.Fatal(n, e)
		}
	}
	if len(w.L) != 0 {
		t.Error(len(w.L))
	}
}

// Rule 1: whatever the arguments are, nothing panics.
func TestAnything(t *testing.T) {
	rng := rand.New(rand.NewPCG(19, 3))
	numbers := []int{0, 1, -1, 5, 31, 32, 33, 88, codeBase, dataBase, math.MaxInt, math.MinInt}
	pick := func() int { return numbers[rng.IntN(len(numbers))] }
	coin := func() bool { return rng.IntN(2) == 0 }
	for range 20000 {
		w := &Window{}
		for range rng.IntN(4) {
			w.L = append(w.L, Entry{PC: pick(), Next: pick(), Addr: pick(), Known: coin(), Bad: rng.IntN(3) * rng.IntN(2), Val: pick(),
				Ready: coin(), Done: coin(), Src: api.Ref{Hart: pick(), At: pick()},
				Instr: api.Instr{Op: rng.IntN(90) - 1, Rd: pick(), A: pick(), B: pick(), Imm: pick(), Aq: coin(), Rl: coin()}})
		}
		im := api.Image{Code: []uint32{rng.Uint32()}, Data: make([]int, rng.IntN(2))}
		i := rng.IntN(5)
		w.Reg(i, pick())
		w.Can(i)
		w.Execute(im, i)
		w.Execute(api.Image{}, pick())
		w.Retire()
		Fetch(im, pick(), pick())
	}
}

// The types have the fields that the chapter lists, and no others.
func TestTypes(t *testing.T) {
	fields := func(v any) string {
		var b strings.Builder
		for f := range reflect.TypeOf(v).NumField() {
			x := reflect.TypeOf(v).Field(f)
			fmt.Fprint(&b, x.Name, " ", x.Type, "; ")
		}
		return b.String()
	}
	if s := fields(Entry{}); s != "PC int; Instr api.Instr; Next int; Addr int; Known bool; Bad int; Val int; Ready bool; Done bool; Fail bool; Src api.Ref; " {
		t.Error(s)
	}
	if s := fields(Window{}); s != "Regs [32]int; L []window.Entry; " {
		t.Error(s)
	}
}
