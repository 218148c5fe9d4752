package isa

import (
	"math"
	"slices"
	"strings"
	"testing"

	"spinnaker/api"
)

// chapterNames are the names in the order in which the chapter lists them.
const chapterNames = "lui auipc jal jalr beq bne blt bge bltu bgeu lb lh lw ld lbu lhu lwu sb sh sw sd addi slti sltiu xori ori andi slli srli srai addiw slliw srliw sraiw add sub sll slt sltu xor srl sra or and addw subw sllw srlw sraw mul mulh mulhsu mulhu div divu rem remu mulw divw divuw remw remuw fence ecall ebreak lr.w sc.w amoswap.w amoadd.w amoxor.w amoand.w amoor.w amomin.w amomax.w amominu.w amomaxu.w lr.d sc.d amoswap.d amoadd.d amoxor.d amoand.d amoor.d amomin.d amomax.d amominu.d amomaxu.d"

// chapterForm is a form as the chapter describes it: its operations, the fields
// that it uses, and the values of Imm.
type chapterForm struct {
	form        int
	operations  string
	fields      []string
	least, most int
	even        bool
}

var chapterForms = []chapterForm{
	{api.FormU, "lui auipc", []string{"Rd", "Imm"}, -1 << 19, 1<<19 - 1, false},
	{api.FormJ, "jal", []string{"Rd", "Imm"}, -1 << 20, 1<<20 - 2, true},
	{api.FormI, "jalr lb to lwu addi to andi addiw", []string{"Rd", "A", "Imm"}, -2048, 2047, false},
	{api.FormB, "beq to bgeu", []string{"A", "B", "Imm"}, -4096, 4094, true},
	{api.FormS, "sb to sd", []string{"A", "B", "Imm"}, -2048, 2047, false},
	{api.FormShift, "slli srli srai", []string{"Rd", "A", "Imm"}, 0, 63, false},
	{api.FormSmall, "slliw srliw sraiw", []string{"Rd", "A", "Imm"}, 0, 31, false},
	{api.FormR, "add to remuw", []string{"Rd", "A", "B"}, 0, 0, false},
	{api.FormFence, "fence", []string{"Imm"}, 0, 255, false},
	{api.FormNone, "ecall ebreak", nil, 0, 0, false},
	{api.FormLr, "lr.w lr.d", []string{"Rd", "A", "Aq", "Rl"}, 0, 0, false},
	{api.FormAmo, "sc.w to amomaxu.w sc.d to amomaxu.d", []string{"Rd", "A", "B", "Aq", "Rl"}, 0, 0, false},
}

// noOperations are numbers that are no operation. Those beyond 32 bits become
// one if they are cut.
var noOperations = []int{
	0, -1, -2, -3, -87, -88, 88, 89, 90, 100, 127, 128, 255, 256, 257, 1 << 16, 1<<16 + 5,
	1 << 31, 1<<32 + 1, 1<<32 + 14, 1<<32 + 87, -1<<32 + 1, -1 << 32, math.MaxInt32, math.MinInt32,
	math.MaxInt, math.MaxInt - 1, math.MinInt, math.MinInt + 1, math.MinInt + 87,
}

// operations returns the numbers of all operations.
func operations() []int {
	var l []int
	for op := 1; op <= 87; op++ {
		l = append(l, op)
	}
	return l
}

// numbers returns the number of each name, by the order of the chapter.
func numbers() map[string]int {
	m := map[string]int{}
	for k, s := range strings.Fields(chapterNames) {
		m[s] = k + 1
	}
	return m
}

// spread returns the numbers of a list of names in which a to b stands for all
// operations from a to b.
func spread(list string) []int {
	m := numbers()
	words := strings.Fields(list)
	var l []int
	for k := 0; k < len(words); k++ {
		if words[k] != "to" {
			l = append(l, m[words[k]])
			continue
		}
		for op := m[words[k-1]] + 1; op < m[words[k+1]]; op++ {
			l = append(l, op)
		}
	}
	return l
}

// formsByOperation returns the form of each operation, as the chapter has it.
func formsByOperation() map[int]chapterForm {
	m := map[int]chapterForm{}
	for _, f := range chapterForms {
		for _, op := range spread(f.operations) {
			m[op] = f
		}
	}
	return m
}

// uses reports whether the form uses the field.
func (f chapterForm) uses(field string) bool {
	return slices.Contains(f.fields, field)
}

// mayRegister reports whether r may stand in the field.
func (f chapterForm) mayRegister(field string, r int) bool {
	return r == 0 || f.uses(field) && 0 < r && r < 32
}

// mayImm reports whether v may be Imm; 0 is all that a form without it has.
func (f chapterForm) mayImm(v int) bool {
	return f.least <= v && v <= f.most && (!f.even || v&1 == 0)
}

// valid holds i against the form of its operation.
func (f chapterForm) valid(i api.Instr) bool {
	return f.mayRegister("Rd", i.Rd) && f.mayRegister("A", i.A) && f.mayRegister("B", i.B) &&
		f.mayImm(i.Imm) && (f.uses("Aq") || !i.Aq) && (f.uses("Rl") || !i.Rl)
}

// number returns the number of an operation that there is.
func number(t *testing.T, name string) int {
	t.Helper()
	n, ok := numbers()[name]
	if !ok {
		t.Fatalf("no operation %q", name)
	}
	return n
}

// sample returns a valid instruction that uses all fields that it may: no field
// of the form is 0, and Imm is even.
func (f chapterForm) sample(op int) api.Instr {
	i := api.Instr{Op: op, Aq: f.uses("Aq"), Rl: f.uses("Rl")}
	if f.uses("Rd") {
		i.Rd = 7
	}
	if f.uses("A") {
		i.A = 8
	}
	if f.uses("B") {
		i.B = 9
	}
	if f.uses("Imm") {
		i.Imm = 10
	}
	return i
}

// checkMay holds May(i) against what is wanted.
func checkMay(t *testing.T, i api.Instr, want bool) {
	t.Helper()
	if May(i) != want {
		t.Errorf("May(%+v) = %v; want %v", i, !want, want)
	}
}

// The tables of the tests are whole: each operation has one form.
func TestChapterTables(t *testing.T) {
	if n := len(numbers()); n != 87 {
		t.Fatalf("%d names", n)
	}
	all := 0
	for _, f := range chapterForms {
		all += len(spread(f.operations))
	}
	if n := len(formsByOperation()); n != 87 || all != 87 || len(chapterForms) != 12 {
		t.Fatalf("%d operations have a form, %d in all, of %d forms", n, all, len(chapterForms))
	}
}

// P3.1: Name.

func TestNameExamples(t *testing.T) {
	for op, want := range map[int]string{
		1: "lui", 2: "auipc", 3: "jal", 4: "jalr", 5: "beq", 10: "bgeu", 14: "ld", 21: "sd", 22: "addi", 30: "srai", 31: "addiw", 35: "add",
		63: "fence", 64: "ecall", 65: "ebreak", 66: "lr.w", 67: "sc.w", 76: "amomaxu.w", 77: "lr.d", 78: "sc.d", 80: "amoadd.d", 87: "amomaxu.d",
	} {
		if s := Name(op); s != want {
			t.Errorf("Name(%d) = %q; want %q", op, s, want)
		}
	}
}

func TestNamesOfConstants(t *testing.T) {
	for op, want := range map[int]string{
		api.OpLui: "lui", api.OpJalr: "jalr", api.OpBltu: "bltu", api.OpLwu: "lwu", api.OpSd: "sd", api.OpAndi: "andi", api.OpSraiw: "sraiw",
		api.OpOr: "or", api.OpSraw: "sraw", api.OpMulhsu: "mulhsu", api.OpRemuw: "remuw", api.OpFence: "fence", api.OpEcall: "ecall", api.OpEbreak: "ebreak",
		api.OpLrW: "lr.w", api.OpScW: "sc.w", api.OpAmomaxuW: "amomaxu.w", api.OpLrD: "lr.d", api.OpScD: "sc.d", api.OpAmomaxuD: "amomaxu.d",
	} {
		if s := Name(op); s != want {
			t.Errorf("Name(%d) = %q; want %q", op, s, want)
		}
	}
}

func TestNamesOfAllOperations(t *testing.T) {
	for k, want := range strings.Fields(chapterNames) {
		if s := Name(k + 1); s != want {
			t.Errorf("Name(%d) = %q; want %q", k+1, s, want)
		}
	}
}

func TestNoName(t *testing.T) {
	for _, op := range noOperations {
		if s := Name(op); s != "" {
			t.Errorf("Name(%d) = %q; want nothing", op, s)
		}
	}
}

// P3.1: Find.

func TestFindExamples(t *testing.T) {
	for s, want := range map[string]int{"lui": api.OpLui, "ld": api.OpLd, "or": api.OpOr, "fence": api.OpFence, "lr.w": api.OpLrW, "sc.d": api.OpScD, "amoadd.d": 80, "amomaxu.d": 87} {
		if op, ok := Find(s); op != want || !ok {
			t.Errorf("Find(%q) = %d, %v; want %d", s, op, ok, want)
		}
	}
}

func TestFindAllNames(t *testing.T) {
	for s, want := range numbers() {
		if op, ok := Find(s); op != want || !ok {
			t.Errorf("Find(%q) = %d, %v; want %d", s, op, ok, want)
		}
	}
}

func TestFindNoName(t *testing.T) {
	for _, s := range []string{
		"", " ", "\x00", "\xff", "\n", ".", ".w", ".d", "0", "1", "87",
		"LUI", "Lui", "luI", "LR.D", "lr.D", "Amoadd.d", "AMOADD.D", "FENCE",
		"lr", "sc", "lr.", "sc.", "amoadd", "amoadd.", "amomaxu", "amo", "amo.d", "add.d", "amo.add.d",
		"lr.q", "sc.q", "amoadd.q", "amoadd.b", "amoadd.h", "lr.aq", "lr.d.aq", "lr.d.rl", "amoadd.d.aqrl", "amoadd.w.aq",
		"amoadd d", "amoadd_d", "amoaddd", "amosub.d", "amominu", "amomin u.d",
		"fence.i", "fence.tso", "fencei", "fenc", "illegal", "none",
		"lui ", " lui", "lui\n", "lui\x00", "lui,", "lu", "ui", "luii", "auip", "auipc ", "luiauipc", "lui auipc",
		"nop", "li", "la", "mv", "j", "jr", "ret", "call", "beqz", "bnez", "ble", "bgt", "neg", "not", "seqz", "snez", "sext.w",
		"l", "s", "ldu", "sdu", "sbu", "shu", "swu", "subi", "subiw", "sltw", "xorw", "orw", "andw", "mulhw", "mulhus", "mulhsw", "addu", "sltui",
		"flw", "fsd", "csrrw", "c.add", "c.ld", "wfi", "mret", "ebrea", "ebreakk", "e",
		chapterNames, strings.Repeat("lui", 1000),
	} {
		if op, ok := Find(s); op != 0 || ok {
			t.Errorf("Find(%q) = %d, %v; want 0, false", s, op, ok)
		}
	}
}

// What a small change makes of a name is found exactly if it is another name.
func TestFindChangedNames(t *testing.T) {
	m := numbers()
	check := func(s string) {
		want, isName := m[s]
		if op, ok := Find(s); op != want || ok != isName {
			t.Errorf("Find(%q) = %d, %v; want %d, %v", s, op, ok, want, isName)
		}
	}
	const used = "abcdefhijlmnopqrstuwx.0 AWD\x00"
	for name := range m {
		for k := range len(name) + 1 {
			check(name[:k])
			check(name[k:])
			for _, c := range used {
				check(name[:k] + string(c) + name[k:])
			}
			if k == len(name) {
				continue
			}
			check(name[:k] + name[k+1:])
			check(name[:k] + strings.ToUpper(name[k:k+1]) + name[k+1:])
			for _, c := range used {
				check(name[:k] + string(c) + name[k+1:])
			}
		}
	}
}

// P3.1: Form.

func TestFormExamples(t *testing.T) {
	for op, want := range map[int]int{
		api.OpLui: api.FormU, api.OpAuipc: api.FormU, api.OpJal: api.FormJ, api.OpJalr: api.FormI, api.OpBeq: api.FormB, api.OpBgeu: api.FormB,
		api.OpLb: api.FormI, api.OpLwu: api.FormI, api.OpSb: api.FormS, api.OpSd: api.FormS, api.OpAddi: api.FormI, api.OpAndi: api.FormI,
		api.OpSlli: api.FormShift, api.OpSrai: api.FormShift, api.OpAddiw: api.FormI, api.OpSlliw: api.FormSmall, api.OpSraiw: api.FormSmall,
		api.OpAdd: api.FormR, api.OpRemuw: api.FormR, api.OpFence: api.FormFence, api.OpEcall: api.FormNone, api.OpEbreak: api.FormNone,
		api.OpLrW: api.FormLr, api.OpScW: api.FormAmo, api.OpAmomaxuW: api.FormAmo, api.OpLrD: api.FormLr, api.OpScD: api.FormAmo, api.OpAmomaxuD: api.FormAmo,
	} {
		if f := Form(op); f != want {
			t.Errorf("Form(%d) = %d; want %d", op, f, want)
		}
	}
}

func TestFormsOfAllOperations(t *testing.T) {
	for op, f := range formsByOperation() {
		if got := Form(op); got != f.form {
			t.Errorf("Form(%s) = %d; want %d", Name(op), got, f.form)
		}
	}
}

func TestNoForm(t *testing.T) {
	for _, op := range noOperations {
		if f := Form(op); f != -1 {
			t.Errorf("Form(%d) = %d; want -1", op, f)
		}
	}
}

// P3.2: May.

func TestMayExamples(t *testing.T) {
	for _, c := range []struct {
		i    api.Instr
		want bool
	}{
		{api.Instr{Op: api.OpBeq, Imm: 3}, false},
		{api.Instr{Op: api.OpBeq, Imm: -4096}, true},
		{api.Instr{Op: api.OpSd, Rd: 1}, false},
		{api.Instr{Op: api.OpSd, A: 31, B: 31, Imm: 2047}, true},
		{api.Instr{Op: api.OpLui, Rd: 5, Imm: 0x7ffff}, true},
		{api.Instr{Op: api.OpLui, Rd: 5, Imm: 0x80000}, false},
		{api.Instr{Op: api.OpJal, Rd: 1, Imm: -1 << 20}, true},
		{api.Instr{Op: api.OpJal, Rd: 1, Imm: 1 << 20}, false},
		{api.Instr{Op: api.OpJal, A: 1}, false},
		{api.Instr{Op: api.OpJalr, Rd: 1, A: 2, Imm: -1}, true},
		{api.Instr{Op: api.OpSrai, Rd: 1, A: 2, Imm: 63}, true},
		{api.Instr{Op: api.OpSraiw, Rd: 1, A: 2, Imm: 32}, false},
		{api.Instr{Op: api.OpAddiw, Rd: 1, A: 2, Imm: -2048}, true},
		{api.Instr{Op: api.OpAdd, Rd: 1, A: 2, B: 3}, true},
		{api.Instr{Op: api.OpAdd, Rd: 1, A: 2, B: 3, Imm: 1}, false},
		{api.Instr{Op: api.OpAdd, Rd: 1, A: 2, B: 3, Rl: true}, false},
		{api.Instr{Op: api.OpFence}, true},
		{api.Instr{Op: api.OpFence, Imm: 255}, true},
		{api.Instr{Op: api.OpFence, Imm: 256}, false},
		{api.Instr{Op: api.OpFence, Rd: 1}, false},
		{api.Instr{Op: api.OpEcall}, true},
		{api.Instr{Op: api.OpEbreak}, true},
		{api.Instr{Op: api.OpEbreak, Imm: 1}, false},
		{api.Instr{Op: api.OpLrD, Rd: 1, A: 2, Aq: true, Rl: true}, true},
		{api.Instr{Op: api.OpLrD, Rd: 1, A: 2, B: 3}, false},
		{api.Instr{Op: api.OpScD, Rd: 1, A: 2, B: 3, Rl: true}, true},
		{api.Instr{Op: api.OpAmoaddW, Rd: 1, A: 2, B: 3, Aq: true}, true},
		{api.Instr{Op: api.OpAmoaddW, Rd: 1, A: 2, B: 3, Imm: 1}, false},
		{api.Instr{}, false},
		{api.Instr{Op: 88}, false},
	} {
		checkMay(t, c.i, c.want)
	}
}

// The zero of every field, and a value of every field that the form uses, are
// valid for each operation.
func TestMayOfEveryOperation(t *testing.T) {
	for op, f := range formsByOperation() {
		checkMay(t, api.Instr{Op: op}, true)
		checkMay(t, f.sample(op), true)
	}
}

func TestMayOfNoOperation(t *testing.T) {
	for _, op := range noOperations {
		checkMay(t, api.Instr{Op: op}, false)
	}
	for like, f := range formsByOperation() {
		i := f.sample(like)
		for _, op := range noOperations {
			i.Op = op
			checkMay(t, i, false)
		}
	}
}

// The least and the greatest Imm of each form, and one beyond either.
func TestMayAtTheEdgesOfImm(t *testing.T) {
	for op, f := range formsByOperation() {
		i := f.sample(op)
		step := 1
		if f.even {
			step = 2
		}
		for _, c := range []struct {
			imm  int
			want bool
		}{
			{f.least, true}, {f.most, true},
			{f.least - 1, false}, {f.most + 1, false}, {f.least - 2, false}, {f.most + 2, false},
			{f.least + step, f.uses("Imm")}, {f.most - step, f.uses("Imm")},
			{0, true}, {math.MinInt, false}, {math.MaxInt, false}, {math.MaxInt - 1, false}, {1 << 32, false}, {-1 << 32, false}, {1<<32 + 2, false}, {1<<63 - 1<<12, false},
		} {
			i.Imm = c.imm
			checkMay(t, i, c.want)
		}
	}
}

func TestMayOfOddImm(t *testing.T) {
	for op, f := range formsByOperation() {
		i := f.sample(op)
		for _, imm := range []int{1, 3, 5, 7, 11, 31} {
			i.Imm = imm
			checkMay(t, i, f.uses("Imm") && !f.even)
		}
		for _, imm := range []int{-1, -3, -2047} {
			i.Imm = imm
			checkMay(t, i, f.least < 0 && !f.even)
		}
	}
	for _, name := range []string{"jal", "beq", "bgeu"} {
		for imm := -4095; imm < 4095; imm += 2 {
			checkMay(t, api.Instr{Op: number(t, name), Imm: imm}, false)
			checkMay(t, api.Instr{Op: number(t, name), Imm: imm - 1}, true)
		}
	}
}

// Every small Imm, and the numbers around each power of two.
func TestMayOfManyImms(t *testing.T) {
	for op, f := range formsByOperation() {
		i := f.sample(op)
		for imm := -5000; imm <= 5000; imm++ {
			i.Imm = imm
			checkMay(t, i, f.mayImm(imm))
		}
		for k := range 64 {
			p := int(uint64(1) << k)
			for d := -3; d <= 3; d++ {
				i.Imm = p + d
				checkMay(t, i, f.mayImm(i.Imm))
				i.Imm = -p + d
				checkMay(t, i, f.mayImm(i.Imm))
			}
		}
	}
}

// The fields for registers, one after the other, of an instruction that is
// valid otherwise.
func TestMayOfRegisters(t *testing.T) {
	for op, f := range formsByOperation() {
		for r := -40; r <= 70; r++ {
			isZero := r == 0
			isRegister := 0 <= r && r <= 31
			rd, a, b := f.sample(op), f.sample(op), f.sample(op)
			rd.Rd, a.A, b.B = r, r, r
			checkMay(t, rd, isZero || isRegister && f.uses("Rd"))
			checkMay(t, a, isZero || isRegister && f.uses("A"))
			checkMay(t, b, isZero || isRegister && f.uses("B"))
		}
		for _, r := range []int{1 << 32, 1<<32 + 5, -1 << 32, math.MaxInt, math.MinInt, math.MinInt + 5} {
			rd, a, b := f.sample(op), f.sample(op), f.sample(op)
			rd.Rd, a.A, b.B = r, r, r
			checkMay(t, rd, false)
			checkMay(t, a, false)
			checkMay(t, b, false)
		}
	}
}

// A field that the form does not use, and that is not zero.
func TestMayOfUnusedFields(t *testing.T) {
	for op, f := range formsByOperation() {
		for _, v := range []int{1, 2, 31, 32, -1} {
			for field, set := range map[string]func(*api.Instr){
				"Rd":  func(i *api.Instr) { i.Rd = v },
				"A":   func(i *api.Instr) { i.A = v },
				"B":   func(i *api.Instr) { i.B = v },
				"Imm": func(i *api.Instr) { i.Imm = v },
			} {
				if f.uses(field) {
					continue
				}
				full, bare := f.sample(op), api.Instr{Op: op}
				set(&full)
				set(&bare)
				checkMay(t, full, false)
				checkMay(t, bare, false)
			}
		}
	}
}

func TestMayOfAqAndRl(t *testing.T) {
	for op, f := range formsByOperation() {
		for k := range 4 {
			i := f.sample(op)
			i.Aq, i.Rl = k&1 == 1, k&2 == 2
			checkMay(t, i, k == 0 || f.form == api.FormLr || f.form == api.FormAmo)
		}
	}
}

// All combinations of what stands at the edges of the fields, held against the
// description of the forms; Reads and Writes of the same instructions.
func TestCombinations(t *testing.T) {
	registers := []int{-1, 0, 1, 31, 32}
	imms := []int{0, 1, 2, -1, -2, 31, 32, 63, 64, 255, 256, 2047, 2048, -2048, -2049, 4094, 4096, -4096, -4098,
		1<<19 - 1, 1 << 19, -1 << 19, -1<<19 - 1, 1<<20 - 2, 1 << 20, -1 << 20, -1<<20 - 2}
	for op, f := range formsByOperation() {
		for _, rd := range registers {
			for _, a := range registers {
				for _, b := range registers {
					for _, imm := range imms {
						for k := range 4 {
							checkCombination(t, f, api.Instr{Op: op, Rd: rd, A: a, B: b, Imm: imm, Aq: k&1 == 1, Rl: k&2 == 2})
						}
					}
				}
			}
		}
	}
}

func checkCombination(t *testing.T, f chapterForm, i api.Instr) {
	t.Helper()
	valid := f.valid(i)
	checkMay(t, i, valid)
	if a, b := Reads(i); a != (valid && f.uses("A")) || b != (valid && f.uses("B")) {
		t.Errorf("Reads(%+v) = %v, %v; valid: %v", i, a, b, valid)
	}
	want, isWritten := 0, false
	if valid && f.uses("Rd") && i.Rd != 0 {
		want, isWritten = i.Rd, true
	}
	if r, ok := Writes(i); r != want || ok != isWritten {
		t.Errorf("Writes(%+v) = %d, %v; valid: %v", i, r, ok, valid)
	}
}

// P3.2: Reads.

func TestReadsExamples(t *testing.T) {
	for _, c := range []struct {
		i    api.Instr
		a, b bool
	}{
		{api.Instr{Op: api.OpLui, Rd: 1, Imm: 1}, false, false},
		{api.Instr{Op: api.OpJal, Rd: 1, Imm: 2}, false, false},
		{api.Instr{Op: api.OpJalr, Rd: 1, A: 2}, true, false},
		{api.Instr{Op: api.OpLd, Rd: 1, A: 2, Imm: 8}, true, false},
		{api.Instr{Op: api.OpSd, A: 2, B: 3, Imm: 8}, true, true},
		{api.Instr{Op: api.OpBeq, A: 2, B: 3, Imm: 8}, true, true},
		{api.Instr{Op: api.OpSlli, Rd: 1, A: 2, Imm: 8}, true, false},
		{api.Instr{Op: api.OpSlliw, Rd: 1, A: 2, Imm: 8}, true, false},
		{api.Instr{Op: api.OpAdd, Rd: 1, A: 2, B: 3}, true, true},
		{api.Instr{Op: api.OpFence, Imm: 0x33}, false, false},
		{api.Instr{Op: api.OpEcall}, false, false},
		{api.Instr{Op: api.OpEbreak}, false, false},
		{api.Instr{Op: api.OpLrD, Rd: 1, A: 2}, true, false},
		{api.Instr{Op: api.OpScD, Rd: 1, A: 2, B: 3}, true, true},
		{api.Instr{Op: api.OpAmoaddD, Rd: 1, A: 2, B: 3}, true, true},
		// Register 0 is read like the others.
		{api.Instr{Op: api.OpAddi}, true, false},
		{api.Instr{Op: api.OpAdd}, true, true},
	} {
		if a, b := Reads(c.i); a != c.a || b != c.b {
			t.Errorf("Reads(%+v) = %v, %v; want %v, %v", c.i, a, b, c.a, c.b)
		}
	}
}

func TestReadsOfEveryOperation(t *testing.T) {
	for op, f := range formsByOperation() {
		for _, i := range []api.Instr{{Op: op}, f.sample(op)} {
			if a, b := Reads(i); a != f.uses("A") || b != f.uses("B") {
				t.Errorf("Reads(%+v) = %v, %v", i, a, b)
			}
		}
	}
}

// P3.2: Writes.

func TestWritesExamples(t *testing.T) {
	for _, c := range []struct {
		i    api.Instr
		want int
		ok   bool
	}{
		{api.Instr{Op: api.OpLui, Rd: 5, Imm: 1}, 5, true},
		{api.Instr{Op: api.OpLui, Imm: 1}, 0, false},
		{api.Instr{Op: api.OpJal, Rd: 1, Imm: 2}, 1, true},
		{api.Instr{Op: api.OpJal, Imm: 2}, 0, false},
		{api.Instr{Op: api.OpLd, Rd: 31, A: 2}, 31, true},
		{api.Instr{Op: api.OpSd, A: 2, B: 3}, 0, false},
		{api.Instr{Op: api.OpBne, A: 2, B: 3}, 0, false},
		{api.Instr{Op: api.OpAdd, Rd: 9, A: 2, B: 3}, 9, true},
		{api.Instr{Op: api.OpAdd, A: 2, B: 3}, 0, false},
		{api.Instr{Op: api.OpFence, Imm: 0x33}, 0, false},
		{api.Instr{Op: api.OpEcall}, 0, false},
		{api.Instr{Op: api.OpLrD, Rd: 4, A: 2}, 4, true},
		{api.Instr{Op: api.OpScD, Rd: 6, A: 2, B: 3}, 6, true},
		{api.Instr{Op: api.OpAmoswapW, Rd: 7, A: 2, B: 3}, 7, true},
		{api.Instr{Op: api.OpAmoswapW, A: 2, B: 3}, 0, false},
	} {
		if r, ok := Writes(c.i); r != c.want || ok != c.ok {
			t.Errorf("Writes(%+v) = %d, %v; want %d, %v", c.i, r, ok, c.want, c.ok)
		}
	}
}

func TestWritesOfEveryOperation(t *testing.T) {
	for op, f := range formsByOperation() {
		if r, ok := Writes(api.Instr{Op: op}); r != 0 || ok {
			t.Errorf("Writes of %s with Rd 0 = %d, %v", Name(op), r, ok)
		}
		for rd := 1; rd <= 31; rd++ {
			i := f.sample(op)
			i.Rd = rd
			want := 0
			if f.uses("Rd") {
				want = rd
			}
			if r, ok := Writes(i); r != want || ok != (want > 0) {
				t.Errorf("Writes(%+v) = %d, %v; want %d", i, r, ok, want)
			}
		}
	}
}

// P3.2: nothing is read or written by what is not valid.
func TestReadsAndWritesOfWhatIsNotValid(t *testing.T) {
	l := []api.Instr{
		{}, {Rd: 1, A: 2, B: 3},
		{Op: api.OpAdd, Rd: 1, A: 2, B: 32}, {Op: api.OpAdd, Rd: 1, A: -1, B: 3}, {Op: api.OpAdd, Rd: 32, A: 2, B: 3}, {Op: api.OpAdd, Rd: -1, A: 2, B: 3},
		{Op: api.OpAdd, Rd: 1, A: 2, B: 3, Imm: 1}, {Op: api.OpAdd, Rd: 1, A: 2, B: 3, Aq: true},
		{Op: api.OpAddi, Rd: 1, A: 2, Imm: 2048}, {Op: api.OpAddi, Rd: 1, A: 2, B: 3}, {Op: api.OpAddi, Rd: 1, A: 2, Rl: true},
		{Op: api.OpSd, Rd: 1, A: 2, B: 3}, {Op: api.OpBeq, A: 2, B: 3, Imm: 3}, {Op: api.OpBeq, Rd: 1, A: 2, B: 3}, {Op: api.OpJal, Rd: 1, Imm: 1},
		{Op: api.OpLrD, Rd: 1, A: 2, B: 3}, {Op: api.OpAmoaddD, Rd: 1, A: 2, B: 3, Imm: 8},
		{Op: api.OpFence, Rd: 1}, {Op: api.OpEcall, Rd: 10}, {Op: api.OpEcall, A: 10}, {Op: api.OpEbreak, B: 1},
	}
	for _, op := range noOperations {
		l = append(l, api.Instr{Op: op}, api.Instr{Op: op, Rd: 1, A: 2, B: 3}, api.Instr{Op: op, Rd: 1, A: 2, B: 3, Aq: true})
	}
	for _, i := range l {
		checkMay(t, i, false)
		if a, b := Reads(i); a || b {
			t.Errorf("Reads(%+v) = %v, %v", i, a, b)
		}
		if r, ok := Writes(i); r != 0 || ok {
			t.Errorf("Writes(%+v) = %d, %v", i, r, ok)
		}
	}
}

// P3.3: Access.

func TestAccessExamples(t *testing.T) {
	for _, c := range []struct {
		name          string
		reads, writes bool
	}{
		{"lb", true, false}, {"ld", true, false}, {"lwu", true, false},
		{"sb", false, true}, {"sd", false, true},
		{"lr.w", true, false}, {"lr.d", true, false},
		{"sc.w", false, true}, {"sc.d", false, true},
		{"amoswap.w", true, true}, {"amomaxu.w", true, true}, {"amoswap.d", true, true}, {"amomaxu.d", true, true},
		{"jalr", false, false}, {"addi", false, false}, {"addiw", false, false}, {"lui", false, false},
		{"fence", false, false}, {"ecall", false, false}, {"add", false, false}, {"beq", false, false},
	} {
		if r, w := Access(number(t, c.name)); r != c.reads || w != c.writes {
			t.Errorf("Access(%s) = %v, %v; want %v, %v", c.name, r, w, c.reads, c.writes)
		}
	}
}

func TestAccessOfEveryOperation(t *testing.T) {
	readers := spread("lb to lwu lr.w amoswap.w to amomaxu.w lr.d amoswap.d to amomaxu.d")
	writers := spread("sb to sd sc.w to amomaxu.w sc.d to amomaxu.d")
	for _, op := range operations() {
		if r, w := Access(op); r != slices.Contains(readers, op) || w != slices.Contains(writers, op) {
			t.Errorf("Access(%s) = %v, %v", Name(op), r, w)
		}
	}
}

// P3.3: Wide.

func TestWideOfEveryOperation(t *testing.T) {
	wide := spread("ld sd lr.d to amomaxu.d")
	if len(wide) != 13 {
		t.Fatalf("%d operations", len(wide))
	}
	for s, op := range numbers() {
		want := s == "ld" || s == "sd" || strings.HasSuffix(s, ".d")
		if Wide(op) != want || slices.Contains(wide, op) != want {
			t.Errorf("Wide(%s) = %v", s, Wide(op))
		}
	}
}

// P3.3: Branch.

func TestBranchOfEveryOperation(t *testing.T) {
	branches := spread("beq to bgeu")
	if len(branches) != 6 {
		t.Fatalf("%d operations", len(branches))
	}
	for _, op := range operations() {
		if Branch(op) != slices.Contains(branches, op) {
			t.Errorf("Branch(%s) = %v", Name(op), Branch(op))
		}
	}
}

func TestNoOperation(t *testing.T) {
	for _, op := range noOperations {
		if r, w := Access(op); r || w {
			t.Errorf("Access(%d) = %v, %v", op, r, w)
		}
		if Wide(op) {
			t.Errorf("Wide(%d)", op)
		}
		if Branch(op) {
			t.Errorf("Branch(%d)", op)
		}
	}
}

// P3.4.

func TestFindInvertsName(t *testing.T) {
	for _, want := range operations() {
		if op, ok := Find(Name(want)); op != want || !ok {
			t.Errorf("Find(Name(%d)) = %d, %v", want, op, ok)
		}
	}
	for s := range numbers() {
		op, _ := Find(s)
		if Name(op) != s {
			t.Errorf("Name(Find(%q)) = %q", s, Name(op))
		}
	}
	// What is no operation has the empty text, which is no name.
	for _, n := range noOperations {
		if op, ok := Find(Name(n)); op != 0 || ok {
			t.Errorf("Find(Name(%d)) = %d, %v", n, op, ok)
		}
	}
}
