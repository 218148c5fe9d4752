package text

import (
	"fmt"
	"maps"
	"math"
	"regexp"
	"slices"
	"strconv"
	"strings"
	"testing"

	"spinnaker/api"
	"spinnaker/isa"
)

// The reference: the operands as the chapter lists them, with the operations that
// are written in this way, in the words of the chapters 3 and 6.

type shape struct {
	operands    string
	names       string
	least, most int
	even        bool
	orders      bool
}

const pow19, pow20 = 1 << 19, 1 << 20

var shapes = []shape{
	{"Rd, Imm", "lui auipc", -pow19, pow19 - 1, false, false},
	{"Rd, Imm", "jal", -pow20, pow20 - 2, true, false},
	{"Rd, Imm(A)", "jalr lb lh lw ld lbu lhu lwu", -2048, 2047, false, false},
	{"Rd, A, Imm", "addi slti sltiu xori ori andi addiw", -2048, 2047, false, false},
	{"Rd, A, Imm", "slli srli srai", 0, 63, false, false},
	{"Rd, A, Imm", "slliw srliw sraiw", 0, 31, false, false},
	{"A, B, Imm", "beq bne blt bge bltu bgeu", -4096, 4094, true, false},
	{"B, Imm(A)", "sb sh sw sd", -2048, 2047, false, false},
	{"Rd, A, B", "add sub sll slt sltu xor srl sra or and addw subw sllw srlw sraw", 0, 0, false, false},
	{"Rd, A, B", "mul mulh mulhsu mulhu div divu rem remu mulw divw divuw remw remuw", 0, 0, false, false},
	{"Before, After", "fence", 0, 255, false, false},
	{"", "ecall ebreak", 0, 0, false, false},
	{"Rd, (A)", "lr.w lr.d", 0, 0, false, true},
	{"Rd, B, (A)", "sc.w amoswap.w amoadd.w amoxor.w amoand.w amoor.w amomin.w amomax.w amominu.w amomaxu.w", 0, 0, false, true},
	{"Rd, B, (A)", "sc.d amoswap.d amoadd.d amoxor.d amoand.d amoor.d amomin.d amomax.d amominu.d amomaxu.d", 0, 0, false, true},
}

// operations is the number of operations.
const operations = 87

// operation is an operation as the reference has it.
type operation struct {
	shape
	name string
	op   int
}

// allOperations returns the operations of the reference, in the order of the shapes.
func allOperations(t testing.TB) []operation {
	t.Helper()
	var l []operation
	for _, s := range shapes {
		for _, name := range strings.Fields(s.names) {
			op, ok := isa.Find(name)
			if !ok {
				t.Fatalf("no operation %s", name)
			}
			l = append(l, operation{s, name, op})
		}
	}
	if len(l) != operations {
		t.Fatalf("%d operations", len(l))
	}
	return l
}

// operationOf returns the operation with this name.
func operationOf(t testing.TB, name string) operation {
	t.Helper()
	for _, o := range allOperations(t) {
		if o.name == name {
			return o
		}
	}
	t.Fatalf("no operation %s", name)
	return operation{}
}

// has reports whether the shape has the operand.
func (s shape) has(operand string) bool {
	return slices.Contains(strings.FieldsFunc(s.operands, func(c rune) bool { return strings.ContainsRune(", ()", c) }), operand)
}

// hasImm reports whether Imm is of use, in one way or the other.
func (s shape) hasImm() bool {
	return s.has("Imm") || s.has("Before")
}

// only returns i, of this operation, with those of its fields that it uses.
func (o operation) only(i api.Instr) api.Instr {
	v := api.Instr{Op: o.op}
	if o.has("Rd") {
		v.Rd = i.Rd
	}
	if o.has("A") {
		v.A = i.A
	}
	if o.has("B") {
		v.B = i.B
	}
	if o.hasImm() {
		v.Imm = i.Imm
	}
	if o.orders {
		v.Aq, v.Rl = i.Aq, i.Rl
	}
	return v
}

// sample is a valid instruction in which no two operands are alike.
func (o operation) sample() api.Instr {
	return o.only(api.Instr{Rd: 21, A: 3, B: 14, Imm: 26})
}

// reference returns the text of i.
func (o operation) reference(i api.Instr) string {
	x := func(r int) string { return fmt.Sprintf("x%d", r) }
	s := o.name
	if i.Aq || i.Rl {
		s += "."
	}
	if i.Aq {
		s += "aq"
	}
	if i.Rl {
		s += "rl"
	}
	if o.operands == "" {
		return s
	}
	r := strings.NewReplacer(
		"Rd", x(i.Rd), "After", sets[i.Imm&15], "Before", sets[i.Imm>>4&15],
		"A", x(i.A), "B", x(i.B), "Imm", fmt.Sprintf("%d", i.Imm))
	return s + " " + r.Replace(o.operands)
}

// sets are the texts of the sets of a fence, at their values.
var sets = [16]string{
	"0", "w", "r", "rw", "o", "ow", "or", "orw",
	"i", "iw", "ir", "irw", "io", "iow", "ior", "iorw",
}

// imms returns values of Imm that the operation may have: the least and the
// greatest one, 0, and numbers of all lengths.
func (o operation) imms() []int {
	if !o.hasImm() {
		return []int{0}
	}
	l := []int{0, o.least, o.most, o.least + 1, o.least + 2, o.most - 1, o.most - 2}
	for _, v := range []int{1, 2, 8, 9, 10, 11, 12, 98, 99, 100, 101, 102, 998, 999, 1000, 1002, 2046, 4090, 9998, 9999, 10000, 99998, 99999, 100000, 500001, 524286, 999998, 1000000, 1048574} {
		l = append(l, v, -v)
	}
	l = slices.DeleteFunc(l, func(v int) bool { return v < o.least || v > o.most || o.even && v%2 != 0 })
	slices.Sort(l)
	return slices.Compact(l)
}

// recognizer parses texts by regular expressions.
type recognizer struct {
	rows []recognizerRow
}

type recognizerRow struct {
	operation
	whole *regexp.Regexp
}

func newRecognizer(t testing.TB) recognizer {
	t.Helper()
	register := `x(0|[1-9]|[12][0-9]|3[01])`
	set := `(0|i?o?r?w?)`
	r := strings.NewReplacer(
		"(", `\(`, ")", `\)`, "Rd", group("Rd", register), "After", group("After", set), "Before", group("Before", set),
		"A", group("A", register), "B", group("B", register), "Imm", `(?P<Imm>0|-?[1-9][0-9]{0,6})`)
	var all recognizer
	for _, o := range allOperations(t) {
		s := `\A` + regexp.QuoteMeta(o.name)
		if o.orders {
			s += `(?P<Order>|\.aq|\.rl|\.aqrl)`
		}
		if o.operands != "" {
			s += " " + r.Replace(o.operands)
		}
		all.rows = append(all.rows, recognizerRow{o, regexp.MustCompile(s + `\z`)})
	}
	return all
}

// group returns the expression s as a group with a name.
func group(name, s string) string {
	return "(?P<" + name + ">" + s + ")"
}

// parse returns the instruction whose text is s, if there is one.
func (all recognizer) parse(s string) (api.Instr, bool) {
	for _, row := range all.rows {
		if strings.HasPrefix(s, row.name) {
			if i, ok := row.parse(s); ok {
				return i, true
			}
		}
	}
	return api.Instr{}, false
}

func (row recognizerRow) parse(s string) (api.Instr, bool) {
	m := row.whole.FindStringSubmatch(s)
	if m == nil {
		return api.Instr{}, false
	}
	part := func(name string) string {
		if n := row.whole.SubexpIndex(name); n >= 0 {
			return m[n]
		}
		return ""
	}
	number := func(s string) int {
		v, _ := strconv.Atoi(s)
		return v
	}
	i := api.Instr{Op: row.op, Imm: number(part("Imm"))}
	i.Rd = number(strings.TrimPrefix(part("Rd"), "x"))
	i.A = number(strings.TrimPrefix(part("A"), "x"))
	i.B = number(strings.TrimPrefix(part("B"), "x"))
	i.Aq = strings.HasPrefix(part("Order"), ".aq")
	i.Rl = strings.HasSuffix(part("Order"), "rl")
	if row.has("Before") {
		before, after := slices.Index(sets[:], part("Before")), slices.Index(sets[:], part("After"))
		if before < 0 || after < 0 {
			return api.Instr{}, false
		}
		i.Imm = 16*before + after
	}
	if i.Imm < row.least || i.Imm > row.most || row.even && i.Imm%2 != 0 {
		return api.Instr{}, false
	}
	return i, true
}

// holdBoth holds that i and s belong together, in both directions.
func holdBoth(t *testing.T, i api.Instr, s string) {
	t.Helper()
	if got := Text(i); got != s {
		t.Errorf("Text(%+v) = %q, not %q", i, got, s)
	}
	if got, e := Parse(s); got != i || e != api.OK {
		t.Errorf("Parse(%q) = %+v, %d, not %+v", s, got, e, i)
	}
}

// holdNone holds that s is the text of no instruction.
func holdNone(t *testing.T, s string) {
	t.Helper()
	if i, e := Parse(s); i != (api.Instr{}) || e != api.ErrForm {
		t.Errorf("Parse(%q) = %+v, %d", s, i, e)
	}
}

// P6.1 and P6.2: the texts of valid instructions.

// every is a text of each operation, written out.
var every = []struct {
	text string
	i    api.Instr
}{
	{"lui x9, -524288", api.Instr{Op: api.OpLui, Rd: 9, Imm: -524288}},
	{"auipc x10, 524287", api.Instr{Op: api.OpAuipc, Rd: 10, Imm: 524287}},
	{"jal x0, -1048576", api.Instr{Op: api.OpJal, Imm: -1048576}},
	{"jalr x1, 16(x31)", api.Instr{Op: api.OpJalr, Rd: 1, A: 31, Imm: 16}},
	{"beq x1, x2, 4094", api.Instr{Op: api.OpBeq, A: 1, B: 2, Imm: 4094}},
	{"bne x3, x4, -4096", api.Instr{Op: api.OpBne, A: 3, B: 4, Imm: -4096}},
	{"blt x5, x6, 0", api.Instr{Op: api.OpBlt, A: 5, B: 6}},
	{"bge x7, x8, 2", api.Instr{Op: api.OpBge, A: 7, B: 8, Imm: 2}},
	{"bltu x9, x10, -2", api.Instr{Op: api.OpBltu, A: 9, B: 10, Imm: -2}},
	{"bgeu x11, x12, 100", api.Instr{Op: api.OpBgeu, A: 11, B: 12, Imm: 100}},
	{"lb x13, 2047(x14)", api.Instr{Op: api.OpLb, Rd: 13, A: 14, Imm: 2047}},
	{"lh x15, -2048(x16)", api.Instr{Op: api.OpLh, Rd: 15, A: 16, Imm: -2048}},
	{"lw x17, 0(x18)", api.Instr{Op: api.OpLw, Rd: 17, A: 18}},
	{"ld x19, 8(x20)", api.Instr{Op: api.OpLd, Rd: 19, A: 20, Imm: 8}},
	{"lbu x21, -1(x22)", api.Instr{Op: api.OpLbu, Rd: 21, A: 22, Imm: -1}},
	{"lhu x23, 10(x24)", api.Instr{Op: api.OpLhu, Rd: 23, A: 24, Imm: 10}},
	{"lwu x25, 4(x26)", api.Instr{Op: api.OpLwu, Rd: 25, A: 26, Imm: 4}},
	{"sb x27, 5(x28)", api.Instr{Op: api.OpSb, A: 28, B: 27, Imm: 5}},
	{"sh x29, 6(x30)", api.Instr{Op: api.OpSh, A: 30, B: 29, Imm: 6}},
	{"sw x31, -7(x0)", api.Instr{Op: api.OpSw, B: 31, Imm: -7}},
	{"sd x0, 16(x2)", api.Instr{Op: api.OpSd, A: 2, Imm: 16}},
	{"addi x1, x2, 2047", api.Instr{Op: api.OpAddi, Rd: 1, A: 2, Imm: 2047}},
	{"slti x3, x4, -2048", api.Instr{Op: api.OpSlti, Rd: 3, A: 4, Imm: -2048}},
	{"sltiu x5, x6, 7", api.Instr{Op: api.OpSltiu, Rd: 5, A: 6, Imm: 7}},
	{"xori x7, x8, -1", api.Instr{Op: api.OpXori, Rd: 7, A: 8, Imm: -1}},
	{"ori x9, x10, 11", api.Instr{Op: api.OpOri, Rd: 9, A: 10, Imm: 11}},
	{"andi x11, x12, 0", api.Instr{Op: api.OpAndi, Rd: 11, A: 12}},
	{"slli x13, x14, 63", api.Instr{Op: api.OpSlli, Rd: 13, A: 14, Imm: 63}},
	{"srli x15, x16, 32", api.Instr{Op: api.OpSrli, Rd: 15, A: 16, Imm: 32}},
	{"srai x17, x18, 1", api.Instr{Op: api.OpSrai, Rd: 17, A: 18, Imm: 1}},
	{"addiw x19, x20, -20", api.Instr{Op: api.OpAddiw, Rd: 19, A: 20, Imm: -20}},
	{"slliw x21, x22, 31", api.Instr{Op: api.OpSlliw, Rd: 21, A: 22, Imm: 31}},
	{"srliw x23, x24, 3", api.Instr{Op: api.OpSrliw, Rd: 23, A: 24, Imm: 3}},
	{"sraiw x25, x26, 0", api.Instr{Op: api.OpSraiw, Rd: 25, A: 26}},
	{"add x1, x2, x3", api.Instr{Op: api.OpAdd, Rd: 1, A: 2, B: 3}},
	{"sub x4, x5, x6", api.Instr{Op: api.OpSub, Rd: 4, A: 5, B: 6}},
	{"sll x7, x8, x9", api.Instr{Op: api.OpSll, Rd: 7, A: 8, B: 9}},
	{"slt x10, x11, x12", api.Instr{Op: api.OpSlt, Rd: 10, A: 11, B: 12}},
	{"sltu x13, x14, x15", api.Instr{Op: api.OpSltu, Rd: 13, A: 14, B: 15}},
	{"xor x16, x17, x18", api.Instr{Op: api.OpXor, Rd: 16, A: 17, B: 18}},
	{"srl x19, x20, x21", api.Instr{Op: api.OpSrl, Rd: 19, A: 20, B: 21}},
	{"sra x22, x23, x24", api.Instr{Op: api.OpSra, Rd: 22, A: 23, B: 24}},
	{"or x25, x26, x27", api.Instr{Op: api.OpOr, Rd: 25, A: 26, B: 27}},
	{"and x28, x29, x30", api.Instr{Op: api.OpAnd, Rd: 28, A: 29, B: 30}},
	{"addw x31, x0, x1", api.Instr{Op: api.OpAddw, Rd: 31, B: 1}},
	{"subw x0, x31, x9", api.Instr{Op: api.OpSubw, A: 31, B: 9}},
	{"sllw x9, x10, x31", api.Instr{Op: api.OpSllw, Rd: 9, A: 10, B: 31}},
	{"srlw x10, x9, x0", api.Instr{Op: api.OpSrlw, Rd: 10, A: 9}},
	{"sraw x2, x1, x10", api.Instr{Op: api.OpSraw, Rd: 2, A: 1, B: 10}},
	{"mul x1, x3, x2", api.Instr{Op: api.OpMul, Rd: 1, A: 3, B: 2}},
	{"mulh x4, x6, x5", api.Instr{Op: api.OpMulh, Rd: 4, A: 6, B: 5}},
	{"mulhsu x7, x9, x8", api.Instr{Op: api.OpMulhsu, Rd: 7, A: 9, B: 8}},
	{"mulhu x10, x12, x11", api.Instr{Op: api.OpMulhu, Rd: 10, A: 12, B: 11}},
	{"div x13, x15, x14", api.Instr{Op: api.OpDiv, Rd: 13, A: 15, B: 14}},
	{"divu x16, x18, x17", api.Instr{Op: api.OpDivu, Rd: 16, A: 18, B: 17}},
	{"rem x19, x21, x20", api.Instr{Op: api.OpRem, Rd: 19, A: 21, B: 20}},
	{"remu x22, x24, x23", api.Instr{Op: api.OpRemu, Rd: 22, A: 24, B: 23}},
	{"mulw x25, x27, x26", api.Instr{Op: api.OpMulw, Rd: 25, A: 27, B: 26}},
	{"divw x28, x30, x29", api.Instr{Op: api.OpDivw, Rd: 28, A: 30, B: 29}},
	{"divuw x31, x1, x0", api.Instr{Op: api.OpDivuw, Rd: 31, A: 1}},
	{"remw x2, x4, x3", api.Instr{Op: api.OpRemw, Rd: 2, A: 4, B: 3}},
	{"remuw x5, x7, x6", api.Instr{Op: api.OpRemuw, Rd: 5, A: 7, B: 6}},
	{"fence iorw, iorw", api.Instr{Op: api.OpFence, Imm: 255}},
	{"ecall", api.Instr{Op: api.OpEcall}},
	{"ebreak", api.Instr{Op: api.OpEbreak}},
	{"lr.w x1, (x2)", api.Instr{Op: api.OpLrW, Rd: 1, A: 2}},
	{"sc.w x3, x4, (x5)", api.Instr{Op: api.OpScW, Rd: 3, A: 5, B: 4}},
	{"amoswap.w x6, x7, (x8)", api.Instr{Op: api.OpAmoswapW, Rd: 6, A: 8, B: 7}},
	{"amoadd.w x9, x10, (x11)", api.Instr{Op: api.OpAmoaddW, Rd: 9, A: 11, B: 10}},
	{"amoxor.w x12, x13, (x14)", api.Instr{Op: api.OpAmoxorW, Rd: 12, A: 14, B: 13}},
	{"amoand.w x15, x16, (x17)", api.Instr{Op: api.OpAmoandW, Rd: 15, A: 17, B: 16}},
	{"amoor.w x18, x19, (x20)", api.Instr{Op: api.OpAmoorW, Rd: 18, A: 20, B: 19}},
	{"amomin.w x21, x22, (x23)", api.Instr{Op: api.OpAmominW, Rd: 21, A: 23, B: 22}},
	{"amomax.w x24, x25, (x26)", api.Instr{Op: api.OpAmomaxW, Rd: 24, A: 26, B: 25}},
	{"amominu.w x27, x28, (x29)", api.Instr{Op: api.OpAmominuW, Rd: 27, A: 29, B: 28}},
	{"amomaxu.w x30, x31, (x0)", api.Instr{Op: api.OpAmomaxuW, Rd: 30, B: 31}},
	{"lr.d.aqrl x31, (x30)", api.Instr{Op: api.OpLrD, Rd: 31, A: 30, Aq: true, Rl: true}},
	{"sc.d.rl x0, x1, (x2)", api.Instr{Op: api.OpScD, A: 2, B: 1, Rl: true}},
	{"amoswap.d.aq x3, x4, (x5)", api.Instr{Op: api.OpAmoswapD, Rd: 3, A: 5, B: 4, Aq: true}},
	{"amoadd.d.aq x6, x7, (x10)", api.Instr{Op: api.OpAmoaddD, Rd: 6, A: 10, B: 7, Aq: true}},
	{"amoxor.d.rl x8, x9, (x11)", api.Instr{Op: api.OpAmoxorD, Rd: 8, A: 11, B: 9, Rl: true}},
	{"amoand.d.aqrl x12, x13, (x14)", api.Instr{Op: api.OpAmoandD, Rd: 12, A: 14, B: 13, Aq: true, Rl: true}},
	{"amoor.d x15, x16, (x17)", api.Instr{Op: api.OpAmoorD, Rd: 15, A: 17, B: 16}},
	{"amomin.d.aq x18, x19, (x20)", api.Instr{Op: api.OpAmominD, Rd: 18, A: 20, B: 19, Aq: true}},
	{"amomax.d.rl x21, x22, (x23)", api.Instr{Op: api.OpAmomaxD, Rd: 21, A: 23, B: 22, Rl: true}},
	{"amominu.d.aqrl x24, x25, (x26)", api.Instr{Op: api.OpAmominuD, Rd: 24, A: 26, B: 25, Aq: true, Rl: true}},
	{"amomaxu.d x27, x28, (x29)", api.Instr{Op: api.OpAmomaxuD, Rd: 27, A: 29, B: 28}},
}

func TestTextOfEachOperation(t *testing.T) {
	for _, row := range every {
		holdBoth(t, row.i, row.text)
	}
	for n, row := range every {
		if row.i.Op != n+1 {
			t.Errorf("%s stands behind %d operations", row.text, n)
		}
	}
	if len(every) != operations {
		t.Errorf("%d operations", len(every))
	}
}

func TestExamplesOfTheChapter(t *testing.T) {
	holdBoth(t, api.Instr{Op: api.OpAmoaddD, Rd: 6, A: 10, B: 7, Aq: true}, "amoadd.d.aq x6, x7, (x10)")
	holdBoth(t, api.Instr{Op: api.OpFence, Imm: 0x31}, "fence rw, w")
	holdBoth(t, api.Instr{Op: api.OpSd, A: 2, B: 8, Imm: 16}, "sd x8, 16(x2)")
}

// Each register in each place, beside registers that are not it.
func TestRegistersInEachPlace(t *testing.T) {
	for _, o := range allOperations(t) {
		for r := range 32 {
			for _, change := range []func(i *api.Instr){
				func(i *api.Instr) { i.Rd = r },
				func(i *api.Instr) { i.A = r },
				func(i *api.Instr) { i.B = r },
				func(i *api.Instr) { i.Rd, i.A, i.B = r, r, r },
				func(i *api.Instr) { i.Rd, i.A, i.B = r, 31-r, (r+9)%32 },
			} {
				i := o.sample()
				change(&i)
				i = o.only(i)
				holdBoth(t, i, o.reference(i))
			}
		}
	}
	for r, x := range map[int]string{0: "x0", 9: "x9", 10: "x10", 31: "x31"} {
		holdBoth(t, api.Instr{Op: api.OpAdd, Rd: r, A: 5, B: 6}, "add "+x+", x5, x6")
		holdBoth(t, api.Instr{Op: api.OpAdd, Rd: 5, A: r, B: 6}, "add x5, "+x+", x6")
		holdBoth(t, api.Instr{Op: api.OpAdd, Rd: 5, A: 6, B: r}, "add x5, x6, "+x)
		holdBoth(t, api.Instr{Op: api.OpLui, Rd: r, Imm: 5}, "lui "+x+", 5")
		holdBoth(t, api.Instr{Op: api.OpJalr, Rd: r, A: 5}, "jalr "+x+", 0(x5)")
		holdBoth(t, api.Instr{Op: api.OpLw, Rd: 5, A: r}, "lw x5, 0("+x+")")
		holdBoth(t, api.Instr{Op: api.OpSw, A: 5, B: r}, "sw "+x+", 0(x5)")
		holdBoth(t, api.Instr{Op: api.OpSw, A: r, B: 5}, "sw x5, 0("+x+")")
		holdBoth(t, api.Instr{Op: api.OpLrD, Rd: 5, A: r}, "lr.d x5, ("+x+")")
		holdBoth(t, api.Instr{Op: api.OpScD, Rd: 5, A: 6, B: r}, "sc.d x5, "+x+", (x6)")
	}
}

// All values of Imm of the shorter forms, and some of the longer ones.
func TestImm(t *testing.T) {
	for _, o := range allOperations(t) {
		l := o.imms()
		if o.hasImm() && o.most-o.least < 5000 {
			for v := o.least; v <= o.most; v++ {
				l = append(l, v)
			}
		}
		for _, v := range l {
			i := o.sample()
			i.Imm = v
			if !isa.May(i) {
				t.Fatalf("%+v", i)
			}
			holdBoth(t, i, o.reference(i))
		}
	}
}

// Numbers of one to seven digits, with and without a minus sign.
func TestDigits(t *testing.T) {
	for s, v := range map[string]int{
		"0": 0, "2": 2, "-2": -2, "12": 12, "-12": -12, "102": 102, "-102": -102, "1002": 1002, "-1002": -1002,
		"10002": 10002, "-10002": -10002, "100002": 100002, "-100002": -100002,
		"1000002": 1000002, "-1000002": -1000002, "1048574": 1048574, "-1048576": -1048576,
	} {
		holdBoth(t, api.Instr{Op: api.OpJal, Rd: 1, Imm: v}, "jal x1, "+s)
		if v > -pow19 && v < pow19 {
			holdBoth(t, api.Instr{Op: api.OpLui, Rd: 1, Imm: v}, "lui x1, "+s)
		}
		if v > -2048 && v < 2048 {
			holdBoth(t, api.Instr{Op: api.OpXori, Rd: 1, A: 2, Imm: v}, "xori x1, x2, "+s)
			holdBoth(t, api.Instr{Op: api.OpJalr, Rd: 1, A: 2, Imm: v}, "jalr x1, "+s+"(x2)")
			holdBoth(t, api.Instr{Op: api.OpSb, B: 1, A: 2, Imm: v}, "sb x1, "+s+"(x2)")
			holdBoth(t, api.Instr{Op: api.OpBgeu, A: 1, B: 2, Imm: v}, "bgeu x1, x2, "+s)
		}
	}
}

func TestOrders(t *testing.T) {
	n := 0
	for _, o := range allOperations(t) {
		if !o.orders {
			continue
		}
		n++
		_, operands, _ := strings.Cut(o.reference(o.sample()), " ")
		for suffix, order := range map[string][2]bool{"": {}, ".aq": {true, false}, ".rl": {false, true}, ".aqrl": {true, true}} {
			i := o.sample()
			i.Aq, i.Rl = order[0], order[1]
			holdBoth(t, i, o.name+suffix+" "+operands)
		}
	}
	if n != 22 {
		t.Errorf("%d operations", n)
	}
}

func TestFence(t *testing.T) {
	for v := range 256 {
		i := api.Instr{Op: api.OpFence, Imm: v}
		holdBoth(t, i, "fence "+letters(v>>4)+", "+letters(v&15))
	}
	for s, v := range map[string]int{
		"fence 0, 0": 0, "fence 0, w": 1, "fence 0, r": 2, "fence 0, o": 4, "fence 0, i": 8,
		"fence w, 0": 16, "fence r, 0": 32, "fence o, 0": 64, "fence i, 0": 128,
		"fence 0, iorw": 15, "fence iorw, 0": 240, "fence rw, rw": 51, "fence r, rw": 35, "fence ow, ir": 0x5a,
	} {
		holdBoth(t, api.Instr{Op: api.OpFence, Imm: v}, s)
	}
}

// letters writes a set bit by bit.
func letters(v int) string {
	s := ""
	for _, bit := range []struct {
		value  int
		letter string
	}{{8, "i"}, {4, "o"}, {2, "r"}, {1, "w"}} {
		if v&bit.value != 0 {
			s += bit.letter
		}
	}
	if s == "" {
		return "0"
	}
	return s
}

// P6.1: instructions that are not valid have no text.

// spoiled returns instructions that differ from a valid one of o in one field, by
// which they are not valid.
func (o operation) spoiled() []api.Instr {
	var l []api.Instr
	add := func(change func(i *api.Instr)) {
		i := o.sample()
		change(&i)
		l = append(l, i)
	}
	for _, r := range []int{-1, 32, 33, 64, math.MaxInt, math.MinInt} {
		add(func(i *api.Instr) { i.Rd = r })
		add(func(i *api.Instr) { i.A = r })
		add(func(i *api.Instr) { i.B = r })
	}
	for _, v := range []int{o.least - 1, o.least - 2, o.most + 1, o.most + 2, math.MaxInt, math.MinInt} {
		add(func(i *api.Instr) { i.Imm = v })
	}
	for _, op := range []int{0, -1, operations + 1, math.MaxInt, math.MinInt} {
		add(func(i *api.Instr) { i.Op = op })
	}
	if o.even {
		add(func(i *api.Instr) { i.Imm = 1 })
		add(func(i *api.Instr) { i.Imm = -1 })
		add(func(i *api.Instr) { i.Imm = 27 })
	}
	if !o.orders {
		add(func(i *api.Instr) { i.Aq = true })
		add(func(i *api.Instr) { i.Rl = true })
		add(func(i *api.Instr) { i.Aq, i.Rl = true, true })
	}
	if !o.has("Rd") {
		add(func(i *api.Instr) { i.Rd = 1 })
	}
	if !o.has("A") {
		add(func(i *api.Instr) { i.A = 1 })
	}
	if !o.has("B") {
		add(func(i *api.Instr) { i.B = 1 })
	}
	if !o.hasImm() {
		add(func(i *api.Instr) { i.Imm = 16 })
	}
	return l
}

func TestInvalidInstructions(t *testing.T) {
	for _, o := range allOperations(t) {
		for _, i := range o.spoiled() {
			if s := Text(i); s != "" {
				t.Errorf("Text(%+v) = %q", i, s)
			}
		}
	}
	for _, i := range []api.Instr{
		{},
		{Op: api.OpIllegal, Imm: 0x13},
		{Op: api.OpIllegal, Rd: 1, A: 2, B: 3, Aq: true, Rl: true},
		{Op: api.OpAmomaxuD + 1, Rd: 1},
		{Op: -1},
		{Op: api.OpEcall, Imm: 1},
		{Op: api.OpFence, Imm: 256},
		{Op: api.OpFence, Imm: -1},
		{Op: api.OpLrD, Rd: 1, A: 2, B: 3},
		{Op: api.OpAddi, Aq: true},
	} {
		if s := Text(i); s != "" {
			t.Errorf("Text(%+v) = %q", i, s)
		}
	}
}

// P6.1: listings.

func TestListing(t *testing.T) {
	add, fence := api.Instr{Op: api.OpAdd, Rd: 1, A: 2, B: 3}, api.Instr{Op: api.OpFence, Imm: 0x31}
	bad, worse := api.Instr{Op: api.OpAdd, Rd: 32}, api.Instr{}
	for _, row := range []struct {
		l    []api.Instr
		want []string
	}{
		{[]api.Instr{add}, []string{"add x1, x2, x3"}},
		{[]api.Instr{bad}, []string{""}},
		{[]api.Instr{add, fence}, []string{"add x1, x2, x3", "fence rw, w"}},
		{[]api.Instr{fence, add, fence}, []string{"fence rw, w", "add x1, x2, x3", "fence rw, w"}},
		{[]api.Instr{bad, add, fence}, []string{"", "add x1, x2, x3", "fence rw, w"}},
		{[]api.Instr{add, bad, fence}, []string{"add x1, x2, x3", "", "fence rw, w"}},
		{[]api.Instr{add, fence, worse}, []string{"add x1, x2, x3", "fence rw, w", ""}},
		{[]api.Instr{worse, add, bad, fence, worse}, []string{"", "add x1, x2, x3", "", "fence rw, w", ""}},
		{[]api.Instr{bad, worse}, []string{"", ""}},
	} {
		if got := Listing(row.l); !slices.Equal(got, row.want) {
			t.Errorf("Listing(%+v) = %q", row.l, got)
		}
	}
}

func TestListingOfNothing(t *testing.T) {
	if got := Listing(nil); len(got) != 0 {
		t.Errorf("%q", got)
	}
	if got := Listing([]api.Instr{}); len(got) != 0 {
		t.Errorf("%q", got)
	}
}

func TestListingOfMany(t *testing.T) {
	var l []api.Instr
	var want []string
	for _, o := range allOperations(t) {
		for _, v := range o.imms() {
			i := o.sample()
			i.Imm = v
			l = append(l, i, o.spoiled()[v&3])
			want = append(want, o.reference(i), "")
		}
	}
	if got := Listing(l); !slices.Equal(got, want) {
		t.Error("another listing")
	}
}

// Rule 3: the argument stays as it is, and a listing is new memory.
func TestListingIsNew(t *testing.T) {
	whole := []api.Instr{{Op: api.OpEcall}, {Op: api.OpEbreak}, {Op: api.OpAdd}}
	kept := slices.Clone(whole)
	l := whole[:2]
	first := Listing(l)
	first[0] = "changed"
	second := Listing(l)
	if !slices.Equal(second, []string{"ecall", "ebreak"}) {
		t.Errorf("%q", second)
	}
	if !slices.Equal(whole, kept) {
		t.Errorf("%+v", whole)
	}
}

// P6.2: texts of no instruction.

func TestNoText(t *testing.T) {
	for _, s := range []string{
		"", " ", "  ", ",", ", ", "()", "\n", "\t", "\x00", "0", "-0", "x0", "x1, x2, x3", "(x1)", "16(x2)",
		".", ".aq", ".rl", ".aqrl", " x1, x2", " add x1, x2, x3",
	} {
		holdNone(t, s)
	}
}

func TestNoName(t *testing.T) {
	for _, s := range []string{
		"nop", "mv x1, x2", "li x1, 2", "ret", "j 4", "illegal", "addx x1, x2, x3", "ad x1, x2, x3", "dd x1, x2, x3",
		"Add x1, x2, x3", "ADD x1, x2, x3", "add.w x1, x2, x3", "add.d x1, x2, x3", "a x1, x2, x3", "subi x1, x2, 3",
		"lr x1, (x2)", "lr.q x1, (x2)", "lrw x1, (x2)", "lr.W x1, (x2)", "lr. x1, (x2)", "lr..w x1, (x2)", ".w x1, (x2)",
		"sc x1, x2, (x3)", "amoadd x1, x2, (x3)", "amoadd.b x1, x2, (x3)", "amosub.d x1, x2, (x3)", "amoaddw x1, x2, (x3)",
		"ecal", "ecalls", "eecall", "Ecall", "ebreak2", "fence.i", "fence.i r, w", "fence.tso", "fencei r, w", "x1", "ra",
	} {
		holdNone(t, s)
	}
}

// places are texts with one register left open, in each place that there is.
var places = []string{
	"lui %, 5", "jal %, 6", "jalr %, 4(x3)", "jalr x3, 4(%)", "ld %, 4(x3)", "ld x3, 4(%)",
	"addi %, x3, 4", "addi x3, %, 4", "slli %, x3, 4", "slli x3, %, 4", "sraiw %, x3, 4", "sraiw x3, %, 4",
	"beq %, x3, 4", "beq x3, %, 4", "sd %, 4(x3)", "sd x3, 4(%)",
	"add %, x3, x4", "add x3, %, x4", "add x3, x4, %", "lr.d %, (x3)", "lr.w.aq x3, (%)",
	"sc.d %, x3, (x4)", "sc.d x3, %, (x4)", "sc.d x3, x4, (%)",
	"amoor.w.aqrl %, x3, (x4)", "amoor.w.aqrl x3, %, (x4)", "amoor.w.aqrl x3, x4, (%)",
}

func TestNoRegister(t *testing.T) {
	for _, p := range places {
		if s := strings.Replace(p, "%", "x5", 1); Text(parsed(t, s)) != s {
			t.Errorf("%q", s)
		}
		for _, r := range []string{
			"zero", "ra", "sp", "t0", "s0", "a0", "a7", "s11", "t6", "fp", "pc",
			"x00", "x01", "x05", "x09", "x010", "x031", "x000000000000000000005", "x32", "x33", "x99", "x100", "x256",
			"x-1", "x-0", "x+5", "x", "", "5", "0", "X5", "y5", "xx5", "x 5", " x5", "x5 ", "x5.", "x5x", "x0x5", "5x",
			"x4294967296", "x4294967301", "x18446744073709551616", "x18446744073709551621", "x5,", ",x5", "(x5", "x5)", "x٥", "x\x00", "x5\x00", "x5\n", "f5", "-x5",
		} {
			holdNone(t, strings.Replace(p, "%", r, 1))
		}
	}
	// In one place, a register with brackets is another layout.
	for _, s := range []string{"add (x1), x2, x3", "add x1, (x2), x3", "add x1, x2, (x3)", "addi x1, (x2), 3", "ld (x1), 4(x2)", "lr.d (x1), (x2)", "lr.d (x1), x2", "amoadd.d x1, (x2), x3", "sd (x1), 4(x2)"} {
		holdNone(t, s)
	}
}

// parsed returns the instruction whose text is s.
func parsed(t *testing.T, s string) api.Instr {
	t.Helper()
	i, e := Parse(s)
	if e != api.OK {
		t.Errorf("Parse(%q): %d", s, e)
	}
	return i
}

// openImm returns a text of o in which Imm is left open.
func (o operation) openImm() string {
	const mark = 26
	i := o.sample()
	i.Imm = mark
	return strings.Replace(o.reference(i), strconv.Itoa(mark), "%", 1)
}

func TestNoNumber(t *testing.T) {
	for _, o := range allOperations(t) {
		if !o.has("Imm") {
			continue
		}
		open := o.openImm()
		for _, v := range []string{
			"", "-", "+", "+0", "+2", "+26", "-0", "-00", "--2", "-+2", "+-2", "- 2", "2-", "00", "02", "026", "-02", "0000000000000000000026",
			"0x1a", "0X1a", "1a", "a", "0b10", "0o32", "032", "1_0", "1_000", "1,000", "2.0", "2.", ".2", "1e1", "2e0", "26 ", " 26", "26\n", "26\x00", "x2", "x26", "٢", "²",
			"9223372036854775807", "9223372036854775808", "-9223372036854775808", "-9223372036854775809",
			"18446744073709551616", "18446744073709551618", "18446744073709551642", "-18446744073709551614", "340282366920938463463374607431768211482",
			"4294967296", "4294967298", "4294967322", "-4294967294", "2147483648", "10000000", "-10000000", "2000000", "-2000000",
			strings.Repeat("9", 100), "-" + strings.Repeat("9", 100), strings.Repeat("0", 100) + "2", "inf", "NaN", "nan", "(2)", "2(", ")2", "2,", ",2",
		} {
			holdNone(t, strings.Replace(open, "%", v, 1))
		}
		for _, v := range []int{o.least - 1, o.least - 2, o.most + 1, o.most + 2, 2 * o.most, 2*o.least - 2, 256, 1 << 12, 1<<13 + 2, 1 << 16, 1<<16 + 26, 1 << 21, -1 << 21, 1<<32 + 2, 1<<62 + 2, math.MaxInt, math.MinInt} {
			if v < o.least || v > o.most {
				holdNone(t, strings.Replace(open, "%", strconv.Itoa(v), 1))
			}
		}
		if o.even {
			for _, v := range []int{1, -1, 3, 27, 101, -4095, 4093, o.least + 1, o.most - 1, o.most + 1} {
				holdNone(t, strings.Replace(open, "%", strconv.Itoa(v), 1))
			}
		}
	}
}

// A missing, a further and another separator, space or bracket, in each place.
func TestNoSeparator(t *testing.T) {
	marks := " ,()"
	others := []string{"", " ", ",", "(", ")", "  ", ", ", " ,", ",,", "((", "))", "()", "\t", "\n", "\r", "\x00", ";", ":", ".", "[", "]", "{", "}", "/", "，", "\u00a0"}
	for _, o := range allOperations(t) {
		s := o.reference(o.sample())
		for at := range len(s) + 1 {
			for _, mark := range others {
				if mark != "" {
					holdNone(t, s[:at]+mark+s[at:])
				}
				if at < len(s) && strings.Contains(marks, s[at:at+1]) && mark != s[at:at+1] {
					holdNone(t, s[:at]+mark+s[at+1:])
				}
			}
		}
	}
}

func TestTooFewAndTooMany(t *testing.T) {
	all := newRecognizer(t)
	for _, o := range allOperations(t) {
		s := o.reference(o.sample())
		for at := range s {
			holdAs(t, all, s[:at])
			holdAs(t, all, s[at+1:])
		}
		for _, more := range []string{" ", ",", ", ", ", x1", " x1", ", 0", ", 26", " 26", "(x1)", ", (x1)", "()", ", 0(x1)", ", rw", ", 0, 0", "\n", ";", " # x"} {
			holdNone(t, s+more)
		}
		for _, more := range []string{" ", "\t", "\n", ", ", "x1, ", "0, ", "# "} {
			holdNone(t, more+s)
		}
		holdNone(t, s+s)
		holdNone(t, s+"\n"+s)
		holdNone(t, s+" "+s)
		holdNone(t, o.name+" ")
		holdNone(t, o.name+" x1")
		holdNone(t, o.name+" 0")
		holdNone(t, o.name+" rw")
		holdNone(t, o.name+" x1, x2, x3, x4")
		if o.operands != "" {
			holdNone(t, o.name)
			name, operands, _ := strings.Cut(s, " ")
			first, others, _ := strings.Cut(operands, ", ")
			holdNone(t, name+" "+first)
			holdNone(t, name+" "+others)
			holdNone(t, name+" x1, "+operands)
			holdNone(t, name+" 0, "+operands)
			holdNone(t, name+" "+first+", "+operands)
			holdNone(t, operands+" "+name)
			holdNone(t, operands)
		}
	}
	for _, s := range []string{"add", "add x1", "add x1, x2", "add x1, x2, x3, x4", "addi x1, x2", "addi x1, x2, x3", "add x1, x2, 3", "ld x1, (x2)", "ld x1, x2", "ld x1, 8", "ld x1, x2, 8", "addi x1, 3(x2)", "sd x1, x2, 8", "jalr x1", "jalr x1, x2, 0", "jal 8", "lr.d x1, 0(x2)", "lr.d x1, x2", "lr.d (x2)", "sc.d x1, x2, 0(x3)", "sc.d x1, (x3)", "amoadd.d x1, x2, x3", "fence", "fence rw", "fence rw, rw, rw", "ecall x0", "ecall 0", "lui x1, x2, 3", "beq x1, 4", "beq x1, x2, 4(x3)"} {
		holdNone(t, s)
	}
}

// Every operation written with the operands of every shape that looks different.
func TestOperandsOfOthers(t *testing.T) {
	looks := strings.NewReplacer("Rd", "x", "After", "set", "Before", "set", "A", "x", "B", "x")
	for _, o := range allOperations(t) {
		for _, s := range shapes {
			if looks.Replace(s.operands) == looks.Replace(o.operands) {
				continue
			}
			i := api.Instr{Rd: 5, A: 6, B: 7, Imm: 2}
			other := operation{shape: s, name: o.name}
			holdNone(t, other.reference(i))
		}
	}
}

func TestNoOrder(t *testing.T) {
	for _, o := range allOperations(t) {
		name, operands, hasOperands := strings.Cut(o.reference(o.sample()), " ")
		if hasOperands {
			operands = " " + operands
		}
		wrong := []string{".rlaq", ".aq.rl", ".rl.aq", ".aq.aq", ".rl.rl", ".aqaq", ".rlrl", ".aqrl.aq", ".aqrl.rl", ".aqrl.aqrl", ".aqrlaq", ".aq.aqrl", ".rl.aqrl", ".rl.aq.aqrl",
			".", "..aq", ".aq.", "aq", "rl", "aqrl", ".AQ", ".Rl", ".a", ".q", ".r", ".l", ".aqr", ".qrl", ".sc", " .aq", ".aq ", ". aq", ",aq", ".w", ".d", ".w.aq", ".aq.w"}
		if !o.orders {
			wrong = append(wrong, ".aq", ".rl", ".aqrl")
		}
		for _, s := range wrong {
			holdNone(t, name+s+operands)
		}
		for _, s := range []string{".aq", ".rl", ".aqrl"} {
			holdNone(t, s+name+operands)
			holdNone(t, name+operands+s)
			holdNone(t, s[1:]+name+operands)
			if o.orders {
				first, second, _ := strings.Cut(name, ".")
				holdNone(t, first+s+"."+second+operands)
			}
		}
	}
}

func TestNoSet(t *testing.T) {
	good := map[string]bool{}
	for _, s := range sets {
		good[s] = true
	}
	wrong := []string{"", "00", "-0", "1", "15", "0w", "w0", "0iorw", "a", "x", "x0", "I", "W", "RW", "rwx", "rws", "s", "tso", "-", "+", "_", "r|w", "r.w", "r w", "r,w", "(rw)", "\x00", "w\x00", "é", "о", "ｗ", "wr", "rr", "ww", "oo", "ii", "wroi", "iorwiorw"}
	// Of all words of up to four letters, those of which no set is the text.
	words := []string{""}
	for range 4 {
		var next []string
		for _, w := range words {
			for _, c := range "iorw0" {
				next = append(next, w+string(c))
			}
		}
		for _, w := range next {
			if !good[w] {
				wrong = append(wrong, w)
			}
		}
		words = next
	}
	for _, s := range wrong {
		holdNone(t, "fence "+s+", w")
		holdNone(t, "fence rw, "+s)
		holdNone(t, "fence "+s+", 0")
		holdNone(t, "fence "+s+", "+s)
	}
	for _, s := range []string{"fence", "fence ", "fence rw", "fence rw,", "fence rw, ", "fence , rw", "fence ,", "fence , ", "fence rw,w", "fence rw w", "fence (rw), w", "fence 49", "fence 3, 1", "fence iorw, iorw, iorw"} {
		holdNone(t, s)
	}
}

// Each byte in each place, ahead of a byte and in place of one: the recognizer
// tells which of them are texts.
func TestEveryByte(t *testing.T) {
	all := newRecognizer(t)
	for _, s := range []string{"add x1, x2, x31", "lui x9, -52428", "ld x3, 204(x10)", "sd x1, -8(x2)", "fence r, 0", "lr.d.aq x1, (x2)", "sc.w x1, x2, (x3)", "ecall", "beq x1, x2, -8", "slliw x1, x2, 3", "jal x0, 20"} {
		for at := range len(s) + 1 {
			for c := range 256 {
				holdAs(t, all, s[:at]+string([]byte{byte(c)})+s[at:])
				if at < len(s) {
					holdAs(t, all, s[:at]+string([]byte{byte(c)})+s[at+1:])
				}
			}
		}
	}
}

// holdAs holds Parse of s against the recognizer.
func holdAs(t *testing.T, all recognizer, s string) {
	t.Helper()
	if i, ok := all.parse(s); ok {
		holdBoth(t, i, s)
		return
	}
	holdNone(t, s)
}

// Small changes of texts of all operations, of which many are texts again.
func TestChangedTexts(t *testing.T) {
	all := newRecognizer(t)
	const letters = " ,()-.+0123456789xaqrliowdsun"
	texts, others := 0, 0
	for n, o := range allOperations(t) {
		i := o.sample()
		i.Imm = o.imms()[n%len(o.imms())]
		i.Aq, i.Rl = o.orders && n%2 == 0, o.orders && n%4 < 2
		for _, s := range changed(o.reference(i), letters) {
			if _, ok := all.parse(s); ok {
				texts++
			} else {
				others++
			}
			holdAs(t, all, s)
		}
	}
	if texts < 1000 || others < 50000 {
		t.Errorf("%d texts and %d others", texts, others)
	}
}

// changed returns s with a byte left out, put in, replaced, doubled or swapped
// with the next one.
func changed(s, letters string) []string {
	l := map[string]int{}
	for at := range len(s) + 1 {
		for _, c := range letters {
			l[s[:at]+string(c)+s[at:]]++
			if at < len(s) {
				l[s[:at]+string(c)+s[at+1:]]++
			}
		}
		if at < len(s) {
			l[s[:at]+s[at+1:]]++
		}
		if at+1 < len(s) {
			l[s[:at]+s[at+1:at+2]+s[at:at+1]+s[at+2:]]++
		}
		for end := at + 1; end <= len(s); end++ {
			l[s[:at]+s[end:]]++
			l[s[:end]+s[at:]]++
		}
	}
	return slices.Sorted(maps.Keys(l))
}

// Rule 1: long inputs end, too.
func TestLongTexts(t *testing.T) {
	const long = 1 << 20
	for _, s := range []string{
		strings.Repeat("a", long), strings.Repeat(" ", long), strings.Repeat(".aq", long), strings.Repeat("(", long), strings.Repeat(", ", long),
		"add x1, x2, x" + strings.Repeat("3", long), "add x1, x2, x3" + strings.Repeat(" ", long), "addi x1, x2, " + strings.Repeat("9", long),
		"addi x1, x2, " + strings.Repeat("0", long), "fence " + strings.Repeat("w", long) + ", w", "fence rw" + strings.Repeat(", w", long), "ld x1, 0" + strings.Repeat("(", long) + "x2)",
		"lr.d" + strings.Repeat(".aqrl", long) + " x1, (x2)", strings.Repeat("\xff", long), "ecall" + strings.Repeat("\x00", long),
	} {
		holdNone(t, s)
	}
}

// P6.3: different valid instructions have different texts, of which Parse finds
// them.
func TestInverse(t *testing.T) {
	seen := map[string]api.Instr{}
	for _, o := range allOperations(t) {
		for _, i := range o.many() {
			s := Text(i)
			if j, ok := seen[s]; ok && j != i {
				t.Errorf("%q is the text of %+v and of %+v", s, i, j)
			}
			seen[s] = i
			holdBoth(t, i, o.reference(i))
		}
	}
}

// many returns valid instructions of o: all combinations of some values of the
// fields.
func (o operation) many() []api.Instr {
	numbers := []int{0, 1, 9, 10, 19, 31}
	seen := map[api.Instr]int{}
	for _, rd := range numbers {
		for _, a := range numbers {
			for _, b := range numbers {
				for _, v := range o.imms() {
					for order := range 4 {
						seen[o.only(api.Instr{Rd: rd, A: a, B: b, Imm: v, Aq: order&1 == 1, Rl: order&2 == 2})]++
					}
				}
			}
		}
	}
	return slices.Collect(maps.Keys(seen))
}
