package alu

import (
	"math"
	"math/big"
	"math/rand/v2"
	"slices"
	"strings"
	"testing"

	"spinnaker/api"
	"spinnaker/isa"
)

const (
	most      = math.MaxInt
	least     = math.MinInt
	mostHalf  = math.MaxInt32
	leastHalf = math.MinInt32
)

// edges are the numbers that the promises are held with in all pairs.
var edges = []int{0, 1, -1, 1<<31 - 1, 1 << 31, -1 << 31, 1<<32 - 1, 1 << 32, 1<<63 - 1, -1 << 63}

// others are small numbers, places of shifts, neighbors of the edges, and numbers
// whose upper 32 bits are not the sign of their half.
var others = []int{
	2, 3, 7, 10, 12, -2, -3, -7, -10, 30, 31, 32, 33, 62, 63, 64, 65, 96, -30, -31, -32, -33, -62, -63, -64, -65,
	mostHalf - 1, leastHalf + 1, leastHalf - 1, most - 1, least + 1, 1 << 62, -1 << 62, -1 << 32, -1<<32 - 1, -1<<32 + 1,
	5<<32 + 7, 5<<32 - 7, -5<<32 + 7, -5<<32 - 7, 9 << 32, -9 << 32, 1<<32 + 1<<31, -1<<32 + 1<<31 - 1, least + 3, most - 1<<31,
	0x123456789abcdef0, -0x123456789abcdef0, 0x7edcba9812345678, 3037000499, 3037000500, -3037000500,
}

// eachPair calls f for all pairs of edges and others, and for pairs of random numbers of all lengths.
func eachPair(f func(a, b int)) {
	all := append(slices.Clone(edges), others...)
	for _, a := range all {
		for _, b := range all {
			f(a, b)
		}
	}
	r := rand.New(rand.NewPCG(7, 4))
	number := func() int { return int(r.Int64()<<1) >> r.IntN(64) }
	for range 2000 {
		f(number(), number())
	}
}

// The reference: what the chapter says of each operation, computed with numbers
// of any size.

// reading is how n bits of a number are interpreted.
type reading func(v *big.Int, n int) *big.Int

func unsigned(v *big.Int, n int) *big.Int {
	return new(big.Int).Mod(v, power(n))
}

func signed(v *big.Int, n int) *big.Int {
	v = unsigned(v, n)
	if v.Cmp(power(n-1)) >= 0 {
		v.Sub(v, power(n))
	}
	return v
}

func power(n int) *big.Int {
	return new(big.Int).Lsh(big.NewInt(1), uint(n))
}

// read returns what a number is in this reading.
func read(v int, as reading, n int) *big.Int {
	return as(big.NewInt(int64(v)), n)
}

// meaning is what the chapter says of some operations, for operands that are n
// bits of numbers, in a reading each.
type meaning struct {
	names  string
	readA  reading
	readB  reading
	result func(a, b *big.Int, n int) *big.Int
}

var meanings = []meaning{
	{"add addi addw addiw", signed, signed, func(a, b *big.Int, n int) *big.Int { return a.Add(a, b) }},
	{"sub subw", signed, signed, func(a, b *big.Int, n int) *big.Int { return a.Sub(a, b) }},
	{"xor xori", signed, signed, func(a, b *big.Int, n int) *big.Int { return a.Xor(a, b) }},
	{"or ori", signed, signed, func(a, b *big.Int, n int) *big.Int { return a.Or(a, b) }},
	{"and andi", signed, signed, func(a, b *big.Int, n int) *big.Int { return a.And(a, b) }},
	{"slt slti", signed, signed, one},
	{"sltu sltiu", unsigned, unsigned, one},
	{"sll slli sllw slliw", signed, signed, func(a, b *big.Int, n int) *big.Int { return a.Lsh(a, places(b, n)) }},
	{"srl srli srlw srliw", unsigned, signed, func(a, b *big.Int, n int) *big.Int { return a.Rsh(a, places(b, n)) }},
	{"sra srai sraw sraiw", signed, signed, func(a, b *big.Int, n int) *big.Int { return a.Rsh(a, places(b, n)) }},
	{"mul mulw", signed, signed, func(a, b *big.Int, n int) *big.Int { return a.Mul(a, b) }},
	{"mulh", signed, signed, upperHalf},
	{"mulhsu", signed, unsigned, upperHalf},
	{"mulhu", unsigned, unsigned, upperHalf},
	{"div divw", signed, signed, dividedBy},
	{"divu divuw", unsigned, unsigned, dividedBy},
	{"rem remw", signed, signed, leftOver},
	{"remu remuw", unsigned, unsigned, leftOver},
}

func one(a, b *big.Int, n int) *big.Int {
	if a.Cmp(b) < 0 {
		return big.NewInt(1)
	}
	return new(big.Int)
}

// places returns the number in the least significant bits of b: 6 of them for 64
// bits, 5 for 32.
func places(b *big.Int, n int) uint {
	return uint(new(big.Int).Mod(b, big.NewInt(int64(n))).Uint64())
}

func upperHalf(a, b *big.Int, n int) *big.Int {
	return a.Rsh(a.Mul(a, b), uint(n))
}

func dividedBy(a, b *big.Int, n int) *big.Int {
	if b.Sign() == 0 {
		return big.NewInt(-1)
	}
	return a.Quo(a, b)
}

func leftOver(a, b *big.Int, n int) *big.Int {
	if b.Sign() == 0 {
		return a
	}
	return a.Rem(a, b)
}

// isOfHalves reports whether the operation is computed from halves.
func isOfHalves(name string) bool {
	return strings.HasSuffix(name, "w")
}

// reference returns the result of the operation with this name.
func (m meaning) reference(name string, a, b int) int {
	n := 64
	if isOfHalves(name) {
		n = 32
	}
	return int(signed(m.result(read(a, m.readA, n), read(b, m.readB, n), n), n).Int64())
}

// number returns the number of an operation that there is.
func number(t testing.TB, name string) int {
	t.Helper()
	op, ok := isa.Find(name)
	if !ok {
		t.Fatalf("no operation %q", name)
	}
	return op
}

func checkEval(t *testing.T, name string, a, b, want int) {
	t.Helper()
	if v, ok := Eval(number(t, name), a, b); v != want || !ok {
		t.Errorf("%s of %d and %d: %d, %v; want %d", name, a, b, v, ok, want)
	}
}

// eval returns the result of an operation that Eval computes.
func eval(t *testing.T, name string, a, b int) int {
	t.Helper()
	v, ok := Eval(number(t, name), a, b)
	if !ok {
		t.Fatalf("%s is not computed", name)
	}
	return v
}

// P7.1: Eval.

// All operations from addi to remuw, and no others, are in the reference, and Eval
// agrees with it.
func TestEval(t *testing.T) {
	seen := map[int]bool{}
	for _, m := range meanings {
		for _, name := range strings.Fields(m.names) {
			op := number(t, name)
			if op < api.OpAddi || op > api.OpRemuw || seen[op] {
				t.Errorf("%s does not belong here", name)
			}
			seen[op] = true
			eachPair(func(a, b int) { checkEval(t, name, a, b, m.reference(name, a, b)) })
		}
	}
	if len(seen) != 41 {
		t.Errorf("%d operations", len(seen))
	}
}

func TestSumsAndBits(t *testing.T) {
	for _, c := range []struct {
		names      string
		a, b, want int
	}{
		{"add addi addw addiw", 5, -7, -2},
		{"add addi", most, 1, least},
		{"add addi", least, -1, most},
		{"add addi", mostHalf, 1, 1 << 31},
		{"addw addiw", mostHalf, 1, leastHalf},
		{"addw addiw", leastHalf, -1, mostHalf},
		{"addw addiw", 1<<32 - 1, 0, -1},
		{"addw addiw", 1 << 31, 0, leastHalf},
		{"addw addiw", 1 << 32, 5 << 32, 0},
		{"addw addiw", 3<<32 + 4, -9<<32 + 1, 5},
		{"sub subw", 5, 7, -2},
		{"sub", least, 1, most},
		{"sub", 0, least, least},
		{"sub", leastHalf, 1, leastHalf - 1},
		{"subw", leastHalf, 1, mostHalf},
		{"subw", 0, 1 << 31, leastHalf},
		{"subw", 7 << 32, 1, -1},
		{"xor xori", 0b1100, 0b1010, 0b0110},
		{"xor xori", least, -1, most},
		{"or ori", 0b1100, 0b1010, 0b1110},
		{"or ori", least, most, -1},
		{"and andi", 0b1100, 0b1010, 0b1000},
		{"and andi", -1, least, least},
		{"and andi", 1<<32 - 1, -1 << 31, 1 << 31},
		{"mul mulw", -3, 7, -21},
		{"mul", 1 << 32, 1 << 31, least},
		{"mul", 1 << 32, 1 << 32, 0},
		{"mul", least, -1, least},
		{"mul", 1 << 31, 2, 1 << 32},
		{"mulw", 1 << 31, 2, 0},
		{"mulw", 1 << 30, 2, leastHalf},
		{"mulw", leastHalf, -1, leastHalf},
		{"mulw", 3<<32 + 5, 9<<32 - 6, -30},
		{"mulw", 1<<16 + 1, 1<<16 + 1, 1<<17 + 1},
	} {
		for _, name := range strings.Fields(c.names) {
			checkEval(t, name, c.a, c.b, c.want)
		}
	}
}

func TestLess(t *testing.T) {
	for _, c := range []struct {
		a, b, slt, sltu int
	}{
		{0, 0, 0, 0}, {5, 5, 0, 0}, {-1, -1, 0, 0}, {least, least, 0, 0},
		{5, 7, 1, 1}, {7, 5, 0, 0}, {-7, -5, 1, 1}, {-5, -7, 0, 0},
		{-1, 0, 1, 0}, {0, -1, 0, 1}, {5, -1, 0, 1}, {least, most, 1, 0}, {most, least, 0, 1},
		{1<<32 - 1, 1 << 32, 1, 1}, {1 << 31, -1 << 31, 0, 1}, {1 << 32, 1, 0, 0},
	} {
		checkEval(t, "slt", c.a, c.b, c.slt)
		checkEval(t, "slti", c.a, c.b, c.slt)
		checkEval(t, "sltu", c.a, c.b, c.sltu)
		checkEval(t, "sltiu", c.a, c.b, c.sltu)
	}
}

// cut returns the 32 least significant bits of v.
func cut(v int) int {
	return v & (1<<32 - 1)
}

// extend returns the signed number that the 32 least significant bits of v are.
func extend(v int) int {
	return cut(v) - cut(v)>>31<<32
}

// A shift is as many steps by one place as the least significant bits of b say.
func TestShifts(t *testing.T) {
	whole := func(v int) int { return v }
	left := func(v int) int { return v + v }
	numbers := []int{1 << 30, 3 << 30, most - mostHalf, 0x5555555555555555, -0x5555555555555556, 1<<32 + 1<<31, -1<<32 + 1}
	shifts := []int{
		0, 1, 2, 30, 31, 32, 33, 62, 63, 64, 65, 95, 96, 127, 128, 1 << 32, 1<<32 + 31, most,
		-1, -2, -31, -32, -33, -63, -64, -65, least, least + 1,
	}
	for _, c := range []struct {
		names string
		n     int
		begin func(v int) int
		step  func(v int) int
	}{
		{"sll slli", 64, whole, left},
		{"srl srli", 64, whole, func(v int) int { return v >> 1 & most }},
		{"sra srai", 64, whole, func(v int) int { return v>>1&most | v&least }},
		{"sllw slliw", 32, cut, left},
		{"srlw srliw", 32, cut, func(v int) int { return v >> 1 }},
		{"sraw sraiw", 32, cut, func(v int) int { return v>>1 | v&(1<<31) }},
	} {
		for _, a := range append(numbers, edges...) {
			for _, b := range shifts {
				want := c.begin(a)
				for range b & (c.n - 1) {
					want = c.step(want)
				}
				if c.n == 32 {
					want = extend(want)
				}
				for _, name := range strings.Fields(c.names) {
					checkEval(t, name, a, b, want)
				}
			}
		}
	}
}

func TestShiftExamples(t *testing.T) {
	for _, c := range []struct {
		names      string
		a, b, want int
	}{
		{"sll slli sllw slliw", 1, 0, 1},
		{"sll slli", 1, 31, 1 << 31},
		{"sllw slliw", 1, 31, leastHalf},
		{"sll slli", 1, 32, 1 << 32},
		{"sllw slliw", 1, 32, 1},
		{"sll slli", 1, 63, least},
		{"sllw slliw", 1, 63, leastHalf},
		{"sll slli sllw slliw", 1, 64, 1},
		{"sll slli", 1, -1, least},
		{"sllw slliw", 1, -1, leastHalf},
		{"sll slli", 1, -64, 1},
		{"sllw slliw", -1 << 32, 1, 0},
		{"srl srli", -1, 0, -1},
		{"srl srli", -1, 1, most},
		{"srl srli", -1, 32, 1<<32 - 1},
		{"srl srli", -1, 63, 1},
		{"srl srli", -1, -1, 1},
		{"srl srli", least, 64, least},
		{"srlw srliw", -1, 0, -1},
		{"srlw srliw", -1, 1, mostHalf},
		{"srlw srliw", -1, 32, -1},
		{"srlw srliw", -1, -1, 1},
		{"srlw srliw", 1 << 31, 0, leastHalf},
		{"srlw srliw", 5<<32 + 6, 1, 3},
		{"sra srai", least, 63, -1},
		{"sra srai", least, -1, -1},
		{"sra srai", least, 1, -1 << 62},
		{"sra srai", most, 62, 1},
		{"sra srai", 1 << 31, 31, 1},
		{"sraw sraiw", 1 << 31, 31, -1},
		{"sraw sraiw", 1 << 31, 0, leastHalf},
		{"sraw sraiw", 1 << 31, 32, leastHalf},
		{"sraw sraiw", 1 << 30, 30, 1},
		{"sraw sraiw", least, 1, 0},
		{"sraw sraiw", -1<<32 + 4, 1, 2},
	} {
		for _, name := range strings.Fields(c.names) {
			checkEval(t, name, c.a, c.b, c.want)
		}
	}
}

func TestUpperHalvesOfProducts(t *testing.T) {
	for _, c := range []struct {
		a, b                int
		mulh, mulhsu, mulhu int
	}{
		{0, -1, 0, 0, 0},
		{-1, 0, 0, 0, 0},
		{3, 5, 0, 0, 0},
		{3, -5, -1, 2, 2},
		{-3, 5, -1, -1, 4},
		{-3, -5, 0, -3, -8},
		{1, -1, -1, 0, 0},
		{-1, 1, -1, -1, 0},
		{-1, -1, 0, -1, -2},
		{1 << 32, 1 << 32, 1, 1, 1},
		{1 << 32, -1 << 32, -1, 1<<32 - 1, 1<<32 - 1},
		{-1 << 32, 1 << 32, -1, -1, 1<<32 - 1},
		{-1 << 32, -1 << 32, 1, -1<<32 + 1, -1<<33 + 1},
		{most, most, 1<<62 - 1, 1<<62 - 1, 1<<62 - 1},
		{most, least, -1 << 62, 1<<62 - 1, 1<<62 - 1},
		{least, most, -1 << 62, -1 << 62, 1<<62 - 1},
		{least, least, 1 << 62, -1 << 62, 1 << 62},
		{least, -1, 0, least, most},
		{-1, least, 0, -1, most},
		{mostHalf, mostHalf, 0, 0, 0},
	} {
		checkEval(t, "mulh", c.a, c.b, c.mulh)
		checkEval(t, "mulhsu", c.a, c.b, c.mulhsu)
		checkEval(t, "mulhu", c.a, c.b, c.mulhu)
	}
}

func TestDivisions(t *testing.T) {
	for _, c := range []struct {
		names           string
		a, b            int
		quotient, other int
	}{
		{"div rem divw remw divu remu divuw remuw", 7, 2, 3, 1},
		{"div rem divw remw divu remu divuw remuw", 0, 5, 0, 0},
		{"div rem divw remw", -7, 2, -3, -1},
		{"div rem divw remw", 7, -2, -3, 1},
		{"div rem divw remw", -7, -2, 3, -1},
		{"div rem", least, -1, least, 0},
		{"div rem", least, 1, least, 0},
		{"div rem", least, 2, -1 << 62, 0},
		{"div rem", most, -1, -most, 0},
		{"div rem", least, most, -1, -1},
		{"div rem", leastHalf, -1, 1 << 31, 0},
		{"divu remu", -7, 2, most - 3, 1},
		{"divu remu", 7, -2, 0, 7},
		{"divu remu", -1, 1, -1, 0},
		{"divu remu", least, -1, 0, least},
		{"divu remu", -1, least, 1, most},
		{"divw remw", leastHalf, -1, leastHalf, 0},
		{"divw remw", 1 << 31, -1, leastHalf, 0},
		{"divw remw", 1 << 31, 1<<32 - 1, leastHalf, 0},
		{"divw remw", least, -1, 0, 0},
		{"divw remw", 5<<32 + 9, -1<<32 + 4, 2, 1},
		{"divw remw", 1<<32 - 9, 4, -2, -1},
		{"divuw remuw", -1, 1, -1, 0},
		{"divuw remuw", leastHalf, -1, 0, leastHalf},
		{"divuw remuw", -1, leastHalf, 1, mostHalf},
		{"divuw remuw", -1, 2, mostHalf, 1},
		{"divuw remuw", 5<<32 + 9, -1<<32 + 4, 2, 1},
		{"divuw remuw", -9, 1 << 31, 1, mostHalf - 8},
	} {
		for _, name := range strings.Fields(c.names) {
			want := c.quotient
			if strings.HasPrefix(name, "rem") {
				want = c.other
			}
			checkEval(t, name, c.a, c.b, want)
		}
	}
}

// Divisors of 0, and those whose half is 0: the upper bits of a divisor mean
// nothing to an operation on halves.
func TestDivisionsByZero(t *testing.T) {
	for _, a := range append(append([]int{1<<32 + 1<<31, -1 << 32, -1<<32 + 5, 5<<32 - 1}, edges...), others...) {
		for _, name := range []string{"div", "divu", "divw", "divuw"} {
			checkEval(t, name, a, 0, -1)
		}
		checkEval(t, "rem", a, 0, a)
		checkEval(t, "remu", a, 0, a)
		for _, b := range []int{0, 1 << 32, -1 << 32, 5 << 32, 1 << 62, least} {
			checkEval(t, "divw", a, b, -1)
			checkEval(t, "divuw", a, b, -1)
			checkEval(t, "remw", a, b, extend(a))
			checkEval(t, "remuw", a, b, extend(a))
		}
	}
	checkEval(t, "remw", 7<<32+1<<31, 1<<32, leastHalf)
	checkEval(t, "remuw", 1<<32-1, 0, -1)
	checkEval(t, "div", 7, 1<<32, 0)
	checkEval(t, "divu", 7, 1<<32, 0)
	checkEval(t, "rem", 1<<32+7, 1<<32, 7)
	checkEval(t, "remu", 1<<32+7, 1<<32, 7)
}

// The upper bits of the operands have no effect on an operation of halves, and
// those of its result are its sign.
func TestHalves(t *testing.T) {
	for _, m := range meanings {
		for _, name := range strings.Fields(m.names) {
			if !isOfHalves(name) {
				continue
			}
			eachPair(func(a, b int) {
				v := eval(t, name, a, b)
				if v != extend(v) {
					t.Errorf("%s of %d and %d: %d", name, a, b, v)
				}
				for _, upper := range []int{1 << 32, -1 << 32, least, 5 << 40} {
					checkEval(t, name, a^upper, b, v)
					checkEval(t, name, a, b^upper, v)
				}
			})
		}
	}
}

// farOperations are numbers that are no operation. Some of them become one if they
// are cut.
var farOperations = []int{
	127, 128, 255, 256, 256 + api.OpAdd, 1<<16 + api.OpAdd, 1<<32 + api.OpAdd, 1<<32 + api.OpBeq, 1<<32 + api.OpAmoaddD,
	1 << 32, -1 << 32, -1<<32 + api.OpAddi, -1<<32 + api.OpBgeu, -1<<32 + api.OpAmomaxuD, mostHalf, leastHalf,
	-1, -2, -api.OpBeq, -api.OpAddi, -api.OpAdd, -api.OpRemuw, -api.OpAmoswapD, -api.OpAmomaxuD,
	most, most - 1, least, least + 1, least + api.OpBeq, least + api.OpAdd, least + api.OpAmoaddD,
}

// eachOperationBut calls f for numbers that are no operation from first to last.
func eachOperationBut(first, last int, f func(op int)) {
	for op := -100; op <= 200; op++ {
		if op < first || op > last {
			f(op)
		}
	}
	for _, op := range farOperations {
		f(op)
	}
}

func TestEvalOfNothing(t *testing.T) {
	check := func(op int) {
		for _, a := range edges {
			for _, b := range edges {
				if v, ok := Eval(op, a, b); v != 0 || ok {
					t.Errorf("Eval(%d, %d, %d) = %d, %v", op, a, b, v, ok)
				}
			}
		}
	}
	check(api.OpIllegal)
	check(api.OpSd)
	check(api.OpFence)
	eachOperationBut(api.OpAddi, api.OpRemuw, check)
}

// P7.2: Taken.

func TestTaken(t *testing.T) {
	for _, c := range []struct {
		name string
		as   reading
		is   func(order int) bool
	}{
		{"beq", signed, func(order int) bool { return order == 0 }},
		{"bne", signed, func(order int) bool { return order != 0 }},
		{"blt", signed, func(order int) bool { return order < 0 }},
		{"bge", signed, func(order int) bool { return order >= 0 }},
		{"bltu", unsigned, func(order int) bool { return order < 0 }},
		{"bgeu", unsigned, func(order int) bool { return order >= 0 }},
	} {
		eachPair(func(a, b int) {
			want := c.is(read(a, c.as, 64).Cmp(read(b, c.as, 64)))
			if taken, ok := Taken(number(t, c.name), a, b); taken != want || !ok {
				t.Errorf("%s of %d and %d: %v, %v", c.name, a, b, taken, ok)
			}
		})
	}
}

func TestTakenExamples(t *testing.T) {
	for _, c := range []struct {
		a, b  int
		taken string
	}{
		{0, 0, "beq bge bgeu"},
		{-1, -1, "beq bge bgeu"},
		{least, least, "beq bge bgeu"},
		{1, 2, "bne blt bltu"},
		{2, 1, "bne bge bgeu"},
		{-2, -1, "bne blt bltu"},
		{-1, -2, "bne bge bgeu"},
		{-1, 0, "bne blt bgeu"},
		{0, -1, "bne bge bltu"},
		{least, most, "bne blt bgeu"},
		{most, least, "bne bge bltu"},
		{1, 1<<32 + 1, "bne blt bltu"},
		{1 << 31, -1 << 31, "bne bge bltu"},
	} {
		for _, name := range []string{"beq", "bne", "blt", "bge", "bltu", "bgeu"} {
			want := slices.Contains(strings.Fields(c.taken), name)
			if taken, ok := Taken(number(t, name), c.a, c.b); taken != want || !ok {
				t.Errorf("%s of %d and %d: %v, %v", name, c.a, c.b, taken, ok)
			}
		}
	}
}

func TestTakenOfNothing(t *testing.T) {
	eachOperationBut(api.OpBeq, api.OpBgeu, func(op int) {
		for _, a := range edges {
			for _, b := range edges {
				if taken, ok := Taken(op, a, b); taken || ok {
					t.Errorf("Taken(%d, %d, %d) = %v, %v", op, a, b, taken, ok)
				}
			}
		}
	})
}

// P7.3: Amo and Upper.

func checkAmo(t *testing.T, name string, old, v, want int) {
	t.Helper()
	if out, ok := Amo(number(t, name), old, v); out != want || !ok {
		t.Errorf("%s of %d and %d: %d, %v; want %d", name, old, v, out, ok, want)
	}
}

func TestAmo(t *testing.T) {
	smaller := func(a, b *big.Int) *big.Int {
		if a.Cmp(b) <= 0 {
			return a
		}
		return b
	}
	greater := func(a, b *big.Int) *big.Int {
		if a.Cmp(b) >= 0 {
			return a
		}
		return b
	}
	for _, c := range []struct {
		name string
		as   reading
		out  func(old, v *big.Int) *big.Int
	}{
		{"amoswap.d", signed, func(old, v *big.Int) *big.Int { return v }},
		{"amoadd.d", signed, func(old, v *big.Int) *big.Int { return old.Add(old, v) }},
		{"amoxor.d", signed, func(old, v *big.Int) *big.Int { return old.Xor(old, v) }},
		{"amoand.d", signed, func(old, v *big.Int) *big.Int { return old.And(old, v) }},
		{"amoor.d", signed, func(old, v *big.Int) *big.Int { return old.Or(old, v) }},
		{"amomin.d", signed, smaller},
		{"amomax.d", signed, greater},
		{"amominu.d", unsigned, smaller},
		{"amomaxu.d", unsigned, greater},
	} {
		eachPair(func(old, v int) {
			want := signed(c.out(read(old, c.as, 64), read(v, c.as, 64)), 64)
			checkAmo(t, c.name, old, v, int(want.Int64()))
		})
	}
}

func TestAmoExamples(t *testing.T) {
	for _, c := range []struct {
		name         string
		old, v, want int
	}{
		{"amoswap.d", 5, -7, -7},
		{"amoswap.d", most, 0, 0},
		{"amoadd.d", 5, -7, -2},
		{"amoadd.d", most, 1, least},
		{"amoadd.d", mostHalf, 1, 1 << 31},
		{"amoxor.d", 0b1100, 0b1010, 0b0110},
		{"amoand.d", 0b1100, 0b1010, 0b1000},
		{"amoor.d", 0b1100, 0b1010, 0b1110},
		{"amomin.d", -1, 1, -1},
		{"amomin.d", 1, -1, -1},
		{"amomin.d", least, most, least},
		{"amomin.d", 1 << 31, -1 << 31, -1 << 31},
		{"amomax.d", -1, 1, 1},
		{"amomax.d", 1, -1, 1},
		{"amomax.d", most, least, most},
		{"amominu.d", -1, 1, 1},
		{"amominu.d", 1, -1, 1},
		{"amominu.d", least, most, most},
		{"amomaxu.d", -1, 1, -1},
		{"amomaxu.d", 1, -1, -1},
		{"amomaxu.d", most, least, least},
		{"amomaxu.d", 1, 1 << 32, 1 << 32},
	} {
		checkAmo(t, c.name, c.old, c.v, c.want)
	}
}

func TestAmoOfNothing(t *testing.T) {
	check := func(op int) {
		for _, old := range edges {
			for _, v := range edges {
				if out, ok := Amo(op, old, v); out != 0 || ok {
					t.Errorf("Amo(%d, %d, %d) = %d, %v", op, old, v, out, ok)
				}
			}
		}
	}
	for op := api.OpLrW; op <= api.OpScD; op++ {
		check(op)
	}
	eachOperationBut(api.OpAmoswapD, api.OpAmomaxuD, check)
}

func TestUpper(t *testing.T) {
	for _, c := range []struct{ imm, want int }{
		{0, 0}, {1, 4096}, {-1, -4096}, {2, 8192}, {-3, -12288},
		{1<<19 - 1, 1<<31 - 4096}, {-1 << 19, -1 << 31}, {1 << 19, 1 << 31}, {1<<20 - 1, 1<<32 - 4096},
		{1 << 50, 1 << 62}, {-1 << 50, -1 << 62}, {1<<51 - 1, most - 4095}, {1 << 51, least}, {-1 << 51, least},
		{-1<<51 - 1, most - 4095}, {1<<51 + 1, least + 4096}, {1 << 52, 0}, {-1 << 52, 0}, {1<<52 + 1, 4096}, {1<<52 - 1, -4096},
		{most, -4096}, {least, 0}, {least + 1, 4096},
	} {
		if v := Upper(c.imm); v != c.want {
			t.Errorf("Upper(%d) = %d; want %d", c.imm, v, c.want)
		}
	}
	eachPair(func(imm, _ int) {
		want := new(big.Int).Mul(big.NewInt(int64(imm)), power(12))
		if v := Upper(imm); v != int(signed(want, 64).Int64()) {
			t.Errorf("Upper(%d) = %d", imm, v)
		}
	})
}

// P7.4: the quotient multiplied by the divisor, plus the remainder, equals the
// dividend, in as many bits as the operands have; and the remainder is nearer to 0
// than the divisor, on the side of the dividend.
func TestQuotientsAndRemainders(t *testing.T) {
	for _, c := range []struct {
		div, rem string
		as       reading
		n        int
	}{
		{"div", "rem", signed, 64},
		{"divu", "remu", unsigned, 64},
		{"divw", "remw", signed, 32},
		{"divuw", "remuw", unsigned, 32},
	} {
		eachPair(func(a, b int) {
			q, r := eval(t, c.div, a, b), eval(t, c.rem, a, b)
			sum := read(q*b+r, signed, c.n)
			if sum.Cmp(read(a, signed, c.n)) != 0 {
				t.Errorf("%s and %s of %d and %d: %d and %d", c.div, c.rem, a, b, q, r)
			}
			dividend, divisor, rest := read(a, c.as, c.n), read(b, c.as, c.n), read(r, c.as, c.n)
			if divisor.Sign() == 0 {
				return
			}
			if rest.CmpAbs(divisor) >= 0 || rest.Sign()*dividend.Sign() < 0 {
				t.Errorf("%s of %d and %d: %d", c.rem, a, b, r)
			}
		})
	}
}

// The chapter's examples.
func TestExamples(t *testing.T) {
	checkEval(t, "rem", -7, 2, -1)
	checkEval(t, "divuw", -1, 1, -1)
}
