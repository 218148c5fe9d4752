package reg

import (
	"math"
	"math/bits"
	"slices"
	"strconv"
	"strings"
	"testing"
)

// abiNames are the ABI names as the chapter lists them.
const abiNames = "zero ra sp gp tp t0 t1 t2 s0 s1 a0 a1 a2 a3 a4 a5 a6 a7 s2 s3 s4 s5 s6 s7 s8 s9 s10 s11 t3 t4 t5 t6"

// strangers are numbers that are no register. Those beyond 32 bits become one if
// they are cut, and those beyond 64 shift a bit out of a word or around it.
var strangers = []int{
	-1, -2, -31, -32, -33, -64, 32, 33, 40, 63, 64, 65, 96, 100, 127, 128, 255, 256, 1 << 16,
	1 << 31, 1<<31 + 5, 1<<32 - 1, 1 << 32, 1<<32 + 5, -1 << 32, -1<<32 + 5, -1<<31 + 5,
	math.MaxInt32, math.MinInt32, math.MaxInt - 31, math.MaxInt, math.MinInt, math.MinInt + 1, math.MinInt + 5, math.MinInt + 31,
}

// sets are the extreme sets and some between them.
func sets() []Set {
	l := []Set{0, math.MaxUint32, 0xaaaaaaaa, 0x55555555, 0x12345678, 0xdeadbeef, 0x80000001, 0x7ffffffe, 0xffff0000, 0x0000ffff}
	for r := range 32 {
		l = append(l, Set(1)<<r, ^(Set(1) << r), Set(math.MaxUint32)<<r, Set(math.MaxUint32)>>r)
	}
	return l
}

// bit reports whether bit r of s is set, for a register r.
func bit(s Set, r int) bool { return uint32(s)>>r&1 == 1 }

// elements returns the registers that belong to s, by the definition of a set.
func elements(s Set) []int {
	var l []int
	for r := 0; r <= 31; r++ {
		if bit(s, r) {
			l = append(l, r)
		}
	}
	return l
}

// registers maps the names of all registers to their numbers.
func registers() map[string]int {
	m := map[string]int{}
	for r, s := range strings.Fields(abiNames) {
		m[s] = r
		m["x"+strconv.Itoa(r)] = r
	}
	return m
}

// P2.1: Name and Use.

func TestNameExamples(t *testing.T) {
	for r, want := range map[int]string{0: "x0", 1: "x1", 9: "x9", 10: "x10", 19: "x19", 20: "x20", 29: "x29", 30: "x30", 31: "x31"} {
		if s := Name(r); s != want {
			t.Errorf("Name(%d) = %q; want %q", r, s, want)
		}
	}
}

func TestUseExamples(t *testing.T) {
	for r, want := range map[int]string{0: "zero", 1: "ra", 2: "sp", 4: "tp", 5: "t0", 7: "t2", 8: "s0", 9: "s1", 10: "a0", 17: "a7", 18: "s2", 27: "s11", 28: "t3", 31: "t6"} {
		if s := Use(r); s != want {
			t.Errorf("Use(%d) = %q; want %q", r, s, want)
		}
	}
}

func TestNamesOfAllRegisters(t *testing.T) {
	names := strings.Fields(abiNames)
	if len(names) != 32 {
		t.Fatalf("%d names", len(names))
	}
	for r, want := range names {
		if s := Use(r); s != want {
			t.Errorf("Use(%d) = %q; want %q", r, s, want)
		}
		if s := Name(r); s != "x"+strconv.Itoa(r) {
			t.Errorf("Name(%d) = %q", r, s)
		}
	}
}

func TestNoNames(t *testing.T) {
	for _, r := range strangers {
		if s := Name(r); s != "" {
			t.Errorf("Name(%d) = %q; want nothing", r, s)
		}
		if s := Use(r); s != "" {
			t.Errorf("Use(%d) = %q; want nothing", r, s)
		}
	}
}

// P2.1: Parse.

func TestParseNames(t *testing.T) {
	m := registers()
	if len(m) != 64 {
		t.Fatalf("%d names", len(m))
	}
	for s, want := range m {
		if r, ok := Parse(s); r != want || !ok {
			t.Errorf("Parse(%q) = %d, %v; want %d", s, r, ok, want)
		}
	}
}

func TestParseNoName(t *testing.T) {
	for _, s := range []string{
		"", " ", "\x00", "\xff", "\n",
		// Numbers of no register, alone, or spelt in another way.
		"x32", "x33", "x39", "x40", "x99", "x100", "x310", "x256", "x288", "x4294967296", "x4294967301", "x18446744073709551616", "x18446744073709551621",
		"x00", "x01", "x05", "x000", "x010", "x031", "x0000000000000000000001",
		"x-0", "x-1", "x+0", "x+1", "x+31", "+x1", "-x1", "x1-", "x--1",
		"x0x1", "x0b1", "x0o7", "xa", "x1a", "x1_0", "x_1", "x1.0", "x1e1", "x 1", "x1 ", " x1", "x1\n", "x1\x00", "\tx1", "x1,", "x1x1",
		"x", "xx", "xx1", "0", "1", "5", "31", "10",
		"x٣", "x１", "x²", "х1",
		// Other letters.
		"X0", "X1", "X31", "ZERO", "Zero", "zerO", "RA", "Sp", "A0", "T6", "S11",
		"y1", "r0", "r31", "f0", "f10", "w1", "b0", "$1", "%1", "#1", "%x1", "$zero",
		// ABI names that there are not, or not whole.
		"fp", "pc", "ft0", "fs0", "fa0", "z", "zer", "zero0", "zeros", "ze", "rb", "r", "ra0", "ra ", " ra", "sp0", "s", "a", "t", "g", "gp1", "tp0",
		"a8", "a9", "a10", "a-1", "a+0", "a00", "a01", "s12", "s13", "s20", "s00", "s01", "s011", "s110", "s+1", "s-1", "t7", "t8", "t9", "t10", "t00", "t06", "t-1", "t+1",
		"zero ra", "zerora", "a0a1", "a0,", "(a0)", "x0zero", "zero\x00", "zero x0",
		abiNames, strings.Repeat("x", 1000), "x" + strings.Repeat("0", 1000), "x1" + strings.Repeat("0", 1000),
	} {
		if r, ok := Parse(s); r != 0 || ok {
			t.Errorf("Parse(%q) = %d, %v; want 0, false", s, r, ok)
		}
	}
}

// Every short text of the bytes that names consist of, and of some more, is a
// name exactly if it is one of the 64.
func TestParseEveryShortText(t *testing.T) {
	const used = "0123456789agprstxzeoSX+- \x00"
	m := registers()
	found := 0
	check := func(s string) {
		want, isName := m[s]
		if isName {
			found++
		}
		if r, ok := Parse(s); r != want || ok != isName {
			t.Errorf("Parse(%q) = %d, %v; want %d, %v", s, r, ok, want, isName)
		}
	}
	check("")
	for _, a := range used {
		check(string(a))
		for _, b := range used {
			check(string(a) + string(b))
			for _, c := range used {
				check(string(a) + string(b) + string(c))
			}
		}
	}
	// All names but zero have at most three bytes.
	if found != 63 {
		t.Errorf("%d names; want 63", found)
	}
}

func TestParseEverySingleAndDoubleByte(t *testing.T) {
	m := registers()
	for a := range 256 {
		for b := range 256 {
			s := string([]byte{byte(a), byte(b)})
			want, isName := m[s]
			if r, ok := Parse(s); r != want || ok != isName {
				t.Errorf("Parse(%q) = %d, %v", s, r, ok)
			}
		}
		if r, ok := Parse(string([]byte{byte(a)})); r != 0 || ok {
			t.Errorf("Parse of the byte %d = %d, %v", a, r, ok)
		}
	}
}

// P2.2: Of.

func TestOf(t *testing.T) {
	for _, c := range []struct {
		l    []int
		want Set
	}{
		{nil, 0},
		{[]int{}, 0},
		{[]int{0}, 1},
		{[]int{31}, 0x80000000},
		{[]int{31, 0}, 0x80000001},
		{[]int{3, 1, 40}, 0xa},
		{[]int{1, 3}, 0xa},
		{[]int{5, 5}, 0x20},
		{[]int{5, 6, 5, 6, 5}, 0x60},
		{[]int{0, 0, 31, 31, 0}, 0x80000001},
		{[]int{-1}, 0},
		{[]int{32}, 0},
		{[]int{-1, 0, 32, 31, -1}, 0x80000001},
		{[]int{7, math.MaxInt, 7, math.MinInt, 8}, 0x180},
		{strangers, 0},
		{append(slices.Clone(strangers), 12), 1 << 12},
		{append([]int{12}, strangers...), 1 << 12},
	} {
		if s := Of(c.l...); s != c.want {
			t.Errorf("Of(%v) = %#x; want %#x", c.l, uint32(s), uint32(c.want))
		}
	}
	if s := Of(); s != 0 {
		t.Errorf("Of() = %#x", uint32(s))
	}
	if s := Of(3, 1, 40); s != 0xa {
		t.Errorf("Of(3, 1, 40) = %#x", uint32(s))
	}
}

func TestOfOneRegister(t *testing.T) {
	for r := range 32 {
		if s := Of(r); uint32(s) != 1<<r {
			t.Errorf("Of(%d) = %#x", r, uint32(s))
		}
	}
}

func TestOfLeavesItsList(t *testing.T) {
	l := []int{9, 3, 3, 40, -1, 0}
	before := slices.Clone(l)
	Of(l[:3]...)
	Of(l...)
	if !slices.Equal(l, before) {
		t.Errorf("the list became %v", l)
	}
}

// P2.2: Has, With, Less.

func TestHas(t *testing.T) {
	for _, s := range sets() {
		for r := range 32 {
			if s.Has(r) != bit(s, r) {
				t.Errorf("%#x: Has(%d) = %v", uint32(s), r, s.Has(r))
			}
		}
	}
}

func TestWith(t *testing.T) {
	for _, s := range sets() {
		for r := range 32 {
			with := s.With(r)
			for x := range 32 {
				if bit(with, x) != (x == r || bit(s, x)) {
					t.Errorf("%#x: With(%d) = %#x", uint32(s), r, uint32(with))
				}
			}
		}
	}
}

func TestLess(t *testing.T) {
	for _, s := range sets() {
		for r := range 32 {
			less := s.Less(r)
			for x := range 32 {
				if bit(less, x) != (x != r && bit(s, x)) {
					t.Errorf("%#x: Less(%d) = %#x", uint32(s), r, uint32(less))
				}
			}
		}
	}
}

func TestLessOfWhatIsNotInTheSet(t *testing.T) {
	if s := Of(5, 9).Less(6); s != Of(5, 9) {
		t.Errorf("Less(6) = %#x", uint32(s))
	}
	if s := Set(0).Less(0); s != 0 {
		t.Errorf("Less(0) = %#x", uint32(s))
	}
	if s := Of(5, 9).Less(9).Less(9); s != Of(5) {
		t.Errorf("Less(9) twice = %#x", uint32(s))
	}
}

func TestSetsAndStrangers(t *testing.T) {
	for _, s := range sets() {
		for _, r := range strangers {
			if s.Has(r) {
				t.Errorf("%#x: Has(%d)", uint32(s), r)
			}
			if x := s.With(r); x != s {
				t.Errorf("%#x: With(%d) = %#x", uint32(s), r, uint32(x))
			}
			if x := s.Less(r); x != s {
				t.Errorf("%#x: Less(%d) = %#x", uint32(s), r, uint32(x))
			}
		}
	}
}

// The methods leave the set they are called on.
func TestSetsAreValues(t *testing.T) {
	s := Of(5, 9)
	s.With(1)
	s.Less(5)
	s.List()[0] = 7
	if s != 0x220 {
		t.Errorf("the set became %#x", uint32(s))
	}
}

// P2.2: Len, List, First.

func TestSetExamples(t *testing.T) {
	if l := Of(3, 1, 40).List(); !slices.Equal(l, []int{1, 3}) {
		t.Errorf("Of(3, 1, 40).List() = %v", l)
	}
	s := Of(5, 9).With(0).Less(9)
	if r, ok := s.First(); r != 0 || !ok || s.Len() != 2 || s.Has(9) || !s.Has(5) {
		t.Errorf("%#x", uint32(s))
	}
}

func TestEmptySet(t *testing.T) {
	for _, s := range []Set{0, Of(), Of(-1, 32), Of(4).Less(4)} {
		if s.Len() != 0 || len(s.List()) != 0 {
			t.Errorf("%#x: %d elements, %v", uint32(s), s.Len(), s.List())
		}
		if r, ok := s.First(); r != 0 || ok {
			t.Errorf("%#x: First() = %d, %v; want 0, false", uint32(s), r, ok)
		}
	}
}

func TestFullSet(t *testing.T) {
	s := Set(0)
	var all []int
	for r := 31; r >= 0; r-- {
		s = s.With(r)
		all = append([]int{r}, all...)
	}
	if uint32(s) != math.MaxUint32 || s.Len() != 32 || !slices.Equal(s.List(), all) {
		t.Errorf("%#x: %d elements, %v", uint32(s), s.Len(), s.List())
	}
	if r, ok := s.First(); r != 0 || !ok {
		t.Errorf("First() = %d, %v", r, ok)
	}
}

func TestLen(t *testing.T) {
	for _, s := range sets() {
		if n := s.Len(); n != bits.OnesCount32(uint32(s)) {
			t.Errorf("%#x: %d elements", uint32(s), n)
		}
	}
}

func TestList(t *testing.T) {
	for _, s := range sets() {
		if l := s.List(); !slices.Equal(l, elements(s)) {
			t.Errorf("%#x: List() = %v", uint32(s), l)
		}
	}
}

func TestListIsNew(t *testing.T) {
	s := Of(4, 8)
	clear(s.List())
	if l := s.List(); !slices.Equal(l, []int{4, 8}) {
		t.Errorf("List() = %v", l)
	}
}

func TestFirst(t *testing.T) {
	for _, s := range sets() {
		if s == 0 {
			continue
		}
		if r, ok := s.First(); r != bits.TrailingZeros32(uint32(s)) || !ok {
			t.Errorf("%#x: First() = %d, %v", uint32(s), r, ok)
		}
	}
	if r, ok := Of(31).First(); r != 31 || !ok {
		t.Errorf("First() = %d, %v", r, ok)
	}
}

// P2.3.

func TestParseInvertsNameAndUse(t *testing.T) {
	for r := range 32 {
		if x, ok := Parse(Name(r)); x != r || !ok {
			t.Errorf("Parse(Name(%d)) = %d, %v", r, x, ok)
		}
		if x, ok := Parse(Use(r)); x != r || !ok {
			t.Errorf("Parse(Use(%d)) = %d, %v", r, x, ok)
		}
	}
	// What has no name gives the empty text, which is no name.
	for _, r := range strangers {
		if x, ok := Parse(Name(r)); x != 0 || ok {
			t.Errorf("Parse(Name(%d)) = %d, %v", r, x, ok)
		}
	}
}

func TestSetEqualsTheSetOfItsList(t *testing.T) {
	for _, s := range sets() {
		l := s.List()
		if x := Of(l...); x != s {
			t.Errorf("Of of the list of %#x = %#x", uint32(s), uint32(x))
		}
		slices.Reverse(l)
		if x := Of(append(l, l...)...); x != s {
			t.Errorf("Of of the list of %#x, reversed and twice, = %#x", uint32(s), uint32(x))
		}
	}
}
