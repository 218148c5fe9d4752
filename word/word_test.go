package word

import (
	"bytes"
	"math"
	"slices"
	"testing"

	"spinnaker/api"
)

// samples are words whose bits differ in both halves, and the extreme words.
var samples = []uint32{0, 1, 2, 0x7fffffff, 0x80000000, 0x80000001, 0xffffffff, 0xfffffffe, 0xaaaaaaaa, 0x55555555, 0x12345678, 0xdeadbeef, 0xabcd1234}

// numbers are the numbers around each power of two, and their negatives.
func numbers() []int {
	l := []int{0, 0x0123456789abcdef, -0x0123456789abcdef}
	for k := range 64 {
		p := int(uint64(1) << k)
		l = append(l, p-1, p, p+1, -p-1, -p, -p+1)
	}
	return l
}

// noFields are positions and widths that are no field.
var noFields = []struct{ at, n int }{
	{0, 0}, {31, 0}, {0, -1}, {5, -3}, {0, 33}, {0, 64},
	{-1, 1}, {-1, 2}, {-4, 8}, {-32, 32}, {-1, 33},
	{32, 1}, {32, 0}, {33, -1}, {64, 1}, {40, -8},
	{31, 2}, {1, 32}, {16, 17}, {24, 9}, {30, 3},
	{math.MaxInt, 1}, {math.MinInt, 1}, {1, math.MaxInt}, {0, math.MinInt},
	{math.MaxInt, math.MaxInt}, {math.MinInt, math.MinInt}, {math.MinInt, math.MaxInt}, {math.MaxInt, math.MinInt},
	{math.MinInt + 32, 32}, {1 << 32, 1}, {0, 1<<32 + 1},
}

// eachField calls f for every field of a word.
func eachField(f func(at, n int)) {
	for at := range 32 {
		for n := 1; at+n <= 32; n++ {
			f(at, n)
		}
	}
}

func bit(w uint32, i int) uint32 { return w >> i & 1 }

// slowGet and slowPut move a field bit by bit.
func slowGet(w uint32, at, n int) uint32 {
	var v uint32
	for i := range n {
		v |= bit(w, at+i) << i
	}
	return v
}

func slowPut(w uint32, at, n int, v uint32) uint32 {
	var out uint32
	for i := range 32 {
		b := bit(w, i)
		if at <= i && i < at+n {
			b = bit(v, i-at)
		}
		out |= b << i
	}
	return out
}

// P1.1: Get.

func TestGetExamples(t *testing.T) {
	for _, c := range []struct {
		w     uint32
		at, n int
		want  uint32
	}{
		{0xabcd1234, 8, 12, 0xd12},
		{0xabcd1234, 0, 4, 4},
		{0xabcd1234, 28, 4, 0xa},
		{0xabcd1234, 0, 32, 0xabcd1234},
		{0x80000000, 31, 1, 1},
		{0x7fffffff, 31, 1, 0},
		{1, 0, 1, 1},
		{0xfffffffe, 0, 1, 0},
		{0xfff00000, 20, 12, 0xfff},
	} {
		if v, e := Get(c.w, c.at, c.n); v != c.want || e != api.OK {
			t.Errorf("Get(%#x, %d, %d) = %#x, %d; want %#x", c.w, c.at, c.n, v, e, c.want)
		}
	}
}

func TestGetEveryField(t *testing.T) {
	for _, w := range samples {
		eachField(func(at, n int) {
			if v, e := Get(w, at, n); v != slowGet(w, at, n) || e != api.OK {
				t.Errorf("Get(%#x, %d, %d) = %#x, %d", w, at, n, v, e)
			}
		})
	}
}

func TestGetNoField(t *testing.T) {
	for _, c := range noFields {
		for _, w := range samples {
			if v, e := Get(w, c.at, c.n); v != 0 || e != api.ErrRange {
				t.Errorf("Get(%#x, %d, %d) = %#x, %d; want 0, ErrRange", w, c.at, c.n, v, e)
			}
		}
	}
}

// P1.1: Put.

func TestPutExamples(t *testing.T) {
	for _, c := range []struct {
		w     uint32
		at, n int
		v     uint32
		want  uint32
	}{
		{0xffffffff, 4, 8, 0x12, 0xfffff12f},
		{0, 0, 1, 1, 1},
		{0xffffffff, 0, 1, 0, 0xfffffffe},
		{0, 31, 1, 1, 0x80000000},
		{0xffffffff, 31, 1, 0, 0x7fffffff},
		{0x12345678, 0, 32, 0xdeadbeef, 0xdeadbeef},
		{0, 4, 4, 0xfff5, 0x50},
		{0, 31, 1, 0xfffffffe, 0},
	} {
		if w, e := Put(c.w, c.at, c.n, c.v); w != c.want || e != api.OK {
			t.Errorf("Put(%#x, %d, %d, %#x) = %#x, %d; want %#x", c.w, c.at, c.n, c.v, w, e, c.want)
		}
	}
}

func TestPutEveryField(t *testing.T) {
	for _, w := range samples {
		for _, v := range samples {
			eachField(func(at, n int) {
				if x, e := Put(w, at, n, v); x != slowPut(w, at, n, v) || e != api.OK {
					t.Errorf("Put(%#x, %d, %d, %#x) = %#x, %d", w, at, n, v, x, e)
				}
			})
		}
	}
}

func TestPutNoField(t *testing.T) {
	for _, c := range noFields {
		for _, w := range samples {
			if x, e := Put(w, c.at, c.n, 0x5a5a5a5a); x != 0 || e != api.ErrRange {
				t.Errorf("Put(%#x, %d, %d, ..) = %#x, %d; want 0, ErrRange", w, c.at, c.n, x, e)
			}
		}
	}
}

// Every pair of small numbers is a field or no field, as the definition says.
func TestFieldsAroundTheEdges(t *testing.T) {
	for at := -40; at <= 40; at++ {
		for n := -40; n <= 80; n++ {
			want := api.ErrRange
			if 1 <= n && n <= 32 && 0 <= at && at <= 31 && at+n <= 32 {
				want = api.OK
			}
			if _, e := Get(0xffffffff, at, n); e != want {
				t.Errorf("Get(.., %d, %d): error %d; want %d", at, n, e, want)
			}
			if _, e := Put(0xffffffff, at, n, 0); e != want {
				t.Errorf("Put(.., %d, %d, 0): error %d; want %d", at, n, e, want)
			}
		}
	}
}

// P1.2: Sign.

func TestSignExamples(t *testing.T) {
	for _, c := range []struct {
		v    uint32
		n    int
		want int
	}{
		{0xfff, 12, -1},
		{0x800, 12, -2048},
		{0x7ff, 12, 2047},
		{0xfffff7ff, 12, 2047},
		{0xabc00800, 12, -2048},
		{0, 1, 0},
		{1, 1, -1},
		{2, 1, 0},
		{1, 2, 1},
		{0x80000000, 32, math.MinInt32},
		{0x7fffffff, 32, math.MaxInt32},
		{0xffffffff, 32, -1},
		{0xffffffff, 31, -1},
		{0xbfffffff, 31, 0x3fffffff},
	} {
		if v, e := Sign(c.v, c.n); v != c.want || e != api.OK {
			t.Errorf("Sign(%#x, %d) = %d, %d; want %d", c.v, c.n, v, e, c.want)
		}
	}
}

func TestSignEveryWidth(t *testing.T) {
	for _, v := range samples {
		for n := 1; n <= 32; n++ {
			want := int(slowGet(v, 0, n))
			if bit(v, n-1) == 1 {
				want -= 1 << n
			}
			if x, e := Sign(v, n); x != want || e != api.OK {
				t.Errorf("Sign(%#x, %d) = %d, %d; want %d", v, n, x, e, want)
			}
		}
	}
}

func TestSignNoWidth(t *testing.T) {
	for _, n := range []int{0, -1, -31, -32, 33, 34, 63, 64, 65, 1 << 32, 1<<32 + 1, math.MaxInt, math.MinInt, math.MinInt + 1} {
		for _, v := range samples {
			if x, e := Sign(v, n); x != 0 || e != api.ErrRange {
				t.Errorf("Sign(%#x, %d) = %d, %d; want 0, ErrRange", v, n, x, e)
			}
		}
	}
}

// P1.2: Fits.

func TestFitsExamples(t *testing.T) {
	for _, c := range []struct {
		v, n int
		want bool
	}{
		{2047, 12, true}, {2048, 12, false}, {-2048, 12, true}, {-2049, 12, false},
		{0, 1, true}, {-1, 1, true}, {1, 1, false}, {-2, 1, false},
		{math.MaxInt32, 32, true}, {math.MaxInt32 + 1, 32, false},
		{math.MinInt32, 32, true}, {math.MinInt32 - 1, 32, false},
		{math.MaxInt, 64, true}, {math.MinInt, 64, true}, {0, 64, true},
		{math.MaxInt, 63, false}, {math.MinInt, 63, false},
		{math.MaxInt >> 1, 63, true}, {math.MinInt >> 1, 63, true},
	} {
		if Fits(c.v, c.n) != c.want {
			t.Errorf("Fits(%d, %d) = %v", c.v, c.n, !c.want)
		}
	}
}

func TestFitsEveryWidth(t *testing.T) {
	for n := 1; n <= 64; n++ {
		least := math.MinInt >> (64 - n)
		most := math.MaxInt >> (64 - n)
		for _, v := range numbers() {
			if want := least <= v && v <= most; Fits(v, n) != want {
				t.Errorf("Fits(%d, %d) = %v", v, n, !want)
			}
		}
	}
}

func TestFitsNoWidth(t *testing.T) {
	for _, n := range []int{0, -1, -63, -64, 65, 66, 128, 1 << 32, 1<<32 + 1, math.MaxInt, math.MinInt, math.MinInt + 1} {
		for _, v := range numbers() {
			if Fits(v, n) {
				t.Errorf("Fits(%d, %d) = true", v, n)
			}
		}
	}
}

// P1.3: Bytes and Long.

func TestBytes(t *testing.T) {
	for _, c := range []struct {
		w    uint32
		want []byte
	}{
		{0x12345678, []byte{0x78, 0x56, 0x34, 0x12}},
		{0, []byte{0, 0, 0, 0}},
		{0xffffffff, []byte{0xff, 0xff, 0xff, 0xff}},
		{1, []byte{1, 0, 0, 0}},
		{0x80000000, []byte{0, 0, 0, 0x80}},
	} {
		if b := Bytes(c.w); !bytes.Equal(b, c.want) {
			t.Errorf("Bytes(%#x) = %x; want %x", c.w, b, c.want)
		}
	}
}

func TestLong(t *testing.T) {
	for _, c := range []struct {
		v    int
		want []byte
	}{
		{0x0123456789abcdef, []byte{0xef, 0xcd, 0xab, 0x89, 0x67, 0x45, 0x23, 0x01}},
		{0, make([]byte, 8)},
		{1, []byte{1, 0, 0, 0, 0, 0, 0, 0}},
		{-1, bytes.Repeat([]byte{0xff}, 8)},
		{-2, []byte{0xfe, 0xff, 0xff, 0xff, 0xff, 0xff, 0xff, 0xff}},
		{math.MinInt, []byte{0, 0, 0, 0, 0, 0, 0, 0x80}},
		{math.MaxInt, []byte{0xff, 0xff, 0xff, 0xff, 0xff, 0xff, 0xff, 0x7f}},
	} {
		if b := Long(c.v); !bytes.Equal(b, c.want) {
			t.Errorf("Long(%d) = %x; want %x", c.v, b, c.want)
		}
	}
}

// Every call returns new memory, which its caller may change.
func TestBytesAndLongAreNew(t *testing.T) {
	clear(Bytes(0x12345678))
	clear(Long(-2))
	if b := Bytes(0x12345678); b[0] != 0x78 {
		t.Errorf("Bytes = %x", b)
	}
	if b := Long(-2); b[0] != 0xfe {
		t.Errorf("Long = %x", b)
	}
}

// P1.3: Word and Number.

func TestWord(t *testing.T) {
	b := []byte{0xef, 0xcd, 0xab, 0x89, 0x67, 0x45}
	for at, want := range []uint32{0x89abcdef, 0x6789abcd, 0x456789ab} {
		if w, e := Word(b, at); w != want || e != api.OK {
			t.Errorf("Word(b, %d) = %#x, %d; want %#x", at, w, e, want)
		}
	}
}

func TestNumber(t *testing.T) {
	b := []byte{0xef, 0xcd, 0xab, 0x89, 0x67, 0x45, 0x23, 0x01, 0xfe}
	if v, e := Number(b, 0); v != 0x0123456789abcdef || e != api.OK {
		t.Errorf("Number(b, 0) = %#x, %d", v, e)
	}
	// The last byte makes it negative: fe0123456789abcd.
	if v, e := Number(b, 1); v != -0x1fedcba98765433 || e != api.OK {
		t.Errorf("Number(b, 1) = %#x, %d", v, e)
	}
}

// Lists of every small length are read at every place around them; what lies
// behind a list within its capacity is not part of it.
func TestWordAndNumberAroundTheEdges(t *testing.T) {
	whole := bytes.Repeat([]byte{0x5a}, 40)
	for n := range 20 {
		b := whole[:n]
		for at := -20; at <= 30; at++ {
			w, e := Word(b, at)
			if 0 <= at && at+4 <= n {
				if w != 0x5a5a5a5a || e != api.OK {
					t.Errorf("%d bytes: Word(b, %d) = %#x, %d", n, at, w, e)
				}
			} else if w != 0 || e != api.ErrNone {
				t.Errorf("%d bytes: Word(b, %d) = %#x, %d; want 0, ErrNone", n, at, w, e)
			}
			v, e := Number(b, at)
			if 0 <= at && at+8 <= n {
				if v != 0x5a5a5a5a5a5a5a5a || e != api.OK {
					t.Errorf("%d bytes: Number(b, %d) = %#x, %d", n, at, v, e)
				}
			} else if v != 0 || e != api.ErrNone {
				t.Errorf("%d bytes: Number(b, %d) = %#x, %d; want 0, ErrNone", n, at, v, e)
			}
		}
	}
}

func TestWordAndNumberFarAway(t *testing.T) {
	for _, b := range [][]byte{nil, {}, {1, 2, 3}, bytes.Repeat([]byte{1}, 16)} {
		for _, at := range []int{math.MinInt, math.MinInt + 8, -1 << 32, -1, 1 << 32, math.MaxInt - 8, math.MaxInt - 7, math.MaxInt - 4, math.MaxInt - 3, math.MaxInt} {
			if w, e := Word(b, at); w != 0 || e != api.ErrNone {
				t.Errorf("Word(%x, %d) = %#x, %d; want 0, ErrNone", b, at, w, e)
			}
			if v, e := Number(b, at); v != 0 || e != api.ErrNone {
				t.Errorf("Number(%x, %d) = %#x, %d; want 0, ErrNone", b, at, v, e)
			}
		}
	}
}

func TestWordAndNumberLeaveTheirBytes(t *testing.T) {
	b := []byte{0xef, 0xcd, 0xab, 0x89, 0x67, 0x45, 0x23, 0x01}
	before := slices.Clone(b)
	Word(b, 2)
	Number(b, 0)
	if !bytes.Equal(b, before) {
		t.Errorf("bytes became %x", b)
	}
}

// P1.4.

func TestGetReturnsWhatPutStored(t *testing.T) {
	for _, w := range samples {
		for _, v := range samples {
			eachField(func(at, n int) {
				x, _ := Put(w, at, n, v)
				low, _ := Get(v, 0, n)
				if got, e := Get(x, at, n); got != low || e != api.OK {
					t.Errorf("Get of Put(%#x, %d, %d, %#x) = %#x, %d", w, at, n, v, got, e)
				}
			})
		}
	}
}

func TestPutChangesNoOtherBit(t *testing.T) {
	for _, w := range samples {
		for _, v := range samples {
			eachField(func(at, n int) {
				x, _ := Put(w, at, n, v)
				for i := range 32 {
					if (i < at || i >= at+n) && bit(x, i) != bit(w, i) {
						t.Errorf("Put(%#x, %d, %d, %#x) changes bit %d", w, at, n, v, i)
					}
				}
			})
		}
	}
}

func TestWordInvertsBytes(t *testing.T) {
	for _, w := range samples {
		if x, e := Word(Bytes(w), 0); x != w || e != api.OK {
			t.Errorf("Word(Bytes(%#x), 0) = %#x, %d", w, x, e)
		}
		b := []byte{byte(w), 0x11, 0x80, 0xff}
		if x, _ := Word(b, 0); !bytes.Equal(Bytes(x), b) {
			t.Errorf("Bytes(Word(%x, 0)) = %x", b, Bytes(x))
		}
	}
}

func TestNumberInvertsLong(t *testing.T) {
	for _, v := range numbers() {
		if x, e := Number(Long(v), 0); x != v || e != api.OK {
			t.Errorf("Number(Long(%d), 0) = %d, %d", v, x, e)
		}
		b := append([]byte{9, 9, 9}, Long(v)...)
		if x, e := Number(b, 3); x != v || e != api.OK {
			t.Errorf("Number of %d behind three bytes = %d, %d", v, x, e)
		}
	}
}

func TestSignRecoversWhatFits(t *testing.T) {
	for _, v := range numbers() {
		for n := 1; n <= 32; n++ {
			if !Fits(v, n) {
				continue
			}
			for _, at := range []int{0, (32 - n) / 2, 32 - n} {
				w, _ := Put(0xdeadbeef, at, n, uint32(v))
				f, _ := Get(w, at, n)
				if x, e := Sign(f, n); x != v || e != api.OK {
					t.Errorf("%d from a field of %d bits at %d: %d, %d", v, n, at, x, e)
				}
			}
		}
	}
}
