package image

import (
	"bytes"
	"encoding/binary"
	"math"
	"math/big"
	"math/rand/v2"
	"reflect"
	"slices"
	"testing"

	"spinnaker/api"
	"spinnaker/dec"
	"spinnaker/enc"
)

const (
	most  = math.MaxInt
	least = math.MinInt
)

// The limits as numbers, so that the tests say what the document says.
const (
	codeBase = 65536
	dataBase = 16777216
	maxCode  = 262144
	maxData  = 4096
	maxHarts = 8
)

// words are instructions, and words that encode none.
var words = []uint32{0x73, 0x100073, 0, 0xffffffff, 0xfff00093, 0x12345678, 0x80000000, 0x13, 0x1000302f, 0xfeedface}

// codeOf, dataOf and entriesOf return lists of n elements that are not all alike.
func codeOf(n int) []uint32 {
	l := make([]uint32, n)
	for i := range l {
		l[i] = words[i%len(words)] + uint32(i/len(words))<<7
	}
	return l
}

func dataOf(n int) []int {
	values := []int{0, -1, 1, most, least, 0x0123456789abcdef, -0x0123456789abcdef, 1 << 31, -1 << 31, 1 << 32}
	l := make([]int, n)
	for i := range l {
		l[i] = values[i%len(values)] + i/len(values)
	}
	return l
}

func entriesOf(n, code int) []int {
	l := make([]int, n)
	for i := range l {
		l[i] = (i*i*5 + i*3) % max(code, 1)
	}
	return l
}

func imageOf(code, data, harts int) api.Image {
	return api.Image{Code: codeOf(code), Data: dataOf(data), Entries: entriesOf(harts, code)}
}

// copied returns an image with the same numbers in other memory.
func copied(im api.Image) api.Image {
	return api.Image{Code: slices.Clone(im.Code), Data: slices.Clone(im.Data), Entries: slices.Clone(im.Entries)}
}

// same reports whether images have the same numbers; a list that is nil and one
// that is empty are the same.
func same(a, b api.Image) bool {
	return slices.Equal(a.Code, b.Code) && slices.Equal(a.Data, b.Data) && slices.Equal(a.Entries, b.Entries)
}

func isZero(im api.Image) bool {
	return len(im.Code) == 0 && len(im.Data) == 0 && len(im.Entries) == 0
}

// wantCheck is P8.1 and the definition of validity.
func wantCheck(im api.Image) api.Errno {
	if len(im.Code) > maxCode || len(im.Data) > maxData {
		return api.ErrLong
	}
	valid := len(im.Code) >= 1 && len(im.Entries) >= 1 && len(im.Entries) <= maxHarts
	for _, e := range im.Entries {
		valid = valid && e >= 0 && e < len(im.Code)
	}
	if !valid {
		return api.ErrRange
	}
	return api.OK
}

// wantBytes is the definition of the bytes of an image.
func wantBytes(im api.Image) []byte {
	b := []byte{0x53, 0x50, 0x49, 0x4e}
	for _, n := range []int{len(im.Code), len(im.Data), len(im.Entries)} {
		b = binary.LittleEndian.AppendUint32(b, uint32(n))
	}
	for _, w := range im.Code {
		b = binary.LittleEndian.AppendUint32(b, w)
	}
	for _, v := range im.Data {
		b = binary.LittleEndian.AppendUint64(b, uint64(v))
	}
	for _, v := range im.Entries {
		b = binary.LittleEndian.AppendUint32(b, uint32(v))
	}
	return b
}

// wantImage finds the image whose bytes are b, by where each part must stand.
func wantImage(b []byte) (api.Image, bool) {
	if len(b) < 16 || string(b[:4]) != "SPIN" {
		return api.Image{}, false
	}
	u32 := func(at int) int { return int(binary.LittleEndian.Uint32(b[at:])) }
	code, data, harts := u32(4), u32(8), u32(12)
	if 16+4*code+8*data+4*harts != len(b) {
		return api.Image{}, false
	}
	var im api.Image
	for i := range code {
		im.Code = append(im.Code, uint32(u32(16+4*i)))
	}
	for i := range data {
		im.Data = append(im.Data, int(binary.LittleEndian.Uint64(b[16+4*code+8*i:])))
	}
	for i := range harts {
		im.Entries = append(im.Entries, u32(16+4*code+8*data+4*i))
	}
	return im, wantCheck(im) == api.OK
}

// P8.1.

// checkIs tests Check, and that Encode returns its error.
func checkIs(t *testing.T, im api.Image, want api.Errno) {
	t.Helper()
	if e := Check(im); e != want {
		t.Errorf("Check of %d words, %d doublewords, entries %v: %d; want %d", len(im.Code), len(im.Data), im.Entries, e, want)
	}
	if b, e := Encode(im); want != api.OK && (b != nil || e != want) {
		t.Errorf("Encode of %d words, %d doublewords, entries %v: %d bytes, %d; want %d", len(im.Code), len(im.Data), im.Entries, len(b), e, want)
	}
}

func TestCheckExamples(t *testing.T) {
	for _, c := range []struct {
		code, data int
		entries    []int
		want       api.Errno
	}{
		{1, 0, []int{0}, api.OK},
		{1, 1, []int{0}, api.OK},
		{1, 0, []int{0, 0, 0, 0, 0, 0, 0, 0}, api.OK},
		{1, 0, []int{0, 0, 0, 0, 0, 0, 0, 0, 0}, api.ErrRange},
		{262144, 4096, []int{262143}, api.OK},
		{262144, 4096, []int{262144}, api.ErrRange},
		{262145, 0, []int{0}, api.ErrLong},
		{262144, 4097, []int{0}, api.ErrLong},
		{1, 4097, []int{0}, api.ErrLong},
		{262145, 4097, []int{0}, api.ErrLong},
		{0, 0, nil, api.ErrRange},
		{0, 0, []int{0}, api.ErrRange},
		{0, 5, []int{-1}, api.ErrRange},
		{5, 5, nil, api.ErrRange},
		{5, 5, []int{}, api.ErrRange},
		{5, 5, []int{4, 0}, api.OK},
		{5, 5, []int{4, 5}, api.ErrRange},
		{5, 5, []int{5, 4}, api.ErrRange},
		{5, 5, []int{-1, 0}, api.ErrRange},
		{5, 5, []int{0, -1}, api.ErrRange},
		{5, 5, []int{0, 1, 2, 3, 4, 0, 1, 5}, api.ErrRange},
		{5, 5, []int{1 << 32}, api.ErrRange},
		{5, 5, []int{most}, api.ErrRange},
		{5, 5, []int{least}, api.ErrRange},
	} {
		checkIs(t, api.Image{Code: codeOf(c.code), Data: dataOf(c.data), Entries: c.entries}, c.want)
	}
	checkIs(t, api.Image{}, api.ErrRange)
	checkIs(t, api.Image{Code: []uint32{}, Data: []int{}, Entries: []int{}}, api.ErrRange)
}

// An image that is too long is that first of all, whatever else is wrong.
func TestCheckLongFirst(t *testing.T) {
	nine := make([]int, 9)
	for _, entries := range [][]int{nil, {}, {-1}, {maxCode + 1}, {most}, {least}, nine, make([]int, 1000)} {
		checkIs(t, api.Image{Code: codeOf(maxCode + 1), Entries: entries}, api.ErrLong)
		checkIs(t, api.Image{Data: dataOf(maxData + 1), Entries: entries}, api.ErrLong)
		checkIs(t, api.Image{Code: codeOf(1), Data: dataOf(maxData + 1), Entries: entries}, api.ErrLong)
	}
}

func TestCheckSizes(t *testing.T) {
	for _, code := range []int{0, 1, 2, 3, 1000, maxCode - 1, maxCode, maxCode + 1, maxCode + 2, 2 * maxCode} {
		for _, data := range []int{0, 1, 2, maxData - 1, maxData, maxData + 1, 2 * maxData} {
			for _, harts := range []int{0, 1, 2, 7, 8, 9, 10, 16, 100} {
				im := api.Image{Code: make([]uint32, code), Data: make([]int, data), Entries: make([]int, harts)}
				if e := Check(im); e != wantCheck(im) {
					t.Errorf("%d words, %d doublewords, %d harts: %d", code, data, harts, e)
				}
			}
		}
	}
}

// Each entry is looked at, wherever it stands.
func TestCheckEntries(t *testing.T) {
	for _, code := range []int{1, 2, 7, maxCode} {
		im := imageOf(code, 2, 1)
		for harts := 1; harts <= maxHarts; harts++ {
			for at := range harts {
				for _, v := range []int{0, 1, code - 1, code, code + 1, -1, -code, most, least, 1 << 32, 1<<32 + code - 1, -1 << 32, 1<<31 - 1, 1 << 31, codeBase} {
					im.Entries = entriesOf(harts, code)
					im.Entries[at] = v
					if e := Check(im); e != wantCheck(im) {
						t.Errorf("%d words, entries %v: %d", code, im.Entries, e)
					}
				}
			}
		}
	}
}

// Words need not encode instructions.
func TestCheckAnyWords(t *testing.T) {
	for _, w := range words {
		checkIs(t, api.Image{Code: []uint32{w}, Entries: []int{0}}, api.OK)
	}
}

// P8.2: PC and Addr.

func TestAddresses(t *testing.T) {
	for _, c := range []struct{ i, pc, addr int }{
		{0, 65536, 16777216},
		{1, 65540, 16777224},
		{2, 65544, 16777232},
		{-1, 65532, 16777208},
		{-16384, 0, 16646144},
		{-2097152, -8323072, 0},
		{262143, 1114108, 18874360},
		{4095, 81916, 16809976},
		{1 << 61, -1<<63 + 65536, 16777216},
		{1 << 62, 65536, 16777216},
		{-1 << 61, -1<<63 + 65536, 16777216},
		{1 << 60, 1<<62 + 65536, -1<<63 + 16777216},
		{most, 65532, 16777208},
		{least, 65536, 16777216},
		{1<<61 - 1, -1<<63 + 65532, 16777208},
	} {
		if pc := PC(c.i); pc != c.pc {
			t.Errorf("PC(%d) = %d; want %d", c.i, pc, c.pc)
		}
		if addr := Addr(c.i); addr != c.addr {
			t.Errorf("Addr(%d) = %d; want %d", c.i, addr, c.addr)
		}
	}
}

// modulo returns base + size*i modulo 2^64, as a signed number.
func modulo(base, size, i int) int {
	v := new(big.Int).Mul(big.NewInt(int64(size)), big.NewInt(int64(i)))
	v.Add(v, big.NewInt(int64(base)))
	v.Mod(v, new(big.Int).Lsh(big.NewInt(1), 64))
	return int(v.Uint64())
}

func TestAddressesModulo(t *testing.T) {
	r := rand.New(rand.NewPCG(8, 2))
	for range 20000 {
		i := int(r.Uint64()) >> r.IntN(64)
		if pc := PC(i); pc != modulo(codeBase, 4, i) {
			t.Fatalf("PC(%d) = %d", i, pc)
		}
		if addr := Addr(i); addr != modulo(dataBase, 8, i) {
			t.Fatalf("Addr(%d) = %d", i, addr)
		}
	}
}

// P8.2: Fetch and Place.

// images are valid and invalid, with few and many words and doublewords.
func images() []api.Image {
	return []api.Image{
		{}, imageOf(1, 0, 1), imageOf(2, 3, 1), imageOf(10, 10, 2), imageOf(100, 50, 8),
		imageOf(maxCode, maxData, 8), imageOf(maxCode+2, maxData+3, 1), imageOf(3, 2, 0), imageOf(0, 4, 1), imageOf(5, 4, 9),
		{Code: codeOf(4), Data: dataOf(6), Entries: []int{-1}}, {Code: codeOf(4), Entries: []int{4}},
	}
}

// probes are addresses around and between those of n elements of size bytes each
// from base on, and such that wrap around.
func probes(base, size, n int) []int {
	l := []int{0, 1, -1, 4, -4, 8, -8, most, least, most - 3, most - 7, least + 1, least + 4, least + 8, codeBase, dataBase, -codeBase, -dataBase}
	for _, i := range []int{0, 1, 2, n / 2, n - 2, n - 1, n, n + 1} {
		for d := -size - 1; d <= size+1; d++ {
			l = append(l, base+size*i+d)
		}
	}
	for _, far := range []int{1 << 31, 1 << 32, 1 << 33, 1 << 34, 1 << 35, 1 << 61, 1 << 62, least} {
		l = append(l, base+far, base-far, base+far+size, base-far+size, far, -far, far+size)
	}
	// The distance of these from base overflows.
	return append(l, least+base, least+base-size, least+base-1, least+base+size, most-base, most-base+1)
}

// wantIndex is the only i from 0 to n-1 with base + size*i = addr, without any
// remainder modulo 2^64.
func wantIndex(addr, base, size, n int) (int, bool) {
	d := new(big.Int).Sub(big.NewInt(int64(addr)), big.NewInt(int64(base)))
	i, rest := new(big.Int).QuoRem(d, big.NewInt(int64(size)), new(big.Int))
	if rest.Sign() != 0 || i.Sign() < 0 || i.Cmp(big.NewInt(int64(n))) >= 0 {
		return 0, false
	}
	return int(i.Int64()), true
}

func TestFetchProbes(t *testing.T) {
	for _, im := range images() {
		found := 0
		for _, pc := range probes(codeBase, 4, len(im.Code)) {
			var want api.Instr
			i, there := wantIndex(pc, codeBase, 4, len(im.Code))
			if there {
				want = dec.Decode(im.Code[i])
				found++
			}
			if in, ok := Fetch(im, pc); in != want || ok != there {
				t.Errorf("Fetch of %d words at %d: %+v, %v; want %+v, %v", len(im.Code), pc, in, ok, want, there)
			}
		}
		if found < min(len(im.Code), 5) {
			t.Errorf("%d words: only %d probes found one", len(im.Code), found)
		}
	}
}

func TestPlaceProbes(t *testing.T) {
	for _, im := range images() {
		found := 0
		for _, addr := range probes(dataBase, 8, len(im.Data)) {
			want, there := wantIndex(addr, dataBase, 8, len(im.Data))
			if there {
				found++
			}
			if i, ok := Place(im, addr); i != want || ok != there {
				t.Errorf("Place of %d doublewords at %d: %d, %v; want %d, %v", len(im.Data), addr, i, ok, want, there)
			}
		}
		if found < min(len(im.Data), 5) {
			t.Errorf("%d doublewords: only %d probes found one", len(im.Data), found)
		}
	}
}

func TestFetchExamples(t *testing.T) {
	im := api.Image{Code: []uint32{0x73, 0xfff00093, 0, 0xffffffff}}
	for _, c := range []struct {
		pc   int
		want api.Instr
		ok   bool
	}{
		{65536, api.Instr{Op: api.OpEcall}, true},
		{65540, api.Instr{Op: api.OpAddi, Rd: 1, Imm: -1}, true},
		{65544, api.Instr{Op: api.OpIllegal}, true},
		{65548, api.Instr{Op: api.OpIllegal, Imm: 4294967295}, true},
		{65552, api.Instr{}, false},
		{65532, api.Instr{}, false},
		{65535, api.Instr{}, false},
		{65537, api.Instr{}, false},
		{65538, api.Instr{}, false},
		{65539, api.Instr{}, false},
		{65549, api.Instr{}, false},
		{0, api.Instr{}, false},
		{-65536, api.Instr{}, false},
		{most, api.Instr{}, false},
		{least, api.Instr{}, false},
	} {
		if i, ok := Fetch(im, c.pc); i != c.want || ok != c.ok {
			t.Errorf("Fetch at %d: %+v, %v; want %+v, %v", c.pc, i, ok, c.want, c.ok)
		}
	}
}

func TestPlaceExamples(t *testing.T) {
	im := api.Image{Data: []int{5, 6, 7}}
	for _, c := range []struct {
		addr, want int
		ok         bool
	}{
		{16777216, 0, true},
		{16777224, 1, true},
		{16777232, 2, true},
		{16777240, 0, false},
		{16777208, 0, false},
		{16777220, 0, false},
		{16777228, 0, false},
		{16777225, 0, false},
		{16777215, 0, false},
		{0, 0, false},
		{65536, 0, false},
		{-16777216, 0, false},
		{most, 0, false},
		{least, 0, false},
	} {
		if i, ok := Place(im, c.addr); i != c.want || ok != c.ok {
			t.Errorf("Place at %d: %d, %v; want %d, %v", c.addr, i, ok, c.want, c.ok)
		}
	}
}

// Fetch and Place find every element at its address, and Fetch an instruction
// that enc encoded.
func TestFetchPlaceEvery(t *testing.T) {
	im := imageOf(maxCode, maxData, 8)
	for i := range im.Code {
		if in, ok := Fetch(im, PC(i)); in != dec.Decode(im.Code[i]) || !ok {
			t.Fatalf("word %d: %+v, %v", i, in, ok)
		}
	}
	for i := range im.Data {
		if at, ok := Place(im, Addr(i)); at != i || !ok {
			t.Fatalf("doubleword %d: %d, %v", i, at, ok)
		}
	}
	want := api.Instr{Op: api.OpSd, A: 2, B: 8, Imm: -16}
	w, _ := enc.Encode(want)
	if in, ok := Fetch(api.Image{Code: []uint32{0, w}}, PC(1)); in != want || !ok {
		t.Errorf("%+v, %v; want %+v", in, ok, want)
	}
}

// P8.3: Encode.

func TestEncodeExample(t *testing.T) {
	im := api.Image{Code: []uint32{0x12345678, 0xfff00093}, Data: []int{-2, 0x0102030405060708}, Entries: []int{1}}
	want := []byte{
		'S', 'P', 'I', 'N', 2, 0, 0, 0, 2, 0, 0, 0, 1, 0, 0, 0,
		0x78, 0x56, 0x34, 0x12, 0x93, 0, 0xf0, 0xff,
		0xfe, 0xff, 0xff, 0xff, 0xff, 0xff, 0xff, 0xff, 8, 7, 6, 5, 4, 3, 2, 1,
		1, 0, 0, 0,
	}
	if b, e := Encode(im); !bytes.Equal(b, want) || e != api.OK {
		t.Errorf("% x, %d; want % x", b, e, want)
	}
	if got, e := Decode(want); !reflect.DeepEqual(got, im) || e != api.OK {
		t.Errorf("%+v, %d; want %+v", got, e, im)
	}
}

func TestEncodeSmallest(t *testing.T) {
	b, e := Encode(api.Image{Code: []uint32{0}, Entries: []int{0}})
	if len(b) != 4+12+4+4 || e != api.OK {
		t.Errorf("%d bytes, %d", len(b), e)
	}
}

// valid returns valid images of all shapes, up to the limits.
func valid() []api.Image {
	var l []api.Image
	for _, code := range []int{1, 2, 3, 9, 255, 256, 257} {
		for _, data := range []int{0, 1, 2, 5, 256} {
			for _, harts := range []int{1, 2, 7, 8} {
				l = append(l, imageOf(code, data, harts))
			}
		}
	}
	large := imageOf(maxCode, maxData, maxHarts)
	large.Entries[3] = maxCode - 1
	return append(l, large, imageOf(maxCode, 0, 1), imageOf(1, maxData, maxHarts), imageOf(65536, 3, 2))
}

func TestEncodeBytes(t *testing.T) {
	for _, im := range valid() {
		if b, e := Encode(im); !bytes.Equal(b, wantBytes(im)) || e != api.OK {
			t.Errorf("%d words, %d doublewords, %d harts: %d bytes, %d", len(im.Code), len(im.Data), len(im.Entries), len(b), e)
		}
	}
}

// P8.3: Decode.

// noForm tests that Decode finds no image.
func noForm(t *testing.T, b []byte, what string) {
	t.Helper()
	if im, e := Decode(b); !isZero(im) || e != api.ErrForm {
		t.Errorf("%s: %d words, %d doublewords, %d harts, %d; want ErrForm", what, len(im.Code), len(im.Data), len(im.Entries), e)
	}
}

// agrees tests Decode against the reference.
func agrees(t *testing.T, b []byte) bool {
	t.Helper()
	want, ok := wantImage(b)
	if !ok {
		noForm(t, b, "not the bytes of an image")
		return false
	}
	if im, e := Decode(b); !same(im, want) || e != api.OK {
		t.Errorf("% x: %+v, %d; want %+v", b, im, e, want)
	}
	return true
}

// Bytes that end in the middle of each part, and with each number of bytes behind
// the last entry.
func TestDecodeOtherLengths(t *testing.T) {
	noForm(t, nil, "nil")
	noForm(t, []byte{}, "empty")
	for _, im := range []api.Image{imageOf(1, 0, 1), imageOf(3, 2, 2), imageOf(2, 5, 8)} {
		b, _ := Encode(im)
		for n := range b {
			// The first ones have the rest in the memory behind them.
			noForm(t, b[:n], "the end lies behind")
			noForm(t, slices.Clip(slices.Clone(b[:n])), "the end is missing")
		}
		for n := 1; n <= 20; n++ {
			noForm(t, append(slices.Clone(b), make([]byte, n)...), "zeros behind the end")
			noForm(t, append(slices.Clone(b), b[:n]...), "letters behind the end")
		}
		noForm(t, append(slices.Clone(b), b...), "twice")
		noForm(t, append([]byte{0}, b...), "a byte ahead")
		noForm(t, b[1:], "the first letter is missing")
	}
}

func TestDecodeOtherLetters(t *testing.T) {
	b, _ := Encode(imageOf(3, 2, 2))
	for at := range 4 {
		for v := range 256 {
			c := slices.Clone(b)
			c[at] = byte(v)
			agrees(t, c)
		}
	}
	for _, s := range []string{"spin", "SPIM", "NIPS", "SPI\x00", "\x00PIN", "SPAN", "\x7fELF"} {
		noForm(t, append([]byte(s), b[4:]...), s)
	}
}

// with returns b with a number of four bytes replaced.
func with(b []byte, at int, v uint32) []byte {
	c := slices.Clone(b)
	binary.LittleEndian.PutUint32(c[at:], v)
	return c
}

// Counts that say more or less than there is, also such of 2^31 and more, whose
// sizes are 0 modulo 2^32.
func TestDecodeOtherCounts(t *testing.T) {
	for _, im := range []api.Image{imageOf(1, 0, 1), imageOf(3, 2, 2), imageOf(2, 5, 8), imageOf(9, 1, 1)} {
		b := wantBytes(im)
		for _, at := range []int{4, 8, 12} {
			own := binary.LittleEndian.Uint32(b[at:])
			for _, v := range []uint32{0, 1, 2, 3, own - 1, own + 1, own + 2, own | 1<<29, own | 1<<30, own | 1<<31, 1 << 31, 1<<31 + 1, 1<<31 - 1, 1<<32 - 1, 1<<32 - 2, maxCode + 1, maxData + 1, 9, own << 8, own << 24} {
				agrees(t, with(b, at, v))
			}
			noForm(t, with(b, at, 1<<31|own), "2^31 more")
			noForm(t, with(b, at, 1<<32-1), "all ones")
		}
		c := with(with(with(b, 4, 1<<32-1), 8, 1<<32-1), 12, 1<<32-1)
		noForm(t, c, "all counts all ones")
		noForm(t, c[:16], "counts and nothing behind")
	}
}

// Whole bytes of images that are not valid.
func TestDecodeInvalid(t *testing.T) {
	for what, im := range map[string]api.Image{
		"too much code":                 imageOf(maxCode+1, 0, 1),
		"too much data":                 imageOf(1, maxData+1, 1),
		"too much of both":              imageOf(maxCode+1, maxData+1, 1),
		"too many harts":                imageOf(4, 4, 9),
		"far too many harts":            imageOf(4, 4, 100),
		"no hart":                       imageOf(4, 4, 0),
		"no code":                       imageOf(0, 4, 1),
		"no code and no hart":           imageOf(0, 4, 0),
		"nothing":                       {},
		"an entry behind the last word": {Code: codeOf(4), Data: dataOf(1), Entries: []int{0, 4}},
		"an entry far behind":           {Code: codeOf(4), Entries: []int{codeBase}},
		"an entry of 2^31":              {Code: codeOf(4), Entries: []int{1 << 31}},
		"an entry of 2^31 and more":     {Code: codeOf(4), Entries: []int{0, 1<<31 + 1, 0}},
		"an entry of -1":                {Code: codeOf(4), Entries: []int{-1}},
		"an entry of maxCode":           {Code: codeOf(maxCode), Entries: []int{maxCode}},
	} {
		noForm(t, wantBytes(im), what)
	}
}

// Every change of a byte makes the bytes of another image, or of none.
func TestDecodeChangedBytes(t *testing.T) {
	changed := 0
	for _, im := range []api.Image{imageOf(1, 0, 1), imageOf(3, 2, 2), imageOf(2, 1, 8)} {
		b, _ := Encode(im)
		for at := range b {
			for v := range 256 {
				c := slices.Clone(b)
				c[at] = byte(v)
				if agrees(t, c) && !bytes.Equal(b, c) {
					changed++
				}
			}
		}
	}
	if changed < 1000 {
		t.Errorf("only %d changed images", changed)
	}
}

// Random bytes behind small counts.
func TestDecodeRandomBytes(t *testing.T) {
	r := rand.New(rand.NewPCG(8, 3))
	images := 0
	for range 200000 {
		code, data, harts := r.IntN(4), r.IntN(3), r.IntN(4)
		b := []byte{'S', 'P', 'I', 'N', byte(code), 0, 0, 0, byte(data), 0, 0, 0, byte(harts), 0, 0, 0}
		n := 4*code + 8*data + 4*harts + max(r.IntN(6)-4, 0) - max(r.IntN(6)-4, 0)
		for range n {
			b = append(b, byte(r.IntN(256)*r.IntN(2)*r.IntN(2)))
		}
		if agrees(t, b) {
			images++
		}
	}
	if images < 1000 {
		t.Errorf("only %d images", images)
	}
}

// P8.4.

func TestDecodeInvertsEncode(t *testing.T) {
	for _, im := range valid() {
		b, e := Encode(im)
		if e != api.OK {
			t.Fatal(e)
		}
		if got, e := Decode(b); !same(got, im) || e != api.OK {
			t.Errorf("%d words, %d doublewords, %d harts: %d, %d, %d; %d", len(im.Code), len(im.Data), len(im.Entries), len(got.Code), len(got.Data), len(got.Entries), e)
		}
	}
}

// Rule 3: arguments are neither modified nor kept, and results are new memory.

func TestImagesAreNotModified(t *testing.T) {
	im := imageOf(7, 5, 3)
	before := copied(im)
	// Behind the length of the lists, there is memory that is none of theirs.
	part := api.Image{Code: im.Code[:4:7], Data: im.Data[:2:5], Entries: []int{3, 0}[:1:2]}
	Check(part)
	Fetch(part, PC(0))
	Place(part, Addr(0))
	Encode(part)
	Encode(im)
	if !same(im, before) || part.Entries[:2][1] != 0 {
		t.Errorf("%+v; before: %+v", im, before)
	}
}

func TestResultsAreNew(t *testing.T) {
	im := imageOf(7, 5, 3)
	b, _ := Encode(im)
	before := slices.Clone(b)
	got, _ := Decode(b)
	if !bytes.Equal(b, before) {
		t.Error("Decode modified its argument")
	}
	clear(b)
	if !same(got, im) {
		t.Error("what Decode returned hangs on its argument")
	}
	got.Code[0]++
	got.Data[0]++
	got.Entries[0]++
	if c, _ := Encode(im); !bytes.Equal(c, before) {
		t.Error("Encode returned the same memory twice, or Decode that of another image")
	}
}
