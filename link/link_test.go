package link

import (
	"math"
	"math/big"
	"math/rand/v2"
	"slices"
	"testing"

	"spinnaker/alu"
	"spinnaker/api"
	"spinnaker/dec"
	"spinnaker/enc"
	"spinnaker/image"
	"spinnaker/isa"
	"spinnaker/relax"
	"spinnaker/unit"
)

const (
	most  = math.MaxInt
	least = math.MinInt
)

// The limits as numbers, so that the tests say what the document says.
const (
	dataBase = 16777216
	maxCode  = 262144
	maxData  = 4096
	maxHarts = 8
	maxCells = 200
	maxFrame = 250
)

// jumpReach is the greatest number of words from a jump back to a label that it
// reaches; forward, it reaches one word less.
const jumpReach = 1 << 18

type items = []api.Item

func instr(i api.Instr) api.Item { return api.Item{Kind: api.ItemInstr, Instr: i} }
func label(n int) api.Item       { return api.Item{Kind: api.ItemLabel, N: n} }
func jumpTo(n int) api.Item      { return api.Item{Kind: api.ItemJump, N: n} }
func branchTo(op, a, b, n int) api.Item {
	return api.Item{Kind: api.ItemIf, N: n, Instr: api.Instr{Op: op, A: a, B: b}}
}
func loaded(rd, n int) api.Item {
	return api.Item{Kind: api.ItemConst, N: n, Instr: api.Instr{Rd: rd}}
}
func noted(it api.Item, n int) api.Item { it.Note = n; return it }
func beqTo(n int) api.Item              { return branchTo(api.OpBeq, 5, 6, n) }

var (
	nop   = instr(api.Instr{Op: api.OpAddi})
	ecall = instr(api.Instr{Op: api.OpEcall})
	// wrong is not well formed: there is no such operation.
	wrong = instr(api.Instr{})
)

// fill returns n instructions that do nothing.
func fill(n int) items { return slices.Repeat(items{nop}, n) }

// alone returns parts of one unit and no frame.
func alone(l items) []Part { return []Part{{Unit: l}} }

// framed returns parts of one ecall each with frames of these sizes.
func framed(sizes ...int) []Part {
	var l []Part
	for _, n := range sizes {
		l = append(l, Part{Unit: items{ecall}, Frame: n})
	}
	return l
}

// numbers returns n values that are not all alike.
func numbers(n int) []int {
	values := []int{7, -1, most, least, 0, 1, 0x0123456789abcdef, -1 << 31, 1 << 32}
	l := make([]int, n)
	for i := range l {
		l[i] = values[i%len(values)] + i/len(values)
	}
	return l
}

// copied returns the same parts in other memory.
func copied(l []Part) []Part {
	c := slices.Clone(l)
	for k := range c {
		c[k].Unit = slices.Clone(c[k].Unit)
	}
	return c
}

func sameParts(a, b []Part) bool {
	return slices.EqualFunc(a, b, func(p, q Part) bool { return p.Frame == q.Frame && slices.Equal(p.Unit, q.Unit) })
}

// sameImage reports whether images have the same numbers; a list that is nil and
// one that is empty are the same.
func sameImage(a, b api.Image) bool {
	return slices.Equal(a.Code, b.Code) && slices.Equal(a.Data, b.Data) && slices.Equal(a.Entries, b.Entries)
}

// The reference: what the chapter says, written down in another way.

// wantStub is the code of the stub of a hart whose frame begins at an index of an
// image: the upper bits, rounded, and what remains.
func wantStub(frame int) []api.Instr {
	addr := dataBase + 8*frame
	upper := (addr + 2048) / 4096
	l := []api.Instr{{Op: api.OpLui, Rd: 4, Imm: 4096}, {Op: api.OpLui, Rd: 2, Imm: upper}}
	if rest := addr - 4096*upper; rest != 0 {
		l = append(l, api.Instr{Op: api.OpAddiw, Rd: 2, A: 2, Imm: rest})
	}
	return l
}

// wantUnit is the code of a valid unit, and the Note of each instruction. The unit
// is laid out without the stub, because distances do not depend on where it stands.
func wantUnit(l items) ([]api.Instr, []int, api.Errno) {
	var plain items
	for _, it := range l {
		if it.Kind != 4 {
			plain = append(plain, it)
			continue
		}
		for _, i := range unit.Load(it.Instr.Rd, it.N) {
			plain = append(plain, noted(instr(i), it.Note))
		}
	}
	return relax.Lay(plain)
}

// wantSizes is the errors that do not hang on units.
func wantSizes(l []Part, cells []int) api.Errno {
	if len(l) == 0 || len(l) >= 9 {
		return 29
	}
	if len(cells) >= 201 {
		return 30
	}
	total := big.NewInt(int64(len(cells)))
	for _, p := range l {
		if p.Frame <= -1 || p.Frame >= 251 {
			return 31
		}
		total.Add(total, big.NewInt(int64(p.Frame)))
	}
	if total.Cmp(big.NewInt(maxData)) > 0 {
		return 31
	}
	return 0
}

// wantLink is the image, the Notes of its words, or the first error.
func wantLink(l []Part, cells []int) (api.Image, []int, api.Errno) {
	if e := wantSizes(l, cells); e != 0 {
		return api.Image{}, nil, e
	}
	im := api.Image{Data: slices.Clone(cells)}
	var notes []int
	for _, p := range l {
		if _, e := unit.Check(p.Unit); e != 0 {
			return api.Image{}, nil, 1
		}
		code, own, e := wantUnit(p.Unit)
		if e != 0 {
			return api.Image{}, nil, 33
		}
		stub := wantStub(len(im.Data))
		im.Entries = append(im.Entries, len(im.Code))
		for _, i := range slices.Concat(stub, code) {
			w, _ := enc.Encode(i)
			im.Code = append(im.Code, w)
		}
		notes = slices.Concat(notes, make([]int, len(stub)), own)
		for range p.Frame {
			im.Data = append(im.Data, 0)
		}
	}
	if len(im.Code) >= 262145 {
		return api.Image{}, nil, 32
	}
	return im, notes, 0
}

// links tests Link of the parts and cells against the reference and P11.2, and
// returns what it returned.
func links(t *testing.T, l []Part, cells []int) (api.Image, []int) {
	t.Helper()
	partsBefore, cellsBefore := copied(l), slices.Clone(cells)
	im, notes, e := Link(l, cells)
	want, wantNotes, wantE := wantLink(l, cells)
	if e != wantE || !sameImage(im, want) || !slices.Equal(notes, wantNotes) {
		t.Errorf("Link of %d parts, %d cells: %d words, %d doublewords, entries %v, %d notes, %d; want %d, %d, %v, %d, %d",
			len(l), len(cells), len(im.Code), len(im.Data), im.Entries, len(notes), e, len(want.Code), len(want.Data), want.Entries, len(wantNotes), wantE)
		for k := range min(len(im.Code), len(want.Code), len(notes), len(wantNotes)) {
			if im.Code[k] != want.Code[k] || notes[k] != wantNotes[k] {
				t.Errorf("word %d: %+v, %d; want %+v, %d", k, dec.Decode(im.Code[k]), notes[k], dec.Decode(want.Code[k]), wantNotes[k])
				break
			}
		}
	}
	if !sameParts(l, partsBefore) || !slices.Equal(cells, cellsBefore) {
		t.Error("an argument was modified")
	}
	if e == api.OK {
		isWhole(t, im, notes, cells)
	}
	return im, notes
}

// isWhole is P11.2, and that each word has a Note and encodes an instruction.
func isWhole(t *testing.T, im api.Image, notes, cells []int) {
	t.Helper()
	if e := image.Check(im); e != api.OK {
		t.Errorf("the image is not valid: %d", e)
	}
	if len(notes) != len(im.Code) {
		t.Errorf("%d notes of %d words", len(notes), len(im.Code))
	}
	if len(im.Data) < len(cells) || !slices.Equal(im.Data[:len(cells)], cells) {
		t.Errorf("the cells are not those of %v", cells)
	}
	for k, v := range im.Data[min(len(cells), len(im.Data)):] {
		if v != 0 {
			t.Errorf("doubleword %d behind the cells is %d", k, v)
		}
	}
	for k, w := range im.Code {
		if !dec.Is(w) {
			t.Errorf("word %d encodes nothing", k)
		}
	}
}

// fails tests that Link returns the error, and nothing beside it.
func fails(t *testing.T, l []Part, cells []int, want api.Errno) {
	t.Helper()
	im, notes, e := Link(l, cells)
	if e != want || len(im.Code) != 0 || len(im.Data) != 0 || len(im.Entries) != 0 || len(notes) != 0 {
		t.Errorf("Link of %d parts, %d cells: %d words, %d doublewords, entries %v, %d notes, %d; want %d",
			len(l), len(cells), len(im.Code), len(im.Data), im.Entries, len(notes), e, want)
	}
	if _, _, e := wantLink(l, cells); e != want {
		t.Fatalf("the reference: %d; want %d", e, want)
	}
}

// codeIs tests the code and the Notes of an image.
func codeIs(t *testing.T, im api.Image, notes []int, want []api.Instr, wantNotes ...int) {
	t.Helper()
	var code []api.Instr
	for _, w := range im.Code {
		code = append(code, dec.Decode(w))
	}
	if !slices.Equal(code, want) || !slices.Equal(notes, wantNotes) {
		t.Errorf("%+v, %v; want %+v, %v", code, notes, want, wantNotes)
	}
}

// The words of the first stub of an image without cells.
var (
	luiData  = api.Instr{Op: api.OpLui, Rd: 4, Imm: 4096}
	luiFrame = api.Instr{Op: api.OpLui, Rd: 2, Imm: 4096}
)

// P11.1: Stub.

func TestStub(t *testing.T) {
	for _, c := range []struct{ frame, addr int }{
		{0, 16777216}, {1, 16777224}, {2, 16777232}, {255, 16779256}, {256, 16779264}, {257, 16779272}, {512, 16781312},
		{maxData - 1, 16809976}, {maxData, 16809984}, {1 << 20, 25165824},
		{-1, 16777208}, {-2, 16777200}, {-2097152, 0}, {-2097153, -8},
		{1 << 60, least + 16777216}, {1<<60 - 2097152, least}, {1<<60 - 2097153, most - 7}, {1 << 61, 16777216}, {-1 << 61, 16777216}, {1<<61 + 1, 16777224},
		{most, 16777208}, {least, 16777216}, {least + 1, 16777224},
	} {
		want := items{
			{Kind: 4, Instr: api.Instr{Rd: 4}, N: 16777216},
			{Kind: 4, Instr: api.Instr{Rd: 2}, N: c.addr},
		}
		if l := Stub(c.frame); !slices.Equal(l, want) {
			t.Errorf("Stub(%d) = %+v; want %+v", c.frame, l, want)
		}
	}
}

func TestStubOfAnyFrame(t *testing.T) {
	r := rand.New(rand.NewPCG(11, 1))
	for range 20000 {
		frame := int(r.Uint64()) >> r.IntN(64)
		addr := new(big.Int).Mul(big.NewInt(8), big.NewInt(int64(frame)))
		addr.Add(addr, big.NewInt(dataBase))
		addr.Mod(addr, new(big.Int).Lsh(big.NewInt(1), 64))
		want := items{loaded(4, dataBase), loaded(2, int(addr.Uint64()))}
		l := Stub(frame)
		if !slices.Equal(l, want) {
			t.Fatalf("Stub(%d) = %+v; want %+v", frame, l, want)
		}
		if _, e := unit.Check(l); e != api.OK {
			t.Fatalf("Stub(%d) is no unit: %d", frame, e)
		}
		if x := execute(t, unit.Expand(l)); x != [32]int{2: int(addr.Uint64()), 4: dataBase} {
			t.Fatalf("Stub(%d) makes the registers %v", frame, x)
		}
	}
}

// execute executes items that are instructions which load numbers.
func execute(t *testing.T, l items) [32]int {
	t.Helper()
	var x [32]int
	for _, it := range l {
		i := it.Instr
		v, ok := alu.Eval(i.Op, x[i.A], i.Imm)
		if i.Op == api.OpLui {
			v, ok = alu.Upper(i.Imm), true
		}
		if !ok || it.Kind != api.ItemInstr || it.Note != 0 {
			t.Fatalf("%+v", it)
		}
		x[i.Rd] = v
	}
	return x
}

// P11.1: small images.

func TestExample(t *testing.T) {
	im, notes := links(t, alone(items{ecall}), nil)
	want := api.Image{Code: []uint32{0x01000237, 0x01000137, 0x00000073}, Entries: []int{0}}
	if !sameImage(im, want) || !slices.Equal(notes, []int{0, 0, 0}) {
		t.Errorf("%+v, %v; want %+v", im, notes, want)
	}
}

// Two harts with cells, frames, constants, labels and Notes.
func TestSmallImage(t *testing.T) {
	l := []Part{
		{Unit: items{noted(label(1), 9), noted(loaded(5, 2048), 3), noted(jumpTo(1), 2)}, Frame: 2},
		{Unit: items{noted(beqTo(1), 4), noted(ecall, 5), label(1), noted(ecall, 6)}, Frame: 1},
	}
	im, notes := links(t, l, []int{8, -9})
	codeIs(t, im, notes, []api.Instr{
		luiData, luiFrame, {Op: api.OpAddiw, Rd: 2, A: 2, Imm: 16},
		{Op: api.OpLui, Rd: 5, Imm: 1}, {Op: api.OpAddiw, Rd: 5, A: 5, Imm: -2048}, {Op: api.OpJal, Imm: -8},
		luiData, luiFrame, {Op: api.OpAddiw, Rd: 2, A: 2, Imm: 32},
		{Op: api.OpBeq, A: 5, B: 6, Imm: 8}, ecall.Instr, ecall.Instr,
	}, 0, 0, 0, 3, 3, 2, 0, 0, 0, 4, 5, 6)
	if !slices.Equal(im.Data, []int{8, -9, 0, 0, 0}) || !slices.Equal(im.Entries, []int{0, 6}) {
		t.Errorf("data %v, entries %v", im.Data, im.Entries)
	}
}

func TestUnitsOfNoCode(t *testing.T) {
	for _, l := range []items{nil, {}, {label(0)}, {label(5), noted(label(0), 7), label(most)}} {
		im, notes := links(t, alone(l), nil)
		codeIs(t, im, notes, []api.Instr{luiData, luiFrame}, 0, 0)
		// The stubs of several such parts stand next to each other.
		im, notes = links(t, []Part{{Unit: l}, {Unit: l, Frame: 3}, {Unit: l}}, nil)
		codeIs(t, im, notes, []api.Instr{luiData, luiFrame, luiData, luiFrame, luiData, luiFrame, {Op: api.OpAddiw, Rd: 2, A: 2, Imm: 24}}, 0, 0, 0, 0, 0, 0, 0)
		if !slices.Equal(im.Entries, []int{0, 2, 4}) {
			t.Errorf("entries %v", im.Entries)
		}
		// Between parts with code, and behind the last one.
		links(t, []Part{{Unit: items{ecall}}, {Unit: l}, {Unit: items{ecall}}, {Unit: l}}, []int{1})
	}
}

func TestOneItem(t *testing.T) {
	for _, i := range []api.Instr{
		ecall.Instr, {Op: api.OpSd, A: 2, B: 31, Imm: -2048}, {Op: api.OpAmoswapD, Rd: 1, A: 2, B: 3, Aq: true, Rl: true}, {Op: api.OpFence, Imm: 0x33},
		{Op: api.OpBeq, A: 1, Imm: -4096}, {Op: api.OpJal, Rd: 1, Imm: 1<<20 - 2}, {Op: api.OpAuipc, Rd: 4, Imm: -1 << 19}, {Op: api.OpEbreak},
		// Also if it writes what the stub loaded.
		{Op: api.OpAddi, Rd: 2, Imm: 5}, {Op: api.OpLui, Rd: 4, Imm: 7},
	} {
		im, notes := links(t, alone(items{instr(i)}), nil)
		codeIs(t, im, notes, []api.Instr{luiData, luiFrame, i}, 0, 0, 0)
		im, notes = links(t, alone(items{noted(instr(i), 12)}), nil)
		codeIs(t, im, notes, []api.Instr{luiData, luiFrame, i}, 0, 0, 12)
	}
}

// Jumps and branches to their own position, the next one, and the end. The first
// position of a unit is that behind the stub.
func TestLabelsAtTheEnds(t *testing.T) {
	b := func(imm int) api.Instr { return api.Instr{Op: api.OpBeq, A: 5, B: 6, Imm: imm} }
	jal := func(imm int) api.Instr { return api.Instr{Op: api.OpJal, Imm: imm} }
	im, notes := links(t, alone(items{label(0), jumpTo(0), beqTo(0), jumpTo(1), beqTo(1), label(1)}), nil)
	codeIs(t, im, notes, []api.Instr{luiData, luiFrame, jal(0), b(-4), jal(8), b(4)}, 0, 0, 0, 0, 0, 0)
	im, notes = links(t, alone(items{jumpTo(most), label(most), label(3), beqTo(3)}), nil)
	codeIs(t, im, notes, []api.Instr{luiData, luiFrame, jal(4), b(0)}, 0, 0, 0, 0)
}

// Every number of parts with every number of cells at the edges.
func TestNumbersOfPartsAndCells(t *testing.T) {
	for parts := 1; parts <= maxHarts; parts++ {
		for _, cells := range []int{0, 1, 2, 3, 100, maxCells - 1, maxCells} {
			var l []Part
			for k := range parts {
				l = append(l, Part{Unit: items{loaded(7, k<<20), noted(ecall, k+1)}, Frame: (k*k*31 + 1) % 251})
			}
			im, _ := links(t, l, numbers(cells))
			if len(im.Entries) != parts {
				t.Errorf("%d entries of %d parts", len(im.Entries), parts)
			}
			links(t, framed(make([]int, parts)...), numbers(cells))
		}
	}
}

func TestNoCellsAreAnEmptyListToo(t *testing.T) {
	links(t, framed(0, 3), []int{})
	links(t, framed(0, 3), nil)
	if im, _ := links(t, framed(0, 0), []int{}); len(im.Data) != 0 {
		t.Errorf("data %v", im.Data)
	}
}

// P11.1: frames.

// The most that the limits permit: as many frames as there may be, of MaxFrame each,
// behind MaxCells cells.
func TestMostData(t *testing.T) {
	im, _ := links(t, framed(slices.Repeat([]int{maxFrame}, maxHarts)...), numbers(maxCells))
	if len(im.Data) != 2200 {
		t.Errorf("%d doublewords", len(im.Data))
	}
}

func TestFramesOfEachSize(t *testing.T) {
	for _, n := range []int{0, 1, 2, 55, 56, 57, maxFrame - 1, maxFrame} {
		for _, cells := range []int{0, 1, maxCells} {
			links(t, framed(n), numbers(cells))
			links(t, framed(n, 3, 4), numbers(cells))
			links(t, framed(3, n, 4), numbers(cells))
			links(t, framed(3, 4, n), numbers(cells))
			links(t, framed(0, n, 0), numbers(cells))
			links(t, framed(n, n, n, n, n, n, n, n), numbers(cells))
		}
	}
}

// Where the address is a multiple of 4096, or 2048 more, and around it. Behind
// frames of no doublewords, it is that of the next frame.
func TestAddressesOfFrames(t *testing.T) {
	for _, c := range []struct {
		cells int
		sizes []int
		addrs []int // behind dataBase
	}{
		{0, []int{0}, []int{0}},
		{0, []int{250}, []int{0}},
		{1, []int{0}, []int{8}},
		{200, []int{0, 0, 0}, []int{1600, 1600, 1600}},
		{3, []int{0, 2, 0, 0, 1, 0}, []int{24, 24, 40, 40, 40, 48}},
		{5, []int{250, 0, 1}, []int{40, 2040, 2040}},
		{0, []int{250, 6, 250, 6, 0}, []int{0, 2000, 2048, 4048, 4096}},
		{1, []int{250, 5, 250, 6, 0}, []int{8, 2008, 2048, 4048, 4096}},
		{0, []int{250, 5, 1, 250, 5, 1, 1, 0}, []int{0, 2000, 2040, 2048, 4048, 4088, 4096, 4104}},
		{200, []int{250, 250, 250, 250, 250, 250, 250, 250}, []int{1600, 3600, 5600, 7600, 9600, 11600, 13600, 15600}},
	} {
		im, _ := links(t, framed(c.sizes...), numbers(c.cells))
		for h, addr := range c.addrs {
			x := start(t, im, h, [32]int{})
			if x[2] != dataBase+addr || x[4] != dataBase {
				t.Errorf("%d cells, frames %v, hart %d: x2 = %d, x4 = %d; want %d behind the start of the data", c.cells, c.sizes, h, x[2], x[4], addr)
			}
		}
	}
	// One instruction for x2 where the address is a multiple of 4096, otherwise two.
	im, _ := links(t, framed(250, 5, 1, 250, 5, 1, 1, 0), nil)
	if !slices.Equal(im.Entries, []int{0, 3, 7, 11, 15, 19, 23, 26}) {
		t.Errorf("entries %v", im.Entries)
	}
}

// start executes the code from the entry of hart h up to the first word that does
// not belong to its stub: an ecall.
func start(t *testing.T, im api.Image, h int, x [32]int) [32]int {
	t.Helper()
	return hart(t, api.Image{Code: im.Code, Entries: im.Entries}, h, x)
}

// hart executes the code of hart h, from its entry up to an ecall, and returns the
// contents of the registers. It modifies the data of im.
func hart(t *testing.T, im api.Image, h int, x [32]int) [32]int {
	t.Helper()
	pc := image.PC(im.Entries[h])
	for range 1000000 {
		i, ok := image.Fetch(im, pc)
		if !ok {
			t.Fatalf("hart %d: no code at %d", h, pc)
		}
		if i.Op == api.OpEcall {
			return x
		}
		pc += step(t, im, i, &x)
		x[0] = 0
	}
	t.Fatalf("hart %d does not end", h)
	return x
}

// step executes an instruction and returns by how much the pc changes.
func step(t *testing.T, im api.Image, i api.Instr, x *[32]int) int {
	t.Helper()
	switch i.Op {
	case api.OpLui:
		x[i.Rd] = alu.Upper(i.Imm)
		return 4
	case api.OpJal:
		return i.Imm
	case api.OpLd, api.OpSd:
		at, ok := image.Place(im, x[i.A]+i.Imm)
		if !ok {
			t.Fatalf("no data at %d", x[i.A]+i.Imm)
		}
		if i.Op == api.OpLd {
			x[i.Rd] = im.Data[at]
		} else {
			im.Data[at] = x[i.B]
		}
		return 4
	}
	if taken, ok := alu.Taken(i.Op, x[i.A], x[i.B]); ok {
		if taken {
			return i.Imm
		}
		return 4
	}
	second := i.Imm
	if isa.Form(i.Op) == api.FormR {
		second = x[i.B]
	}
	v, ok := alu.Eval(i.Op, x[i.A], second)
	if !ok {
		t.Fatalf("%+v", i)
	}
	x[i.Rd] = v
	return 4
}

// Whatever registers contain, a stub changes two of them, and nothing else.
func TestStubsChangeTwoRegisters(t *testing.T) {
	r := rand.New(rand.NewPCG(11, 2))
	for range 300 {
		var sizes []int
		for range 1 + r.IntN(maxHarts) {
			sizes = append(sizes, r.IntN(maxFrame+1)*r.IntN(2))
		}
		cells := r.IntN(maxCells + 1)
		im, _ := links(t, framed(sizes...), numbers(cells))
		begin := cells
		for h := range sizes {
			var x [32]int
			for k := 1; k < 32; k++ {
				x[k] = int(r.Uint64()) >> r.IntN(64)
			}
			want := x
			want[2], want[4] = dataBase+8*begin, dataBase
			if got := start(t, im, h, x); got != want {
				t.Fatalf("hart %d: %v; want %v", h, got, want)
			}
			begin += sizes[h]
		}
	}
}

// Each hart adds up the cells, and fills its frame: no frame overlaps another one
// or the cells.
func TestHartsUseTheirOwnFrames(t *testing.T) {
	cells := []int{5, -7, 1 << 40, 0, 9}
	sizes := []int{3, 0, maxFrame, 1, 0, 5, maxFrame, 2}
	var l []Part
	for h, size := range sizes {
		u := items{loaded(5, 100+h<<50), loaded(8, 0)}
		for k := range cells {
			u = append(u, instr(api.Instr{Op: api.OpLd, Rd: 6, A: 4, Imm: 8 * k}), instr(api.Instr{Op: api.OpAdd, Rd: 8, A: 8, B: 6}))
		}
		for k := range size {
			u = append(u, instr(api.Instr{Op: api.OpSd, A: 2, B: 5, Imm: 8 * k}))
		}
		l = append(l, Part{Unit: append(u, ecall), Frame: size})
	}
	im, _ := links(t, l, cells)
	want := slices.Clone(cells)
	for h, size := range sizes {
		if x := hart(t, im, h, [32]int{}); x[8] != 1<<40+7 {
			t.Errorf("hart %d added the cells up to %d", h, x[8])
		}
		want = append(want, slices.Repeat([]int{100 + h<<50}, size)...)
	}
	if !slices.Equal(im.Data, want) {
		t.Errorf("%v; want %v", im.Data, want)
	}
}

func TestCellsOfEachValue(t *testing.T) {
	for _, v := range []int{0, 1, -1, most, least, 1 << 31, 1<<32 - 1, 1 << 32, -1 << 31, -1<<32 - 1} {
		for _, parts := range [][]Part{framed(0), framed(2, 3)} {
			if im, _ := links(t, parts, []int{v}); im.Data[0] != v {
				t.Errorf("%v", im.Data)
			}
			if im, _ := links(t, parts, []int{4, v, -v, v}); !slices.Equal(im.Data[:4], []int{4, v, -v, v}) {
				t.Errorf("%v", im.Data)
			}
		}
		if im, _ := links(t, framed(1), slices.Repeat([]int{v}, maxCells)); im.Data[maxCells-1] != v || im.Data[maxCells] != 0 {
			t.Errorf("%v", im.Data)
		}
	}
}

// P11.1: constants and long branches.

// constants returns numbers, each of which is loaded by as many instructions as its
// index says, from 1 on.
func constants(t *testing.T) []int {
	t.Helper()
	l := make([]int, 9)
	missing := 8
	r := rand.New(rand.NewPCG(11, 3))
	for range 10000 {
		n := int(r.Uint64()) >> r.IntN(64) << r.IntN(64)
		if length := len(unit.Load(9, n)); n != 0 && l[length] == 0 {
			l[length] = n
			missing--
		}
	}
	if missing != 0 {
		t.Fatalf("not for each length: %v", l)
	}
	return l
}

func TestConstantsOfEachLength(t *testing.T) {
	byLength := constants(t)
	var all items
	var allNotes []int
	for length := 1; length <= 8; length++ {
		n := byLength[length]
		own := items{noted(loaded(9, n), 40+length), noted(ecall, 2)}
		notes := append(slices.Repeat([]int{40 + length}, length), 2)
		im, got := links(t, alone(own), nil)
		if want := slices.Concat([]int{0, 0}, notes); !slices.Equal(got, want) {
			t.Errorf("notes %v; want %v", got, want)
		}
		if x := hart(t, im, 0, [32]int{}); x[9] != n {
			t.Errorf("x9 = %d; want %d", x[9], n)
		}
		// In a later part, behind one with another constant.
		im, got = links(t, []Part{{Unit: items{loaded(3, n)}, Frame: 1}, {Unit: own}}, nil)
		if want := slices.Concat(make([]int, 2+length+3), notes); !slices.Equal(got, want) || im.Entries[1] != 2+length {
			t.Errorf("notes %v, entries %v; want %v", got, im.Entries, want)
		}
		if x := hart(t, im, 1, [32]int{}); x[9] != n || x[3] != 0 {
			t.Errorf("x9 = %d; want %d", x[9], n)
		}
		all = append(all, noted(loaded(length+10, n), length))
		allNotes = append(allNotes, slices.Repeat([]int{length}, length)...)
	}
	im, notes := links(t, []Part{{Unit: append(all, ecall)}, {Unit: append(all, ecall), Frame: 9}}, nil)
	if want := slices.Concat([]int{0, 0}, allNotes, []int{0, 0, 0}, allNotes, []int{0}); !slices.Equal(notes, want) {
		t.Errorf("notes %v; want %v", notes, want)
	}
	for h := range 2 {
		x := hart(t, im, h, [32]int{})
		for length := 1; length <= 8; length++ {
			if x[length+10] != byLength[length] {
				t.Errorf("hart %d: %v", h, x)
			}
		}
	}
}

// Constants that a unit loads into the registers of the stub, or into x0.
func TestConstantsOfTheStubAgain(t *testing.T) {
	im, _ := links(t, alone(items{loaded(2, 5), loaded(4, 1<<40), loaded(0, 77), ecall}), nil)
	if x := hart(t, im, 0, [32]int{}); x != [32]int{2: 5, 4: 1 << 40} {
		t.Errorf("%v", x)
	}
}

// A branch counts the words of constants, not the constants.
func TestBranchesOverConstants(t *testing.T) {
	long := slices.Repeat(items{loaded(9, 0x123456789abcdef0)}, 127) // 1016 words
	for words, isLong := range map[int]bool{1021: false, 1022: false, 1023: true, 1024: true} {
		u := slices.Concat(items{noted(beqTo(1), 5)}, long, fill(words-1016), items{label(1), ecall})
		im, notes := links(t, alone(u), nil)
		first := []api.Instr{{Op: api.OpBeq, A: 5, B: 6, Imm: 4 * (words + 1)}, dec.Decode(im.Code[3])}
		firstNotes := []int{5, 0}
		if isLong {
			first = []api.Instr{{Op: api.OpBne, A: 5, B: 6, Imm: 8}, {Op: api.OpJal, Imm: 4 * (words + 1)}}
			firstNotes = []int{5, 5}
		}
		if dec.Decode(im.Code[2]) != first[0] || dec.Decode(im.Code[3]) != first[1] || !slices.Equal(notes[2:4], firstNotes) {
			t.Errorf("over %d words: %+v, %+v, notes %v", words, dec.Decode(im.Code[2]), dec.Decode(im.Code[3]), notes[2:4])
		}
	}
}

// What a branch reaches does not depend on the stub, or on other parts.
func TestBranchesAtTheEdges(t *testing.T) {
	for n, isLong := range map[int]bool{1023: false, 1024: false, 1025: true, 1026: true} {
		back := slices.Concat(items{label(1)}, fill(n), items{noted(beqTo(1), 5), ecall})
		ahead := slices.Concat(items{noted(beqTo(1), 5)}, fill(n-2), items{label(1), ecall})
		for _, u := range []items{back, ahead} {
			// Of the label, there is no word; of the stub, there are two.
			words := len(u) + 1
			if isLong {
				words++
			}
			if im, _ := links(t, alone(u), nil); len(im.Code) != words {
				t.Errorf("%d items: %d words; want %d", len(u), len(im.Code), words)
			}
			links(t, []Part{{Unit: u, Frame: 7}, {Unit: u}, {Unit: items{ecall}}, {Unit: u}}, []int{1})
		}
	}
}

func TestLongBranches(t *testing.T) {
	far := slices.Concat(items{noted(branchTo(api.OpBltu, 7, 8, 3), 6), ecall, label(2), loaded(9, 22), ecall}, fill(1200),
		items{label(3), noted(branchTo(api.OpBne, 7, 8, 2), 7), loaded(9, 33), ecall})
	near := items{branchTo(api.OpBltu, 7, 8, 3), ecall, label(2), loaded(9, 22), ecall, label(3), branchTo(api.OpBne, 7, 8, 2), loaded(9, 33), ecall}
	words := []api.Instr{{Op: api.OpBgeu, A: 7, B: 8, Imm: 8}, {Op: api.OpJal, Imm: 4 * 1204}}
	for _, l := range [][]Part{
		{{Unit: far}},
		{{Unit: far, Frame: 3}, {Unit: near}},
		{{Unit: near, Frame: 3}, {Unit: far, Frame: 1}},
		{{Unit: near}, {Unit: far}, {Unit: far, Frame: maxFrame}, {Unit: near}, {Unit: far}},
	} {
		im, notes := links(t, l, []int{4})
		for h, p := range l {
			at := im.Entries[h] + len(wantStub(1)) // no frame here is at a multiple of 4096
			if len(p.Unit) == len(far) {
				if dec.Decode(im.Code[at]) != words[0] || dec.Decode(im.Code[at+1]) != words[1] || !slices.Equal(notes[at:at+3], []int{6, 6, 0}) {
					t.Errorf("hart %d of %d: %+v, %+v, notes %v", h, len(l), dec.Decode(im.Code[at]), dec.Decode(im.Code[at+1]), notes[at:at+3])
				}
				at += 2 + 3 + 1200
				if !slices.Equal(notes[at:at+3], []int{7, 7, 0}) {
					t.Errorf("hart %d of %d: notes %v", h, len(l), notes[at:at+3])
				}
			}
			if x := hart(t, im, h, [32]int{7: 1, 8: 2}); x[9] != 22 {
				t.Errorf("hart %d of %d: x9 = %d", h, len(l), x[9])
			}
			if x := hart(t, im, h, [32]int{7: 2, 8: 1}); x[9] != 0 {
				t.Errorf("hart %d of %d: x9 = %d", h, len(l), x[9])
			}
		}
	}
}

// Units of several parts use the same labels, at other positions, and one of them
// places a label that another one does not.
func TestSameLabels(t *testing.T) {
	leads := func(n int, to ...api.Item) items {
		return slices.Concat(items{jumpTo(0), label(1), loaded(9, n), ecall}, to, items{label(0), jumpTo(1)})
	}
	l := []Part{{Unit: leads(1)}, {Unit: leads(2, fill(5)...), Frame: 2}, {Unit: leads(3, nop, label(7))}, {Unit: leads(4, fill(3000)...)}, {Unit: leads(5)}}
	im, _ := links(t, l, nil)
	for h := range l {
		if x := hart(t, im, h, [32]int{}); x[9] != h+1 {
			t.Errorf("hart %d leads to that with %d", h, x[9]-1)
		}
	}
	u := items{label(1), nop, label(2), jumpTo(1), beqTo(2)}
	im, notes := links(t, []Part{{Unit: u}, {Unit: u}}, nil)
	own := []api.Instr{luiData, luiFrame, nop.Instr, {Op: api.OpJal, Imm: -4}, {Op: api.OpBeq, A: 5, B: 6, Imm: -4}}
	codeIs(t, im, notes, slices.Concat(own, own), make([]int, 10)...)
	// A label that only another part places is not placed.
	fails(t, []Part{{Unit: items{jumpTo(3)}}, {Unit: items{label(3)}}}, nil, api.ErrForm)
	fails(t, []Part{{Unit: items{label(3)}}, {Unit: items{beqTo(3)}}}, nil, api.ErrForm)
}

// P11.1: Notes.

func TestNotes(t *testing.T) {
	for _, n := range []int{0, 1, 2, 1 << 32, most} {
		u := items{noted(label(1), 77), noted(nop, n), noted(loaded(5, 1<<20+1), n), noted(jumpTo(1), n), noted(beqTo(1), n)}
		_, notes := links(t, alone(u), nil)
		if !slices.Equal(notes, []int{0, 0, n, n, n, n, n}) {
			t.Errorf("%v", notes)
		}
		_, notes = links(t, []Part{{Unit: u, Frame: 1}, {Unit: u}}, nil)
		if !slices.Equal(notes, []int{0, 0, n, n, n, n, n, 0, 0, 0, n, n, n, n, n}) {
			t.Errorf("%v", notes)
		}
	}
}

// P11.1 and P11.2: parts of all kinds.

// someUnit returns a unit of items of all kinds, with labels that are all placed
// unless it is spoiled. Some of them have branches that become long.
func someUnit(r *rand.Rand) items {
	labels := r.IntN(6)
	var l items
	for range r.IntN(30) {
		it := instr(api.Instr{Op: api.OpAddi, Rd: r.IntN(32), A: r.IntN(32), Imm: r.IntN(4096) - 2048})
		if r.IntN(3) == 0 {
			it = loaded(r.IntN(32), int(r.Uint64())>>r.IntN(64)<<r.IntN(64))
		} else if labels > 0 && r.IntN(2) == 0 {
			it = jumpTo(r.IntN(labels))
			if r.IntN(2) == 0 {
				it = branchTo(api.OpBeq+r.IntN(6), r.IntN(32), r.IntN(32), r.IntN(labels))
			}
		}
		l = append(l, noted(it, r.IntN(9)))
	}
	for n := range labels {
		l = slices.Insert(l, r.IntN(len(l)+1), noted(label(n), r.IntN(9)))
	}
	if r.IntN(3) == 0 {
		l = slices.Insert(l, r.IntN(len(l)+1), fill(950+r.IntN(200))...)
	}
	return l
}

func TestManyImages(t *testing.T) {
	r := rand.New(rand.NewPCG(11, 4))
	long, several := 0, 0
	for range 800 {
		var l []Part
		for range 1 + r.IntN(maxHarts) {
			l = append(l, Part{Unit: someUnit(r), Frame: r.IntN(maxFrame+1) * r.IntN(2)})
		}
		links(t, l, numbers(r.IntN(maxCells+1)*r.IntN(2)))
		for k, p := range l {
			is, _ := relax.Long(unit.Expand(p.Unit))
			if slices.Contains(is, true) {
				long++
				several += min(k, 1)
			}
		}
		if t.Failed() {
			return
		}
	}
	if long < 300 || several < 200 {
		t.Errorf("only %d units with long branches, %d in later parts", long, several)
	}
}

// Errors.

func TestNumberOfParts(t *testing.T) {
	fails(t, nil, nil, api.ErrThreads)
	fails(t, []Part{}, []int{1}, api.ErrThreads)
	fails(t, framed(make([]int, maxHarts+1)...), nil, api.ErrThreads)
	fails(t, framed(make([]int, maxHarts+2)...), nil, api.ErrThreads)
	fails(t, framed(make([]int, 1000)...), []int{1}, api.ErrThreads)
	fails(t, make([]Part, 1<<16+1), nil, api.ErrThreads)
}

func TestNumberOfCells(t *testing.T) {
	for _, n := range []int{maxCells + 1, maxCells + 2, 256, 257, maxData, maxData + 1, 1<<16 + 1} {
		fails(t, framed(0), numbers(n), api.ErrCells)
		fails(t, framed(1, maxFrame), numbers(n), api.ErrCells)
	}
}

// noSizes are no sizes of frames. Those beyond 32 bits become one if they are cut,
// and some of them together are one modulo 2^64.
var noSizes = []int{-1, -2, -250, 251, 252, 500, 4096, 4097, -1 << 16, 1 << 16, 1 << 31, 1 << 32, 1<<32 + 5, -1<<32 + 5, 1 << 62, -1 << 62, most, most - 1, least, least + 1, least + 250}

func TestSizesOfFrames(t *testing.T) {
	for _, n := range noSizes {
		fails(t, framed(n), nil, api.ErrFrame)
		fails(t, framed(n, 0, 0), numbers(maxCells), api.ErrFrame)
		fails(t, framed(0, n, 0), nil, api.ErrFrame)
		fails(t, framed(7, 8, n), nil, api.ErrFrame)
		fails(t, framed(n, -n), nil, api.ErrFrame)
		fails(t, framed(n, n), nil, api.ErrFrame)
		fails(t, framed(n, n, n, n), numbers(4), api.ErrFrame)
		fails(t, framed(250, 250, 250, 250, 250, 250, 250, n), nil, api.ErrFrame)
	}
}

// The limits do not permit more data than MaxData; the check that there is not more
// is tested by itself.
func TestTooMuchData(t *testing.T) {
	for _, c := range []struct {
		end  int
		want api.Errno
	}{{0, api.OK}, {maxData - 1, api.OK}, {maxData, api.OK}, {maxData + 1, api.ErrFrame}, {most, api.ErrFrame}} {
		if e := checkSizes(framed(0), 0, c.end); e != c.want {
			t.Errorf("data up to %d: %d; want %d", c.end, e, c.want)
		}
	}
	if _, end := frames(framed(250, 0, 3, 47), 200); end != 500 {
		t.Errorf("data up to %d", end)
	}
}

// faults are units that are not valid, one for each way.
func faults() []items {
	var l []items
	for _, it := range (items{
		{Kind: -1}, {Kind: 5}, {Kind: 1<<32 + 1}, {Kind: most}, {Kind: 5, Instr: nop.Instr},
		wrong, instr(api.Instr{Op: -1}), instr(api.Instr{Op: 88}), instr(api.Instr{Op: api.OpAddi, Rd: 32}), instr(api.Instr{Op: api.OpAddi, Imm: 2048}),
		instr(api.Instr{Op: api.OpAddi, B: 1}), instr(api.Instr{Op: api.OpAdd, Aq: true}), instr(api.Instr{Op: api.OpJal, Imm: 1 << 20}), instr(api.Instr{Op: api.OpBeq, Imm: 4096}),
		{Kind: api.ItemInstr, Instr: nop.Instr, N: 1}, noted(nop, -1),
		label(-1), noted(label(5), -1), {Kind: api.ItemLabel, N: 5, Instr: nop.Instr},
		jumpTo(-1), jumpTo(5), noted(jumpTo(0), least), {Kind: api.ItemJump, Instr: api.Instr{Rd: 1}},
		beqTo(-1), beqTo(5), noted(beqTo(0), -1), branchTo(api.OpJal, 0, 0, 0), branchTo(api.OpAddi, 0, 0, 0), branchTo(api.OpBeq, 32, 0, 0), branchTo(0, 0, 0, 0),
		{Kind: api.ItemIf, Instr: api.Instr{Op: api.OpBeq, Imm: 8}}, {Kind: api.ItemIf, Instr: api.Instr{Op: api.OpBeq, Rd: 1}}, {Kind: api.ItemIf, Instr: api.Instr{Op: api.OpBeq, Rl: true}},
		// Constants of which the expansion would tell nothing.
		loaded(32, 7), loaded(-1, 7), loaded(1<<32, 7), noted(loaded(5, 7), -1), {Kind: api.ItemConst, Instr: api.Instr{Op: api.OpAddi, Rd: 5}},
		{Kind: api.ItemConst, Instr: api.Instr{Rd: 5, A: 1}}, {Kind: api.ItemConst, Instr: api.Instr{Rd: 5, B: 1}}, {Kind: api.ItemConst, Instr: api.Instr{Rd: 5, Imm: 1}},
		{Kind: api.ItemConst, Instr: api.Instr{Rd: 5, Aq: true}}, {Kind: api.ItemConst, Instr: api.Instr{Rd: 5, Rl: true}},
		// A label that is placed twice.
		label(0),
	}) {
		l = append(l, items{label(0), it}, items{it, label(0), jumpTo(0)}, items{label(0), nop, jumpTo(0), it, beqTo(0), ecall})
	}
	return append(l, items{jumpTo(0)}, items{beqTo(0)}, items{{Kind: 5}}, items{loaded(32, 7)}, items{noted(loaded(5, 7), -1)}, items{noted(ecall, -1)})
}

func TestUnitsThatAreNotValid(t *testing.T) {
	for _, u := range faults() {
		fails(t, alone(u), nil, api.ErrForm)
		fails(t, []Part{{Unit: u, Frame: 2}, {Unit: items{ecall}}}, []int{1}, api.ErrForm)
		fails(t, []Part{{Unit: items{ecall}}, {Unit: u, Frame: maxFrame}}, nil, api.ErrForm)
		fails(t, append(framed(1, 2, 3, 4, 5, 6, 7), Part{Unit: u}), numbers(maxCells), api.ErrForm)
		fails(t, []Part{{Unit: items{ecall}}, {Unit: u}, {Unit: items{ecall}}}, nil, api.ErrForm)
	}
}

// tooFar are units in which a jump, that of a long branch, or both do not reach.
func tooFar() []items {
	return []items{
		slices.Concat(items{jumpTo(1)}, fill(jumpReach-1), items{label(1)}),
		slices.Concat(items{label(1)}, fill(jumpReach+1), items{jumpTo(1)}),
		slices.Concat(items{nop, beqTo(1)}, fill(jumpReach-1), items{label(1), ecall}),
		slices.Concat(items{label(1)}, fill(jumpReach), items{beqTo(1), jumpTo(1), ecall}),
		// Only with its constants, it is that long.
		slices.Concat(items{jumpTo(1)}, slices.Repeat(items{loaded(9, 0x123456789abcdef0)}, jumpReach/8), items{label(1)}),
	}
}

// Where jumps just reach, the code alone is too much.
func TestJumps(t *testing.T) {
	for _, u := range []items{
		slices.Concat(items{jumpTo(1)}, fill(jumpReach-2), items{label(1)}),
		slices.Concat(items{label(1)}, fill(jumpReach), items{jumpTo(1)}),
		slices.Concat(items{nop, beqTo(1)}, fill(jumpReach-2), items{label(1), ecall}),
		slices.Concat(items{label(1)}, fill(jumpReach-1), items{beqTo(1), ecall}),
	} {
		fails(t, alone(u), nil, api.ErrCode)
	}
	for _, u := range tooFar() {
		fails(t, alone(u), nil, api.ErrReach)
		fails(t, []Part{{Unit: items{ecall}}, {Unit: u, Frame: 5}}, []int{1}, api.ErrReach)
		fails(t, []Part{{Unit: u}, {Unit: items{ecall}, Frame: 5}}, nil, api.ErrReach)
	}
	// Jumps over as much as there may be.
	u := slices.Concat(items{label(0), jumpTo(1)}, fill(maxCode-4), items{label(1), jumpTo(0)})
	im, _ := links(t, alone(u), nil)
	if len(im.Code) != maxCode || dec.Decode(im.Code[2]) != (api.Instr{Op: api.OpJal, Imm: 4 * (maxCode - 3)}) || dec.Decode(im.Code[maxCode-1]) != (api.Instr{Op: api.OpJal, Imm: -4 * (maxCode - 3)}) {
		t.Errorf("%d words", len(im.Code))
	}
}

func TestMuchCode(t *testing.T) {
	for _, c := range []struct {
		l     []Part
		cells int
		words int
	}{
		{alone(fill(maxCode - 2)), 0, maxCode},
		{alone(fill(maxCode - 1)), 0, maxCode + 1},
		// With a longer stub, and labels, constants and long branches.
		{alone(fill(maxCode - 3)), 1, maxCode},
		{alone(fill(maxCode - 2)), 1, maxCode + 1},
		{alone(slices.Concat(items{label(0), label(1)}, fill(maxCode-2), items{label(2)})), 0, maxCode},
		{alone(slices.Concat(fill(maxCode-10), items{loaded(9, 0x123456789abcdef0)})), 0, maxCode},
		{alone(slices.Concat(fill(maxCode-9), items{loaded(9, 0x123456789abcdef0)})), 0, maxCode + 1},
		{alone(slices.Concat(items{label(0)}, fill(maxCode-4), items{beqTo(0)})), 0, maxCode},
		{alone(slices.Concat(items{label(0)}, fill(maxCode-3), items{beqTo(0)})), 0, maxCode + 1},
		{alone(slices.Concat(fill(maxCode-4), items{label(0), nop, beqTo(0)})), 0, maxCode},
		// In several parts.
		{[]Part{{Unit: fill(100000)}, {Unit: fill(maxCode - 100000 - 4)}}, 0, maxCode},
		{[]Part{{Unit: fill(100000)}, {Unit: fill(maxCode - 100000 - 3)}}, 0, maxCode + 1},
		{[]Part{{Unit: fill(maxCode - 4)}, {}}, 0, maxCode},
		{[]Part{{Unit: fill(maxCode - 3)}, {}}, 0, maxCode + 1},
		{[]Part{{}, {Unit: fill(maxCode - 4)}}, 0, maxCode},
		{[]Part{{}, {Unit: fill(maxCode - 3)}}, 0, maxCode + 1},
		{[]Part{{Frame: 1}, {Unit: fill(maxCode - 5)}}, 0, maxCode},
		{[]Part{{Frame: 1}, {Unit: fill(maxCode - 4)}}, 0, maxCode + 1},
		{slices.Repeat([]Part{{Unit: fill(maxCode/8 - 2)}}, 8), 0, maxCode},
		{slices.Repeat([]Part{{Unit: fill(maxCode/8 - 2)}}, 8), 1, maxCode + 8},
		{slices.Repeat([]Part{{Unit: fill(maxCode / 2)}}, 3), 1, maxCode/2*3 + 9},
	} {
		if c.words > maxCode {
			fails(t, c.l, numbers(c.cells), api.ErrCode)
			continue
		}
		if im, _ := links(t, c.l, numbers(c.cells)); len(im.Code) != c.words {
			t.Errorf("%d words; want %d", len(im.Code), c.words)
		}
	}
}

// The first error of the chapter's order is returned, whichever come later.
func TestFirstError(t *testing.T) {
	reach := tooFar()[1]
	long := fill(maxCode)
	form := items{wrong}
	// Both at once: the check of the unit comes first.
	both := append(slices.Clone(reach), wrong)
	fails(t, alone(both), nil, api.ErrForm)
	fails(t, alone(append(slices.Clone(reach), loaded(32, 7))), nil, api.ErrForm)
	fails(t, alone(append(slices.Clone(long), jumpTo(0))), nil, api.ErrForm)
	// Of several parts, the first one at fault counts.
	ok := items{ecall}
	for _, c := range []struct {
		want  api.Errno
		units []items
	}{
		{api.ErrForm, []items{form, reach}},
		{api.ErrReach, []items{reach, form}},
		{api.ErrForm, []items{ok, form, reach}},
		{api.ErrReach, []items{ok, reach, form}},
		{api.ErrReach, []items{reach, ok, form}},
		{api.ErrForm, []items{form, ok, reach}},
		{api.ErrForm, []items{form, form}},
		{api.ErrForm, []items{long, form}},
		{api.ErrForm, []items{form, long}},
		{api.ErrReach, []items{long, reach}},
		{api.ErrReach, []items{reach, long}},
		{api.ErrForm, []items{long, long, form}},
		{api.ErrReach, []items{long, ok, ok, ok, ok, ok, ok, reach}},
		{api.ErrForm, []items{ok, ok, long, ok, ok, form, ok, reach}},
		{api.ErrReach, []items{ok, ok, long, ok, ok, reach, ok, form}},
		{api.ErrForm, []items{long, both, reach}},
		{api.ErrCode, []items{long, ok}},
		{api.ErrCode, []items{ok, long}},
	} {
		var l []Part
		for _, u := range c.units {
			l = append(l, Part{Unit: u})
		}
		fails(t, l, nil, c.want)
		fails(t, l, numbers(maxCells), c.want)
		fails(t, l, numbers(maxCells+1), api.ErrCells)
		for k := range l {
			for _, n := range []int{-1, maxFrame + 1} {
				l[k].Frame = n
				fails(t, l, nil, api.ErrFrame)
				fails(t, l, numbers(maxCells+1), api.ErrCells)
			}
			l[k].Frame = 0
		}
		for len(l) <= maxHarts {
			l = append(l, Part{Unit: ok})
		}
		fails(t, l, nil, api.ErrThreads)
		fails(t, l, numbers(maxCells+1), api.ErrThreads)
		l[4].Frame = -1
		fails(t, l, numbers(maxCells+1), api.ErrThreads)
	}
	fails(t, nil, numbers(maxCells+1), api.ErrThreads)
}

// Faults of all kinds together agree with the reference.
func TestManyFaults(t *testing.T) {
	r := rand.New(rand.NewPCG(11, 5))
	all := faults()
	count := map[api.Errno]int{}
	for range 5000 {
		var l []Part
		for range r.IntN(maxHarts + 2) {
			p := Part{Unit: items{ecall}, Frame: r.IntN(maxFrame + 1)}
			if r.IntN(9) == 0 {
				p.Unit = all[r.IntN(len(all))]
			}
			if r.IntN(20) == 0 {
				p.Frame = noSizes[r.IntN(len(noSizes))]
			}
			l = append(l, p)
		}
		cells := numbers(r.IntN(maxCells+1) + r.IntN(2)*r.IntN(100))
		_, _, e := wantLink(l, cells)
		count[e]++
		if e == api.OK {
			links(t, l, cells)
		} else {
			fails(t, l, cells, e)
		}
		if t.Failed() {
			return
		}
	}
	for _, e := range []api.Errno{api.OK, api.ErrThreads, api.ErrCells, api.ErrFrame, api.ErrForm} {
		if count[e] < 100 {
			t.Errorf("only %d times the error %d", count[e], e)
		}
	}
}

// Rule 3: arguments are neither modified nor kept, and results are new memory.

func TestArgumentsAreNotModified(t *testing.T) {
	whole := slices.Concat(items{label(1), loaded(5, 1<<40+1), noted(beqTo(1), 3), beqTo(2)}, fill(1100), items{label(2), jumpTo(1), wrong, nop})
	cells := numbers(20)
	parts := []Part{{Unit: whole, Frame: 3}, {Unit: whole, Frame: 4}, {Unit: whole, Frame: -1}, {Frame: 7}}
	sizes := []int{3, 4, -1, 7}
	wholeBefore, cellsBefore := slices.Clone(whole), slices.Clone(cells)
	for n := range len(whole) + 1 {
		if n > 5 && n < 1100 {
			continue
		}
		// Behind the length of a list, there is memory that does not belong to it.
		for k := range parts {
			parts[k].Unit = whole[:n]
		}
		for k := range len(parts) + 1 {
			Link(parts[:k], cells[:7])
			Link(parts[:k], cells[:0])
		}
		Link([]Part{parts[0], parts[1]}, cells)
		for k := range parts {
			if len(parts[k].Unit) != n || parts[k].Frame != sizes[k] {
				t.Fatalf("part %d was modified", k)
			}
		}
		if !slices.Equal(whole, wholeBefore) || !slices.Equal(cells, cellsBefore) {
			t.Fatal("a unit or the cells were modified")
		}
	}
}

// overwrite changes all numbers of a list, and those in the memory behind it.
func overwrite[T int | uint32](l []T) {
	for k := range l[:cap(l)] {
		l[:cap(l)][k] += 1000
	}
}

func TestResultsAreNew(t *testing.T) {
	l := []Part{{Unit: items{label(1), noted(loaded(5, 2048), 3), noted(jumpTo(1), 2)}, Frame: 2}, {Unit: items{noted(ecall, 5)}, Frame: 1}}
	cells := make([]int, 3, 100)
	copy(cells, []int{4, 5, 6})
	before := copied(l)
	want, wantNotes, _ := wantLink(l, cells)
	overwriteOne := []func(im api.Image, notes []int){
		func(im api.Image, notes []int) { overwrite(im.Code); copy(im.Code, want.Code) },
		func(im api.Image, notes []int) { overwrite(im.Data); copy(im.Data, want.Data) },
		func(im api.Image, notes []int) { overwrite(im.Entries); copy(im.Entries, want.Entries) },
		func(im api.Image, notes []int) { overwrite(notes); copy(notes, wantNotes) },
	}
	im, notes, _ := Link(l, cells)
	for k, f := range overwriteOne {
		first, firstNotes, _ := Link(l, cells)
		// Only the list itself is put right again.
		f(first, firstNotes)
		if !sameImage(first, want) || !slices.Equal(firstNotes, wantNotes) {
			t.Errorf("list %d shares memory with another one", k)
		}
		overwrite(first.Code)
		overwrite(first.Data)
		overwrite(first.Entries)
		overwrite(firstNotes)
	}
	if !sameParts(l, before) || !slices.Equal(cells, []int{4, 5, 6}) || slices.Max(cells[:100]) != 6 {
		t.Error("arguments hang on what was returned")
	}
	clear(cells)
	clear(l[0].Unit)
	clear(l[1].Unit)
	if !sameImage(im, want) || !slices.Equal(notes, wantNotes) {
		t.Error("what was returned hangs on the arguments, or on what was returned before")
	}
	first := Stub(3)
	clear(first)
	if !slices.Equal(Stub(3), items{loaded(4, dataBase), loaded(2, dataBase+24)}) {
		t.Error("Stub returned the same memory twice")
	}
}
