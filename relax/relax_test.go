package relax

import (
	"maps"
	"math"
	"math/rand/v2"
	"slices"
	"testing"

	"spinnaker/alu"
	"spinnaker/api"
	"spinnaker/dec"
	"spinnaker/enc"
)

const (
	most  = math.MaxInt
	least = math.MinInt
)

// The most words from the first one of a branch or jump to a label that it
// reaches. Distances are multiples of 4, so that of 4094, 4092 is left.
const (
	branchAhead  = 1023
	branchBehind = 1024
	jumpAhead    = 1<<18 - 1
	jumpBehind   = 1 << 18
)

// far is a number of words that no branch reaches over.
const far = 3000

type items = []api.Item

func instr(i api.Instr) api.Item { return api.Item{Kind: api.ItemInstr, Instr: i} }
func label(n int) api.Item       { return api.Item{Kind: api.ItemLabel, N: n} }
func jumpTo(n int) api.Item      { return api.Item{Kind: api.ItemJump, N: n} }
func branchTo(op, a, b, n int) api.Item {
	return api.Item{Kind: api.ItemIf, N: n, Instr: api.Instr{Op: op, A: a, B: b}}
}
func constant(rd, n int) api.Item {
	return api.Item{Kind: api.ItemConst, N: n, Instr: api.Instr{Rd: rd}}
}
func noted(it api.Item, n int) api.Item { it.Note = n; return it }
func beqTo(n int) api.Item              { return branchTo(api.OpBeq, 5, 6, n) }

// jal is the code of jumps, and b of branches like those of beqTo.
func jal(imm int) api.Instr   { return api.Instr{Op: api.OpJal, Imm: imm} }
func b(op, imm int) api.Instr { return api.Instr{Op: op, A: 5, B: 6, Imm: imm} }

var (
	nop      = instr(api.Instr{Op: api.OpAddi})
	branches = []int{api.OpBeq, api.OpBne, api.OpBlt, api.OpBge, api.OpBltu, api.OpBgeu}
	// opposites are the pairs of the chapter.
	opposites = map[int]int{
		api.OpBeq: api.OpBne, api.OpBne: api.OpBeq,
		api.OpBlt: api.OpBge, api.OpBge: api.OpBlt,
		api.OpBltu: api.OpBgeu, api.OpBgeu: api.OpBltu,
	}
)

// fill returns n instructions that do nothing.
func fill(n int) items { return slices.Repeat(items{nop}, n) }

// spread returns a unit of instructions in which branches stand at the words that
// are keys, as long as all of them are short, and lead to the words that are their
// values. The label of a branch has the number of its word.
func spread(words int, leads map[int]int) items {
	placed := map[int][]int{}
	for _, from := range slices.Sorted(maps.Keys(leads)) {
		placed[leads[from]] = append(placed[leads[from]], from)
	}
	var l items
	for w := range words + 1 {
		for _, n := range placed[w] {
			l = append(l, label(n))
		}
		if _, ok := leads[w]; ok {
			l = append(l, noted(branchTo(branches[w%6], w%32, w/32%32, w), w))
		} else if w < words {
			l = append(l, nop)
		}
	}
	return l
}

// The reference: what the chapter says, written down in another way. It is for
// valid units without constants.

// homes returns the index of each label.
func homes(l items) map[int]int {
	m := map[int]int{}
	for k, it := range l {
		if it.Kind == 1 {
			m[it.N] = k
		}
	}
	return m
}

// wantAt returns the position of each item and of the end.
func wantAt(l items, long []bool) []int {
	at := []int{0}
	for k, it := range l {
		words := 1
		if it.Kind == 1 {
			words = 0
		} else if long[k] {
			words = 2
		}
		at = append(at, at[k]+words)
	}
	return at
}

// wantLong is the definition of the long branches, and the number of rounds in
// which there were more of them.
func wantLong(l items) ([]bool, int) {
	home := homes(l)
	long := make([]bool, len(l))
	for rounds := 0; ; rounds++ {
		at := wantAt(l, long)
		before := slices.Clone(long)
		for k, it := range l {
			if it.Kind == 3 {
				d := 4 * (at[home[it.N]] - at[k])
				long[k] = before[k] || d < -4096 || 4094 < d
			}
		}
		if slices.Equal(long, before) {
			return long, rounds
		}
	}
}

// wantLay is the definition of the code.
func wantLay(l items) ([]api.Instr, []int, api.Errno) {
	home := homes(l)
	long, _ := wantLong(l)
	at := wantAt(l, long)
	var code []api.Instr
	var notes []int
	for k, it := range l {
		d := 4 * (at[home[it.N]] - at[k])
		i := it.Instr
		switch {
		case it.Kind == 1:
			continue
		case it.Kind == 2:
			i = api.Instr{Op: api.OpJal, Imm: d}
		case long[k]:
			code = append(code, api.Instr{Op: opposites[i.Op], A: i.A, B: i.B, Imm: 8})
			notes = append(notes, it.Note)
			i = api.Instr{Op: api.OpJal, Imm: d - 4}
		case it.Kind == 3:
			i.Imm = d
		}
		if isJump := it.Kind == 2 || long[k]; isJump && (i.Imm < -1<<20 || 1<<20-2 < i.Imm) {
			return nil, nil, 33
		}
		code = append(code, i)
		notes = append(notes, it.Note)
	}
	return code, notes, 0
}

// equals holds Lay and Long of l against the reference and P10.3, and returns the
// code and the number of rounds of the reference.
func equals(t *testing.T, l items) ([]api.Instr, int) {
	t.Helper()
	before := slices.Clone(l)
	code, notes, e := Lay(l)
	wantCode, wantNotes, wantE := wantLay(l)
	if e != wantE || !slices.Equal(code, wantCode) || !slices.Equal(notes, wantNotes) {
		t.Errorf("Lay of %d items: %d words, %d notes, %d; want %d, %d, %d", len(l), len(code), len(notes), e, len(wantCode), len(wantNotes), wantE)
		for k := range min(len(code), len(wantCode), len(notes), len(wantNotes)) {
			if code[k] != wantCode[k] || notes[k] != wantNotes[k] {
				t.Errorf("word %d: %+v, %d; want %+v, %d", k, code[k], notes[k], wantCode[k], wantNotes[k])
				break
			}
		}
	}
	long, e := Long(l)
	want, rounds := wantLong(l)
	if e != api.OK || !slices.Equal(long, want) {
		t.Errorf("Long of %d items: %d entries, %d", len(l), len(long), e)
	}
	if !slices.Equal(l, before) {
		t.Error("the unit was modified")
	}
	if wantE == api.OK && !t.Failed() {
		leadsToLabels(t, l, long, code)
	}
	return code, rounds
}

// leadsToLabels is P10.3: where the words of each jump and branch lead, whatever
// registers contain.
func leadsToLabels(t *testing.T, l items, long []bool, code []api.Instr) {
	t.Helper()
	home := homes(l)
	at := wantAt(l, long)
	if len(code) != at[len(l)] {
		t.Fatalf("%d words; want %d", len(code), at[len(l)])
	}
	for k, it := range l {
		if it.Kind != api.ItemJump && it.Kind != api.ItemIf {
			continue
		}
		for _, a := range []int{0, 1, -1} {
			for _, b := range []int{0, 1, -1} {
				var x [32]int
				x[it.Instr.A], x[it.Instr.B] = a, b
				x[0] = 0
				want := at[home[it.N]]
				taken, isBranch := alu.Taken(it.Instr.Op, x[it.Instr.A], x[it.Instr.B])
				if isBranch && !taken {
					want = at[k+1]
				}
				if w := leave(t, code, at[k], at[k+1], x); w != want {
					t.Fatalf("item %d, %+v, leads to word %d; want %d", k, it, w, want)
				}
			}
		}
	}
}

// leave executes the code of one item, which ends ahead of a word, from its first
// word on, and returns the word to which it leads. In a long branch, it goes on.
func leave(t *testing.T, code []api.Instr, first, end int, x [32]int) int {
	t.Helper()
	w := first
	for {
		i := code[w]
		taken, isBranch := alu.Taken(i.Op, x[i.A], x[i.B])
		if !isBranch && i != jal(i.Imm) || i.Imm%4 != 0 {
			t.Fatalf("%+v leads to no word", i)
		}
		next := w + 1
		if taken || !isBranch {
			next = w + i.Imm/4
		}
		if next <= w || next >= end {
			return next
		}
		w = next
	}
}

// longAre tests which items Long takes as long branches.
func longAre(t *testing.T, l items, want ...int) {
	t.Helper()
	long, e := Long(l)
	var got []int
	for k, is := range long {
		if is {
			got = append(got, k)
		}
	}
	if e != api.OK || len(long) != len(l) || !slices.Equal(got, want) {
		t.Errorf("Long of %d items: %d entries, true at %v, %d; want %v", len(l), len(long), got, e, want)
	}
}

// layIs tests what Lay returns, and that the reference says the same.
func layIs(t *testing.T, l items, want []api.Instr, wantNotes ...int) {
	t.Helper()
	code, notes, e := Lay(l)
	if e != api.OK || !slices.Equal(code, want) || !slices.Equal(notes, wantNotes) {
		t.Errorf("Lay(%+v) = %+v, %v, %d; want %+v, %v", l, code, notes, e, want, wantNotes)
	}
	equals(t, l)
}

// fails tests that Lay of l returns the error, and nothing beside it.
func fails(t *testing.T, l items, want api.Errno) {
	t.Helper()
	if code, notes, e := Lay(l); e != want || len(code) != 0 || len(notes) != 0 {
		t.Errorf("Lay of %d items, the first ones %+v: %d words, %d notes, %d; want %d", len(l), l[:min(len(l), 4)], len(code), len(notes), e, want)
	}
}

// isNoUnit tests that there is neither code of l nor a long branch.
func isNoUnit(t *testing.T, l items) {
	t.Helper()
	fails(t, l, api.ErrForm)
	if long, e := Long(l); e != api.ErrForm || len(long) != 0 {
		t.Errorf("Long of %d items, the first ones %+v: %d entries, %d", len(l), l[:min(len(l), 4)], len(long), e)
	}
}

// P10.1 and P10.2: small units.

func TestNoItems(t *testing.T) {
	layIs(t, nil, nil)
	layIs(t, items{}, nil)
	longAre(t, nil)
	longAre(t, items{})
}

func TestOneItem(t *testing.T) {
	for _, i := range []api.Instr{
		nop.Instr, {Op: api.OpEcall}, {Op: api.OpLui, Rd: 4, Imm: 4096}, {Op: api.OpSd, A: 2, B: 31, Imm: -2048},
		{Op: api.OpAmoswapD, Rd: 1, A: 2, B: 3, Aq: true, Rl: true}, {Op: api.OpFence, Imm: 0x33},
	} {
		layIs(t, items{instr(i)}, []api.Instr{i}, 0)
		layIs(t, items{noted(instr(i), 9)}, []api.Instr{i}, 9)
		longAre(t, items{instr(i)})
	}
	layIs(t, items{label(0)}, nil)
	layIs(t, items{noted(label(most), 9)}, nil)
	longAre(t, items{label(7)})
	// A jump or a branch alone has no label; a constant is none of this layer's.
	isNoUnit(t, items{jumpTo(0)})
	isNoUnit(t, items{beqTo(0)})
	isNoUnit(t, items{constant(5, 7)})
}

// What an instruction says is not changed, also if it is a jump or a branch.
func TestInstructionsAsTheyAre(t *testing.T) {
	l := []api.Instr{
		{Op: api.OpBeq, A: 1, B: 2, Imm: 4094}, {Op: api.OpBgeu, Imm: -4096}, {Op: api.OpBne, Imm: 2}, {Op: api.OpJal, Imm: 1<<20 - 2},
		{Op: api.OpJal, Rd: 1, Imm: -1 << 20}, {Op: api.OpJalr, Rd: 1, A: 5, Imm: 3}, {Op: api.OpAuipc, Rd: 3, Imm: -1 << 19}, {Op: api.OpLrD, Rd: 5, A: 6, Aq: true},
	}
	var u items
	for _, i := range l {
		u = append(u, instr(i))
	}
	layIs(t, u, l, 0, 0, 0, 0, 0, 0, 0, 0)
	longAre(t, u)
	// Behind a branch that becomes long, too.
	u = slices.Concat(items{beqTo(1)}, u, fill(far), items{label(1)})
	if code, _ := equals(t, u); !slices.Equal(code[2:2+len(l)], l) {
		t.Errorf("%+v", code[2:2+len(l)])
	}
	longAre(t, u, 0)
}

func TestLabelsOnly(t *testing.T) {
	l := items{label(3), label(0), label(most), label(1)}
	layIs(t, l, nil)
	longAre(t, l)
}

func TestOwnPosition(t *testing.T) {
	layIs(t, items{label(1), jumpTo(1)}, []api.Instr{jal(0)}, 0)
	layIs(t, items{label(1), beqTo(1)}, []api.Instr{b(api.OpBeq, 0)}, 0)
	layIs(t, items{nop, label(1), noted(jumpTo(1), 3), nop}, []api.Instr{nop.Instr, jal(0), nop.Instr}, 0, 3, 0)
	layIs(t, items{nop, label(1), label(2), beqTo(1), nop}, []api.Instr{nop.Instr, b(api.OpBeq, 0), nop.Instr}, 0, 0, 0)
	longAre(t, items{label(1), beqTo(1), jumpTo(1)})
}

func TestNextItem(t *testing.T) {
	layIs(t, items{jumpTo(1), label(1)}, []api.Instr{jal(4)}, 0)
	layIs(t, items{beqTo(1), label(1)}, []api.Instr{b(api.OpBeq, 4)}, 0)
	layIs(t, items{jumpTo(1), label(2), label(1), nop}, []api.Instr{jal(4), nop.Instr}, 0, 0)
	layIs(t, items{beqTo(1), label(1), label(2), nop}, []api.Instr{b(api.OpBeq, 4), nop.Instr}, 0, 0)
}

func TestForwardAndBackward(t *testing.T) {
	l := items{label(1), nop, jumpTo(2), beqTo(2), nop, jumpTo(1), beqTo(1), label(2), nop, jumpTo(2), beqTo(2)}
	layIs(t, l, []api.Instr{nop.Instr, jal(20), b(api.OpBeq, 16), nop.Instr, jal(-16), b(api.OpBeq, -20), nop.Instr, jal(-4), b(api.OpBeq, -8)}, 0, 0, 0, 0, 0, 0, 0, 0, 0)
	longAre(t, l)
}

func TestSeveralLabelsAtOnePosition(t *testing.T) {
	ahead, behind := items{label(1), label(0), label(5)}, items{label(2), label(most), label(3)}
	l := slices.Concat(ahead, items{jumpTo(5), jumpTo(0), jumpTo(1), beqTo(2), beqTo(most), beqTo(3)}, behind)
	layIs(t, l, []api.Instr{jal(0), jal(-4), jal(-8), b(api.OpBeq, 12), b(api.OpBeq, 8), b(api.OpBeq, 4)}, 0, 0, 0, 0, 0, 0)
	longAre(t, l)
	// In the middle of the unit, and where branches are long.
	l = slices.Concat(ahead, items{beqTo(3), beqTo(9)}, fill(far), items{label(8), label(9), label(7), jumpTo(8), jumpTo(9), jumpTo(7)}, fill(far), items{beqTo(1), beqTo(5), beqTo(7), jumpTo(0)}, behind)
	equals(t, l)
	longAre(t, l, 3, 4, 11+2*far, 12+2*far, 13+2*far)
}

// P10.1 and P10.2: which branches reach their labels.

func TestBranchAtTheEdges(t *testing.T) {
	for _, op := range branches {
		it := noted(branchTo(op, 5, 6, 1), 8)
		for _, c := range []struct {
			l      items
			at     int // the index of the branch
			word   int
			isLong bool
			code   []api.Instr
		}{
			{slices.Concat(items{label(1)}, fill(1024), items{it, nop}), 1025, 1024, false, []api.Instr{b(op, -4096), nop.Instr}},
			{slices.Concat(items{label(1)}, fill(1025), items{it, nop}), 1026, 1025, true, []api.Instr{b(opposites[op], 8), jal(-4104), nop.Instr}},
			{slices.Concat(items{nop, it}, fill(1022), items{label(1)}), 1, 1, false, []api.Instr{b(op, 4092), nop.Instr}},
			{slices.Concat(items{nop, it}, fill(1023), items{label(1)}), 1, 1, true, []api.Instr{b(opposites[op], 8), jal(4096), nop.Instr}},
			// And well within and beyond them.
			{slices.Concat(items{label(1)}, fill(1023), items{it, nop}), 1024, 1023, false, []api.Instr{b(op, -4092), nop.Instr}},
			{slices.Concat(items{label(1)}, fill(5000), items{it, nop}), 5001, 5000, true, []api.Instr{b(opposites[op], 8), jal(-20004), nop.Instr}},
			{slices.Concat(items{nop, it}, fill(1021), items{label(1)}), 1, 1, false, []api.Instr{b(op, 4088), nop.Instr}},
			{slices.Concat(items{nop, it}, fill(5000), items{label(1)}), 1, 1, true, []api.Instr{b(opposites[op], 8), jal(20004), nop.Instr}},
		} {
			code, _ := equals(t, c.l)
			_, notes, _ := Lay(c.l)
			words := 1
			if c.isLong {
				words = 2
				longAre(t, c.l, c.at)
			} else {
				longAre(t, c.l)
			}
			if len(code) != len(c.l)-2+words || !slices.Equal(code[c.word:c.word+words+1], c.code) {
				t.Fatalf("%d words, the branch: %+v; want %+v", len(code), code[c.word:c.word+2], c.code)
			}
			wantNotes := slices.Repeat([]int{0}, len(code))
			for k := range words {
				wantNotes[c.word+k] = 8
			}
			if !slices.Equal(notes, wantNotes) {
				t.Errorf("%v; want 8 at the words of the branch alone", notes)
			}
		}
	}
}

// The edges count words, not items: labels between do not move a branch.
func TestBranchOverLabels(t *testing.T) {
	var labels items
	for n := range 2000 {
		labels = append(labels, label(10+n))
	}
	for _, n := range []int{0, 1} {
		equals(t, slices.Concat(items{label(1)}, labels, fill(branchBehind+n), items{beqTo(1)}))
		equals(t, slices.Concat(items{beqTo(1)}, labels, fill(branchAhead-1+n), items{label(1)}))
	}
	longAre(t, slices.Concat(items{label(1)}, labels, fill(branchBehind), items{beqTo(1)}))
	longAre(t, slices.Concat(items{beqTo(1)}, labels, fill(branchAhead), items{label(1)}), 0)
}

func TestRegistersOfBranches(t *testing.T) {
	for _, op := range branches {
		for r := range 32 {
			for _, a := range []int{0, r, 31 - r} {
				near := branchTo(op, a, r, 1)
				beyond := branchTo(op, a, r, 2)
				code, _ := equals(t, slices.Concat(items{label(1), near, beyond}, fill(1100), items{label(2)}))
				want := []api.Instr{{Op: op, A: a, B: r}, {Op: opposites[op], A: a, B: r, Imm: 8}, jal(4 * 1101)}
				if !slices.Equal(code[:3], want) {
					t.Errorf("%+v; want %+v", code[:3], want)
				}
			}
		}
	}
}

func TestExampleOfTheChapter(t *testing.T) {
	l := slices.Concat(items{label(4)}, fill(1100), items{branchTo(api.OpBeq, 5, 0, 4)})
	code, notes, e := Lay(l)
	if e != api.OK || len(code) != 1102 || len(notes) != 1102 || code[1100] != (api.Instr{Op: api.OpBne, A: 5, Imm: 8}) || code[1101] != jal(-4404) {
		t.Errorf("%d words, %d", len(code), e)
	}
	longAre(t, l, 1101)
	equals(t, l)
}

// P10.1: which jumps reach their labels.

func TestJumpAtTheEdges(t *testing.T) {
	ahead := slices.Concat(items{jumpTo(1)}, fill(jumpAhead), items{label(1)})
	behind := slices.Concat(items{label(1)}, fill(jumpBehind+1), items{jumpTo(1)})
	fails(t, ahead, api.ErrReach)
	fails(t, behind, api.ErrReach)
	longAre(t, ahead)
	longAre(t, behind)
	// One word less.
	ahead, behind = slices.Delete(ahead, 3, 4), slices.Delete(behind, 3, 4)
	if code, _ := equals(t, ahead); code[0] != jal(1<<20-4) {
		t.Errorf("%+v", code[0])
	}
	if code, _ := equals(t, behind); code[jumpBehind] != jal(-1<<20) {
		t.Errorf("%+v", code[jumpBehind])
	}
	longAre(t, ahead)
}

func TestLongBranchAtTheEdges(t *testing.T) {
	// The jump of a long branch is the word behind its first one.
	ahead := slices.Concat(items{beqTo(1)}, fill(jumpAhead), items{label(1)})
	behind := slices.Concat(items{label(1)}, fill(jumpBehind), items{beqTo(1)})
	fails(t, ahead, api.ErrReach)
	fails(t, behind, api.ErrReach)
	longAre(t, ahead, 0)
	longAre(t, behind, jumpBehind+1)
	equals(t, ahead)
	equals(t, behind)
	ahead, behind = slices.Delete(ahead, 3, 4), slices.Delete(behind, 3, 4)
	if code, _ := equals(t, ahead); code[0] != b(api.OpBne, 8) || code[1] != jal(1<<20-4) {
		t.Errorf("%+v", code[:2])
	}
	if code, _ := equals(t, behind); code[jumpBehind-1] != b(api.OpBne, 8) || code[jumpBehind] != jal(-1<<20) {
		t.Errorf("%+v", code[jumpBehind-1:])
	}
	longAre(t, ahead, 0)
	longAre(t, behind, jumpBehind)
}

// A jump stops reaching its label because a branch between becomes long.
func TestJumpOverLongBranches(t *testing.T) {
	ahead := func(n int) items {
		return slices.Concat(items{jumpTo(1), beqTo(1), nop}, fill(n), items{label(1)})
	}
	behind := func(n int) items {
		return slices.Concat(items{label(1), nop}, fill(n), items{beqTo(1), jumpTo(1)})
	}
	for n := -1; n <= 1; n++ {
		equals(t, ahead(jumpAhead-4+n))
		equals(t, behind(jumpBehind-3+n))
	}
	fails(t, ahead(jumpAhead-3), api.ErrReach)
	fails(t, behind(jumpBehind-2), api.ErrReach)
	if code, notes, e := Lay(ahead(jumpAhead - 4)); e != api.OK || len(code) != jumpAhead || len(notes) != jumpAhead || code[0] != jal(1<<20-4) {
		t.Errorf("%d words, %d", len(code), e)
	}
	if code, _, e := Lay(behind(jumpBehind - 3)); e != api.OK || len(code) != jumpBehind+1 || code[jumpBehind] != jal(-1<<20) {
		t.Errorf("%d words, %d", len(code), e)
	}
}

// What does not reach fails the whole unit, wherever it stands in it.
func TestJumpsThatDoNotReach(t *testing.T) {
	for _, it := range []api.Item{jumpTo(1), beqTo(1)} {
		fails(t, slices.Concat(items{label(1), jumpTo(1), beqTo(1)}, fill(jumpBehind), items{it, nop, beqTo(2), nop, jumpTo(2), label(2)}), api.ErrReach)
		fails(t, slices.Concat(items{label(2), jumpTo(2), beqTo(2), nop, it}, fill(jumpAhead+1), items{label(1), jumpTo(1), beqTo(1)}), api.ErrReach)
		l := slices.Concat(items{it}, fill(2*jumpAhead), items{label(1)}, fill(2*jumpBehind), items{it})
		fails(t, l, api.ErrReach)
		if long, e := Long(l); e != api.OK || len(long) != len(l) || long[0] != (it == beqTo(1)) || long[len(l)-1] != (it == beqTo(1)) {
			t.Errorf("%d entries, %d", len(long), e)
		}
	}
}

// P10.2: branches that become long because others do.

// A branch just reaches its label, and does not any more when another one between
// them becomes long.
func TestBranchOverLongBranch(t *testing.T) {
	for _, toFar := range []bool{true, false} {
		between := 2
		if toFar {
			between = 3
		}
		ahead := slices.Concat(items{beqTo(1), beqTo(between)}, fill(branchAhead-2), items{label(1), label(2)}, fill(far), items{label(3)})
		behind := slices.Concat(items{label(3)}, fill(far), items{label(1), label(2), beqTo(between)}, fill(branchBehind-1), items{beqTo(1)})
		equals(t, ahead)
		equals(t, behind)
		if !toFar {
			longAre(t, ahead)
			longAre(t, behind)
			continue
		}
		longAre(t, ahead, 0, 1)
		longAre(t, behind, far+3, far+3+branchBehind)
		// One word less leaves it short.
		ahead, behind = slices.Delete(ahead, 4, 5), slices.Delete(behind, far+5, far+6)
		equals(t, ahead)
		equals(t, behind)
		longAre(t, ahead, 1)
		longAre(t, behind, far+3)
	}
}

// A branch beside another one, not over it, does not change with it.
func TestBranchBesideLongBranch(t *testing.T) {
	beyond := slices.Concat(items{beqTo(9)}, fill(far), items{label(9)})
	ahead := slices.Concat(items{beqTo(1)}, fill(branchAhead-1), items{label(1)})
	behind := slices.Concat(items{label(2)}, fill(branchBehind), items{beqTo(2)})
	longAre(t, slices.Concat(ahead, beyond), branchAhead+1)
	longAre(t, slices.Concat(behind, beyond), branchBehind+2)
	longAre(t, slices.Concat(beyond, ahead), 0)
	longAre(t, slices.Concat(beyond, behind), 0)
	equals(t, slices.Concat(ahead, beyond, behind))
	// The label of the branch stands at the long branch itself, or just behind it.
	l := slices.Concat(items{beqTo(1)}, fill(branchAhead-1), items{label(1), beqTo(9), label(2)}, fill(branchBehind), items{beqTo(2)}, fill(far), items{label(9)})
	equals(t, l)
	longAre(t, l, branchAhead+1)
}

// chain is a unit, as spread takes it, whose branches become long one by one.
type chain struct {
	name  string
	words int
	leads map[int]int
	order []int // the branches in the order in which they become long
}

// chains returns chains of branches, of which each becomes long only because all
// ones ahead of it in the order have. The first one goes the given number of
// words too far.
func chains(tooFar int) []chain {
	const n = 40
	ahead := chain{name: "ahead", words: 600*n + 2000, leads: map[int]int{}}
	behind := chain{name: "behind", words: 600*n + 2000, leads: map[int]int{}}
	dense := chain{name: "dense", words: 4000, leads: map[int]int{}}
	back := chain{name: "dense and back", words: 4000, leads: map[int]int{}}
	both := chain{name: "in both directions", words: 4000, leads: map[int]int{}}
	add := func(c *chain, from, words int) {
		// The first one, only, has none that becomes long ahead of it.
		if len(c.order) == 0 {
			if words < 0 {
				words -= tooFar
			} else {
				words += tooFar
			}
		}
		c.leads[from] = from + words
		c.order = append(c.order, from)
	}
	for k := range n {
		add(&ahead, 600*(n-k), branchAhead)
		add(&behind, 1200+600*k, -branchBehind)
	}
	// In the dense ones, branch k is over all k ones ahead of it in the order.
	slack := func(k int) int { return max(k-1, 0) }
	for k := range 200 {
		add(&dense, 2000-k, branchAhead-slack(k))
		add(&back, 2000+k, -branchBehind+slack(k))
		if k%2 == 0 {
			add(&both, 2000-k, branchAhead-slack(k))
		} else {
			add(&both, 2000+k, -branchBehind+slack(k))
		}
	}
	return []chain{ahead, behind, dense, back, both}
}

func TestChains(t *testing.T) {
	for _, c := range chains(1) {
		l := spread(c.words, c.leads)
		_, rounds := equals(t, l)
		if rounds != len(c.order) {
			t.Fatalf("%s: %d rounds; want %d", c.name, rounds, len(c.order))
		}
		long, _ := Long(l)
		for k, it := range l {
			if want := it.Kind == api.ItemIf; long[k] != want {
				t.Errorf("%s: item %d: %v; want %v", c.name, k, long[k], want)
			}
		}
	}
}

// Where the first one is short, all of them are.
func TestChainsThatDoNotBegin(t *testing.T) {
	for _, c := range chains(0) {
		l := spread(c.words, c.leads)
		if _, rounds := equals(t, l); rounds != 0 {
			t.Fatalf("%s: %d rounds", c.name, rounds)
		}
		longAre(t, l)
	}
}

// Where one in the middle has room for a word more, those behind it in the order
// are short.
func TestChainsThatEnd(t *testing.T) {
	for _, c := range chains(1) {
		middle := len(c.order) / 2
		from := c.order[middle]
		if c.leads[from] > from {
			c.leads[from]--
		} else {
			c.leads[from]++
		}
		l := spread(c.words, c.leads)
		if _, rounds := equals(t, l); rounds != middle {
			t.Fatalf("%s: %d rounds; want %d", c.name, rounds, middle)
		}
		long, _ := Long(l)
		for k, it := range l {
			want := it.Kind == api.ItemIf && slices.Contains(c.order[:middle], it.N)
			if long[k] != want {
				t.Errorf("%s: the branch at word %d: %v; want %v", c.name, it.N, long[k], want)
			}
		}
	}
}

// A branch that leads over long ones, only, is short as long as it reaches.
func TestShortAmongLongBranches(t *testing.T) {
	beyond := func(n int) items { return slices.Repeat(items{beqTo(9)}, n) }
	for n, isLong := range map[int]bool{510: false, 511: false, 512: true, 513: true} {
		l := slices.Concat(beyond(600), items{beqTo(1)}, beyond(n), items{label(1)}, beyond(600), fill(far), items{label(9)})
		equals(t, l)
		if long, _ := Long(l); long[600] != isLong || !long[599] || !long[601] || !long[600+n] || !long[602+n] {
			t.Errorf("over %d branches: %v", n, long[600])
		}
	}
	for n, isLong := range map[int]bool{511: false, 512: false, 513: true, 514: true} {
		l := slices.Concat(beyond(600), items{label(1)}, beyond(n), items{beqTo(1)}, beyond(600), fill(far), items{label(9)})
		equals(t, l)
		if long, _ := Long(l); long[601+n] != isLong || !long[599] || !long[601] || !long[600+n] || !long[602+n] {
			t.Errorf("back over %d branches: %v", n, long[601+n])
		}
	}
	// To its own position and the next one, it always reaches.
	l := slices.Concat(beyond(3), items{label(1), beqTo(1), beqTo(2), label(2)}, beyond(3), fill(far), items{label(9)})
	equals(t, l)
	longAre(t, l, 0, 1, 2, 7, 8, 9)
}

// Jumps lead beyond the reach of branches, and are never long.
func TestJumpsAreNeverLong(t *testing.T) {
	l := slices.Concat(items{label(0), jumpTo(1), beqTo(1)}, fill(far), items{jumpTo(0), beqTo(0), label(1)})
	code, _ := equals(t, l)
	longAre(t, l, 2, far+4)
	if code[0] != jal(4*(far+6)) || code[1] != b(api.OpBne, 8) || code[2] != jal(4*(far+4)) ||
		code[far+3] != jal(-4*(far+3)) || code[far+4] != b(api.OpBne, 8) || code[far+5] != jal(-4*(far+5)) {
		t.Errorf("%+v, %+v", code[:3], code[far+3:])
	}
}

// P10.2: the set of long branches is the smallest one. All sets are tried.
func TestSmallestSet(t *testing.T) {
	r := rand.New(rand.NewPCG(10, 2))
	mixed := 0
	for range 300 {
		l, at := someBranches(r)
		long, e := Long(l)
		if e != api.OK {
			t.Fatal(e)
		}
		got := 0
		for k, from := range at {
			if long[from] {
				got |= 1 << k
			}
		}
		isSet := false
		for set := range 1 << len(at) {
			if !othersReach(l, at, set) {
				continue
			}
			isSet = isSet || set == got
			if set&got != got {
				t.Fatalf("of the branches at %v, %b are long; %b are enough", at, got, set)
			}
		}
		if !isSet {
			t.Fatalf("of the branches at %v, %b are long; they are not enough", at, got)
		}
		if _, rounds := wantLong(l); rounds > 1 && isAnyShort(l, long) {
			mixed++
		}
	}
	if mixed < 50 {
		t.Errorf("in only %d units, branches become long because others do, but not all", mixed)
	}
}

// someBranches returns a unit with few branches, most of which almost reach their
// labels or just do, and the indices of the branches.
func someBranches(r *rand.Rand) (items, []int) {
	const words = 2400
	leads := map[int]int{}
	for range 7 {
		from := r.IntN(words)
		slack := r.IntN(6) - 1
		if from > branchBehind && r.IntN(2) == 0 {
			leads[from] = from - branchBehind + slack
		} else {
			leads[from] = min(from+branchAhead-slack, words)
		}
		leads[from] = max(leads[from], 0)
	}
	l := spread(words, leads)
	var at []int
	for k, it := range l {
		if it.Kind == api.ItemIf {
			at = append(at, k)
		}
	}
	return l, at
}

// othersReach reports whether all branches reach their labels that are not in the
// set, where those in it are long.
func othersReach(l items, branches []int, set int) bool {
	words := func(from, to int) int {
		n := 0
		for _, it := range l[from:to] {
			if it.Kind != api.ItemLabel {
				n++
			}
		}
		for k, at := range branches {
			if from <= at && at < to && set>>k&1 == 1 {
				n++
			}
		}
		return n
	}
	for k, at := range branches {
		if set>>k&1 == 1 {
			continue
		}
		home := slices.Index(l, label(l[at].N))
		if home > at && words(at, home) > branchAhead || home < at && words(home, at) > branchBehind {
			return false
		}
	}
	return true
}

// Units of many branches agree with the reference.
func TestManyBranches(t *testing.T) {
	r := rand.New(rand.NewPCG(10, 1))
	deep, mixed := 0, 0
	for range 150 {
		l := manyBranches(r)
		_, rounds := equals(t, l)
		if rounds > 5 {
			deep++
		}
		if long, _ := Long(l); slices.Contains(long, true) && isAnyShort(l, long) {
			mixed++
		}
	}
	if deep < 50 || mixed < 100 {
		t.Errorf("only %d units of more than 5 rounds, %d with short and long branches", deep, mixed)
	}
}

// manyBranches returns a unit of branches most of which reach their labels only as
// long as few of those between are long. How few is such that it often takes many
// rounds until no more become long.
func manyBranches(r *rand.Rand) items {
	words := 1500 + r.IntN(6000)
	count := 1 + r.IntN(400)
	slack := 1 + count*1000/words/2
	leads := map[int]int{}
	for k := range count {
		from := r.IntN(words)
		length := branchAhead - r.IntN(slack+1)
		if k < 4 {
			length = r.IntN(words)
		}
		if r.IntN(2) == 0 {
			length = -length
		}
		leads[from] = min(max(from+length, 0), words)
	}
	return spread(words, leads)
}

// isAnyShort reports whether a branch is short.
func isAnyShort(l items, long []bool) bool {
	for k, it := range l {
		if it.Kind == api.ItemIf && !long[k] {
			return true
		}
	}
	return false
}

// Small units of all kinds of items agree with the reference: nothing is long.
func TestSmallUnits(t *testing.T) {
	few := items{nop, label(0), label(1), jumpTo(0), noted(beqTo(1), 4), noted(branchTo(api.OpBltu, 7, 0, 0), 2)}
	units := 0
	var grow func(l items)
	grow = func(l items) {
		if isUnit(l) {
			units++
			equals(t, l)
			longAre(t, l)
		} else {
			isNoUnit(t, l)
		}
		if len(l) < 6 {
			for _, it := range few {
				grow(append(slices.Clone(l), it))
			}
		}
	}
	grow(nil)
	if units < 5000 {
		t.Errorf("only %d units", units)
	}
}

// isUnit reports whether labels are placed once, and where they are needed.
func isUnit(l items) bool {
	count := map[int]int{}
	for _, it := range l {
		if it.Kind == 1 {
			count[it.N]++
		}
	}
	for _, it := range l {
		if it.Kind != 0 && count[it.N] != 1 {
			return false
		}
	}
	return true
}

// P10.1: Notes.

func TestNotes(t *testing.T) {
	for _, n := range []int{0, 1, 2, 1 << 32, most} {
		layIs(t, items{noted(label(1), 77), noted(nop, n), noted(jumpTo(1), n), noted(beqTo(1), n)}, []api.Instr{nop.Instr, jal(-4), b(api.OpBeq, -8)}, n, n, n)
	}
	// Each word has the Note of its own item; those of labels go nowhere.
	var l items
	var want []int
	for k := range far {
		it := noted(instr(api.Instr{Op: api.OpAddi, Rd: 1, Imm: k % 2000}), 3*k)
		switch k % 4 {
		case 1:
			it = noted(label(k), most-k)
		case 2:
			it = noted(branchTo(branches[k/4%6], 1, 2, far), 3*k)
		case 3:
			it = noted(jumpTo(far), 3*k)
		}
		if k == 6 {
			it.Note = 0
		}
		l = append(l, it)
		if k%4 != 1 {
			want = append(want, it.Note)
		}
		if k%4 == 2 {
			want = append(want, it.Note)
		}
	}
	l = slices.Concat(l, fill(1100), items{label(far)})
	want = append(want, make([]int, 1100)...)
	if _, notes, e := Lay(l); e != api.OK || !slices.Equal(notes, want) {
		t.Errorf("%d notes, %d; want %d", len(notes), e, len(want))
	}
	equals(t, l)
}

// The code is code: each of its instructions has a word.
func TestCodeHasWords(t *testing.T) {
	l := slices.Concat(items{label(0), beqTo(1), beqTo(0), jumpTo(1)}, fill(2000), items{beqTo(0), jumpTo(0), label(1)})
	code, _ := equals(t, l)
	for _, i := range code {
		w, e := enc.Encode(i)
		if e != api.OK || dec.Decode(w) != i {
			t.Errorf("%+v: %#x, %d", i, w, e)
		}
	}
}

// P10.2: Opposite.

func TestOpposite(t *testing.T) {
	found := 0
	for op := -300; op < 300; op++ {
		want, isBranch := opposites[op]
		if isBranch {
			found++
		}
		if got := Opposite(op); got != want {
			t.Errorf("Opposite(%d) = %d; want %d", op, got, want)
		}
	}
	if found != 6 {
		t.Fatalf("%d branches", found)
	}
	// Those beyond some width become a branch if they are cut.
	for _, op := range []int{1<<32 + api.OpBeq, 1<<32 + api.OpBgeu, -1<<32 + api.OpBlt, 1<<16 + api.OpBne, 1<<8 + api.OpBltu, most, most - 1, least, least + 5, least + api.OpBge} {
		if got := Opposite(op); got != 0 {
			t.Errorf("Opposite(%d) = %d; want 0", op, got)
		}
	}
}

// The opposite of a branch is taken where the branch is not.
func TestOppositeIsTakenElsewhere(t *testing.T) {
	values := []int{0, 1, 2, -1, -2, most, least, 1 << 32, -1 << 32}
	for _, op := range branches {
		if Opposite(Opposite(op)) != op {
			t.Errorf("Opposite(Opposite(%d)) = %d", op, Opposite(Opposite(op)))
		}
		for _, a := range values {
			for _, b := range values {
				taken, _ := alu.Taken(op, a, b)
				if other, ok := alu.Taken(Opposite(op), a, b); !ok || other == taken {
					t.Errorf("of %d and %d, the branches %d and %d are both taken or both not", a, b, op, Opposite(op))
				}
			}
		}
	}
}

// Errors: ErrForm.

// faults are items that are not well formed, one for each way.
func faults() items {
	l := items{{Kind: -1}, {Kind: 5}, {Kind: 1<<32 + 1}, {Kind: most}, {Kind: least}, {Kind: 5, Instr: nop.Instr}}
	// Instructions and branches that are not valid.
	for _, i := range []api.Instr{{}, {Op: -1}, {Op: 88}, {Op: api.OpAddi, Rd: 32}, {Op: api.OpAddi, A: -1}, {Op: api.OpAddi, Imm: 2048}, {Op: api.OpAddi, B: 1},
		{Op: api.OpAdd, Aq: true}, {Op: api.OpJal, Imm: 1 << 20}, {Op: api.OpJal, Imm: -1<<20 - 4}, {Op: api.OpJal, Imm: 1}, {Op: api.OpBeq, Imm: 4096}, {Op: api.OpBeq, Imm: -4100}} {
		l = append(l, instr(i))
	}
	for _, i := range []api.Instr{{}, {Op: api.OpJal}, {Op: api.OpAddi}, {Op: 88}, {Op: api.OpBeq, Imm: 8}, {Op: api.OpBeq, Imm: -4}, {Op: api.OpBeq, Rd: 1},
		{Op: api.OpBeq, A: 32}, {Op: api.OpBeq, B: -1}, {Op: api.OpBeq, Aq: true}, {Op: api.OpBeq, Rl: true}} {
		l = append(l, api.Item{Kind: api.ItemIf, Instr: i})
	}
	// Fields that are not mentioned, labels and Notes that are negative.
	l = append(l, api.Item{Kind: api.ItemInstr, Instr: nop.Instr, N: 1}, api.Item{Kind: api.ItemLabel, N: 5, Instr: nop.Instr}, api.Item{Kind: api.ItemLabel, N: 5, Instr: api.Instr{Imm: 4}},
		api.Item{Kind: api.ItemJump, Instr: jal(0)}, api.Item{Kind: api.ItemJump, Instr: api.Instr{Rd: 1}},
		label(-1), label(least), jumpTo(-1), beqTo(-1), noted(nop, -1), noted(label(5), -1), noted(jumpTo(0), -1), noted(beqTo(0), least))
	// Constants that are not well formed.
	return append(l, constant(32, 7), constant(-1, 7), noted(constant(5, 7), -1), api.Item{Kind: api.ItemConst, Instr: api.Instr{Op: api.OpAddi, Rd: 5}})
}

// Faults are told wherever they stand, also beside a jump that does not reach.
func TestItemsThatAreNotWellFormed(t *testing.T) {
	long := slices.Concat(items{label(0), jumpTo(1)}, fill(jumpAhead), items{label(1)})
	fails(t, long, api.ErrReach)
	for _, it := range faults() {
		isNoUnit(t, items{it})
		isNoUnit(t, items{it, label(0), jumpTo(0), beqTo(0)})
		isNoUnit(t, items{label(0), jumpTo(0), it, beqTo(0)})
		isNoUnit(t, items{label(0), jumpTo(0), beqTo(0), it})
		isNoUnit(t, items{label(-1), label(0), it})
	}
	for _, it := range []api.Item{{Kind: 5}, instr(api.Instr{}), beqTo(-1), constant(32, 7)} {
		isNoUnit(t, slices.Insert(slices.Clone(long), 0, it))
		isNoUnit(t, append(slices.Clone(long), it))
	}
}

func TestLabelsThatAreNotPlacedOnce(t *testing.T) {
	isNoUnit(t, items{label(0), label(0)})
	isNoUnit(t, items{label(0), nop, label(1), label(0)})
	isNoUnit(t, items{label(3), jumpTo(3), label(3)})
	isNoUnit(t, items{jumpTo(1)})
	isNoUnit(t, items{label(0), jumpTo(1)})
	isNoUnit(t, items{beqTo(1), label(0)})
	isNoUnit(t, items{label(1), jumpTo(1), beqTo(1 << 32)})
	isNoUnit(t, items{label(1), nop, jumpTo(0)})
	isNoUnit(t, items{nop, beqTo(0)})
	beyond := slices.Concat(items{label(0)}, fill(jumpBehind+1), items{jumpTo(0)})
	fails(t, beyond, api.ErrReach)
	isNoUnit(t, append(slices.Clone(beyond), label(0)))
	isNoUnit(t, append(slices.Clone(beyond), jumpTo(1)))
	isNoUnit(t, append(slices.Clone(beyond), beqTo(1)))
}

func TestConstants(t *testing.T) {
	for _, it := range []api.Item{constant(5, 7), constant(0, 0), constant(31, most), noted(constant(1, -1), 3)} {
		isNoUnit(t, items{it})
		isNoUnit(t, items{it, label(0), beqTo(0)})
		isNoUnit(t, items{label(0), it, beqTo(0)})
		isNoUnit(t, items{label(0), jumpTo(0), it})
		isNoUnit(t, items{it, it})
		for _, beyond := range []api.Item{jumpTo(1), beqTo(1)} {
			l := slices.Concat(items{beyond}, fill(jumpAhead), items{label(1)})
			fails(t, l, api.ErrReach)
			isNoUnit(t, slices.Insert(slices.Clone(l), 0, it))
			isNoUnit(t, slices.Insert(slices.Clone(l), 7, it))
			isNoUnit(t, append(slices.Clone(l), it))
		}
	}
}

// Rule 3: arguments are neither modified nor kept, and results are new memory.

func TestUnitsAreNotModified(t *testing.T) {
	whole := slices.Concat(items{label(1), beqTo(1), beqTo(2)}, fill(1200), items{label(2), beqTo(1), jumpTo(1), constant(5, 7), label(1)})
	before := slices.Clone(whole)
	for n := range len(whole) + 1 {
		// Behind the length of the unit, there is memory that does not belong to it.
		Lay(whole[:n])
		Long(whole[:n])
	}
	if !slices.Equal(whole, before) {
		t.Error("the unit was modified")
	}
}

func TestResultsAreNew(t *testing.T) {
	l := slices.Concat(items{label(1), noted(beqTo(1), 4), beqTo(2)}, fill(1200), items{label(2), jumpTo(1)})
	before := slices.Clone(l)
	wantCode, wantNotes, _ := wantLay(l)
	wantIs, _ := wantLong(l)
	firstCode, firstNotes, _ := Lay(l)
	firstIs, _ := Long(l)
	code, notes, _ := Lay(l)
	is, _ := Long(l)
	clear(firstCode)
	clear(firstNotes)
	clear(firstIs)
	if !slices.Equal(l, before) {
		t.Error("the unit hangs on what was returned")
	}
	clear(l)
	if !slices.Equal(code, wantCode) || !slices.Equal(notes, wantNotes) || !slices.Equal(is, wantIs) {
		t.Error("what was returned hangs on the unit, or on what was returned before")
	}
}
