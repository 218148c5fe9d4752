package linear

import (
	"fmt"
	"math"
	"math/rand/v2"
	"reflect"
	"slices"
	"strconv"
	"strings"
	"testing"

	"spinnaker/api"
	"spinnaker/axiom"
	"spinnaker/cand"
	"spinnaker/enc"
	"spinnaker/image"
	"spinnaker/isa"
	"spinnaker/ppo"
	"spinnaker/replay"
	"spinnaker/text"
)

// Limits and places as numbers, so that the tests say what the document says.
const (
	maxWindow = 64
	maxEvents = 512
	codeBase  = 65536
	dataBase  = 16777216
)

var initial = api.Ref{Hart: -1}

// Scenes: an image and a candidate, written as texts.

// scene is an image and a candidate of it.
type scene struct {
	im api.Image
	c  api.Cand
}

// newScene returns the scene of a program for each hart, whose memory events are performed
// in an order: references such as 1.2 (hart 1, record 2). Instructions are separated by
// semicolons. One behind - is never executed, and has no record. What is behind @ is said
// of the record: that it fails, or waits.
func newScene(t testing.TB, order string, programs ...string) scene {
	t.Helper()
	s := scene{im: api.Image{Data: make([]int, 4)}}
	for _, program := range programs {
		s.add(t, program)
	}
	var l []api.Ref
	for _, word := range strings.Fields(order) {
		hart, at, _ := strings.Cut(word, ".")
		l = append(l, api.Ref{Hart: number(t, hart), At: number(t, at)})
	}
	s.perform(l)
	return s
}

// add adds a hart.
func (s *scene) add(t testing.TB, program string) {
	t.Helper()
	s.im.Entries = append(s.im.Entries, len(s.im.Code))
	var records []api.Rec
	for line := range strings.SplitSeq(program, ";") {
		instr, said, _ := strings.Cut(line, "@")
		instr, skipped := strings.CutPrefix(strings.TrimSpace(instr), "-")
		r := api.Rec{PC: codeBase + 4*len(s.im.Code), Src: initial}
		r.Fail, r.Wait = strings.Contains(said, "fails"), strings.Contains(said, "waits")
		s.im.Code = append(s.im.Code, assemble(t, instr))
		if !skipped {
			records = append(records, r)
		}
	}
	s.c.Harts = append(s.c.Harts, records)
}

// assemble returns the word of an instruction.
func assemble(t testing.TB, s string) uint32 {
	t.Helper()
	i, e := text.Parse(strings.TrimSpace(s))
	if e != api.OK {
		t.Fatalf("%q: %d", s, e)
	}
	w, e := enc.Encode(i)
	if e != api.OK {
		t.Fatalf("%q: %d", s, e)
	}
	return w
}

func number(t testing.TB, s string) int {
	t.Helper()
	n, err := strconv.Atoi(s)
	if err != nil {
		t.Fatal(err)
	}
	return n
}

// perform gives each read its source and its value, and each store its place in a row, so
// that they are those of performing the events in this order.
func (s *scene) perform(order []api.Ref) {
	s.c.Rows = nil
	for range maxEvents {
		l, e := replay.Run(s.im, s.c)
		if e != api.OK || !s.performOnce(l, order) {
			return
		}
	}
}

// performOnce does what perform says, as far as the events are right, and reports whether
// a read has another source or value now.
func (s *scene) performOnce(l []api.Event, order []api.Ref) bool {
	changed := false
	done := map[int]bool{}
	rows := map[int][]api.Ref{}
	for _, at := range order {
		n := replay.Number(s.c, at)
		e := l[n]
		if e.Read {
			r := &s.c.Harts[at.Hart][at.At]
			src, v := initial, s.im.Data[(e.Addr-dataBase)/8]
			if w := source(l, n, done, rows[e.Addr]); w != initial {
				src, v = w, l[replay.Number(s.c, w)].Out
			}
			changed = changed || r.Src != src || r.Val != v
			r.Src, r.Val = src, v
		}
		if e.Write {
			rows[e.Addr] = append(rows[e.Addr], at)
		}
		done[n] = true
	}
	s.c.Rows = nil
	for i := range s.im.Data {
		if row := rows[dataBase+8*i]; len(row) > 0 {
			s.c.Rows = append(s.c.Rows, api.Row{Addr: dataBase + 8*i, L: row})
		}
	}
	return changed
}

// source returns what event n reads when some events are done, and the row of its address
// has these stores: the last store of its own hart that is not done, or the last one.
func source(l []api.Event, n int, done map[int]bool, row []api.Ref) api.Ref {
	for w := n - 1; w >= 0 && l[w].Hart == l[n].Hart; w-- {
		if l[w].Write && l[w].Addr == l[n].Addr && !done[w] {
			return api.Ref{Hart: l[w].Hart, At: l[w].At}
		}
	}
	if len(row) == 0 {
		return initial
	}
	return row[len(row)-1]
}

// follow replaces the records of a hart without memory accesses by those of the
// instructions with these indices.
func (s *scene) follow(hart int, indices ...int) {
	s.c.Harts[hart] = nil
	for _, i := range indices {
		s.c.Harts[hart] = append(s.c.Harts[hart], api.Rec{PC: codeBase + 4*(s.im.Entries[hart]+i), Src: initial})
	}
}

// String returns the scene as text.
func (s scene) String() string {
	var b strings.Builder
	for h, l := range s.c.Harts {
		for at, r := range l {
			i, _ := image.Fetch(s.im, r.PC)
			fmt.Fprintf(&b, "%d.%d %s %+v\n", h, at, text.Text(i), r)
		}
	}
	return fmt.Sprintf("\n%s%+v", b.String(), s.c.Rows)
}

// The chapter, written down separately: the words of its sentences stand for themselves.

// chapter has the events of a candidate.
type chapter struct {
	c api.Cand
	l []api.Event
}

func (d chapter) ref(i int) api.Ref {
	return api.Ref{Hart: d.l[i].Hart, At: d.l[i].At}
}

func (d chapter) memory(i int) bool {
	return d.l[i].Read || d.l[i].Write
}

func (d chapter) preserved(a, b int) bool {
	return ppo.Rule(d.l, a, b) != 0
}

// rf is rf between different harts.
func (d chapter) rf(w, r int) bool {
	return d.l[r].Read && d.l[r].Src == d.ref(w) && d.l[w].Hart != d.l[r].Hart
}

func (d chapter) co(a, b int) bool {
	for _, row := range d.c.Rows {
		i, j := slices.Index(row.L, d.ref(a)), slices.Index(row.L, d.ref(b))
		if 0 <= i && i < j {
			return true
		}
	}
	return false
}

func (d chapter) fr(r, w int) bool {
	if !d.l[r].Read || r == w {
		return false
	}
	if d.l[r].Src == initial {
		return d.l[w].Write && d.l[w].Addr == d.l[r].Addr
	}
	return d.co(replay.Number(d.c, d.l[r].Src), w)
}

// before is the relation of the second axiom.
func (d chapter) before(a, b int) bool {
	return d.memory(a) && d.memory(b) && (d.preserved(a, b) || d.rf(a, b) || d.co(a, b) || d.fr(a, b))
}

// order is the order of the candidate.
func (d chapter) order() []int {
	var all []int
	occurred := map[int]bool{}
	for len(all) < len(d.l) {
		for b := range d.l {
			free := !occurred[b]
			for a := range d.l {
				free = free && (occurred[a] || !d.before(a, b))
			}
			if free {
				all = append(all, b)
				occurred[b] = true
				break
			}
		}
	}
	var order []int
	for _, i := range all {
		if d.memory(i) {
			order = append(order, i)
		}
	}
	return order
}

// script is the script of the candidate, given its order.
func (d chapter) script(order []int) []api.Pick {
	var l []api.Pick
	for hart, records := range d.c.Harts {
		for at := range records {
			l = append(l, api.Pick{Hart: hart, Act: api.ActFetch, Arg: d.fetched(hart, at)})
		}
	}
	for hart := range d.c.Harts {
		l = append(l, d.sweep(hart)...)
	}
	for _, i := range order {
		l = append(l, api.Pick{Hart: d.l[i].Hart, Act: api.ActPerform, Arg: d.l[i].At})
		l = append(l, d.sweep(d.l[i].Hart)...)
	}
	return l
}

// fetched is the Arg of the ActFetch of a record.
func (d chapter) fetched(hart, at int) int {
	records := d.c.Harts[hart]
	if at+1 == len(records) {
		return 0
	}
	following := records[at+1].PC
	switch isa.Name(d.l[replay.Number(d.c, api.Ref{Hart: hart, At: at})].Instr.Op) {
	case "beq", "bne", "blt", "bge", "bltu", "bgeu":
		if following == records[at].PC+4 {
			return 0
		}
		return 1
	case "jalr":
		return following
	}
	return 0
}

func (d chapter) sweep(hart int) []api.Pick {
	var l []api.Pick
	for at, r := range d.c.Harts[hart] {
		l = append(l, api.Pick{Hart: hart, Act: api.ActExecute, Arg: at})
		if r.Fail {
			l = append(l, api.Pick{Hart: hart, Act: api.ActFail, Arg: at})
		}
	}
	for range d.c.Harts[hart] {
		l = append(l, api.Pick{Hart: hart, Act: api.ActRetire, Arg: 0})
	}
	return l
}

// answer is what the functions return for a candidate.
type answer struct {
	order    []int
	orderNo  api.Errno
	script   []api.Pick
	scriptNo api.Errno
}

// wanted returns what the chapter says of a candidate.
func wanted(s scene) answer {
	waits, long := false, false
	for _, records := range s.c.Harts {
		long = long || len(records) > maxWindow
		for _, r := range records {
			waits = waits || r.Wait
		}
	}
	e := axiom.Check(s.im, s.c)
	if e == api.OK && waits {
		e = api.ErrOrder
	}
	if e != api.OK {
		return answer{orderNo: e, scriptNo: e}
	}
	l, _ := replay.Run(s.im, s.c)
	d := chapter{s.c, l}
	a := answer{order: d.order()}
	if long {
		a.scriptNo = api.ErrLong
	} else {
		a.script = d.script(a.order)
	}
	return a
}

// asked returns what the functions return.
func asked(s scene) answer {
	var a answer
	a.order, a.orderNo = Order(s.im, s.c)
	a.script, a.scriptNo = Script(s.im, s.c)
	return a
}

// agrees holds both functions against the chapter for one candidate, and returns what they
// say.
func agrees(t testing.TB, s scene) answer {
	t.Helper()
	got, want := asked(s), wanted(s)
	if got.orderNo != want.orderNo || got.scriptNo != want.scriptNo {
		t.Fatalf("errors %d, %d; want %d, %d in %s", got.orderNo, got.scriptNo, want.orderNo, want.scriptNo, s)
	}
	if !slices.Equal(got.order, want.order) {
		t.Fatalf("%v; want %v in %s", got.order, want.order, s)
	}
	if !slices.Equal(got.script, want.script) {
		t.Fatalf("%s; want %s in %s", picks(got.script), picks(want.script), s)
	}
	if whole := axiom.Whole(s.im, s.c); whole != (got.orderNo == api.OK) {
		t.Fatalf("error %d, but whole is %v: %s", got.orderNo, whole, s)
	}
	if got.orderNo == api.OK {
		isInOrder(t, s, got.order)
		isPerformedSo(t, s, got.order)
	}
	return got
}

// P18.3: every memory event occurs exactly once, and none before one that the preserved
// program order has before it.
func isInOrder(t testing.TB, s scene, order []int) {
	t.Helper()
	l, _ := replay.Run(s.im, s.c)
	places := map[int]int{}
	for i, n := range order {
		places[n] = i
	}
	if len(places) != len(order) || len(order) != len(memoryEvents(s)) {
		t.Fatalf("%v in %s", order, s)
	}
	for n := range places {
		if !l[n].Read && !l[n].Write {
			t.Fatalf("%v has %d in %s", order, n, s)
		}
	}
	for _, p := range ppo.All(l).Pairs() {
		if places[p[0]] >= places[p[1]] {
			t.Fatalf("%v has %d before %d in %s", order, p[1], p[0], s)
		}
	}
}

// isPerformedSo checks what an order is for: whoever performs the events in this order
// gets the candidate.
func isPerformedSo(t testing.TB, s scene, order []int) {
	t.Helper()
	l, _ := replay.Run(s.im, s.c)
	var refs []api.Ref
	for _, i := range order {
		refs = append(refs, api.Ref{Hart: l[i].Hart, At: l[i].At})
	}
	other := scene{s.im, cand.Clone(s.c)}
	other.performOnce(l, refs)
	if !cand.Same(other.c, s.c) {
		t.Fatalf("%v is performed as %s; want %s", order, other, s)
	}
}

// picks returns a script as text: the hart, a letter for the act (fetch, x for execute,
// perform, ! for fail, squash, retire), and Arg unless it is that 0 which says nothing.
func picks(l []api.Pick) string {
	var words []string
	for _, p := range l {
		act := "?"
		if 1 <= p.Act && p.Act <= 6 {
			act = string("fxp!sr"[p.Act-1])
		}
		word := strconv.Itoa(p.Hart) + act
		if p.Arg != 0 || strings.Contains("xp!", act) {
			word += strconv.Itoa(p.Arg)
		}
		words = append(words, word)
	}
	return strings.Join(words, " ")
}

// P18.1: orders.

func TestOrder(t *testing.T) {
	const base = "lui x4, 4096; "
	message := base + "sd x4, 0(x4); fence w, w; sd x4, 8(x4)"
	for _, c := range []struct {
		name     string
		order    string // in which the events are performed
		want     []int
		programs []string
	}{
		{"nothing", "", nil, []string{"lui x4, 4096"}},
		{"no memory events", "", nil, []string{base + "addi x5, x4, 1; fence rw, rw; sc.d x5, x5, (x4) @ fails", "lui x4, 4096"}},
		{"one", "0.1", []int{1}, []string{base + "ld x5, 0(x4)"}},
		{"others between", "0.2 0.5", []int{2, 5}, []string{base + "addi x5, x0, 1; sd x5, 0(x4); fence w, w; addi x6, x5, 1; sd x6, 8(x4); addi x7, x0, 1"}},
		{"the second hart", "1.1", []int{2}, []string{"lui x4, 4096", base + "sd x4, 0(x4)"}},
		{"not ordered", "0.2 0.1", []int{1, 2}, []string{base + "sd x4, 0(x4); sd x4, 8(x4)"}},
		{"not ordered harts", "1.2 1.1 0.1", []int{1, 3, 4}, []string{base + "sd x4, 0(x4)", base + "sd x4, 8(x4); ld x5, 16(x4)"}},
		{"buffering", "0.2 1.2 0.1 1.1", []int{2, 4, 5, 1}, []string{base + "sd x4, 0(x4); ld x5, 8(x4)", base + "sd x4, 8(x4); ld x5, 0(x4)"}},
		{"buffering, one is read", "1.1 0.2 1.2 0.1", []int{4, 2, 5, 1}, []string{base + "sd x4, 0(x4); ld x5, 8(x4)", base + "sd x4, 8(x4); ld x5, 0(x4)"}},
		{"buffering, both are read", "1.1 0.1 0.2 1.2", []int{1, 4, 2, 5}, []string{base + "sd x4, 0(x4); ld x5, 8(x4)", base + "sd x4, 8(x4); ld x5, 0(x4)"}},
		{"loads behind", "0.2 1.1 1.2 0.1", []int{2, 4, 5, 1}, []string{base + "ld x5, 8(x4); sd x4, 0(x4)", base + "ld x5, 0(x4); sd x4, 8(x4)"}},
		{"message that is read", "1.1 1.3 0.1 0.3", []int{5, 7, 1, 3}, []string{base + "ld x5, 8(x4); fence r, r; ld x6, 0(x4)", message}},
		{"message that is not read", "0.1 0.3 1.1 1.3", []int{1, 3, 5, 7}, []string{base + "ld x5, 8(x4); fence r, r; ld x6, 0(x4)", message}},
		{"message that is read in part", "0.1 1.1 0.3 1.3", []int{1, 5, 3, 7}, []string{base + "ld x5, 8(x4); fence r, r; ld x6, 0(x4)", message}},
		{"message without a fence", "0.2 1.1 1.3 0.1", []int{2, 4, 6, 1}, []string{base + "ld x5, 8(x4); ld x6, 0(x4)", message}},
		{"a store of the hart that is read early", "0.2 1.1 0.1", []int{2, 4, 1}, []string{base + "sd x4, 0(x4); ld x5, 0(x4)", base + "sd x0, 0(x4)"}},
		{"a store of the hart that is read late", "0.1 0.2 1.1", []int{1, 2, 4}, []string{base + "sd x4, 0(x4); ld x5, 0(x4)", base + "sd x0, 0(x4)"}},
		{"the other store is read", "0.1 1.1 0.2", []int{1, 4, 2}, []string{base + "sd x4, 0(x4); ld x5, 0(x4)", base + "sd x0, 0(x4)"}},
		{"rows", "0.2 1.1 1.2 0.1", []int{2, 4, 5, 1}, []string{base + "sd x4, 0(x4); sd x4, 8(x4)", base + "sd x0, 8(x4); sd x0, 0(x4)"}},
		{"a row of three", "2.1 0.1 1.1", []int{5, 1, 3}, []string{base + "sd x4, 0(x4)", base + "sd x4, 0(x4)", base + "sd x4, 0(x4)"}},
		{"a read between three", "2.1 3.1 1.1 0.1", []int{5, 7, 3, 1}, []string{base + "sd x4, 0(x4)", base + "sd x4, 0(x4)", base + "sd x4, 0(x4)", base + "ld x5, 0(x4)"}},
		{"a read before three", "3.1 2.1 1.1 0.1", []int{7, 5, 3, 1}, []string{base + "sd x4, 0(x4)", base + "sd x4, 0(x4)", base + "sd x4, 0(x4)", base + "ld x5, 0(x4)"}},
		{"atomic operations", "2.1 0.1 1.1", []int{5, 1, 3}, []string{base + "amoadd.d x5, x4, (x4)", base + "amoadd.d x5, x4, (x4)", base + "amoadd.d x5, x4, (x4)"}},
		{"conditional store", "1.1 1.2 0.1 0.2", []int{4, 5, 1, 2}, []string{base + "lr.d x5, (x4); sc.d x6, x4, (x4)", base + "lr.d x5, (x4); sc.d x6, x4, (x4)"}},
		{"conditional store that failed", "0.1 1.1 1.2", []int{1, 4, 5}, []string{base + "lr.d x5, (x4); sc.d x6, x4, (x4) @ fails", base + "lr.d x5, (x4); sc.d x6, x4, (x4)"}},
		{"a store is read by two", "2.1 0.1 1.1", []int{5, 1, 3}, []string{base + "ld x5, 0(x4)", base + "ld x5, 0(x4)", base + "sd x4, 0(x4)"}},
		{"ten events and more", "1.1 0.1 0.2 0.3 0.4 0.5 0.6 0.7 0.8 0.9", []int{11, 1, 2, 3, 4, 5, 6, 7, 8, 9},
			[]string{base + "ld.; ld.; ld.; ld.; ld.; ld.; ld.; ld.; ld.", base + "sd x4, 0(x4)"}},
	} {
		t.Run(c.name, func(t *testing.T) {
			for i, p := range c.programs {
				c.programs[i] = strings.ReplaceAll(p, "ld.", "ld x5, 0(x4)")
			}
			s := newScene(t, c.order, c.programs...)
			if got := agrees(t, s); got.orderNo != api.OK || !slices.Equal(got.order, c.want) {
				t.Errorf("%v, %d; want %v in %s", got.order, got.orderNo, c.want, s)
			}
		})
	}
}

// P18.2: scripts.

// The example of the chapter.
func TestExample(t *testing.T) {
	s := newScene(t, "0.1", "lui x4, 4096; ld x5, 0(x4)")
	l, e := Script(s.im, s.c)
	want := []api.Pick{
		{Hart: 0, Act: api.ActFetch, Arg: 0},
		{Hart: 0, Act: api.ActFetch, Arg: 0},
		{Hart: 0, Act: api.ActExecute, Arg: 0},
		{Hart: 0, Act: api.ActExecute, Arg: 1},
		{Hart: 0, Act: api.ActRetire, Arg: 0},
		{Hart: 0, Act: api.ActRetire, Arg: 0},
		{Hart: 0, Act: api.ActPerform, Arg: 1},
		{Hart: 0, Act: api.ActExecute, Arg: 0},
		{Hart: 0, Act: api.ActExecute, Arg: 1},
		{Hart: 0, Act: api.ActRetire, Arg: 0},
		{Hart: 0, Act: api.ActRetire, Arg: 0},
	}
	if e != api.OK || !slices.Equal(l, want) {
		t.Errorf("%s, %d", picks(l), e)
	}
	order, e := Order(s.im, s.c)
	if e != api.OK || !slices.Equal(order, []int{1}) {
		t.Errorf("%v, %d", order, e)
	}
}

func TestScript(t *testing.T) {
	const base = "lui x4, 4096; "
	for _, c := range []struct {
		name     string
		order    string
		want     string
		programs []string
	}{
		{"nothing", "", "0f 0x0 0r", []string{"addi x0, x0, 0"}},
		{"two harts that do nothing", "", "0f 1f 1f 0x0 0r 1x0 1x1 1r 1r", []string{"addi x0, x0, 0", "addi x0, x0, 0; addi x0, x0, 0"}},
		{"a failed store", "", "0f 0f 0x0 0x1 0!1 0r 0r", []string{base + "sc.d x5, x4, (x4) @ fails"}},
		{"two failed stores", "", "0f 0f 0f 0f 0x0 0x1 0!1 0x2 0x3 0!3 0r 0r 0r 0r", []string{base + "sc.d x5, x4, (x4) @ fails; addi x6, x0, 0; sc.d x5, x4, (x4) @ fails"}},
		{"a failed store behind a load", "0.1", "0f 0f 0f 0x0 0x1 0x2 0!2 0r 0r 0r 0p1 0x0 0x1 0x2 0!2 0r 0r 0r", []string{base + "lr.d x5, (x4); sc.d x6, x5, (x4) @ fails"}},
		{"a conditional store", "0.1 0.2", "0f 0f 0f 0x0 0x1 0x2 0r 0r 0r 0p1 0x0 0x1 0x2 0r 0r 0r 0p2 0x0 0x1 0x2 0r 0r 0r", []string{base + "lr.d x5, (x4); sc.d x6, x5, (x4)"}},
		{"two harts", "1.1 0.1", "0f 0f 1f 1f 0x0 0x1 0r 0r 1x0 1x1 1r 1r 1p1 1x0 1x1 1r 1r 0p1 0x0 0x1 0r 0r", []string{base + "ld x5, 0(x4)", base + "sd x4, 0(x4)"}},
		{"one hart is longer", "0.1 1.1", "0f 0f 0f 1f 1f 0x0 0x1 0x2 0r 0r 0r 1x0 1x1 1r 1r 0p1 0x0 0x1 0x2 0r 0r 0r 1p1 1x0 1x1 1r 1r", []string{base + "ld x5, 0(x4); addi x6, x5, 0", base + "sd x4, 0(x4)"}},
		{"only one fails", "1.1", "0f 0f 1f 1f 0x0 0x1 0!1 0r 0r 1x0 1x1 1r 1r 1p1 1x0 1x1 1r 1r", []string{base + "sc.d x5, x4, (x4) @ fails", base + "sd x4, 0(x4)"}},
		{"a branch is taken", "", "0f1 0f 0x0 0x1 0r 0r", []string{"beq x0, x0, 8; - addi x0, x0, 0; addi x0, x0, 0"}},
		{"a jump to a register", "", "0f 0f65548 0f 0x0 0x1 0x2 0r 0r 0r", []string{"auipc x5, 0; jalr x1, 12(x5); - addi x0, x0, 0; addi x0, x0, 0"}},
	} {
		t.Run(c.name, func(t *testing.T) {
			s := newScene(t, c.order, c.programs...)
			if got := agrees(t, s); got.scriptNo != api.OK || picks(got.script) != c.want {
				t.Errorf("%s, %d; want %s in %s", picks(got.script), got.scriptNo, c.want, s)
			}
		})
	}
}

// A hart without records has no picks, and the others keep their numbers.
func TestHartsWithoutRecords(t *testing.T) {
	s := newScene(t, "", "addi x0, x0, 0", "beq x0, x0, 8; - addi x0, x0, 0; jal x0, 8", "addi x0, x0, 0", "lui x4, 4096; ld x5, 0(x4)", "addi x0, x0, 0")
	s.c.Harts[0], s.c.Harts[2], s.c.Harts[4] = nil, []api.Rec{}, nil
	want := "1f1 1f 3f 3f 1x0 1x1 1r 1r 3x0 3x1 3r 3r 3p1 3x0 3x1 3r 3r"
	if got := agrees(t, s); picks(got.script) != want || !slices.Equal(got.order, []int{3}) {
		t.Errorf("%s and %v", picks(got.script), got.order)
	}
	s.c.Harts = make([][]api.Rec, 5)
	if got := agrees(t, s); got.orderNo != api.OK || got.scriptNo != api.OK || len(got.order)+len(got.script) != 0 {
		t.Errorf("%v", got)
	}
}

// P18.2: what is predicted.

// fetches returns the Args of the fetches of a script, which come first.
func fetches(l []api.Pick) []int {
	var args []int
	for _, p := range l {
		if p.Act != api.ActFetch {
			break
		}
		args = append(args, p.Arg)
	}
	return args
}

func TestPredictions(t *testing.T) {
	const skip = "; - addi x0, x0, 0"
	for _, c := range []struct {
		name    string
		want    []int
		program string
	}{
		{"addi", []int{0, 0}, "addi x5, x0, 1; addi x0, x0, 0"},
		{"not taken", []int{0, 0}, "bne x0, x0, 8; addi x0, x0, 0"},
		{"taken", []int{1, 0}, "beq x0, x0, 8" + skip + "; addi x0, x0, 0"},
		{"taken to what is behind it anyway", []int{0, 0}, "beq x0, x0, 4; addi x0, x0, 0"},
		{"not taken, to what is behind it anyway", []int{0, 0}, "bne x0, x0, 4; addi x0, x0, 0"},
		{"taken twice", []int{1, 1, 0}, "beq x0, x0, 8" + skip + "; bge x0, x0, 12" + skip + skip + "; addi x0, x0, 0"},
		{"taken, then not", []int{1, 0, 0}, "beq x0, x0, 8" + skip + "; bne x0, x0, 12; addi x0, x0, 0"},
		{"the last one is taken", []int{0, 0}, "addi x5, x0, 1; beq x0, x0, 8"},
		{"the only one is taken", []int{0}, "beq x0, x0, 8"},
		{"jal", []int{0, 0}, "jal x1, 8" + skip + "; addi x0, x0, 0"},
		{"jal to what is behind it anyway", []int{0, 0}, "jal x1, 4; addi x0, x0, 0"},
		{"jalr", []int{0, 65548, 0}, "auipc x5, 0; jalr x0, 12(x5)" + skip + "; addi x0, x0, 0"},
		{"jalr to what is behind it anyway", []int{0, 65544, 0}, "auipc x5, 0; jalr x1, 8(x5); addi x0, x0, 0"},
		{"jalr with an odd sum", []int{0, 65548, 0}, "auipc x5, 0; jalr x1, 13(x5)" + skip + "; addi x0, x0, 0"},
		{"the last one is jalr", []int{0, 0}, "auipc x5, 0; jalr x1, 12(x5)"},
		{"the only one is jalr", []int{0}, "jalr x0, 12(x0)"},
		{"one of each", []int{0, 65552, 0, 1, 0, 0}, "auipc x5, 0; jalr x1, 16(x5)" + skip + skip + "; bltu x5, x0, 12; bgeu x5, x0, 8" + skip + "; jal x0, 8" + skip + "; addi x0, x0, 0"},
	} {
		t.Run(c.name, func(t *testing.T) {
			s := newScene(t, "", c.program)
			if got := agrees(t, s); got.scriptNo != api.OK || !slices.Equal(fetches(got.script), c.want) {
				t.Errorf("%v, %d; want %v", fetches(got.script), got.scriptNo, c.want)
			}
			// What another hart does, whose records are behind these, makes no difference.
			for _, next := range []string{"addi x0, x0, 0", "jalr x0, 0(x0)", "beq x0, x0, -4"} {
				s := newScene(t, "", c.program, next)
				want := append(slices.Clone(c.want), 0)
				if got := agrees(t, s); got.scriptNo != api.OK || !slices.Equal(fetches(got.script), want) {
					t.Errorf("%v, %d; want %v", fetches(got.script), got.scriptNo, want)
				}
			}
		})
	}
}

// Every branch, taken and not taken.
func TestEveryBranch(t *testing.T) {
	for name, taken := range map[string]string{
		"beq": "x0, x0", "bne": "x5, x0", "blt": "x6, x5", "bge": "x5, x6", "bltu": "x5, x6", "bgeu": "x6, x5",
	} {
		other := map[string]string{
			"beq": "x5, x0", "bne": "x5, x5", "blt": "x5, x6", "bge": "x6, x5", "bltu": "x6, x5", "bgeu": "x5, x6",
		}[name]
		const ahead = "addi x5, x0, 1; addi x6, x0, -1; "
		s := newScene(t, "", ahead+name+" "+taken+", 8; - addi x0, x0, 0; addi x0, x0, 0")
		if got := agrees(t, s); !slices.Equal(fetches(got.script), []int{0, 0, 1, 0}) {
			t.Errorf("%s: %v, %d", name, fetches(got.script), got.scriptNo)
		}
		s = newScene(t, "", ahead+name+" "+other+", 8; addi x0, x0, 0")
		if got := agrees(t, s); !slices.Equal(fetches(got.script), []int{0, 0, 0, 0}) {
			t.Errorf("%s: %v, %d", name, fetches(got.script), got.scriptNo)
		}
	}
}

func TestBackward(t *testing.T) {
	for _, c := range []struct {
		name    string
		program string
		path    []int
		want    []int
	}{
		{"a branch", "addi x5, x5, 1; slti x6, x5, 3; bne x6, x0, -8; addi x0, x0, 0", []int{0, 1, 2, 0, 1, 2, 0, 1, 2, 3}, []int{0, 0, 1, 0, 0, 1, 0, 0, 0, 0}},
		{"a branch at last", "addi x5, x5, 1; bne x5, x0, -4", []int{0, 1, 0, 1}, []int{0, 1, 0, 0}},
		{"a branch to itself", "beq x0, x0, 0", []int{0, 0, 0}, []int{1, 1, 0}},
		{"a jump", "addi x5, x5, 1; jal x0, -4", []int{0, 1, 0, 1, 0}, []int{0, 0, 0, 0, 0}},
		{"a jump to a register", "auipc x5, 0; addi x6, x6, 1; jalr x0, 4(x5)", []int{0, 1, 2, 1, 2, 1}, []int{0, 0, 65540, 0, 65540, 0}},
		{"a jump to itself", "auipc x5, 0; jalr x1, 4(x5)", []int{0, 1, 1, 1}, []int{0, 65540, 65540, 0}},
	} {
		t.Run(c.name, func(t *testing.T) {
			s := newScene(t, "", c.program)
			s.follow(0, c.path...)
			if got := agrees(t, s); got.scriptNo != api.OK || !slices.Equal(fetches(got.script), c.want) {
				t.Errorf("%v, %d; want %v", fetches(got.script), got.scriptNo, c.want)
			}
		})
	}
}

// P18.1 to P18.3: all orders of performing small programs.

// permute calls f for all orders of the elements of l from place i on.
func permute(l []api.Ref, i int, f func(l []api.Ref)) {
	if i == len(l) {
		f(l)
		return
	}
	for j := i; j < len(l); j++ {
		l[i], l[j] = l[j], l[i]
		permute(l, i+1, f)
		l[i], l[j] = l[j], l[i]
	}
}

// memoryEvents returns the references of the events of a scene that read or write.
func memoryEvents(s scene) []api.Ref {
	l, _ := replay.Run(s.im, s.c)
	var refs []api.Ref
	for _, e := range l {
		if (e.Read || e.Write) && !e.Wait {
			refs = append(refs, api.Ref{Hart: e.Hart, At: e.At})
		}
	}
	return refs
}

func TestSmallPrograms(t *testing.T) {
	lines := []string{"ld x5, 0(x4)", "sd x4, 0(x4)", "ld x6, 8(x4)", "sd x5, 8(x4)", "lr.d x5, (x4)", "sc.d x7, x4, (x4)", "sc.d x7, x4, (x4) @ fails", "amoadd.d x8, x4, (x4)", "fence rw, rw"}
	allowed, turned := 0, 0
	for _, a := range lines {
		for _, b := range lines {
			for _, c := range lines[:4] {
				for _, d := range lines[:4] {
					s := newScene(t, "", "lui x4, 4096;"+a+";"+b, "lui x4, 4096;"+c+";"+d)
					permute(memoryEvents(s), 0, func(order []api.Ref) {
						s.perform(order)
						got := agrees(t, s)
						if got.orderNo == api.OK {
							allowed++
						}
						if !slices.IsSorted(got.order) {
							turned++
						}
					})
				}
			}
		}
	}
	if allowed < 5000 || turned < 1000 {
		t.Errorf("%d allowed, %d turned", allowed, turned)
	}
}

// Random candidates.

// pool are the pieces that random programs consist of.
var pool = []string{
	"ld x5, 0(x4)", "ld x6, 8(x4)", "ld x7, 0(x9)", "sd x1, 0(x4)", "sd x2, 8(x4)", "sd x5, 8(x4)", "sd x2, 0(x9)", "sd x6, 0(x9)",
	"addi x9, x4, 8", "xor x8, x5, x5; add x9, x4, x8", "addi x9, x4, 0", "addi x10, x5, 1", "ecall",
	"lr.d x5, (x4)", "lr.d.aq x6, (x9)", "sc.d x8, x2, (x4)", "sc.d.rl x8, x6, (x9)", "sc.d x8, x1, (x9) @ fails", "lr.d x5, (x4); sc.d x6, x1, (x4)",
	"amoswap.d x6, x5, (x4)", "amomax.d.rl x5, x6, (x4)", "amoadd.d.aq x7, x1, (x9)",
	"fence rw, rw", "fence r, w", "fence w, r", "fence w, w", "fence r, r",
	"beq x5, x6, 4", "beq x5, x5, 8; - sd x1, 0(x4)", "bne x5, x5, 8", "jal x0, 8; - addi x0, x0, 0", "auipc x13, 0; jalr x1, 12(x13); - sd x2, 0(x4)", "auipc x13, 0; jalr x0, 8(x13)",
}

// randomScene returns the scene of performing random programs in a random order.
func randomScene(t testing.TB, r *rand.Rand, harts, n int) scene {
	t.Helper()
	var programs []string
	for range harts {
		l := []string{"lui x4, 4096; addi x9, x4, 8; addi x1, x0, 1; addi x2, x0, 2; addi x17, x0, 1"}
		for range 1 + r.IntN(n) {
			l = append(l, pool[r.IntN(len(pool))])
		}
		programs = append(programs, strings.Join(l, ";"))
	}
	s := newScene(t, "", programs...)
	order := memoryEvents(s)
	disorder := 1 + r.IntN(60)
	keys := map[api.Ref]int{}
	for _, at := range order {
		keys[at] = 10*at.At + r.IntN(disorder)
	}
	slices.SortStableFunc(order, func(a, b api.Ref) int { return keys[a] - keys[b] })
	s.perform(order)
	return s
}

// disturb changes something about a candidate, which may make it invalid.
func disturb(r *rand.Rand, s *scene) {
	numbers := []int{0, 1, -1, 2, 6, 7, dataBase, dataBase + 8, codeBase, math.MaxInt, math.MinInt, 1 << 32}
	number := func() int { return numbers[r.IntN(len(numbers))] }
	h := r.IntN(len(s.c.Harts))
	record := &s.c.Harts[h][r.IntN(len(s.c.Harts[h]))]
	switch r.IntN(12) {
	case 0, 1, 2:
		i, _ := image.Fetch(s.im, record.PC)
		if reads, writes := isa.Access(i.Op); reads || writes {
			record.Wait, record.Val, record.Src = true, 0, initial
		}
	case 3:
		record.PC += number()
	case 4:
		record.Val = number()
	case 5:
		record.Src = api.Ref{Hart: number(), At: number()}
	case 6:
		record.Fail = !record.Fail
	case 7:
		s.c.Rows = append(s.c.Rows, api.Row{Addr: number(), L: []api.Ref{{Hart: number(), At: number()}}})
	case 8:
		if len(s.c.Rows) > 0 {
			slices.Reverse(s.c.Rows[0].L)
		}
	case 9:
		s.im.Entries[h] = number()
	case 10:
		s.im.Code[r.IntN(len(s.im.Code))] = r.Uint32()
	case 11:
		s.c.Harts[h] = s.c.Harts[h][:1+r.IntN(len(s.c.Harts[h]))]
	}
}

func TestRandomCandidates(t *testing.T) {
	r := rand.New(rand.NewPCG(18, 1))
	count := map[api.Errno]int{}
	turned := 0
	for range 6000 {
		s := randomScene(t, r, 1+r.IntN(4), 8)
		got := agrees(t, s)
		count[got.orderNo]++
		if !slices.IsSorted(got.order) {
			turned++
		}
	}
	if count[api.OK] < 2000 || count[api.ErrOrder] < 1000 || turned < 400 {
		t.Errorf("%v, %d turned", count, turned)
	}
}

// The functions end without a panic, whatever they are given.
func TestDisturbedCandidates(t *testing.T) {
	r := rand.New(rand.NewPCG(18, 2))
	count := map[api.Errno]int{}
	for range 8000 {
		s := randomScene(t, r, 1+r.IntN(3), 5)
		for range 1 + r.IntN(2) {
			disturb(r, &s)
		}
		count[agrees(t, s).orderNo]++
	}
	for _, e := range []api.Errno{api.OK, api.ErrForm, api.ErrRange, api.ErrNone, api.ErrSame, api.ErrOrder} {
		if count[e] < 20 {
			t.Errorf("error %d: %d of %v", e, count[e], count)
		}
	}
}

// P18.1 and P18.2: errors.

// idle returns a scene of n records for each hart, which do nothing.
func idle(t testing.TB, harts ...int) scene {
	t.Helper()
	s := scene{im: api.Image{Data: make([]int, 4)}}
	for h, n := range harts {
		s.add(t, strings.Repeat("addi x0, x0, 0;", n)+"addi x0, x0, 0")
		s.c.Harts[h] = s.c.Harts[h][:n]
	}
	return s
}

func TestLimits(t *testing.T) {
	for _, c := range []struct {
		harts         []int
		order, script api.Errno
	}{
		{[]int{0}, api.OK, api.OK},
		{[]int{1}, api.OK, api.OK},
		{[]int{63}, api.OK, api.OK},
		{[]int{64}, api.OK, api.OK},
		{[]int{65}, api.OK, api.ErrLong},
		{[]int{512}, api.OK, api.ErrLong},
		{[]int{513}, api.ErrLong, api.ErrLong},
		{[]int{1025}, api.ErrLong, api.ErrLong},
		{[]int{64, 64}, api.OK, api.OK},
		{[]int{65, 64}, api.OK, api.ErrLong},
		{[]int{64, 65}, api.OK, api.ErrLong},
		{[]int{0, 65, 0}, api.OK, api.ErrLong},
		{[]int{64, 64, 64, 64, 64, 64, 64, 64}, api.OK, api.OK},
		{[]int{65, 63, 64, 64, 64, 64, 64, 64}, api.OK, api.ErrLong},
		{[]int{64, 64, 64, 64, 64, 64, 63, 65}, api.OK, api.ErrLong},
		{[]int{64, 64, 64, 64, 64, 64, 64, 65}, api.ErrLong, api.ErrLong},
	} {
		got := agrees(t, idle(t, c.harts...))
		if got.orderNo != c.order || got.scriptNo != c.script {
			t.Errorf("%v: %d, %d", c.harts, got.orderNo, got.scriptNo)
		}
	}
}

// isWrong checks that the functions return errors for a candidate, and nothing else.
func isWrong(t *testing.T, name string, s scene, order, script api.Errno) {
	t.Helper()
	got := agrees(t, s)
	if got.orderNo != order || got.scriptNo != script {
		t.Errorf("%s: %d, %d; want %d, %d", name, got.orderNo, got.scriptNo, order, script)
	}
	if order != api.OK && len(got.order) != 0 || script != api.OK && len(got.script) != 0 {
		t.Errorf("%s: an error, and a result: %+v", name, got)
	}
}

func TestErrors(t *testing.T) {
	const base = "lui x4, 4096; "
	isWrong(t, "nothing", scene{}, api.ErrRange, api.ErrRange)
	s := newScene(t, "", base+"ld x5, 0(x4)")
	s.c.Harts = nil
	isWrong(t, "no hart", s, api.ErrRange, api.ErrRange)
	s = newScene(t, "", base+"ld x5, 0(x4)")
	s.c.Harts[0][1].PC += 4
	isWrong(t, "another PC", s, api.ErrSame, api.ErrSame)
	s = newScene(t, "", base+"lw x5, 0(x4)")
	isWrong(t, "no doubleword", s, api.ErrNone, api.ErrNone)
	s = newScene(t, "", base+"ld x5, 0(x4) @ fails")
	isWrong(t, "a load that fails", s, api.ErrForm, api.ErrForm)
	s = newScene(t, "", base+"sd x4, 0(x4)")
	isWrong(t, "no row", s, api.ErrSame, api.ErrSame)
	s = newScene(t, "0.1", base+"ld x5, 0(x4)")
	s.c.Harts[0][1].Val = 1
	isWrong(t, "another value", s, api.ErrSame, api.ErrSame)
	s = newScene(t, "0.2 0.1", base+"sd x4, 0(x4); sd x4, 0(x4)")
	isWrong(t, "no coherence", s, api.ErrOrder, api.ErrOrder)
	s = newScene(t, "0.3 1.3 0.1 1.1", base+"sd x4, 0(x4); fence w, r; ld x5, 8(x4)", base+"sd x4, 8(x4); fence w, r; ld x5, 0(x4)")
	isWrong(t, "no order", s, api.ErrOrder, api.ErrOrder)
	s = newScene(t, "0.1", base+"sc.d x5, x4, (x4)")
	isWrong(t, "no reservation", s, api.ErrOrder, api.ErrOrder)
}

func TestRecordsThatWait(t *testing.T) {
	const base = "lui x4, 4096; "
	for _, program := range []string{
		"ld x5, 0(x4) @ waits",
		"sd x4, 0(x4) @ waits",
		"lr.d x5, (x4) @ waits",
		"sc.d x5, x4, (x4) @ waits", // no memory event, but a record that waits
		"amoadd.d x5, x4, (x4) @ waits",
		"addi x0, x0, 0; addi x0, x0, 0; ld x5, 0(x4) @ waits",
	} {
		s := newScene(t, "", base+program)
		if e := axiom.Check(s.im, s.c); e != api.OK {
			t.Errorf("%s: error %d", program, e)
		}
		isWrong(t, program, s, api.ErrOrder, api.ErrOrder)
		isWrong(t, program+" first", newScene(t, "1.1", base+program, base+"sd x4, 8(x4)"), api.ErrOrder, api.ErrOrder)
		isWrong(t, program+" last", newScene(t, "0.1", base+"sd x4, 8(x4)", base+program), api.ErrOrder, api.ErrOrder)
	}
}

// Where several errors apply, the first one in the chapter counts.
func TestOrderOfErrors(t *testing.T) {
	const base = "lui x4, 4096; "
	long := strings.Repeat("; addi x0, x0, 0", maxWindow)
	isWrong(t, "waits, and too long for the window", newScene(t, "", base+"ld x5, 0(x4) @ waits"+long), api.ErrOrder, api.ErrOrder)
	isWrong(t, "no row, and waits", newScene(t, "", base+"ld x5, 0(x4) @ waits; sd x4, 8(x4)"), api.ErrSame, api.ErrSame)
	isWrong(t, "no row, and too long for the window", newScene(t, "", base+"sd x4, 8(x4)"+long), api.ErrSame, api.ErrSame)
	isWrong(t, "no reservation, and too long for the window", newScene(t, "0.1", base+"sc.d x5, x4, (x4)"+long), api.ErrOrder, api.ErrOrder)
	isWrong(t, "waits, but does not access memory", newScene(t, "", "addi x0, x0, 0 @ waits"), api.ErrForm, api.ErrForm)
	isWrong(t, "waits and fails", newScene(t, "", base+"sc.d x5, x4, (x4) @ waits fails"), api.ErrForm, api.ErrForm)
	most := strings.Repeat("; addi x0, x0, 0", maxEvents-2)
	isWrong(t, "as many events as possible, and waits", newScene(t, "", base+"ld x5, 0(x4) @ waits"+most), api.ErrOrder, api.ErrOrder)
	isWrong(t, "too many events, and waits", newScene(t, "", base+"ld x5, 0(x4) @ waits"+most+"; addi x0, x0, 0"), api.ErrLong, api.ErrLong)
	isWrong(t, "only too long for the window", newScene(t, "0.1", base+"ld x5, 0(x4)"+long), api.OK, api.ErrLong)
}

// Large candidates.

// TestLargeCandidates fills all windows, or one hart with all of the events there may be.
func TestLargeCandidates(t *testing.T) {
	r := rand.New(rand.NewPCG(18, 3))
	lines := []string{"ld x5, %d(x4)", "sd x4, %d(x4)", "sd x5, %d(x4)", "amoadd.d x6, x4, (x4)", "lr.d x7, (x4)", "fence w, r"}
	for _, harts := range []int{8, 1} {
		var programs []string
		for range harts {
			l := []string{"lui x4, 4096"}
			for len(l) < maxEvents/harts {
				line := lines[r.IntN(len(lines))]
				if strings.Contains(line, "%d") {
					line = fmt.Sprintf(line, 8*r.IntN(4))
				}
				l = append(l, line)
			}
			programs = append(programs, strings.Join(l, ";"))
		}
		s := newScene(t, "", programs...)
		order := memoryEvents(s)
		slices.SortStableFunc(order, func(a, b api.Ref) int { return a.At - b.At })
		s.perform(order)
		got := agrees(t, s)
		if got.orderNo != api.OK || !reflect.DeepEqual(memoryEvents(s), sorted(s, got.order)) {
			t.Errorf("%d harts: error %d", harts, got.orderNo)
		}
		if (got.scriptNo == api.OK) != (harts == 8) {
			t.Errorf("%d harts: error %d of the script", harts, got.scriptNo)
		}
	}
}

// sorted returns the references of events in ascending order of their numbers.
func sorted(s scene, order []int) []api.Ref {
	l, _ := replay.Run(s.im, s.c)
	var refs []api.Ref
	for _, i := range slices.Sorted(slices.Values(order)) {
		refs = append(refs, api.Ref{Hart: l[i].Hart, At: l[i].At})
	}
	return refs
}

// A hart that reads what others stored, each after the next one, turns the numbers round.
func TestTurnedHarts(t *testing.T) {
	const base = "lui x4, 4096; "
	var programs []string
	for range 8 {
		programs = append(programs, base+"ld x5, 0(x4); sd x4, 0(x4)")
	}
	s := newScene(t, "7.1 7.2 6.1 6.2 5.1 5.2 4.1 4.2 3.1 3.2 2.1 2.2 1.1 1.2 0.1 0.2", programs...)
	want := []int{22, 23, 19, 20, 16, 17, 13, 14, 10, 11, 7, 8, 4, 5, 1, 2}
	if got := agrees(t, s); !slices.Equal(got.order, want) {
		t.Errorf("%v, %d", got.order, got.orderNo)
	}
}

// Rules of the whole document.

func TestArgumentsAreNotModified(t *testing.T) {
	r := rand.New(rand.NewPCG(18, 4))
	for range 500 {
		s := randomScene(t, r, 1+r.IntN(3), 6)
		// What lies beyond the length of a list is not modified either.
		for i, row := range s.c.Rows {
			s.c.Rows[i].L = append(slices.Clone(row.L), api.Ref{Hart: 77})[:len(row.L)]
		}
		for h, l := range s.c.Harts {
			s.c.Harts[h] = append(slices.Clone(l), api.Rec{PC: 77})[:len(l)]
		}
		im := api.Image{Code: slices.Clone(s.im.Code), Data: slices.Clone(s.im.Data), Entries: slices.Clone(s.im.Entries)}
		c := cand.Clone(s.c)
		first, second, third := asked(s), asked(s), asked(s)
		if !reflect.DeepEqual(first, second) {
			t.Fatalf("%+v, then %+v", first, second)
		}
		// Results are new memory.
		clear(second.order)
		clear(second.script)
		if !reflect.DeepEqual(first, third) {
			t.Fatalf("%+v, then %+v", first, third)
		}
		if !reflect.DeepEqual(im, s.im) || !cand.Same(c, s.c) {
			t.Fatal("modified")
		}
		for _, row := range s.c.Rows {
			if row.L[:len(row.L)+1][len(row.L)].Hart != 77 {
				t.Fatal("modified beyond the length")
			}
		}
		for _, l := range s.c.Harts {
			if l[:len(l)+1][len(l)].PC != 77 {
				t.Fatal("modified beyond the length")
			}
		}
	}
}
