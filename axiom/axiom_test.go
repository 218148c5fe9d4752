package axiom

import (
	"fmt"
	"math"
	"math/rand/v2"
	"reflect"
	"slices"
	"strconv"
	"strings"
	"testing"

	"spinnaker/api"
	"spinnaker/cand"
	"spinnaker/enc"
	"spinnaker/image"
	"spinnaker/isa"
	"spinnaker/ppo"
	"spinnaker/replay"
	"spinnaker/text"
)

// Limits and places as numbers, so that the tests say what the document says.
const (
	maxEvents = 512
	codeBase  = 65536
	dataBase  = 16777216
)

var initial = api.Ref{Hart: -1}

// Scenes: an image and a candidate, written as texts.

// prologue stands before the program of each hart. It puts the address of the data into
// x4 and x9, numbers to store into x1 to x3, and the number of the call into a7.
var prologue = []string{"lui x4, 4096", "addi x9, x4, 0", "addi x1, x0, 1", "addi x2, x0, 2", "addi x3, x0, 3", "addi x17, x0, 1"}

// scene is an image and a candidate of it.
type scene struct {
	im    api.Image
	c     api.Cand
	fixed map[api.Ref]bool // the records that have read what the text says, not what Src has
}

// newScene returns the scene of a program for each hart, and rows. Instructions are
// separated by semicolons, and what is behind @ is said of their records: waits, fails, a
// source such as 1.0 (hart 1, the first instruction behind the prologue) and a value such
// as =5. A row is an offset in the data, a colon, and stores.
func newScene(t testing.TB, data []int, rows string, harts ...string) scene {
	t.Helper()
	s := scene{im: api.Image{Data: data}, fixed: map[api.Ref]bool{}}
	for h, program := range harts {
		first := len(s.im.Code)
		s.im.Entries = append(s.im.Entries, first)
		var records []api.Rec
		for i, line := range slices.Concat(prologue, parts(program, ";")) {
			instr, said, _ := strings.Cut(line, "@")
			s.im.Code = append(s.im.Code, assemble(t, instr))
			r := api.Rec{PC: codeBase + 4*(first+i), Src: initial}
			for _, word := range strings.Fields(said) {
				s.say(t, &r, api.Ref{Hart: h, At: i}, word)
			}
			records = append(records, r)
		}
		s.c.Harts = append(s.c.Harts, records)
	}
	for _, row := range parts(rows, ";") {
		addr, stores, _ := strings.Cut(row, ":")
		r := api.Row{Addr: dataBase + number(t, addr)}
		for _, word := range strings.Fields(stores) {
			r.L = append(r.L, ref(t, word))
		}
		s.c.Rows = append(s.c.Rows, r)
	}
	s.fill()
	return s
}

// say changes a record by a word that is said of it.
func (s *scene) say(t testing.TB, r *api.Rec, at api.Ref, word string) {
	t.Helper()
	switch value, is := strings.CutPrefix(word, "="); {
	case word == "waits":
		r.Wait = true
	case word == "fails":
		r.Fail = true
	case is:
		r.Val = number(t, value)
		s.fixed[at] = true
	default:
		r.Src = ref(t, word)
	}
}

// fill gives each read the value of its source, as far as there is one.
func (s *scene) fill() {
	for range maxEvents {
		l, e := replay.Run(s.im, s.c)
		if e != api.OK || !s.fillOnce(l) {
			return
		}
	}
}

// fillOnce gives each read the value that its source has in l, and returns whether that
// is another one.
func (s *scene) fillOnce(l []api.Event) bool {
	changed := false
	for _, e := range l {
		r := &s.c.Harts[e.Hart][e.At]
		if !e.Read || e.Wait || s.fixed[api.Ref{Hart: e.Hart, At: e.At}] {
			continue
		}
		v := 0
		if w := replay.Number(s.c, e.Src); w >= 0 {
			v = l[w].Out
		} else {
			v = s.im.Data[(e.Addr-dataBase)/8]
		}
		changed = changed || v != r.Val
		r.Val = v
	}
	return changed
}

// parts returns the parts of s that are not empty.
func parts(s, separator string) []string {
	var l []string
	for part := range strings.SplitSeq(s, separator) {
		if part = strings.TrimSpace(part); part != "" {
			l = append(l, part)
		}
	}
	return l
}

func number(t testing.TB, s string) int {
	t.Helper()
	n, err := strconv.Atoi(strings.TrimSpace(s))
	if err != nil {
		t.Fatal(err)
	}
	return n
}

// ref returns the reference to an instruction that is counted from behind the prologue.
func ref(t testing.TB, s string) api.Ref {
	t.Helper()
	hart, at, ok := strings.Cut(s, ".")
	if !ok {
		t.Fatalf("%q is no reference", s)
	}
	return api.Ref{Hart: number(t, hart), At: len(prologue) + number(t, at)}
}

// assemble returns the word of an instruction.
func assemble(t testing.TB, s string) uint32 {
	t.Helper()
	i, e := text.Parse(strings.TrimSpace(s))
	if e != api.OK {
		t.Fatalf("%q: %d", s, e)
	}
	w, e := enc.Encode(i)
	if e != api.OK {
		t.Fatalf("%q: %d", s, e)
	}
	return w
}

// zeros are data that are 0.
func zeros() []int { return make([]int, 4) }

// The chapter, written down separately: the words of its sentences stand for themselves.

// pairs is a relation.
type pairs map[[2]int]bool

// chapter has the events of a candidate.
type chapter struct {
	im api.Image
	c  api.Cand
	l  []api.Event
}

// writes says whether this event writes to the address of another one.
func (d chapter) writes(w, other int) bool {
	return d.l[w].Write && d.l[w].Addr == d.l[other].Addr
}

// reads says whether this event reads and does not wait.
func (d chapter) reads(r int) bool {
	return d.l[r].Read && !d.l[r].Wait
}

// is says whether a reference names this event.
func (d chapter) is(r api.Ref, i int) bool {
	return r.Hart == d.l[i].Hart && r.At == d.l[i].At
}

// place returns the row of a store and its place in there, or -1, -1.
func (d chapter) place(w int) (int, int) {
	for i, row := range d.c.Rows {
		for j, s := range row.L {
			if d.is(s, w) {
				return i, j
			}
		}
	}
	return -1, -1
}

func (d chapter) rf(w, r int) bool {
	return d.reads(r) && d.is(d.l[r].Src, w)
}

func (d chapter) co(a, b int) bool {
	row, i := d.place(a)
	other, j := d.place(b)
	if row < 0 {
		return false
	}
	waits := d.l[b].Wait && d.l[b].Write && d.l[b].Addr == d.c.Rows[row].Addr
	return row == other && i < j || waits
}

func (d chapter) fr(r, w int) bool {
	if !d.reads(r) || r == w {
		return false
	}
	if d.l[r].Src == initial {
		return d.writes(w, r)
	}
	for s := range d.l {
		if d.is(d.l[r].Src, s) && d.co(s, w) {
			return true
		}
	}
	return false
}

func (d chapter) poloc(a, b int) bool {
	return a < b && d.l[a].Hart == d.l[b].Hart && d.l[a].Addr == d.l[b].Addr
}

// node says whether an event is a node.
func (d chapter) node(i int) bool {
	e := d.l[i]
	return (e.Read || e.Write) && !e.Wait || e.Write && e.Wait
}

// acyclic says whether the union of relations on the events of a kind is acyclic.
func (d chapter) acyclic(kind func(i int) bool, relations ...func(a, b int) bool) bool {
	union := pairs{}
	for a := range d.l {
		for b := range d.l {
			for _, r := range relations {
				if kind(a) && kind(b) && r(a, b) {
					union[[2]int{a, b}] = true
				}
			}
		}
	}
	left := map[int]bool{}
	for i := range d.l {
		left[i] = true
	}
	for {
		n := len(left)
		for i := range left {
			leads := false
			for p := range union {
				leads = leads || p[1] == i && left[p[0]]
			}
			if !leads {
				delete(left, i)
			}
		}
		if len(left) == 0 || len(left) == n {
			return len(left) == 0
		}
	}
}

func (d chapter) values() bool {
	for r := range d.l {
		if !d.reads(r) {
			continue
		}
		valid := d.l[r].Src == initial && d.l[r].In == d.im.Data[(d.l[r].Addr-dataBase)/8]
		for w := range d.l {
			if !d.is(d.l[r].Src, w) || !d.writes(w, r) || !d.l[w].Ready || d.l[w].Out != d.l[r].In {
				continue
			}
			before := isa.Name(d.l[w].Instr.Op) == "sd" && d.l[w].Hart == d.l[r].Hart && w < r
			valid = !d.l[w].Wait || before
		}
		if !valid {
			return false
		}
	}
	return true
}

func (d chapter) rows() bool {
	for w := range d.l {
		row, _ := d.place(w)
		performed := d.l[w].Write && !d.l[w].Wait
		if performed != (row >= 0) || performed && d.c.Rows[row].Addr != d.l[w].Addr {
			return false
		}
	}
	return true
}

func (d chapter) preserved(a, b int) bool {
	return ppo.Rule(d.l, a, b) != 0
}

func (d chapter) order() bool {
	for a := range d.l {
		for b := range d.l {
			if d.l[a].Wait && !d.l[b].Wait && d.preserved(a, b) {
				return false
			}
		}
	}
	performed := func(i int) bool { return d.node(i) && !d.l[i].Wait }
	external := func(w, r int) bool { return d.rf(w, r) && d.l[w].Hart != d.l[r].Hart }
	return d.acyclic(performed, d.preserved, external, d.co, d.fr)
}

func (d chapter) atomicity() bool {
	for i, e := range d.l {
		name := isa.Name(e.Instr.Op)
		row, j := d.place(i)
		if strings.HasPrefix(name, "amo") && strings.HasSuffix(name, ".d") && !e.Wait {
			if j == 0 && e.Src != initial || j > 0 && d.c.Rows[row].L[j-1] != e.Src {
				return false
			}
		}
		if name == "sc.d" && !e.Wait && !d.c.Harts[e.Hart][e.At].Fail && !d.reserved(i, row, j) {
			return false
		}
	}
	return true
}

// reserved says what atomicity asks of an sc.d at place j of a row.
func (d chapter) reserved(sc, row, j int) bool {
	last := -1
	for i := range sc {
		if name := isa.Name(d.l[i].Instr.Op); d.l[i].Hart == d.l[sc].Hart && (name == "lr.d" || name == "sc.d") {
			last = i
		}
	}
	if last < 0 || isa.Name(d.l[last].Instr.Op) != "lr.d" || d.l[last].Wait || d.l[last].Addr != d.l[sc].Addr {
		return false
	}
	from := -1
	if d.l[last].Src != initial {
		from = slices.Index(d.c.Rows[row].L[:j], d.l[last].Src)
		if from < 0 {
			return false
		}
	}
	for k := from + 1; k < j; k++ {
		if d.c.Rows[row].L[k].Hart != d.l[sc].Hart {
			return false
		}
	}
	return true
}

func (d chapter) axiom(n int) bool {
	switch n {
	case 1:
		return d.acyclic(d.node, d.poloc, d.rf, d.co, d.fr)
	case 2:
		return d.order()
	case 3:
		return d.atomicity()
	}
	return false
}

// judgment is what the functions return for a candidate.
type judgment struct {
	check  api.Errno
	values bool
	axioms [6]bool // from 0 to 5; only 1 to 3 are axioms
	whole  bool
}

// judge says what the chapter says of a candidate.
func judge(im api.Image, c api.Cand) judgment {
	var j judgment
	l, e := replay.Run(im, c)
	d := chapter{im, c, l}
	j.values = e == api.OK && len(l) <= maxEvents && d.values() && d.rows()
	for n := range j.axioms {
		j.axioms[n] = j.values && d.axiom(n)
	}
	waits := false
	for _, e := range l {
		waits = waits || e.Wait
	}
	switch {
	case e != api.OK:
		j.check = e
	case len(l) > maxEvents:
		j.check = api.ErrLong
	case !j.values:
		j.check = api.ErrSame
	case !j.axioms[1] || !j.axioms[2] || !j.axioms[3]:
		j.check = api.ErrOrder
	default:
		j.whole = !waits
	}
	return j
}

// ask returns what the functions return for a candidate.
func ask(im api.Image, c api.Cand) judgment {
	j := judgment{check: Check(im, c), values: Values(im, c), whole: Whole(im, c)}
	for n := range j.axioms {
		j.axioms[n] = Axiom(im, c, n)
	}
	return j
}

// agrees holds all functions against the chapter for one candidate, and returns what they
// say.
func agrees(t testing.TB, s scene) judgment {
	t.Helper()
	got, want := ask(s.im, s.c), judge(s.im, s.c)
	if got != want {
		t.Errorf("%+v; want %+v in %s", got, want, s)
	}
	return got
}

// String returns the scene as text.
func (s scene) String() string {
	var b strings.Builder
	for h, l := range s.c.Harts {
		for at, r := range l[min(len(prologue), len(l)):] {
			i, _ := image.Fetch(s.im, r.PC)
			fmt.Fprintf(&b, "%d.%d %s %+v\n", h, at, text.Text(i), r)
		}
	}
	return fmt.Sprintf("\n%s%+v", b.String(), s.c.Rows)
}

// example is a candidate, and what is wrong with it: nothing, "same" if the values or the
// rows are not valid, or the numbers of the axioms that do not hold.
type example struct {
	name  string
	wrong string
	rows  string
	harts []string
}

// hold checks examples on data.
func hold(t *testing.T, data []int, examples []example) {
	t.Helper()
	for _, x := range examples {
		t.Run(x.name, func(t *testing.T) {
			s := newScene(t, data, x.rows, x.harts...)
			j := agrees(t, s)
			if got := wrong(j); got != x.wrong {
				t.Errorf("%q; want %q in %s", got, x.wrong, s)
			}
		})
	}
}

// wrong says what is wrong with a candidate.
func wrong(j judgment) string {
	switch {
	case j.check == api.ErrSame:
		return "same"
	case j.check != api.OK && j.check != api.ErrOrder:
		return fmt.Sprintf("error %d", j.check)
	}
	s := ""
	for n := 1; n <= 3; n++ {
		if !j.axioms[n] {
			s += strconv.Itoa(n)
		}
	}
	return s
}

// P17.2: values.

func TestInitialValues(t *testing.T) {
	hold(t, []int{5, 6, 0, 8}, []example{
		{"as the data", "", "", []string{"ld x5, 0(x4) @ =5; ld x6, 8(x4) @ =6; ld x7, 16(x4) @ =0; lr.d x8, (x4) @ =5"}},
		{"another value", "same", "", []string{"ld x5, 0(x4) @ =6"}},
		{"0", "same", "", []string{"ld x5, 0(x4) @ =0"}},
		{"lr with another value", "same", "", []string{"lr.d x5, (x4) @ =6"}},
		{"amo with another value", "same", "0: 0.0", []string{"amoadd.d x5, x1, (x4) @ =6"}},
		{"amo", "", "0: 0.0", []string{"amoadd.d x5, x1, (x4) @ =5"}},
		{"the last read", "same", "", []string{"ld x5, 0(x4); ld x6, 8(x4); ld x7, 24(x4) @ =7"}},
		{"the other hart", "same", "", []string{"ld x5, 0(x4)", "ld x5, 0(x4) @ =1"}},
		{"what was stored, but as initial data", "same", "0: 0.0", []string{"sd x1, 0(x4); ld x5, 0(x4) @ =1"}},
		{"a read that waits", "", "", []string{"ld x5, 0(x4) @ waits"}},
		{"an amo that waits", "", "", []string{"amoadd.d x5, x1, (x4) @ waits"}},
		{"no reads", "", "0: 0.0", []string{"sd x1, 0(x4); sc.d x5, x1, (x9) @ fails; fence rw, rw; addi x5, x5, 1"}},
	})
}

func TestValuesOfStores(t *testing.T) {
	hold(t, []int{5, 6, 0, 8}, []example{
		{"sd", "", "0: 0.0", []string{"sd x1, 0(x4); ld x5, 0(x4) @ 0.0 =1"}},
		{"sd of another hart", "", "0: 1.0", []string{"ld x5, 0(x4) @ 1.0 =2", "sd x2, 0(x4)"}},
		{"another value", "same", "0: 0.0", []string{"sd x1, 0(x4); ld x5, 0(x4) @ 0.0 =2"}},
		{"the initial value", "same", "0: 0.0", []string{"sd x1, 0(x4); ld x5, 0(x4) @ 0.0 =5"}},
		{"another address", "same", "8: 0.0", []string{"sd x1, 8(x4); ld x5, 0(x4) @ 0.0 =1"}},
		{"a smaller address", "same", "0: 0.0", []string{"sd x1, 0(x4); ld x5, 8(x4) @ 0.0 =1"}},
		{"another address, and another value", "same", "8: 0.0", []string{"sd x1, 8(x4); ld x5, 0(x4) @ 0.0 =2"}},
		{"another address, and the value of the data", "same", "8: 0.0", []string{"addi x5, x0, 5; sd x5, 8(x4); ld x5, 0(x4) @ 0.0 =5"}},
		{"amo", "", "0: 0.0", []string{"amoadd.d x5, x1, (x4) @ =5; ld x6, 0(x4) @ 0.0 =6"}},
		{"amo, but what that read", "same", "0: 0.0", []string{"amoadd.d x5, x1, (x4) @ =5; ld x6, 0(x4) @ 0.0 =5"}},
		{"sc", "", "0: 0.1", []string{"lr.d x5, (x4); sc.d x6, x3, (x4); ld x6, 0(x4) @ 0.1 =3"}},
		{"a load", "same", "", []string{"ld x5, 0(x4); ld x6, 0(x4) @ 0.0 =5"}},
		{"a load of 0", "same", "", []string{"ld x5, 16(x4); ld x6, 16(x4) @ 0.0 =0"}},
		{"addi", "same", "", []string{"addi x5, x0, 0; ld x6, 0(x4) @ 0.0 =0"}},
		{"itself", "same", "", []string{"ld x6, 0(x4) @ 0.0 =0"}},
		{"a failed sc", "same", "", []string{"lr.d x5, (x4); sc.d x6, x0, (x4) @ fails; ld x6, 0(x4) @ 0.1 =0"}},
		{"an sc that waits", "same", "", []string{"lr.d x5, (x4); sc.d x6, x0, (x4) @ waits; ld x6, 0(x4) @ 0.1 =0"}},
		{"an amo that waits", "same", "", []string{"amoswap.d x5, x0, (x4) @ waits; ld x6, 0(x4) @ 0.0 =0"}},
		{"an amo that reads what it writes", "13", "0: 0.0", []string{"amoswap.d x5, x1, (x4) @ 0.0 =1"}},
		{"a later store", "1", "0: 0.1", []string{"ld x5, 0(x4) @ 0.1 =1; sd x1, 0(x4)"}},
		{"the last read", "same", "0: 0.0", []string{"sd x1, 0(x4); ld x5, 0(x4) @ 0.0 =1; ld x6, 0(x4) @ 0.0 =2"}},
		{"the second store", "", "0: 0.0 0.1", []string{"sd x1, 0(x4); sd x2, 0(x4); ld x5, 0(x4) @ 0.1 =2"}},
	})
}

func TestValuesOfStoresThatWait(t *testing.T) {
	hold(t, zeros(), []example{
		{"sd", "", "", []string{"sd x1, 0(x4) @ waits; ld x5, 0(x4) @ 0.0 =1"}},
		{"lr", "", "", []string{"sd x1, 0(x4) @ waits; lr.d x5, (x4) @ 0.0 =1"}},
		{"something between", "", "", []string{"sd x1, 0(x4) @ waits; ld x7, 8(x4); addi x6, x0, 1; ld x5, 0(x4) @ 0.0 =1"}},
		{"another value", "same", "", []string{"sd x1, 0(x4) @ waits; ld x5, 0(x4) @ 0.0 =2"}},
		{"another address", "same", "", []string{"sd x1, 8(x4) @ waits; ld x5, 0(x4) @ 0.0 =1"}},
		{"another hart, before", "same", "", []string{"sd x1, 0(x4) @ waits", "ld x5, 0(x4) @ 0.0 =1"}},
		{"another hart, behind", "same", "", []string{"ld x5, 0(x4) @ 1.0 =1", "sd x1, 0(x4) @ waits"}},
		{"another hart, with a smaller index", "same", "", []string{"sd x1, 0(x4) @ waits", "addi x5, x0, 1; ld x5, 0(x4) @ 0.0 =1"}},
		{"behind", "same", "", []string{"ld x5, 0(x4) @ 0.1 =1; sd x1, 0(x4) @ waits"}},
		{"not ready", "same", "", []string{"ld x5, 8(x4) @ waits; sd x5, 0(x4) @ waits; ld x6, 0(x4) @ 0.1 =0"}},
		{"ready", "", "", []string{"ld x5, 8(x4) @ waits; sd x0, 0(x4) @ waits; ld x6, 0(x4) @ 0.1 =0"}},
		{"by amo", "12", "0: 0.1", []string{"sd x1, 0(x4) @ waits; amoadd.d x5, x1, (x4) @ =0"}},
		{"by amo, which has it as its Src", "123", "0: 0.1", []string{"sd x1, 0(x4) @ waits; amoadd.d x5, x1, (x4) @ 0.0 =1"}},
	})
}

// P17.2: rows.

func TestRows(t *testing.T) {
	two := []string{"sd x1, 0(x4); sd x2, 8(x4)", "sd x3, 0(x4); ld x5, 16(x4)"}
	hold(t, zeros(), []example{
		{"all", "", "0: 0.0 1.0; 8: 0.1", two},
		{"the other order", "", "0: 1.0 0.0; 8: 0.1", two},
		{"one missing", "same", "0: 0.0; 8: 0.1", two},
		{"the first one missing", "same", "0: 1.0; 8: 0.1", two},
		{"a row missing", "same", "0: 0.0 1.0", two},
		{"no rows", "same", "", two},
		{"in another row", "same", "0: 0.0; 8: 0.1 1.0", two},
		{"rows exchanged", "same", "0: 0.1; 8: 0.0 1.0", two},
		{"in a row without data", "same", "0: 0.0 1.0; 8: 0.1; 16: 1.1", two},
		{"no address of data", "same", "4: 0.0 1.0; 8: 0.1", two},
		{"a load", "same", "0: 0.0 1.0 1.1; 8: 0.1", two},
		{"a load in its row", "same", "0: 0.0 1.0; 8: 0.1; 16: 1.1", two},
		{"addi", "same", "0: 0.0 1.0 0.-1; 8: 0.1", two},
		{"addi in a row of its own", "same", "0: 0.0 1.0; 8: 0.1; 24: 0.-1", two},
		{"fence", "same", "0: 0.0 0.1", []string{"sd x1, 0(x4); fence rw, rw"}},
		{"no address of the data at all", "same", "-16777216: 0.-1", []string{"ld x5, 0(x4)"}},
		{"amo", "", "0: 0.0", []string{"amoswap.d x5, x1, (x4)"}},
		{"amo missing", "same", "", []string{"amoswap.d x5, x1, (x4)"}},
		{"sc", "", "0: 0.1", []string{"lr.d x5, (x4); sc.d x6, x1, (x4)"}},
		{"sc missing", "same", "", []string{"lr.d x5, (x4); sc.d x6, x1, (x4)"}},
		{"a failed sc", "", "", []string{"lr.d x5, (x4); sc.d x6, x1, (x4) @ fails"}},
		{"a failed sc in its row", "same", "0: 0.1", []string{"lr.d x5, (x4); sc.d x6, x1, (x4) @ fails"}},
		{"sc waits", "", "", []string{"lr.d x5, (x4); sc.d x6, x1, (x4) @ waits"}},
		{"sc waits in its row", "same", "0: 0.1", []string{"lr.d x5, (x4); sc.d x6, x1, (x4) @ waits"}},
		{"sd waits", "", "", []string{"sd x1, 0(x4) @ waits"}},
		{"sd waits in its row", "same", "0: 0.0", []string{"sd x1, 0(x4) @ waits"}},
		{"sd waits, another one does not", "", "0: 0.0", []string{"sd x1, 0(x4); sd x2, 0(x4) @ waits"}},
		{"the other one", "same", "0: 0.1", []string{"sd x1, 0(x4); sd x2, 0(x4) @ waits"}},
		{"amo waits", "", "", []string{"amoswap.d x5, x1, (x4) @ waits"}},
		{"amo waits in its row", "same", "0: 0.0", []string{"amoswap.d x5, x1, (x4) @ waits"}},
		{"nothing", "", "", []string{"", ""}},
	})
}

// P17.2: coherence.

func TestCoherence(t *testing.T) {
	hold(t, zeros(), []example{
		{"a read behind a store, of the initial data", "1", "0: 0.0", []string{"sd x1, 0(x4); ld x5, 0(x4)"}},
		{"a read behind a store", "", "0: 0.0", []string{"sd x1, 0(x4); ld x5, 0(x4) @ 0.0"}},
		{"another address", "", "0: 0.0", []string{"sd x1, 0(x4); ld x5, 8(x4)"}},
		{"two stores", "", "0: 0.0 0.1", []string{"sd x1, 0(x4); sd x1, 0(x4)"}},
		{"two stores in the other order", "12", "0: 0.1 0.0", []string{"sd x1, 0(x4); sd x1, 0(x4)"}},
		{"two stores of harts in each order", "", "0: 1.0 0.0", []string{"sd x1, 0(x4)", "sd x1, 0(x4)"}},
		{"new, then initial", "12", "0: 1.0", []string{"ld x5, 0(x4) @ 1.0; ld x6, 0(x4)", "sd x1, 0(x4)"}},
		{"initial, then new", "", "0: 1.0", []string{"ld x5, 0(x4); ld x6, 0(x4) @ 1.0", "sd x1, 0(x4)"}},
		{"new, then old", "12", "0: 1.0 2.0", []string{"ld x5, 0(x4) @ 2.0; ld x6, 0(x4) @ 1.0", "sd x1, 0(x4)", "sd x1, 0(x4)"}},
		{"old, then new", "", "0: 1.0 2.0", []string{"ld x5, 0(x4) @ 1.0; ld x6, 0(x4) @ 2.0", "sd x1, 0(x4)", "sd x1, 0(x4)"}},
		{"old, then a later one of a longer row", "", "0: 1.0 1.1 2.0", []string{"ld x5, 0(x4) @ 1.0; ld x6, 0(x4) @ 2.0", "sd x1, 0(x4); sd x1, 0(x4)", "sd x1, 0(x4)"}},
		{"the first of a longer row at last", "12", "0: 1.0 1.1 2.0", []string{"ld x5, 0(x4) @ 2.0; ld x6, 0(x4) @ 1.0", "sd x1, 0(x4); sd x1, 0(x4)", "sd x1, 0(x4)"}},
		{"a read of a later store", "1", "0: 0.1", []string{"ld x5, 0(x4) @ 0.1; sd x1, 0(x4)"}},
		{"a read of a store that its store precedes", "12", "0: 0.1 1.0", []string{"ld x5, 0(x4) @ 1.0; sd x1, 0(x4)", "sd x2, 0(x4)"}},
		{"a read of a store before its store", "", "0: 1.0 0.1", []string{"ld x5, 0(x4) @ 1.0; sd x1, 0(x4)", "sd x2, 0(x4)"}},
		{"a store, then one before it", "1", "0: 1.0 0.0", []string{"sd x1, 0(x4); ld x5, 0(x4) @ 1.0", "sd x2, 0(x4)"}},
		{"a store, then one behind it", "", "0: 0.0 1.0", []string{"sd x1, 0(x4); ld x5, 0(x4) @ 1.0", "sd x2, 0(x4)"}},
		{"one store between", "12", "0: 0.0 0.1", []string{"sd x1, 0(x4); sd x2, 0(x4)", "ld x5, 0(x4) @ 0.1; ld x6, 0(x4) @ 0.0"}},
		{"two reads of one store", "", "0: 0.0 0.1", []string{"sd x1, 0(x4); sd x2, 0(x4)", "ld x5, 0(x4) @ 0.0; ld x6, 0(x4) @ 0.0"}},
		{"an amo that reads the initial data", "", "0: 0.0", []string{"amoadd.d x5, x1, (x4)"}},
		{"a failed sc between", "12", "0: 1.0", []string{"ld x5, 0(x4) @ 1.0; sc.d x7, x1, (x4) @ fails; ld x6, 0(x4)", "sd x1, 0(x4)"}},
		{"a read that waits between", "12", "0: 1.0", []string{"ld x5, 0(x4) @ 1.0; ld x7, 0(x4) @ waits; ld x6, 0(x4)", "sd x1, 0(x4)"}},
	})
}

func TestCoherenceOfStoresThatWait(t *testing.T) {
	hold(t, zeros(), []example{
		{"the initial data behind it", "1", "", []string{"sd x1, 0(x4) @ waits; ld x5, 0(x4)"}},
		{"the initial data before it", "", "", []string{"ld x5, 0(x4); sd x1, 0(x4) @ waits"}},
		{"a store behind it", "1", "0: 1.0", []string{"sd x1, 0(x4) @ waits; ld x5, 0(x4) @ 1.0", "sd x2, 0(x4)"}},
		{"a store before it", "", "0: 1.0", []string{"ld x5, 0(x4) @ 1.0; sd x1, 0(x4) @ waits", "sd x2, 0(x4)"}},
		{"another address behind it", "", "0: 1.0", []string{"sd x1, 8(x4) @ waits; ld x5, 0(x4) @ 1.0", "sd x2, 0(x4)"}},
		{"amo waits", "1", "", []string{"amoadd.d x5, x1, (x4) @ waits; ld x5, 0(x4)"}},
		{"amo waits, and another address", "", "", []string{"amoadd.d x5, x1, (x4) @ waits; ld x5, 8(x4)"}},
		{"amo waits, and a store behind it", "1", "0: 1.0", []string{"amoadd.d x5, x1, (x4) @ waits; ld x5, 0(x4) @ 1.0", "sd x2, 0(x4)"}},
		{"not ready", "1", "", []string{"ld x6, 8(x4) @ waits; sd x6, 0(x4) @ waits; ld x5, 0(x4)"}},
		{"sc waits", "", "", []string{"lr.d x5, (x4); sc.d x6, x1, (x4) @ waits; ld x5, 0(x4)"}},
		{"ld waits", "", "", []string{"ld x5, 0(x4) @ waits; ld x5, 0(x4)"}},
		{"the hart's own, and then the initial data", "1", "", []string{"sd x1, 0(x4) @ waits; ld x5, 0(x4) @ 0.0; ld x5, 0(x4)"}},
		{"of another hart", "", "", []string{"sd x1, 0(x4) @ waits", "ld x5, 0(x4)"}},
		{"behind a store of its row", "", "0: 0.0", []string{"sd x1, 0(x4); sd x2, 0(x4) @ waits; ld x5, 0(x4) @ 0.1"}},
		{"behind a store of its row, which is read", "1", "0: 0.0", []string{"sd x1, 0(x4); sd x2, 0(x4) @ waits; ld x5, 0(x4) @ 0.0"}},
		{"before a store of its row", "12", "0: 0.1", []string{"sd x1, 0(x4) @ waits; sd x2, 0(x4)"}},
		{"two of them, and the second one read", "", "", []string{"sd x1, 0(x4) @ waits; sd x2, 0(x4) @ waits; ld x5, 0(x4) @ 0.1"}},
		// No row says which of two stores that wait comes first, so that co has no pair of them.
		{"two of them, and the first one read", "", "", []string{"sd x1, 0(x4) @ waits; sd x2, 0(x4) @ waits; ld x5, 0(x4) @ 0.0"}},
		{"two of them, of two harts", "", "", []string{"sd x1, 0(x4) @ waits; ld x5, 0(x4) @ 0.0", "sd x2, 0(x4) @ waits; ld x5, 0(x4) @ 1.0"}},
	})
}

// P17.2: order.

func TestOrder(t *testing.T) {
	hold(t, zeros(), []example{
		{"buffering", "", "0: 0.0; 8: 1.0", []string{"sd x1, 0(x4); ld x5, 8(x4)", "sd x1, 8(x4); ld x5, 0(x4)"}},
		{"buffering with fences", "2", "0: 0.0; 8: 1.0", []string{"sd x1, 0(x4); fence rw, rw; ld x5, 8(x4)", "sd x1, 8(x4); fence rw, rw; ld x5, 0(x4)"}},
		{"buffering with fences, one is read", "", "0: 0.0; 8: 1.0", []string{"sd x1, 0(x4); fence rw, rw; ld x5, 8(x4) @ 1.0", "sd x1, 8(x4); fence rw, rw; ld x5, 0(x4)"}},
		{"message", "2", "0: 0.0; 8: 0.2", []string{"sd x1, 0(x4); fence w, w; sd x1, 8(x4)", "ld x5, 8(x4) @ 0.2; fence r, r; ld x6, 0(x4)"}},
		{"message that is read", "", "0: 0.0; 8: 0.2", []string{"sd x1, 0(x4); fence w, w; sd x1, 8(x4)", "ld x5, 8(x4) @ 0.2; fence r, r; ld x6, 0(x4) @ 0.0"}},
		{"only co", "2", "0: 1.2 0.0; 8: 0.2 1.0", []string{"sd x1, 0(x4); fence w, w; sd x1, 8(x4)", "sd x1, 8(x4); fence w, w; sd x1, 0(x4)"}},
		{"co without a cycle", "", "0: 0.0 1.2; 8: 1.0 0.2", []string{"sd x1, 0(x4); fence w, w; sd x1, 8(x4)", "sd x1, 8(x4); fence w, w; sd x1, 0(x4)"}},
		{"only rf", "2", "0: 1.2; 8: 0.2", []string{"ld x5, 0(x4) @ 1.2; fence r, w; sd x1, 8(x4)", "ld x5, 8(x4) @ 0.2; fence r, w; sd x1, 0(x4)"}},
		{"only fr", "2", "0: 1.0; 8: 0.0", []string{"sd x1, 8(x4); fence w, r; ld x5, 0(x4)", "sd x1, 0(x4); fence w, r; ld x5, 8(x4)"}},
		{"rf within a hart", "", "0: 0.0; 8: 1.0", []string{"sd x1, 0(x4); ld x6, 0(x4) @ 0.0; fence r, r; ld x5, 8(x4)", "sd x1, 8(x4); ld x6, 8(x4) @ 1.0; fence r, r; ld x5, 0(x4)"}},
		{"rf within a hart from an amo", "2", "0: 0.0; 8: 1.1", []string{"amoswap.d x7, x1, (x4); ld x6, 0(x4) @ 0.0; fence r, r; ld x5, 8(x4)", "addi x9, x4, 8; amoswap.d x7, x1, (x9); ld x6, 8(x4) @ 1.1; fence r, r; ld x5, 0(x4)"}},
	})
}

func TestOrderOfEventsThatWait(t *testing.T) {
	hold(t, zeros(), []example{
		{"a later store", "", "8: 0.1", []string{"ld x5, 0(x4) @ waits; sd x1, 8(x4)"}},
		{"a later store behind a fence", "2", "8: 0.2", []string{"ld x5, 0(x4) @ waits; fence r, w; sd x1, 8(x4)"}},
		{"a later store behind another fence", "", "8: 0.2", []string{"ld x5, 0(x4) @ waits; fence w, w; sd x1, 8(x4)"}},
		{"a later read behind a fence", "2", "", []string{"ld x5, 0(x4) @ waits; fence r, r; ld x5, 8(x4)"}},
		{"a store, and a later read behind a fence", "2", "", []string{"sd x1, 0(x4) @ waits; fence w, r; ld x5, 8(x4)"}},
		{"both wait", "", "", []string{"ld x5, 0(x4) @ waits; fence r, w; sd x1, 8(x4) @ waits"}},
		{"only the second one waits", "", "", []string{"ld x5, 0(x4); fence r, w; sd x1, 8(x4) @ waits"}},
		{"a later store to the same address", "2", "0: 0.1", []string{"ld x5, 0(x4) @ waits; sd x1, 0(x4)"}},
		{"lr.aq", "2", "", []string{"lr.d.aq x5, (x4) @ waits; ld x5, 8(x4)"}},
		{"lr", "", "", []string{"lr.d x5, (x4) @ waits; ld x5, 8(x4)"}},
		{"amo.rl", "2", "0: 0.1", []string{"sd x1, 8(x4) @ waits; amoswap.d.rl x5, x1, (x4)"}},
		{"amo", "", "0: 0.1", []string{"sd x1, 8(x4) @ waits; amoswap.d x5, x1, (x4)"}},
		{"amo.aq", "2", "8: 0.1", []string{"amoswap.d.aq x5, x1, (x4) @ waits; sd x1, 8(x4)"}},
		{"sc.aq", "", "8: 0.2", []string{"lr.d x5, (x4); sc.d.aq x5, x1, (x4) @ waits; sd x1, 8(x4)"}},
		{"sc.aq that failed", "", "8: 0.2", []string{"lr.d x5, (x4); sc.d.aq x5, x1, (x4) @ fails; sd x1, 8(x4)"}},
		{"lr before its sc", "23", "8: 0.2", []string{"addi x9, x4, 8; lr.d x5, (x4) @ waits; sc.d x5, x1, (x9)"}},
		{"a read of a store that waits", "", "", []string{"sd x1, 0(x4) @ waits; ld x5, 0(x4) @ 0.0; fence r, r; ld x6, 8(x4)"}},
		{"a read of a store that waits for its value", "", "", []string{"ld x6, 8(x4) @ waits; sd x6, 0(x4) @ waits; ld x5, 0(x4) @ waits"}},
		{"a later store at an address that comes from it", "2", "0: 0.3", []string{"ld x5, 0(x4); xor x5, x5, x5; add x5, x5, x4; sd x1, 0(x4); sd x1, 8(x5) @ waits; fence w, r; ld x6, 16(x4)"}},
		{"a read that waits is on no cycle", "", "0: 0.0; 8: 1.0", []string{"sd x1, 0(x4); fence rw, rw; ld x5, 8(x4) @ waits", "sd x1, 8(x4); fence rw, rw; ld x5, 0(x4)"}},
		{"a store that waits is on no cycle", "", "0: 0.0", []string{"sd x1, 0(x4); fence rw, rw; ld x5, 8(x4)", "sd x1, 8(x4) @ waits; ld x5, 0(x4)"}},
		{"in the second hart", "2", "", []string{"ld x5, 0(x4)", "ld x5, 0(x4) @ waits; fence r, r; ld x5, 8(x4)"}},
	})
}

// P17.2: atomicity.

func TestAtomicOperations(t *testing.T) {
	hold(t, zeros(), []example{
		{"first", "", "0: 0.0 1.0", []string{"amoadd.d x5, x1, (x4)", "sd x2, 0(x4)"}},
		{"second, of the first one", "", "0: 1.0 0.0", []string{"amoadd.d x5, x1, (x4) @ 1.0", "sd x2, 0(x4)"}},
		{"second, of the initial data", "123", "0: 1.0 0.0", []string{"amoadd.d x5, x1, (x4)", "sd x2, 0(x4)"}},
		{"first, of the second one", "123", "0: 0.0 1.0", []string{"amoadd.d x5, x1, (x4) @ 1.0", "sd x2, 0(x4)"}},
		{"third, of the first one", "123", "0: 1.0 2.0 0.0", []string{"amoadd.d x5, x1, (x4) @ 1.0", "sd x2, 0(x4)", "sd x3, 0(x4)"}},
		{"third, of the second one", "", "0: 1.0 2.0 0.0", []string{"amoadd.d x5, x1, (x4) @ 2.0", "sd x2, 0(x4)", "sd x3, 0(x4)"}},
		{"its own store between", "123", "0: 1.0 0.0 0.1", []string{"sd x3, 0(x4); amoadd.d x5, x1, (x4) @ 1.0", "sd x2, 0(x4)"}},
		{"two of one value", "123", "0: 0.0 1.0", []string{"amoadd.d x5, x1, (x4)", "amoadd.d x5, x1, (x4)"}},
		{"two", "", "0: 0.0 1.0", []string{"amoadd.d x5, x1, (x4)", "amoadd.d x5, x1, (x4) @ 0.0"}},
		{"two of one hart", "", "0: 0.0 0.1", []string{"amoadd.d x5, x1, (x4); amomax.d x5, x1, (x4) @ 0.0"}},
		{"the second one is wrong", "123", "0: 0.0 1.0 1.1", []string{"sd x1, 0(x4)", "amoadd.d x5, x1, (x4) @ 0.0; amoadd.d x5, x1, (x4) @ 0.0"}},
		{"itself", "13", "0: 0.0", []string{"amoor.d x5, x1, (x4) @ 0.0 =1"}},
		{"one waits", "", "0: 0.0", []string{"sd x1, 0(x4)", "amoadd.d x5, x1, (x4) @ waits"}},
		{"a store waits", "", "0: 0.0", []string{"amoadd.d x5, x1, (x4)", "sd x1, 0(x4) @ waits"}},
		{"two addresses", "", "0: 0.0; 8: 1.1", []string{"amoadd.d x5, x1, (x4)", "addi x9, x4, 8; amoadd.d x5, x1, (x9)"}},
	})
	for _, name := range []string{"swap", "add", "xor", "and", "or", "min", "max", "minu", "maxu"} {
		program := "amo" + name + ".d x5, x3, (x4)"
		hold(t, zeros(), []example{
			{name + " of the first one", "123", "0: 1.0 1.1 0.0", []string{program + " @ 1.0", "sd x1, 0(x4); sd x2, 0(x4)"}},
			{name + " of the second one", "", "0: 1.0 1.1 0.0", []string{program + " @ 1.1", "sd x1, 0(x4); sd x2, 0(x4)"}},
		})
	}
}

func TestConditionalStores(t *testing.T) {
	pair := "lr.d x5, (x4); sc.d x6, x1, (x4)"
	of := func(src string) string { return "lr.d x5, (x4) @ " + src + "; sc.d x6, x1, (x4)" }
	hold(t, zeros(), []example{
		{"alone", "", "0: 0.1", []string{pair}},
		{"a store behind it", "", "0: 0.1 1.0", []string{pair, "sd x2, 0(x4)"}},
		{"a store before it", "3", "0: 1.0 0.1", []string{pair, "sd x2, 0(x4)"}},
		{"a store before it, which is read", "", "0: 1.0 0.1", []string{of("1.0"), "sd x2, 0(x4)"}},
		{"a store between", "3", "0: 1.0 1.1 0.1", []string{of("1.0"), "sd x2, 0(x4); sd x3, 0(x4)"}},
		{"the last store is read", "", "0: 1.0 1.1 0.1", []string{of("1.1"), "sd x2, 0(x4); sd x3, 0(x4)"}},
		{"a store behind it is read", "123", "0: 0.1 1.0", []string{of("1.0"), "sd x2, 0(x4)"}},
		{"itself is read", "13", "0: 0.1", []string{of("0.1")}},
		{"its own store between", "", "0: 0.1 0.2", []string{"lr.d x5, (x4); sd x2, 0(x4); sc.d x6, x1, (x4)"}},
		{"its own store between, and one before that", "3", "0: 1.0 0.1 0.2", []string{"lr.d x5, (x4); sd x2, 0(x4); sc.d x6, x1, (x4)", "sd x2, 0(x4)"}},
		{"its own store between, and one behind that", "3", "0: 0.1 1.0 0.2", []string{"lr.d x5, (x4); sd x2, 0(x4); sc.d x6, x1, (x4)", "sd x2, 0(x4)"}},
		{"its own amo between", "", "0: 0.1 0.2", []string{"lr.d x5, (x4); amoadd.d x7, x2, (x4); sc.d x6, x1, (x4)"}},
		{"both succeed", "3", "0: 0.1 1.1", []string{pair, pair}},
		{"one fails", "", "0: 0.1", []string{pair, "lr.d x5, (x4); sc.d x6, x1, (x4) @ fails"}},
		{"one waits", "", "0: 0.1", []string{pair, "lr.d x5, (x4); sc.d x6, x1, (x4) @ waits"}},
		{"one after the other", "", "0: 0.1 1.1", []string{pair, of("0.1")}},
		{"no lr", "3", "0: 0.0", []string{"sc.d x6, x1, (x4)"}},
		{"no lr but a load", "3", "0: 0.1", []string{"ld x5, 0(x4); sc.d x6, x1, (x4)"}},
		{"no lr but one of another hart", "3", "0: 1.0", []string{"lr.d x5, (x4)", "sc.d x6, x1, (x4)"}},
		{"lr behind it", "3", "0: 0.0", []string{"sc.d x6, x1, (x4); lr.d x5, (x4) @ 0.0"}},
		{"lr of another address", "3", "0: 0.2", []string{"addi x9, x4, 8; lr.d x5, (x9); sc.d x6, x1, (x4)"}},
		{"lr of both", "", "0: 0.3", []string{"addi x9, x4, 8; lr.d x5, (x9); lr.d x5, (x4); sc.d x6, x1, (x4)"}},
		{"lr of both, in the other order", "3", "0: 0.3", []string{"addi x9, x4, 8; lr.d x5, (x4); lr.d x5, (x9); sc.d x6, x1, (x4)"}},
		{"lr waits", "23", "0: 0.1", []string{"lr.d x5, (x4) @ waits; sc.d x6, x1, (x4)"}},
		{"another lr does not wait", "23", "0: 0.2", []string{"lr.d x5, (x4); lr.d x5, (x4) @ waits; sc.d x6, x1, (x4)"}},
		{"another lr waits", "2", "0: 0.2", []string{"lr.d x5, (x4) @ waits; lr.d x5, (x4); sc.d x6, x1, (x4)"}},
		{"two sc", "3", "0: 0.1 0.2", []string{pair + "; sc.d x6, x1, (x4)"}},
		{"an sc that failed before", "3", "0: 0.2", []string{"lr.d x5, (x4); sc.d x6, x1, (x4) @ fails; sc.d x6, x1, (x4)"}},
		{"an sc that waits before", "3", "0: 0.2", []string{"lr.d x5, (x4); sc.d x6, x1, (x4) @ waits; sc.d x6, x1, (x4)"}},
		{"an sc to another address before", "3", "0: 0.3", []string{"addi x9, x4, 8; lr.d x5, (x4); sc.d x6, x1, (x9) @ fails; sc.d x6, x1, (x4)"}},
		{"another pair", "", "0: 0.1 0.3", []string{pair + "; lr.d x5, (x4) @ 0.1; sc.d x6, x1, (x4)"}},
		{"another pair of the initial data", "1", "0: 0.1 0.3", []string{pair + "; lr.d x5, (x4); sc.d x6, x1, (x4)"}},
		{"a store of the hart that is read", "", "0: 0.0 0.2", []string{"sd x2, 0(x4); lr.d x5, (x4) @ 0.0; sc.d x6, x1, (x4)"}},
		{"a store of the hart that is read and waits", "123", "0: 0.2", []string{"sd x2, 0(x4) @ waits; lr.d x5, (x4) @ 0.0; sc.d x6, x1, (x4)"}},
		{"something between", "", "0: 0.3", []string{"lr.d x5, (x4); ld x7, 0(x4); addi x7, x0, 1; sc.d x6, x1, (x4)"}},
		{"the second sc is wrong", "3", "0: 0.1 0.3 1.0", []string{pair + "; lr.d x5, (x4) @ 0.1; sc.d x6, x1, (x4)", "sc.d x6, x1, (x4)"}},
		{"an sc that failed without lr", "", "", []string{"sc.d x6, x1, (x4) @ fails"}},
		{"another hart stores elsewhere", "", "0: 0.1; 8: 1.0", []string{pair, "sd x1, 8(x4)"}},
	})
}

// The order in memory: another definition of what is allowed, by a total order.

// memory is an order in memory that is being looked for: a total order of the nodes that
// do not wait, in which what is performed makes sense.
type memory struct {
	chapter
	preserved pairs
	hopeless  map[uint64]bool // sets of events that were performed first, in vain
}

// hasOrder says whether there is such an order for a candidate with valid values and rows.
// It does not use the axioms, but says of each event what it may read when it is performed.
func hasOrder(d chapter) bool {
	m := memory{d, pairs{}, map[uint64]bool{}}
	for _, p := range ppo.All(d.l).Pairs() {
		if m.l[p[0]].Wait && !m.l[p[1]].Wait {
			return false
		}
		m.preserved[p] = true
	}
	return m.perform(0)
}

// perform says whether the events that are not in a set can be performed behind it.
func (m memory) perform(done uint64) bool {
	if m.hopeless[done] {
		return false
	}
	last := true
	for i, e := range m.l {
		if e.Wait || !e.Read && !e.Write || done>>i&1 != 0 {
			continue
		}
		last = false
		if m.possible(done, i) && m.perform(done|1<<i) {
			return true
		}
	}
	m.hopeless[done] = !last
	return last
}

// possible says whether event i can be performed next.
func (m memory) possible(done uint64, i int) bool {
	e := m.l[i]
	for a := range m.l {
		if m.preserved[[2]int{a, i}] && !m.l[a].Wait && done>>a&1 == 0 {
			return false
		}
	}
	var row []int // the events of the row
	for _, s := range cand.Stores(m.c, e.Addr) {
		row = append(row, replay.Number(m.c, s))
	}
	count := 0 // of stores that were performed
	for _, s := range row {
		if done>>s&1 != 0 {
			count++
		}
	}
	if e.Write && row[count] != i {
		return false
	}
	if e.Read && !m.mayRead(done, i, row, count) {
		return false
	}
	return e.Instr.Op != api.OpScD || m.maySucceed(i, row[:count])
}

// mayRead says whether event i may read what it read.
func (m memory) mayRead(done uint64, i int, row []int, count int) bool {
	// What a store of the hart that is not performed yet has is read from there.
	own, waiting := -1, false
	for s := range i {
		if m.l[s].Hart == m.l[i].Hart && m.writes(s, i) && done>>s&1 == 0 {
			own = s
			waiting = waiting || m.l[s].Wait
		}
	}
	switch {
	case waiting:
		src := replay.Number(m.c, m.l[i].Src)
		return src >= 0 && m.l[src].Wait
	case own >= 0:
		return m.is(m.l[i].Src, own)
	case count > 0:
		return m.is(m.l[i].Src, row[count-1])
	}
	return m.l[i].Src == initial
}

// maySucceed says whether a store-conditional may be performed behind the stores of its
// row that were performed.
func (m memory) maySucceed(i int, row []int) bool {
	for lr := i - 1; lr >= 0 && m.l[lr].Hart == m.l[i].Hart; lr-- {
		if m.l[lr].Instr.Op == api.OpScD {
			return false
		}
		if m.l[lr].Instr.Op != api.OpLrD {
			continue
		}
		if m.l[lr].Wait || m.l[lr].Addr != m.l[i].Addr {
			return false
		}
		for k := len(row) - 1; k >= 0; k-- {
			if m.is(m.l[lr].Src, row[k]) {
				return true
			}
			if m.l[row[k]].Hart != m.l[i].Hart {
				return false
			}
		}
		return m.l[lr].Src == initial
	}
	return false
}

// P17.3: there is an order of the nodes that do not wait.
func agreesWithOrder(t testing.TB, s scene, j judgment) {
	t.Helper()
	l, e := replay.Run(s.im, s.c)
	if e != api.OK || !j.values {
		return
	}
	if want := hasOrder(chapter{s.im, s.c, l}); (j.check == api.OK) != want {
		t.Errorf("%d; has an order: %v in %s", j.check, want, s)
	}
}

// Programs whose outcomes are known.

// everyCandidate calls f for all complete candidates of programs in which addresses do not
// depend on what is read, as far as each read has a source at its address.
func everyCandidate(t testing.TB, programs []string, f func(s scene)) {
	t.Helper()
	s := newScene(t, zeros(), "", programs...)
	l, e := replay.Run(s.im, s.c)
	if e != api.OK {
		t.Fatalf("%d: %s", e, s)
	}
	var conditionals, reads []int
	for i, e := range l {
		if e.Instr.Op == api.OpScD {
			conditionals = append(conditionals, i)
		}
		if e.Read {
			reads = append(reads, i)
		}
	}
	for failed := range 1 << len(conditionals) {
		for k, i := range conditionals {
			s.record(l[i]).Fail = failed>>k&1 != 0
		}
		l, _ := replay.Run(s.im, s.c)
		s.everySource(l, reads, func() {
			s.fill()
			s.everyRow(l, f)
		})
	}
}

// record returns the record of an event.
func (s *scene) record(e api.Event) *api.Rec {
	return &s.c.Harts[e.Hart][e.At]
}

// everySource calls f for all ways to choose the sources of reads.
func (s *scene) everySource(l []api.Event, reads []int, f func()) {
	if len(reads) == 0 {
		f()
		return
	}
	r := l[reads[0]]
	s.record(r).Src = initial
	s.everySource(l, reads[1:], f)
	for _, w := range l {
		if w.Write && w.Addr == r.Addr {
			s.record(r).Src = api.Ref{Hart: w.Hart, At: w.At}
			s.everySource(l, reads[1:], f)
		}
	}
}

// everyRow calls f for all rows of the stores in l that do not wait.
func (s *scene) everyRow(l []api.Event, f func(s scene)) {
	s.c.Rows = nil
	stores := map[int][]api.Ref{}
	for _, e := range l {
		if e.Write && !e.Wait {
			stores[e.Addr] = append(stores[e.Addr], api.Ref{Hart: e.Hart, At: e.At})
		}
	}
	var addrs []int
	for addr := range stores {
		addrs = append(addrs, addr)
	}
	slices.Sort(addrs)
	var fillRow func(i int)
	fillRow = func(i int) {
		if i == len(addrs) {
			f(*s)
			return
		}
		permute(stores[addrs[i]], 0, func(l []api.Ref) {
			s.c.Rows = append(s.c.Rows[:i], api.Row{Addr: addrs[i], L: slices.Clone(l)})
			fillRow(i + 1)
		})
	}
	fillRow(0)
}

// permute calls f for all orders of the elements of l from place i on.
func permute(l []api.Ref, i int, f func(l []api.Ref)) {
	if i == len(l) {
		f(l)
		return
	}
	for j := i; j < len(l); j++ {
		l[i], l[j] = l[j], l[i]
		permute(l, i+1, f)
		l[i], l[j] = l[j], l[i]
	}
}

// outcome returns what the harts read, with s or f for a store-conditional that succeeded
// or failed, and what is in the data at last.
func (s scene) outcome() string {
	l, _ := replay.Run(s.im, s.c)
	var b strings.Builder
	hart := 0
	for _, e := range l {
		for ; hart < e.Hart; hart++ {
			b.WriteString("|")
		}
		switch {
		case e.Read:
			fmt.Fprintf(&b, "%d", e.In)
		case e.Instr.Op == api.OpScD && e.Write:
			b.WriteString("s")
		case e.Instr.Op == api.OpScD:
			b.WriteString("f")
		}
	}
	data := slices.Clone(s.im.Data)
	for _, row := range s.c.Rows {
		data[(row.Addr-dataBase)/8] = l[replay.Number(s.c, row.L[len(row.L)-1])].Out
	}
	for _, v := range data {
		fmt.Fprintf(&b, " %d", v)
	}
	return b.String()
}

// from5 to from7 leave an address in x12 that depends on x5 to x7.
const (
	from5 = "; xor x12, x5, x5; add x12, x12, x4; "
	from6 = "; xor x12, x6, x6; add x12, x12, x4; "
	from7 = "; xor x12, x7, x7; add x12, x12, x4; "
	one5  = "; xor x11, x5, x5; addi x11, x11, 1; " // 1 in x11, which depends on x5
)

func TestLitmus(t *testing.T) {
	writer := "sd x1, 0(x4); fence w, w; sd x1, 8(x4)"
	for _, c := range []struct {
		name    string
		allowed bool
		outcome string
		harts   []string
	}{
		{"SB", true, "0|0 1 1 0 0", []string{"sd x1, 0(x4); ld x5, 8(x4)", "sd x1, 8(x4); ld x5, 0(x4)"}},
		{"SB both", true, "1|1 1 1 0 0", []string{"sd x1, 0(x4); ld x5, 8(x4)", "sd x1, 8(x4); ld x5, 0(x4)"}},
		{"SB+fence.w.r+po", true, "0|0 1 1 0 0", []string{"sd x1, 0(x4); fence w, r; ld x5, 8(x4)", "sd x1, 8(x4); ld x5, 0(x4)"}},
		{"SB+fence.w.rs", false, "0|0 1 1 0 0", []string{"sd x1, 0(x4); fence w, r; ld x5, 8(x4)", "sd x1, 8(x4); fence w, r; ld x5, 0(x4)"}},
		{"SB+fence.rw.ws", true, "0|0 1 1 0 0", []string{"sd x1, 0(x4); fence rw, w; ld x5, 8(x4)", "sd x1, 8(x4); fence rw, w; ld x5, 0(x4)"}},
		{"SB+amos", true, "00|00 1 1 0 0", []string{"amoswap.d x6, x1, (x4); ld x5, 8(x4)", "addi x9, x4, 8; amoswap.d x6, x1, (x9); ld x5, 0(x4)"}},
		{"SB+amo.aqs", false, "00|00 1 1 0 0", []string{"amoswap.d.aq x6, x1, (x4); ld x5, 8(x4)", "addi x9, x4, 8; amoswap.d.aq x6, x1, (x9); ld x5, 0(x4)"}},
		{"SB+amo.rls", true, "00|00 1 1 0 0", []string{"amoswap.d.rl x6, x1, (x4); ld x5, 8(x4)", "addi x9, x4, 8; amoswap.d.rl x6, x1, (x9); ld x5, 0(x4)"}},
		{"SB+amo.rl-lr.aqs", false, "00|00 1 1 0 0", []string{"addi x9, x4, 8; amoswap.d.rl x6, x1, (x4); lr.d.aq x5, (x9)", "addi x9, x4, 8; amoswap.d.rl x6, x1, (x9); lr.d.aq x5, (x4)"}},
		{"SB+amo.rl-lrs", true, "00|00 1 1 0 0", []string{"addi x9, x4, 8; amoswap.d.rl x6, x1, (x4); lr.d x5, (x9)", "addi x9, x4, 8; amoswap.d.rl x6, x1, (x9); lr.d x5, (x4)"}},
		{"SB+rfi-addrs", true, "10|10 1 1 0 0", []string{"sd x1, 0(x4); ld x5, 0(x4)" + from5 + "ld x6, 8(x12)", "sd x1, 8(x4); ld x5, 8(x4)" + from5 + "ld x6, 0(x12)"}},
		{"SB+amo-rfi-addrs", false, "010|010 1 1 0 0", []string{"amoswap.d x8, x1, (x4); ld x5, 0(x4)" + from5 + "ld x6, 8(x12)", "addi x9, x4, 8; amoswap.d x8, x1, (x9); ld x5, 8(x4)" + from5 + "ld x6, 0(x12)"}},
		{"MP", true, "|10 1 1 0 0", []string{"sd x1, 0(x4); sd x1, 8(x4)", "ld x5, 8(x4); ld x6, 0(x4)"}},
		{"MP+fence.w.w+po", true, "|10 1 1 0 0", []string{writer, "ld x5, 8(x4); ld x6, 0(x4)"}},
		{"MP+po+fence.r.r", true, "|10 1 1 0 0", []string{"sd x1, 0(x4); sd x1, 8(x4)", "ld x5, 8(x4); fence r, r; ld x6, 0(x4)"}},
		{"MP+fence.w.w+fence.r.r", false, "|10 1 1 0 0", []string{writer, "ld x5, 8(x4); fence r, r; ld x6, 0(x4)"}},
		{"MP+fence.w.w+fence.r.r, all old", true, "|00 1 1 0 0", []string{writer, "ld x5, 8(x4); fence r, r; ld x6, 0(x4)"}},
		{"MP+fence.w.w+fence.r.r, all new", true, "|11 1 1 0 0", []string{writer, "ld x5, 8(x4); fence r, r; ld x6, 0(x4)"}},
		{"MP+fence.w.w+addr", false, "|10 1 1 0 0", []string{writer, "ld x5, 8(x4)" + from5 + "ld x6, 0(x12)"}},
		{"MP+fence.w.w+ctrl", true, "|10 1 1 0 0", []string{writer, "ld x5, 8(x4); beq x5, x5, 4; ld x6, 0(x4)"}},
		{"MP+fence.w.w+lr.aq", false, "|10 1 1 0 0", []string{writer, "addi x9, x4, 8; lr.d.aq x5, (x9); ld x6, 0(x4)"}},
		{"MP+amo.rl+lr.aq", false, "0|10 1 1 0 0", []string{"addi x9, x4, 8; sd x1, 0(x4); amoswap.d.rl x8, x1, (x9)", "addi x9, x4, 8; lr.d.aq x5, (x9); ld x6, 0(x4)"}},
		{"MP+amo+lr.aq", true, "0|10 1 1 0 0", []string{"addi x9, x4, 8; sd x1, 0(x4); amoswap.d x8, x1, (x9)", "addi x9, x4, 8; lr.d.aq x5, (x9); ld x6, 0(x4)"}},
		{"PPOAA", false, "|110 1 1 1 0", []string{writer, "ld x5, 8(x4)" + from5 + "sd x1, 16(x12); ld x6, 16(x4)" + from6 + "ld x7, 0(x12)"}},
		{"PPODA", false, "|110 1 1 1 0", []string{writer, "ld x5, 8(x4)" + one5 + "sd x11, 16(x4); ld x6, 16(x4)" + from6 + "ld x7, 0(x12)"}},
		{"PPOCA", true, "|110 1 1 1 0", []string{writer, "ld x5, 8(x4); beq x5, x5, 4; sd x1, 16(x4); ld x6, 16(x4)" + from6 + "ld x7, 0(x12)"}},
		{"RSW", true, "|1000 1 1 0 0", []string{writer, "ld x5, 8(x4)" + from5 + "ld x6, 16(x12); ld x7, 16(x4)" + from7 + "ld x8, 0(x12)"}},
		{"RDW", false, "|1010|1 1 1 1 0", []string{writer, "ld x5, 8(x4)" + from5 + "ld x6, 16(x12); ld x7, 16(x4)" + from7 + "ld x8, 0(x12)", "sd x1, 16(x4); ld x5, 16(x4)"}},
		{"MP+fence.w.w+fri-rfi-addr", true, "|120 1 2 0 0", []string{writer, "ld x5, 8(x4); sd x2, 8(x4); ld x6, 8(x4)" + from6 + "ld x7, 0(x12)"}},
		{"LB", true, "1|1 1 1 0 0", []string{"ld x5, 0(x4); sd x1, 8(x4)", "ld x5, 8(x4); sd x1, 0(x4)"}},
		{"LB+data+po", true, "1|1 1 1 0 0", []string{"ld x5, 0(x4)" + one5 + "sd x11, 8(x4)", "ld x5, 8(x4); sd x1, 0(x4)"}},
		{"LB+datas", false, "1|1 1 1 0 0", []string{"ld x5, 0(x4)" + one5 + "sd x11, 8(x4)", "ld x5, 8(x4)" + one5 + "sd x11, 0(x4)"}},
		{"LB+addrs", false, "1|1 1 1 0 0", []string{"ld x5, 0(x4)" + from5 + "sd x1, 8(x12)", "ld x5, 8(x4)" + from5 + "sd x1, 0(x12)"}},
		{"LB+ctrls", false, "1|1 1 1 0 0", []string{"ld x5, 0(x4); bne x5, x5, 4; sd x1, 8(x4)", "ld x5, 8(x4); bne x5, x5, 4; sd x1, 0(x4)"}},
		{"LB+fence.r.ws", false, "1|1 1 1 0 0", []string{"ld x5, 0(x4); fence r, w; sd x1, 8(x4)", "ld x5, 8(x4); fence r, w; sd x1, 0(x4)"}},
		{"LB+fence.w.ws", true, "1|1 1 1 0 0", []string{"ld x5, 0(x4); fence w, w; sd x1, 8(x4)", "ld x5, 8(x4); fence w, w; sd x1, 0(x4)"}},
		{"LB+ecalls", false, "1|1 1 1 0 0", []string{"ld x5, 0(x4); ecall; sd x1, 8(x4)", "ld x5, 8(x4); ecall; sd x1, 0(x4)"}},
		{"LB+addr-pos", false, "10|10 1 1 0 0", []string{"ld x5, 0(x4)" + from5 + "ld x6, 16(x12); sd x1, 8(x4)", "ld x5, 8(x4)" + from5 + "ld x6, 16(x12); sd x1, 0(x4)"}},
		{"LB+data-rfi-datas", false, "11|11 1 1 1 1", []string{"ld x5, 0(x4)" + one5 + "sd x11, 16(x4); ld x6, 16(x4); sd x6, 8(x4)", "ld x5, 8(x4)" + one5 + "sd x11, 24(x4); ld x6, 24(x4); sd x6, 0(x4)"}},
		{"CoRR", false, "|10 1 0 0 0", []string{"sd x1, 0(x4)", "ld x5, 0(x4); ld x6, 0(x4)"}},
		{"CoRR the other way", true, "|01 1 0 0 0", []string{"sd x1, 0(x4)", "ld x5, 0(x4); ld x6, 0(x4)"}},
		{"CoWW", false, " 1 0 0 0", []string{"sd x1, 0(x4); sd x2, 0(x4)"}},
		{"CoWR", false, "2| 1 0 0 0", []string{"sd x1, 0(x4); ld x5, 0(x4)", "sd x2, 0(x4)"}},
		{"CoWR the other way", true, "2| 2 0 0 0", []string{"sd x1, 0(x4); ld x5, 0(x4)", "sd x2, 0(x4)"}},
		{"CoRW1", false, "1 1 0 0 0", []string{"ld x5, 0(x4); sd x1, 0(x4)"}},
		{"CoRW2", false, "2| 2 0 0 0", []string{"ld x5, 0(x4); sd x1, 0(x4)", "sd x2, 0(x4)"}},
		{"CoRR of two harts", false, "12|21|| 1 0 0 0", []string{"ld x5, 0(x4); ld x6, 0(x4)", "ld x5, 0(x4); ld x6, 0(x4)", "sd x1, 0(x4)", "sd x2, 0(x4)"}},
		{"2+2W", true, "| 1 1 0 0", []string{"sd x1, 0(x4); sd x2, 8(x4)", "sd x1, 8(x4); sd x2, 0(x4)"}},
		{"2+2W+fence.w.ws", false, "| 1 1 0 0", []string{"sd x1, 0(x4); fence w, w; sd x2, 8(x4)", "sd x1, 8(x4); fence w, w; sd x2, 0(x4)"}},
		{"S", true, "|1 2 1 0 0", []string{"sd x2, 0(x4); fence w, w; sd x1, 8(x4)", "ld x5, 8(x4); sd x1, 0(x4)"}},
		{"S+data", false, "|1 2 1 0 0", []string{"sd x2, 0(x4); fence w, w; sd x1, 8(x4)", "ld x5, 8(x4)" + one5 + "sd x11, 0(x4)"}},
		{"R", true, "|0 1 2 0 0", []string{writer, "sd x2, 8(x4); ld x5, 0(x4)"}},
		{"R+fences", false, "|0 1 2 0 0", []string{writer, "sd x2, 8(x4); fence w, r; ld x5, 0(x4)"}},
		{"WRC", true, "|1|10 1 1 0 0", []string{"sd x1, 0(x4)", "ld x5, 0(x4); sd x1, 8(x4)", "ld x5, 8(x4); ld x6, 0(x4)"}},
		{"WRC+data+addr", false, "|1|10 1 1 0 0", []string{"sd x1, 0(x4)", "ld x5, 0(x4)" + one5 + "sd x11, 8(x4)", "ld x5, 8(x4)" + from5 + "ld x6, 0(x12)"}},
		{"IRIW", true, "||10|10 1 1 0 0", []string{"sd x1, 0(x4)", "sd x1, 8(x4)", "ld x5, 0(x4); ld x6, 8(x4)", "ld x5, 8(x4); ld x6, 0(x4)"}},
		{"IRIW+addrs", false, "||10|10 1 1 0 0", []string{"sd x1, 0(x4)", "sd x1, 8(x4)", "ld x5, 0(x4)" + from5 + "ld x6, 8(x12)", "ld x5, 8(x4)" + from5 + "ld x6, 0(x12)"}},
		{"two amoadd", true, "0|1 2 0 0 0", []string{"amoadd.d x5, x1, (x4)", "amoadd.d x5, x1, (x4)"}},
		{"two amoadd, one is lost", false, "0|0 1 0 0 0", []string{"amoadd.d x5, x1, (x4)", "amoadd.d x5, x1, (x4)"}},
		{"two lr, sc", true, "0s|1s 2 0 0 0", []string{"lr.d x5, (x4); addi x6, x5, 1; sc.d x7, x6, (x4)", "lr.d x5, (x4); addi x6, x5, 1; sc.d x7, x6, (x4)"}},
		{"two lr, sc, one is lost", false, "0s|0s 1 0 0 0", []string{"lr.d x5, (x4); addi x6, x5, 1; sc.d x7, x6, (x4)", "lr.d x5, (x4); addi x6, x5, 1; sc.d x7, x6, (x4)"}},
		{"two lr, sc, one fails", true, "0s|0f 1 0 0 0", []string{"lr.d x5, (x4); addi x6, x5, 1; sc.d x7, x6, (x4)", "lr.d x5, (x4); addi x6, x5, 1; sc.d x7, x6, (x4)"}},
		{"two lr, sc, both fail", true, "0f|0f 0 0 0 0", []string{"lr.d x5, (x4); addi x6, x5, 1; sc.d x7, x6, (x4)", "lr.d x5, (x4); addi x6, x5, 1; sc.d x7, x6, (x4)"}},
		{"lr, sc around a store", false, "0s| 1 0 0 0", []string{"lr.d x5, (x4); sc.d x7, x1, (x4); ", "sd x0, 0(x4); sd x1, 0(x4); sd x2, 0(x4)"}},
		{"lr, sc behind a store", true, "2s| 1 0 0 0", []string{"lr.d x5, (x4); sc.d x7, x1, (x4)", "sd x3, 0(x4); sd x2, 0(x4)"}},
		{"lr, sc over a store", false, "3s| 1 0 0 0", []string{"lr.d x5, (x4); sc.d x7, x1, (x4)", "sd x3, 0(x4); sd x2, 0(x4)"}},
	} {
		t.Run(c.name, func(t *testing.T) {
			seen := map[string]bool{} // whether an outcome is allowed
			everyCandidate(t, c.harts, func(s scene) {
				j := agrees(t, s)
				agreesWithOrder(t, s, j)
				seen[s.outcome()] = seen[s.outcome()] || j.check == api.OK
			})
			if allowed, occurs := seen[c.outcome]; !occurs || allowed != c.allowed {
				t.Errorf("%s: %v, %v in %v", c.outcome, allowed, occurs, seen)
			}
		})
	}
}

// All candidates of small programs, also of those in which something waits.

func TestSmallPrograms(t *testing.T) {
	lines := []string{"ld x5, 0(x4)", "sd x1, 0(x4)", "sd x2, 8(x4)", "ld x6, 8(x4)", "lr.d x5, (x4)", "sc.d x7, x2, (x4)", "amoswap.d x8, x3, (x4)", "fence rw, rw"}
	count := map[string]int{}
	for _, a := range lines {
		for _, b := range lines {
			for _, c := range lines {
				everyCandidate(t, []string{a + ";" + b, c}, func(s scene) {
					j := agrees(t, s)
					agreesWithOrder(t, s, j)
					count[wrong(j)]++
				})
				if t.Failed() {
					return
				}
			}
		}
	}
	for _, what := range []string{"", "1", "12", "123", "13", "3"} {
		if count[what] == 0 {
			t.Errorf("no candidate with %q: %v", what, count)
		}
	}
}

func TestSmallProgramsThatWait(t *testing.T) {
	lines := []string{"ld x5, 0(x4)", "sd x1, 0(x4)", "lr.d.aq x5, (x4)", "sc.d x7, x2, (x4)", "fence r, rw"}
	count := map[string]int{}
	for _, a := range lines {
		for _, b := range lines {
			for _, c := range lines {
				everyWaiting(t, []string{a + ";" + b + ";" + c, "sd x2, 0(x4)"}, func(s scene) {
					j := agrees(t, s)
					agreesWithOrder(t, s, j)
					count[wrong(j)]++
				})
				if t.Failed() {
					return
				}
			}
		}
	}
	for _, what := range []string{"", "same", "1", "2", "12", "123", "13", "3", "23"} {
		if count[what] == 0 {
			t.Errorf("no candidate with %q: %v", what, count)
		}
	}
}

// everyWaiting calls f for all candidates of programs in which some accesses wait, as far
// as each read has a source at its address, and no sc.d fails.
func everyWaiting(t testing.TB, programs []string, f func(s scene)) {
	t.Helper()
	s := newScene(t, zeros(), "", programs...)
	all, _ := replay.Run(s.im, s.c)
	var accesses []api.Event
	for _, e := range all {
		if reads, writes := isa.Access(e.Instr.Op); reads || writes {
			accesses = append(accesses, e)
		}
	}
	for waiting := range 1 << len(accesses) {
		for _, e := range all {
			*s.record(e) = api.Rec{PC: e.PC, Src: initial}
		}
		for k, e := range accesses {
			s.record(e).Wait = waiting>>k&1 != 0
		}
		l, e := replay.Run(s.im, s.c)
		if e != api.OK {
			continue // something that does not wait depends on something that does
		}
		var reads []int
		for i, e := range l {
			if e.Read && !e.Wait {
				reads = append(reads, i)
			}
		}
		s.everySource(l, reads, func() {
			s.fill()
			s.everyRow(l, f)
		})
	}
}

// Random candidates.

// pool are the instructions that random programs consist of.
var pool = strings.Split("ld x5, 0(x4);ld x6, 8(x4);ld x7, 0(x9);sd x1, 0(x4);sd x2, 8(x4);sd x5, 8(x4);sd x3, 0(x9);sd x6, 0(x9);"+
	"addi x9, x4, 8;xor x8, x5, x5;add x9, x4, x8;addi x9, x4, 0;beq x5, x6, 4;bne x7, x0, 4;lr.d x5, (x4);lr.d.aq x6, (x9);"+
	"sc.d x8, x3, (x4);sc.d.rl x8, x6, (x9);sc.d x8, x1, (x9);amoswap.d x6, x5, (x4);amomax.d.rl x5, x6, (x4);amoadd.d.aq x7, x1, (x9);"+
	"fence rw, rw;fence r, w;fence w, r;fence w, w;fence r, r;addi x10, x5, 1;ecall", ";")

// randomScene returns a random candidate of random programs. It is not always one that can
// be replayed.
func randomScene(t testing.TB, r *rand.Rand, harts, n int) scene {
	t.Helper()
	var programs []string
	for range harts {
		var l []string
		for range 1 + r.IntN(n) {
			l = append(l, pool[r.IntN(len(pool))])
		}
		programs = append(programs, strings.Join(l, ";"))
	}
	s := newScene(t, zeros(), "", programs...)
	waits := r.IntN(3) == 0
	choices := map[api.Ref]int{}
	for h, l := range s.c.Harts {
		for at := range l {
			i, _ := image.Fetch(s.im, l[at].PC)
			reads, writes := isa.Access(i.Op)
			l[at].Wait = waits && (reads || writes) && r.IntN(4) == 0
			l[at].Fail = i.Op == api.OpScD && !l[at].Wait && r.IntN(3) == 0
			choices[api.Ref{Hart: h, At: at}] = r.IntN(1000)
		}
	}
	for range 10 {
		if l, e := replay.Run(s.im, s.c); e != api.OK || !s.choose(l, choices) {
			break
		}
	}
	s.c.Rows = randomRows(r, s)
	if r.IntN(8) == 0 {
		disturb(r, &s)
	}
	return s
}

// choose gives each read a source at its address, and reports whether that is another one.
func (s *scene) choose(l []api.Event, choices map[api.Ref]int) bool {
	changed := false
	for i, e := range l {
		if !e.Read || e.Wait {
			continue
		}
		sources := []api.Ref{initial}
		for k, w := range l {
			own := w.Hart == e.Hart && k < i
			if w.Write && w.Addr == e.Addr && k != i && (own || w.Hart != e.Hart && !w.Wait) {
				sources = append(sources, api.Ref{Hart: w.Hart, At: w.At})
				if own { // what the hart itself stored is read more often than by chance
					sources = append(sources, sources[len(sources)-1], sources[len(sources)-1])
				}
			}
		}
		src := sources[choices[api.Ref{Hart: e.Hart, At: e.At}]%len(sources)]
		changed = changed || s.record(e).Src != src
		s.record(e).Src = src
	}
	return s.fillOnce(l) || changed
}

// randomRows returns the stores of a scene that do not wait in a random order, in which
// those of one hart are often in theirs.
func randomRows(r *rand.Rand, s scene) []api.Row {
	l, _ := replay.Run(s.im, s.c)
	keys := map[api.Ref]int{}
	stores := map[int][]api.Ref{}
	last := 0
	for _, e := range l {
		if at := (api.Ref{Hart: e.Hart, At: e.At}); e.Write && !e.Wait {
			if e.At < last || r.IntN(8) == 0 {
				keys[at] = r.IntN(100)
			} else {
				keys[at] = keys[api.Ref{Hart: e.Hart, At: last}] + r.IntN(30)
			}
			last = e.At
			stores[e.Addr] = append(stores[e.Addr], at)
		}
	}
	var rows []api.Row
	for addr := dataBase; addr < dataBase+32; addr += 8 {
		if l := stores[addr]; len(l) > 0 {
			slices.SortStableFunc(l, func(a, b api.Ref) int { return keys[a] - keys[b] })
			rows = append(rows, api.Row{Addr: addr, L: l})
		}
	}
	return rows
}

// disturb changes something about a candidate, which may make it invalid.
func disturb(r *rand.Rand, s *scene) {
	h := r.IntN(len(s.c.Harts))
	at := r.IntN(len(s.c.Harts[h]))
	some := api.Ref{Hart: h, At: at}
	record := &s.c.Harts[h][len(prologue)+r.IntN(len(s.c.Harts[h])-len(prologue))]
	switch r.IntN(7) {
	case 0:
		record.Src = some
	case 1:
		record.Val++
	case 2:
		record.Wait = !record.Wait
	case 3:
		record.Src = initial
	case 4:
		record.Fail = !record.Fail
	case 5:
		if len(s.c.Rows) > 0 {
			row := &s.c.Rows[r.IntN(len(s.c.Rows))]
			row.L[r.IntN(len(row.L))] = some
		}
	case 6:
		if len(s.c.Rows) > 0 {
			s.c.Rows = s.c.Rows[1:]
		}
	}
}

func TestRandomCandidates(t *testing.T) {
	r := rand.New(rand.NewPCG(17, 1))
	count := map[string]int{}
	for range 12000 {
		s := randomScene(t, r, 1+r.IntN(3), 5)
		j := agrees(t, s)
		agreesWithOrder(t, s, j)
		count[wrong(j)]++
		if j.check == api.OK && !j.whole {
			count["waits"]++
		}
		if t.Failed() {
			return
		}
	}
	for _, what := range []string{"", "waits", "same", "1", "2", "12", "123", "13", "3", "23"} {
		if count[what] < 20 {
			t.Errorf("too few candidates with %q: %v", what, count)
		}
	}
}

// P17.1 and P17.2: errors.

// idle returns a scene of n records for each hart, which do nothing.
func idle(harts ...int) scene {
	s := scene{im: api.Image{Data: zeros()}, fixed: map[api.Ref]bool{}}
	nop, _ := enc.Encode(api.Instr{Op: api.OpAddi})
	for _, n := range harts {
		s.im.Entries = append(s.im.Entries, len(s.im.Code))
		var records []api.Rec
		for range n {
			records = append(records, api.Rec{PC: codeBase + 4*len(s.im.Code), Src: initial})
			s.im.Code = append(s.im.Code, nop)
		}
		s.im.Code = append(s.im.Code, nop) // so that a hart without records begins somewhere
		s.c.Harts = append(s.c.Harts, records)
	}
	return s
}

func TestNumberOfEvents(t *testing.T) {
	for _, c := range []struct {
		harts []int
		want  api.Errno
	}{
		{[]int{0}, api.OK},
		{[]int{1}, api.OK},
		{[]int{511}, api.OK},
		{[]int{512}, api.OK},
		{[]int{513}, api.ErrLong},
		{[]int{1024}, api.ErrLong},
		{[]int{256, 256}, api.OK},
		{[]int{256, 257}, api.ErrLong},
		{[]int{64, 64, 64, 64, 64, 64, 64, 64}, api.OK},
		{[]int{64, 64, 64, 64, 64, 64, 64, 65}, api.ErrLong},
		{[]int{0, 512, 0}, api.OK},
		{[]int{0, 0, 513}, api.ErrLong},
		{[]int{1024, 1024, 1024, 1024, 1024, 1024, 1024, 1024}, api.ErrLong},
	} {
		s := idle(c.harts...)
		if e := Check(s.im, s.c); e != c.want {
			t.Errorf("%v: %d", c.harts, e)
		}
		agrees(t, s)
	}
}

// Where several errors apply, the first one in the chapter counts.
func TestOrderOfErrors(t *testing.T) {
	isWrong := func(name string, s scene, want api.Errno) {
		t.Helper()
		if e := Check(s.im, s.c); e != want {
			t.Errorf("%s: %d; want %d", name, e, want)
		}
		if Values(s.im, s.c) || Whole(s.im, s.c) {
			t.Errorf("%s: true", name)
		}
		for n := 0; n <= 4; n++ {
			if Axiom(s.im, s.c, n) {
				t.Errorf("%s: axiom %d", name, n)
			}
		}
	}
	long := func() scene {
		s := idle(513)
		s.im.Code[0] = assemble(t, "lui x4, 4096")
		s.im.Code[1] = assemble(t, "ld x5, 0(x4)")
		s.im.Code[2] = assemble(t, "sd x5, 0(x4)")
		s.c.Harts[0][1].Val = 7 // so that the values are not valid, and there is no row
		return s
	}
	isWrong("too long", long(), api.ErrLong)
	s := long()
	s.c.Harts[0][512].PC += 4
	isWrong("another PC at last", s, api.ErrSame)
	s = long()
	s.im.Code[512] = 0
	isWrong("no instruction at last", s, api.ErrNone)
	s = long()
	s.c.Harts[0][3].Val = 1
	isWrong("a value of nothing", s, api.ErrForm)
	s = long()
	s.c.Harts[0][1].Src = api.Ref{Hart: 1}
	isWrong("a source that is not there", s, api.ErrForm)
	s = long()
	s.c.Harts = append(s.c.Harts, nil)
	isWrong("too many harts", s, api.ErrRange)
	s = long()
	s.im.Data = make([]int, 4097)
	isWrong("too much data", s, api.ErrLong)
	s.im.Entries[0] = -1
	s.c.Harts = nil
	isWrong("too much data, and more", s, api.ErrLong)
	s = long()
	s.im.Entries[0] = -1
	isWrong("no entry", s, api.ErrRange)

	s = newScene(t, zeros(), "", "sd x1, 0(x4); ld x5, 0(x4); sd x5, 0(x4)")
	isWrong("no row, and no coherence", s, api.ErrSame)
	s = newScene(t, zeros(), "0: 0.0 0.0", "sd x1, 0(x4)")
	isWrong("a store twice", s, api.ErrForm)
	s = newScene(t, zeros(), "8: 0.1; 0: 0.0", "sd x1, 0(x4); sd x1, 8(x4)")
	isWrong("rows in another order", s, api.ErrForm)
	s = newScene(t, zeros(), "0: 0.0; 8:", "sd x1, 0(x4)")
	isWrong("an empty row", s, api.ErrForm)
	s = newScene(t, zeros(), "0: 0.0", "sd x1, 0(x4) @ waits fails")
	isWrong("waits and fails", s, api.ErrForm)
	s = newScene(t, zeros(), "0: 0.0", "sd x1, 0(x4) @ =1")
	isWrong("a value of a store", s, api.ErrForm)
	s = newScene(t, zeros(), "", "ld x5, 0(x4) @ waits; beq x5, x0, 4; addi x5, x5, 1")
	isWrong("an unknown branch", s, api.ErrOrder)
	s = newScene(t, zeros(), "", "ld x5, 0(x4) @ waits; ld x5, 0(x5)")
	isWrong("an unknown address", s, api.ErrForm)
	s = newScene(t, zeros(), "", "ld x5, 32(x4)")
	isWrong("no data", s, api.ErrNone)
	s = newScene(t, nil, "", "sd x5, 0(x4)")
	isWrong("no data at all", s, api.ErrNone)
	isWrong("nothing", scene{}, api.ErrRange)
	s = newScene(t, zeros(), "", "addi x5, x5, 1")
	s.c.Harts = nil
	isWrong("no hart", s, api.ErrRange)
}

// P17.1: each axiom by itself is enough.
func TestEachAxiom(t *testing.T) {
	for wrong, s := range map[int]scene{
		0: newScene(t, zeros(), "0: 0.0; 8: 1.0", "sd x1, 0(x4); ld x5, 8(x4)", "sd x1, 8(x4); ld x5, 0(x4)"),
		1: newScene(t, zeros(), "0: 0.0", "sd x1, 0(x4); ld x5, 0(x4)"),
		2: newScene(t, zeros(), "0: 0.0; 8: 1.0", "sd x1, 0(x4); fence rw, rw; ld x5, 8(x4)", "sd x1, 8(x4); fence rw, rw; ld x5, 0(x4)"),
		3: newScene(t, zeros(), "0: 0.0", "sc.d x5, x1, (x4)"),
	} {
		want := api.ErrOrder
		if wrong == 0 {
			want = api.OK
		}
		if e := Check(s.im, s.c); e != want || !Values(s.im, s.c) || Whole(s.im, s.c) != (wrong == 0) {
			t.Errorf("axiom %d: %d", wrong, e)
		}
		for _, n := range []int{0, 1, 2, 3, 4, -1, -2, -3, 5, 1 << 32, 1<<32 + 1, math.MaxInt, math.MinInt, math.MinInt + 1, 257} {
			if holds := Axiom(s.im, s.c, n); holds != (1 <= n && n <= 3 && n != wrong) {
				t.Errorf("axiom %d: axiom %d is %v", wrong, n, holds)
			}
		}
	}
}

// P17.2: whole candidates.
func TestWhole(t *testing.T) {
	for _, c := range []struct {
		want    bool
		rows    string
		program string
	}{
		{true, "", ""},
		{true, "", "ld x5, 0(x4)"},
		{true, "0: 0.0", "sd x1, 0(x4)"},
		{true, "0: 0.1", "lr.d x5, (x4); sc.d x6, x1, (x4)"},
		{true, "", "lr.d x5, (x4); sc.d x6, x1, (x4) @ fails"},
		{false, "", "ld x5, 0(x4) @ waits"},
		{false, "", "sd x1, 0(x4) @ waits"},
		{false, "", "lr.d x5, (x4) @ waits"},
		{false, "", "lr.d x5, (x4); sc.d x6, x1, (x4) @ waits"},
		{false, "", "amoadd.d x5, x1, (x4) @ waits"},
		{false, "8: 0.1", "ld x5, 0(x4) @ waits; sd x1, 8(x4)"},
		{false, "8: 0.0", "sd x1, 8(x4); ld x5, 0(x4) @ waits"},
	} {
		for _, before := range []bool{false, true} {
			programs := []string{c.program, "ld x5, 24(x4)"}
			rows := c.rows
			if before { // the hart in question is the second one
				programs = []string{"ld x5, 24(x4)", c.program}
				rows = strings.ReplaceAll(rows, "0.", "1.")
			}
			s := newScene(t, zeros(), rows, programs...)
			if Check(s.im, s.c) != api.OK || Whole(s.im, s.c) != c.want {
				t.Errorf("%v: %v", programs, !c.want)
			}
			agrees(t, s)
		}
	}
}

// The example of the chapter.
func TestExample(t *testing.T) {
	for between, want := range map[string]api.Errno{"": api.OK, "fence rw, rw;": api.ErrOrder} {
		harts := []string{"sd x1, 0(x4);" + between + "ld x5, 8(x4)", "sd x1, 8(x4);" + between + "ld x5, 0(x4)"}
		s := newScene(t, zeros(), "0: 0.0; 8: 1.0", harts...)
		if e := Check(s.im, s.c); e != want || s.outcome() != "0|0 1 1 0 0" {
			t.Errorf("%q: %d", between, e)
		}
		harts[0] += "@ 1.0"
		s = newScene(t, zeros(), "0: 0.0; 8: 1.0", harts...)
		if e := Check(s.im, s.c); e != api.OK || s.outcome() != "1|0 1 1 0 0" {
			t.Errorf("%q, and hart 0 reads the store: %d", between, e)
		}
	}
}

// The first access there may be is that of the second record, because registers are 0 at
// first, and that is no address of data.
func TestShortPrograms(t *testing.T) {
	for _, c := range []struct {
		program string
		change  map[int]api.Rec
		row     int // the place of the only store
		wrong   string
	}{
		{"sd x0, 0(x4)", nil, 1, ""},
		{"sd x0, 0(x4)", nil, 0, "same"},
		{"sd x0, 0(x4); ld x5, 0(x4)", map[int]api.Rec{2: {Src: api.Ref{At: 1}}}, 1, ""},
		{"sd x0, 0(x4); ld x5, 0(x4)", map[int]api.Rec{2: {Src: api.Ref{}}}, 1, "same"},
		{"sd x0, 0(x4); ld x5, 0(x4)", map[int]api.Rec{2: {Val: 9, Src: initial}}, 1, "1"},
		{"sd x0, 0(x4); ld x5, 0(x4)", map[int]api.Rec{2: {Val: 9, Src: api.Ref{At: 1}}}, 1, "same"},
		{"sd x0, 0(x4); ld x5, 0(x4)", map[int]api.Rec{2: {Src: initial}}, 1, "same"},
		{"lr.d x5, (x4); sc.d x6, x0, (x4)", map[int]api.Rec{1: {Val: 9, Src: initial}}, 2, ""},
		{"sc.d x6, x0, (x4)", nil, 1, "3"},
		{"amoswap.d x5, x0, (x4)", map[int]api.Rec{1: {Val: 9, Src: initial}}, 1, ""},
	} {
		s := scene{im: api.Image{Data: []int{9}, Entries: []int{0}}}
		var records []api.Rec
		for i, line := range parts("lui x4, 4096;"+c.program, ";") {
			s.im.Code = append(s.im.Code, assemble(t, line))
			r, changed := c.change[i]
			if !changed {
				r.Src = initial
			}
			r.PC = codeBase + 4*i
			records = append(records, r)
		}
		s.c = api.Cand{Harts: [][]api.Rec{records}, Rows: []api.Row{{Addr: dataBase, L: []api.Ref{{At: c.row}}}}}
		if got := wrong(agrees(t, s)); got != c.wrong {
			t.Errorf("%s: %q; want %q", c.program, got, c.wrong)
		}
	}
}

// Large candidates.

// turns returns a scene in which harts take turns at random, and each instruction is
// executed at once: n in each hart, prologue included.
func turns(t testing.TB, r *rand.Rand, harts, n int) scene {
	t.Helper()
	lines := []string{"ld x5, %d(x4)", "sd x1, %d(x4)", "sd x2, %d(x4)", "amoswap.d x6, x3, (x4)", "amomax.d.aq x7, x1, (x4)", "lr.d x7, (x4)", "fence rw, rw", "sd x3, %d(x9)"}
	var programs []string
	for range harts {
		var l []string
		for range n - len(prologue) {
			line := lines[r.IntN(len(lines))]
			if strings.Contains(line, "%d") {
				line = fmt.Sprintf(line, 8*r.IntN(4))
			}
			l = append(l, line)
		}
		programs = append(programs, strings.Join(l, ";"))
	}
	s := newScene(t, zeros(), "", programs...)
	l, _ := replay.Run(s.im, s.c)
	next := make([]int, harts)
	rows := make([][]api.Ref, 4)
	for range l {
		h := r.IntN(harts)
		for next[h] == n {
			h = (h + 1) % harts
		}
		at := api.Ref{Hart: h, At: next[h]}
		e := l[replay.Number(s.c, at)]
		row := &rows[(e.Addr-dataBase)&31/8]
		if e.Read && len(*row) > 0 {
			s.record(e).Src = (*row)[len(*row)-1]
		}
		if e.Write {
			*row = append(*row, at)
		}
		next[h]++
	}
	for i, row := range rows {
		if len(row) > 0 {
			s.c.Rows = append(s.c.Rows, api.Row{Addr: dataBase + 8*i, L: row})
		}
	}
	s.fill()
	return s
}

func TestLargeCandidates(t *testing.T) {
	r := rand.New(rand.NewPCG(17, 2))
	for _, harts := range []int{1, 2, 4, 8} {
		s := turns(t, r, harts, maxEvents/harts)
		if e := Check(s.im, s.c); e != api.OK || !Whole(s.im, s.c) {
			t.Fatalf("%d harts: %d", harts, e)
		}
		// Two stores of one hart that are exchanged, far behind in a row, are no longer in order.
		l := s.c.Rows[0].L
		i := slices.IndexFunc(l[len(l)/2:], func(s api.Ref) bool { return s.Hart == l[0].Hart }) + len(l)/2
		l[0], l[i] = l[i], l[0]
		if e := Check(s.im, s.c); e != api.ErrOrder || Axiom(s.im, s.c, 1) || Axiom(s.im, s.c, 2) {
			t.Errorf("%d harts, other order: %d", harts, e)
		}
		l[0], l[i] = l[i], l[0]
		last := s.c.Rows[3].L
		s.c.Rows[3].L = last[:len(last)-1]
		if e := Check(s.im, s.c); e != api.ErrSame {
			t.Errorf("%d harts, a store is missing: %d", harts, e)
		}
	}
}

// A cycle through all of the events there may be.
func TestLongCycle(t *testing.T) {
	middle := strings.Repeat("ld x6, 16(x4);", maxEvents/2-len(prologue)-4)
	for _, last := range []string{"fence rw, rw", "addi x0, x0, 0"} {
		s := newScene(t, zeros(), "0: 0.0; 8: 1.0", "sd x1, 0(x4); fence w, r;"+middle+"fence r, r; ld x5, 8(x4)", "sd x1, 8(x4);"+middle+last+"; addi x0, x0, 0; ld x5, 0(x4)")
		want := api.OK
		if strings.HasPrefix(last, "fence") {
			want = api.ErrOrder
		}
		if e := Check(s.im, s.c); e != want || Axiom(s.im, s.c, 2) != (want == api.OK) {
			t.Errorf("%s: %d", last, e)
		}
	}
}

// Rules of the whole document.

func TestArgumentsAreNotModified(t *testing.T) {
	r := rand.New(rand.NewPCG(17, 3))
	for range 300 {
		s := randomScene(t, r, 2, 4)
		// What lies beyond the length of a list is not modified either.
		s.im.Data = append(slices.Clone(s.im.Data), 77)[:4]
		for i, row := range s.c.Rows {
			s.c.Rows[i].L = append(slices.Clone(row.L), api.Ref{Hart: 77})[:len(row.L)]
		}
		im := api.Image{Code: slices.Clone(s.im.Code), Data: slices.Clone(s.im.Data), Entries: slices.Clone(s.im.Entries)}
		c := cand.Clone(s.c)
		first := ask(s.im, s.c)
		if second := ask(s.im, s.c); first != second {
			t.Fatalf("%+v, then %+v", first, second)
		}
		if !reflect.DeepEqual(im, s.im) || !cand.Same(c, s.c) || s.im.Data[:5][4] != 77 {
			t.Fatal("modified")
		}
		for _, row := range s.c.Rows {
			if row.L[:len(row.L)+1][len(row.L)].Hart != 77 {
				t.Fatal("modified beyond the length")
			}
		}
	}
}

// The functions end without a panic, whatever they are given.
func TestAnything(t *testing.T) {
	r := rand.New(rand.NewPCG(17, 4))
	numbers := []int{0, 1, -1, 2, 6, 7, dataBase, dataBase + 8, codeBase, math.MaxInt, math.MinInt, 1 << 32}
	number := func() int { return numbers[r.IntN(len(numbers))] }
	for range 5000 {
		s := randomScene(t, r, 1+r.IntN(2), 4)
		for range 1 + r.IntN(2) {
			h := r.IntN(len(s.c.Harts))
			if len(s.c.Harts[h]) == 0 {
				continue
			}
			record := &s.c.Harts[h][r.IntN(len(s.c.Harts[h]))]
			switch r.IntN(8) {
			case 0:
				record.PC = number()
			case 1:
				record.Val = number()
			case 2:
				record.Src = api.Ref{Hart: number(), At: number()}
			case 3:
				s.c.Rows = append(s.c.Rows, api.Row{Addr: number(), L: []api.Ref{{Hart: number(), At: number()}}})
			case 4:
				s.im.Entries[h] = number()
			case 5:
				s.im.Data = s.im.Data[:r.IntN(4)]
			case 6:
				s.im.Code[r.IntN(len(s.im.Code))] = r.Uint32()
			case 7:
				s.c.Harts[h] = s.c.Harts[h][:r.IntN(len(s.c.Harts[h]))]
			}
		}
		agrees(t, s)
		Axiom(s.im, s.c, number())
	}
}
