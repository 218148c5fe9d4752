package cand

import (
	"bytes"
	"encoding/binary"
	"math"
	"math/big"
	"math/rand/v2"
	"reflect"
	"slices"
	"testing"

	"spinnaker/api"
)

const (
	most  = math.MaxInt
	least = math.MinInt
)

// The limits as numbers, so that the tests say what the document says.
const (
	maxHarts = 8
	maxRecs  = 1024
)

// first names the initial data.
var first = api.Ref{Hart: -1, At: 0}

func ref(hart, at int) api.Ref {
	return api.Ref{Hart: hart, At: at}
}

// refs returns the references of pairs of a hart and an index.
func refs(pairs ...int) []api.Ref {
	var l []api.Ref
	for i := 0; i < len(pairs); i += 2 {
		l = append(l, ref(pairs[i], pairs[i+1]))
	}
	return l
}

// recordsOf returns n records that are not all alike and read the initial data.
func recordsOf(n int) []api.Rec {
	l := make([]api.Rec, n)
	for i := range l {
		l[i] = api.Rec{PC: 65536 + 4*i, Val: i*i - 7*i, Src: first, Wait: i%3 == 1, Fail: i%3 == 2}
	}
	return l
}

// hartsOf returns harts with so many records each.
func hartsOf(sizes ...int) [][]api.Rec {
	l := make([][]api.Rec, len(sizes))
	for i, n := range sizes {
		l[i] = recordsOf(n)
	}
	return l
}

// base returns a candidate that has a hart without records, records that name those
// of other harts, their own and later ones, and rows with one store and with more.
func base() api.Cand {
	c := api.Cand{Harts: hartsOf(3, 0, 2, 4), Rows: []api.Row{
		{Addr: -16, L: refs(3, 3)},
		{Addr: 0, L: refs(2, 1, 0, 0, 2, 0)},
		{Addr: 16777216, L: refs(0, 2, 3, 0)},
		{Addr: most, L: refs(0, 1)},
	}}
	c.Harts[0][1].Src = ref(3, 3)
	c.Harts[0][2].Src = ref(0, 2)
	c.Harts[2][0].Src = ref(0, 0)
	c.Harts[3][2].Src = ref(2, 1)
	c.Harts[3][3].Val = least
	return c
}

// full returns a candidate with all the harts, records and stores that there may be,
// in so many rows.
func full(rows int) api.Cand {
	c := api.Cand{Harts: hartsOf(maxRecs, maxRecs, maxRecs, maxRecs, maxRecs, maxRecs, maxRecs, maxRecs)}
	for i := range rows {
		c.Rows = append(c.Rows, api.Row{Addr: 8*i - 8})
	}
	for n := range maxHarts * maxRecs {
		r := ref(n%maxHarts, n/maxHarts)
		c.Harts[maxHarts-1-r.Hart][maxRecs-1-r.At].Src = r
		c.Rows[n%rows].L = append(c.Rows[n%rows].L, r)
	}
	return c
}

// copied returns a candidate with the same numbers in other memory.
func copied(c api.Cand) api.Cand {
	var n api.Cand
	for _, l := range c.Harts {
		n.Harts = append(n.Harts, append([]api.Rec{}, l...))
	}
	for _, row := range c.Rows {
		n.Rows = append(n.Rows, api.Row{Addr: row.Addr, L: append([]api.Ref{}, row.L...)})
	}
	return n
}

// equal reports whether candidates have the same numbers, one by one; a list that is
// nil and one that is empty are the same.
func equal(a, b api.Cand) bool {
	return slices.Equal(wantNumbers(a), wantNumbers(b))
}

func isZero(c api.Cand) bool {
	return len(c.Harts) == 0 && len(c.Rows) == 0
}

// valid returns well-formed candidates of all shapes.
func valid() map[string]api.Cand {
	wide := api.Cand{Harts: hartsOf(1, 2, 0, 1024, 5, 0, 0, 1024), Rows: []api.Row{{Addr: least, L: refs(7, 1023, 3, 1023)}, {Addr: least + 1, L: refs(0, 0)}, {Addr: most - 1, L: refs(1, 1)}, {Addr: most, L: refs(4, 4)}}}
	wide.Harts[0][0] = api.Rec{PC: least, Val: most, Src: ref(7, 1023), Wait: true}
	wide.Harts[7][1023] = api.Rec{PC: most, Val: least, Src: ref(7, 1023), Fail: true}
	return map[string]api.Cand{
		"without harts and rows":     {},
		"with empty lists":           {Harts: [][]api.Rec{}, Rows: []api.Row{}},
		"without rows":               {Harts: hartsOf(2, 3)},
		"one hart without records":   {Harts: [][]api.Rec{nil}},
		"a hart with an empty list":  {Harts: [][]api.Rec{{}}},
		"eight without records":      {Harts: hartsOf(0, 0, 0, 0, 0, 0, 0, 0)},
		"eight with one each":        {Harts: hartsOf(1, 1, 1, 1, 1, 1, 1, 1), Rows: []api.Row{{Addr: 8, L: refs(7, 0, 0, 0)}}},
		"one record":                 {Harts: hartsOf(1)},
		"one record that is a store": {Harts: hartsOf(1), Rows: []api.Row{{L: refs(0, 0)}}},
		"as many records as may be":  {Harts: hartsOf(1024)},
		"base":                       base(),
		"wide":                       wide,
		"full, one row":              full(1),
		"full, seven rows":           full(7),
		"full, a row for each store": full(maxHarts * maxRecs),
	}
}

// spoiling is a reason for ErrForm, which spoil brings into base, or into a candidate
// that has more harts or records than base.
type spoiling struct {
	what  string
	spoil func(c *api.Cand)
}

// sources returns the reasons of records that name none.
func sources() []spoiling {
	var l []spoiling
	add := func(what string, src func(c *api.Cand) api.Ref) {
		l = append(l, spoiling{"the first record " + what, func(c *api.Cand) { c.Harts[0][0].Src = src(c) }})
		l = append(l, spoiling{"the last record " + what, func(c *api.Cand) {
			h := len(c.Harts) - 1
			for len(c.Harts[h]) == 0 {
				h--
			}
			c.Harts[h][len(c.Harts[h])-1].Src = src(c)
		}})
	}
	fixed := func(what string, r api.Ref) {
		add(what, func(*api.Cand) api.Ref { return r })
	}
	for _, at := range []int{1, -1, 2, maxRecs, most, least} {
		fixed("reads the initial data at another index", ref(-1, at))
	}
	for _, hart := range []int{-2, -3, -8, -9, least, least + 1, most, 9, 1 << 32, -1 << 32} {
		fixed("reads of a hart that there is not", ref(hart, 0))
		fixed("reads of a hart that there is not, at another index", ref(hart, 1))
	}
	for _, more := range []int{0, 1, 2} {
		add("reads of a hart behind the last one", func(c *api.Cand) api.Ref { return ref(len(c.Harts)+more, 0) })
		for _, hart := range []int{0, 2, 3} {
			add("reads a record behind the last one", func(c *api.Cand) api.Ref { return ref(hart, len(c.Harts[hart])+more) })
		}
	}
	for _, at := range []int{-1, -2, least, most, 1 << 32, -1 << 32, maxRecs + 1} {
		fixed("reads at an index that there is not", ref(0, at))
		fixed("reads at an index of another hart that there is not", ref(3, at))
	}
	for _, at := range []int{0, 1, -1} {
		fixed("reads of a hart without records", ref(1, at))
	}
	return l
}

// spoilings returns each reason for ErrForm, in many ways.
func spoilings() []spoiling {
	l := sources()
	add := func(what string, spoil func(c *api.Cand)) {
		l = append(l, spoiling{what, spoil})
	}
	for _, at := range []api.Ref{ref(0, 0), ref(0, 2), ref(2, 1), ref(3, 0), ref(3, 3)} {
		add("Wait and Fail", func(c *api.Cand) { r := &c.Harts[at.Hart][at.At]; r.Wait, r.Fail = true, true })
	}
	for i := range 4 {
		add("an empty row", func(c *api.Cand) { c.Rows[i].L = []api.Ref{} })
		add("a nil row", func(c *api.Cand) { c.Rows[i].L = nil })
	}
	add("an empty row behind", func(c *api.Cand) { c.Rows[3].Addr = 1 << 40; c.Rows = append(c.Rows, api.Row{Addr: most}) })
	add("an empty row ahead", func(c *api.Cand) { c.Rows = append([]api.Row{{Addr: least}}, c.Rows...) })
	for _, p := range [][4]int{{0, 0, 8, 16}, {0, 8, 8, 16}, {0, 8, 16, 16}, {8, 0, 16, 24}, {0, 16, 8, 24}, {0, 8, 24, 16}, {24, 16, 8, 0}, {0, 8, 0, 8}, {0, 8, 16, 0}, {-8, -16, 0, 8}, {-16, -8, -8, 0}, {-8, -16, -24, -32}, {0, -8, -1, 1}, {least, least, 0, 1}, {0, least, 1, 2}, {0, 1, most, most}, {0, 1, most, least}, {most, least, 0, 1}, {0, 1, most, most - 1}, {least + 1, least, 0, 1}, {0, 1 << 32, 1, 2}, {1 << 62, -1 << 62, 0, 1}, {least, most, least, most}, {7, 7, 7, 7}} {
		add("addresses", func(c *api.Cand) {
			for i := range c.Rows {
				c.Rows[i].Addr = p[i]
			}
		})
	}
	for _, r := range refs(-1, 0, -1, 1, -2, 0, least, 0, most, 0, 9, 0, 0, -1, 0, least, 0, most, 0, 1<<32, 3, -1, 1, 0, 1, 1, 1, -1, 0, maxRecs+1, -1, -1) {
		for i := range 4 {
			add("a store that names no record, first", func(c *api.Cand) { c.Rows[i].L = append([]api.Ref{r}, c.Rows[i].L...) })
			add("a store that names no record, last", func(c *api.Cand) { c.Rows[i].L = append(c.Rows[i].L, r) })
			add("only a store that names no record", func(c *api.Cand) { c.Rows[i].L = []api.Ref{r} })
		}
	}
	for i := range 4 {
		add("a store of a hart behind the last one", func(c *api.Cand) { c.Rows[i].L[0] = ref(len(c.Harts), 0) })
		add("a store behind the last record", func(c *api.Cand) { c.Rows[i].L[0] = ref(0, len(c.Harts[0])) })
		for j := range 4 {
			add("a store twice, behind", func(c *api.Cand) { c.Rows[i].L = append(c.Rows[i].L, c.Rows[j].L[0]) })
			add("a store twice, ahead", func(c *api.Cand) {
				c.Rows[i].L = append([]api.Ref{c.Rows[j].L[len(c.Rows[j].L)-1]}, c.Rows[i].L...)
			})
		}
	}
	return l
}

// P13.1: Check.

// exist returns the references that name a record of c.
func exist(c api.Cand) map[api.Ref]bool {
	m := map[api.Ref]bool{}
	for hart, l := range c.Harts {
		for at := range l {
			m[ref(hart, at)] = true
		}
	}
	return m
}

// wantCheck is P13.1 and the definition of a well-formed candidate.
func wantCheck(c api.Cand) api.Errno {
	if len(c.Harts) > maxHarts {
		return api.ErrRange
	}
	for _, l := range c.Harts {
		if len(l) > maxRecs {
			return api.ErrLong
		}
	}
	there := exist(c)
	ok := true
	for _, l := range c.Harts {
		for _, r := range l {
			ok = ok && (r.Src == first || there[r.Src]) && !(r.Wait && r.Fail)
		}
	}
	var addresses []int
	times := map[api.Ref]int{}
	for _, row := range c.Rows {
		addresses = append(addresses, row.Addr)
		ok = ok && len(row.L) != 0
		for _, s := range row.L {
			times[s]++
			ok = ok && there[s] && times[s] == 1
		}
	}
	ascending := slices.Clone(addresses)
	slices.Sort(ascending)
	if !ok || !slices.Equal(addresses, slices.Compact(ascending)) {
		return api.ErrForm
	}
	return api.OK
}

// checkIs tests Check, and that Encode returns its error.
func checkIs(t *testing.T, what string, c api.Cand, want api.Errno) {
	t.Helper()
	if w := wantCheck(c); w != want {
		t.Errorf("%s: the reference says %d; want %d", what, w, want)
	}
	if e := Check(c); e != want {
		t.Errorf("%s: Check: %d; want %d", what, e, want)
	}
	if b, e := Encode(c); e != want || want != api.OK && len(b) != 0 {
		t.Errorf("%s: Encode: %d bytes, %d; want %d", what, len(b), e, want)
	}
}

func TestCheckWellFormed(t *testing.T) {
	for what, c := range valid() {
		checkIs(t, what, c, api.OK)
	}
}

func TestCheckSizes(t *testing.T) {
	for n := range 20 {
		want := api.OK
		if n > 8 {
			want = api.ErrRange
		}
		checkIs(t, "nil harts", api.Cand{Harts: make([][]api.Rec, n)}, want)
		c := api.Cand{}
		for range n {
			c.Harts = append(c.Harts, recordsOf(2))
		}
		checkIs(t, "harts", c, want)
	}
	for hart := range 8 {
		for n, want := range map[int]api.Errno{1023: api.OK, 1024: api.OK, 1025: api.ErrLong, 1026: api.ErrLong, 2048: api.ErrLong} {
			c := api.Cand{Harts: make([][]api.Rec, 8)}
			c.Harts[hart] = recordsOf(n)
			checkIs(t, "records of one hart of eight", c, want)
			c.Harts = c.Harts[:hart+1]
			checkIs(t, "records of the last hart", c, want)
		}
	}
	checkIs(t, "8 times 1024", full(3), api.OK)
}

// Every reason for ErrForm, alone.
func TestCheckForm(t *testing.T) {
	for _, s := range spoilings() {
		c := base()
		s.spoil(&c)
		checkIs(t, s.what, c, api.ErrForm)
	}
}

// Too many harts come first, whatever else is wrong; then too many records.
func TestCheckOrder(t *testing.T) {
	many := func() api.Cand {
		c := base()
		c.Harts = append(c.Harts, hartsOf(0, 1, 0, 0, 2)...)
		return c
	}
	checkIs(t, "harts", many(), api.ErrRange)
	for _, hart := range []int{0, 1, 2, 3, 8} {
		c := many()
		c.Harts[hart] = recordsOf(1025)
		checkIs(t, "harts and records", c, api.ErrRange)
		if hart < 8 {
			c.Harts = c.Harts[:8]
			checkIs(t, "records", c, api.ErrLong)
		}
	}
	for _, s := range spoilings() {
		c := many()
		s.spoil(&c)
		checkIs(t, "harts, "+s.what, c, api.ErrRange)
		for _, hart := range []int{0, 3} {
			c = many()
			c.Harts[hart] = append(c.Harts[hart], recordsOf(1025-len(c.Harts[hart]))...)
			s.spoil(&c)
			checkIs(t, "harts, records, "+s.what, c, api.ErrRange)
			c = base()
			c.Harts[hart] = append(c.Harts[hart], recordsOf(1025-len(c.Harts[hart]))...)
			s.spoil(&c)
			checkIs(t, "records, "+s.what, c, api.ErrLong)
		}
	}
}

func TestCheckExamples(t *testing.T) {
	one := []api.Rec{{Src: first}}
	for _, c := range []struct {
		what string
		c    api.Cand
		want api.Errno
	}{
		{"the zero record reads a record, itself", api.Cand{Harts: [][]api.Rec{{{}}}}, api.OK},
		{"the zero record of the second hart reads the first one", api.Cand{Harts: [][]api.Rec{{}, {{}}}}, api.ErrForm},
		{"the initial data", api.Cand{Harts: [][]api.Rec{one}}, api.OK},
		{"Wait", api.Cand{Harts: [][]api.Rec{{{Src: first, Wait: true}}}}, api.OK},
		{"Fail", api.Cand{Harts: [][]api.Rec{{{Src: first, Fail: true}}}}, api.OK},
		{"Wait and Fail", api.Cand{Harts: [][]api.Rec{{{Src: first, Wait: true, Fail: true}}}}, api.ErrForm},
		{"a row without harts", api.Cand{Rows: []api.Row{{L: refs(0, 0)}}}, api.ErrForm},
		{"the initial data in a row", api.Cand{Harts: [][]api.Rec{one}, Rows: []api.Row{{L: refs(-1, 0)}}}, api.ErrForm},
		{"an empty row without harts", api.Cand{Rows: []api.Row{{}}}, api.ErrForm},
		{"a store that waits", api.Cand{Harts: [][]api.Rec{{{Src: first, Wait: true}}}, Rows: []api.Row{{L: refs(0, 0)}}}, api.OK},
		{"a store twice in a row", api.Cand{Harts: [][]api.Rec{one}, Rows: []api.Row{{L: refs(0, 0, 0, 0)}}}, api.ErrForm},
		{"a store in two rows", api.Cand{Harts: [][]api.Rec{one}, Rows: []api.Row{{L: refs(0, 0)}, {Addr: 1, L: refs(0, 0)}}}, api.ErrForm},
		{"two stores in two rows", api.Cand{Harts: [][]api.Rec{one, one}, Rows: []api.Row{{L: refs(1, 0)}, {Addr: 1, L: refs(0, 0)}}}, api.OK},
		{"two stores in rows of one address", api.Cand{Harts: [][]api.Rec{one, one}, Rows: []api.Row{{Addr: 1, L: refs(1, 0)}, {Addr: 1, L: refs(0, 0)}}}, api.ErrForm},
		{"the least and the greatest address", api.Cand{Harts: [][]api.Rec{one, one}, Rows: []api.Row{{Addr: least, L: refs(1, 0)}, {Addr: most, L: refs(0, 0)}}}, api.OK},
		{"the greatest and the least address", api.Cand{Harts: [][]api.Rec{one, one}, Rows: []api.Row{{Addr: most, L: refs(1, 0)}, {Addr: least, L: refs(0, 0)}}}, api.ErrForm},
	} {
		checkIs(t, c.what, c.c, c.want)
	}
}

// random returns a candidate with few harts, records and rows, which is well formed
// or nearly so.
func random(r *rand.Rand) api.Cand {
	var c api.Cand
	for range r.IntN(4) {
		c.Harts = append(c.Harts, make([]api.Rec, r.IntN(4)))
	}
	var names []api.Ref
	for hart, l := range c.Harts {
		for at := range l {
			names = append(names, ref(hart, at))
		}
	}
	name := func() api.Ref {
		if len(names) == 0 || r.IntN(60) == 0 {
			return ref(r.IntN(6)-2, r.IntN(6)-2)
		}
		return names[r.IntN(len(names))]
	}
	number := func() int {
		n := int(r.Uint64() >> r.IntN(64))
		return n * (r.IntN(2)*2 - 1)
	}
	for _, l := range c.Harts {
		for at := range l {
			l[at] = api.Rec{PC: number(), Val: number(), Src: first}
			if r.IntN(2) == 0 {
				l[at].Src = name()
			}
			l[at].Wait = r.IntN(3) == 0
			l[at].Fail = r.IntN(3) == 0 && !(l[at].Wait && r.IntN(10) > 0)
		}
	}
	stores := slices.Clone(names)
	r.Shuffle(len(stores), func(i, j int) { stores[i], stores[j] = stores[j], stores[i] })
	addr := number() >> 2
	for range r.IntN(4) {
		n := min(r.IntN(4), len(stores))
		row := api.Row{Addr: addr, L: stores[:n:n]}
		stores = stores[n:]
		addr += 8 * (r.IntN(10) + 1)
		if n == 0 && r.IntN(10) > 0 {
			continue
		}
		switch r.IntN(40) {
		case 0:
			addr = row.Addr
		case 1:
			addr = row.Addr - 8
		case 2:
			row.L = append(row.L, name())
		}
		c.Rows = append(c.Rows, row)
	}
	return c
}

func TestCheckRandom(t *testing.T) {
	r := rand.New(rand.NewPCG(13, 1))
	count := map[api.Errno]int{}
	for range 100000 {
		c := random(r)
		want := wantCheck(c)
		count[want]++
		if e := Check(c); e != want {
			t.Fatalf("%+v: %d; want %d", c, e, want)
		}
	}
	if count[api.OK] < 10000 || count[api.ErrForm] < 10000 {
		t.Errorf("%v", count)
	}
}

// P13.1: Same.

// sameIs tests Same in both directions.
func sameIs(t *testing.T, what string, a, b api.Cand, want bool) {
	t.Helper()
	if got := Same(a, b); got != want {
		t.Errorf("%s: %v; want %v", what, got, want)
	}
	if got := Same(b, a); got != want {
		t.Errorf("%s, the other way: %v; want %v", what, got, want)
	}
}

// changes returns changes of base, each of a single field or length.
func changes() map[string]func(c *api.Cand) {
	m := map[string]func(c *api.Cand){
		"a hart more":                          func(c *api.Cand) { c.Harts = append(c.Harts, nil) },
		"a hart more, ahead":                   func(c *api.Cand) { c.Harts = append([][]api.Rec{{}}, c.Harts...) },
		"a hart less":                          func(c *api.Cand) { c.Harts = c.Harts[:3] },
		"a hart less, ahead":                   func(c *api.Cand) { c.Harts = c.Harts[1:] },
		"the hart without records less":        func(c *api.Cand) { c.Harts = slices.Delete(c.Harts, 1, 2) },
		"no harts":                             func(c *api.Cand) { c.Harts = nil },
		"harts exchanged":                      func(c *api.Cand) { c.Harts[0], c.Harts[1] = c.Harts[1], c.Harts[0] },
		"a record of the hart without records": func(c *api.Cand) { c.Harts[1] = make([]api.Rec, 1) },
		"a row more":                           func(c *api.Cand) { c.Rows = append(c.Rows, api.Row{}) },
		"a row more, ahead":                    func(c *api.Cand) { c.Rows = append([]api.Row{{}}, c.Rows...) },
		"a row less":                           func(c *api.Cand) { c.Rows = c.Rows[:3] },
		"a row less, ahead":                    func(c *api.Cand) { c.Rows = c.Rows[1:] },
		"no rows":                              func(c *api.Cand) { c.Rows = []api.Row{} },
		"rows exchanged":                       func(c *api.Cand) { c.Rows[0], c.Rows[1] = c.Rows[1], c.Rows[0] },
		"stores exchanged":                     func(c *api.Cand) { l := c.Rows[1].L; l[0], l[2] = l[2], l[0] },
		"nothing":                              func(c *api.Cand) { *c = api.Cand{} },
	}
	for _, at := range []api.Ref{ref(0, 0), ref(0, 2), ref(2, 1), ref(3, 0), ref(3, 3)} {
		record := func(c *api.Cand) *api.Rec { return &c.Harts[at.Hart][at.At] }
		name := string(rune('0'+at.Hart)) + string(rune('0'+at.At)) + ": "
		m[name+"PC"] = func(c *api.Cand) { record(c).PC++ }
		m[name+"PC, its highest bit"] = func(c *api.Cand) { record(c).PC ^= least }
		m[name+"Val"] = func(c *api.Cand) { record(c).Val-- }
		m[name+"Val, its highest bit"] = func(c *api.Cand) { record(c).Val ^= least }
		m[name+"Src.Hart"] = func(c *api.Cand) { record(c).Src.Hart++ }
		m[name+"Src.At"] = func(c *api.Cand) { record(c).Src.At++ }
		m[name+"Wait"] = func(c *api.Cand) { record(c).Wait = !record(c).Wait }
		m[name+"Fail"] = func(c *api.Cand) { record(c).Fail = !record(c).Fail }
	}
	for i, n := range []int{3, 0, 2, 4} {
		m["a record more of hart "+string(rune('0'+i))] = func(c *api.Cand) { c.Harts[i] = append(c.Harts[i], api.Rec{}) }
		if n > 0 {
			m["a record less of hart "+string(rune('0'+i))] = func(c *api.Cand) { c.Harts[i] = c.Harts[i][:n-1] }
			m["no records of hart "+string(rune('0'+i))] = func(c *api.Cand) { c.Harts[i] = nil }
		}
	}
	for i, n := range []int{1, 3, 2, 1} {
		name := "row " + string(rune('0'+i)) + ": "
		m[name+"address"] = func(c *api.Cand) { c.Rows[i].Addr-- }
		m[name+"address, its highest bit"] = func(c *api.Cand) { c.Rows[i].Addr ^= least }
		m[name+"a store more"] = func(c *api.Cand) { c.Rows[i].L = append(c.Rows[i].L, api.Ref{}) }
		m[name+"a store less"] = func(c *api.Cand) { c.Rows[i].L = c.Rows[i].L[:n-1] }
		for j := range n {
			at := name + "store " + string(rune('0'+j)) + ": "
			m[at+"Hart"] = func(c *api.Cand) { c.Rows[i].L[j].Hart++ }
			m[at+"At"] = func(c *api.Cand) { c.Rows[i].L[j].At-- }
		}
	}
	return m
}

func TestSame(t *testing.T) {
	for what, c := range valid() {
		sameIs(t, what, c, copied(c), true)
		sameIs(t, what, c, c, true)
	}
	for what, change := range changes() {
		c := copied(base())
		change(&c)
		sameIs(t, what, base(), c, false)
		d := copied(base())
		change(&d)
		sameIs(t, what+", twice", c, d, true)
	}
}

// A list that is nil and one that is empty are equal; no list and a list of one that
// is empty are not.
func TestSameNil(t *testing.T) {
	none := []api.Cand{{}, {Harts: [][]api.Rec{}}, {Rows: []api.Row{}}, {Harts: [][]api.Rec{}, Rows: []api.Row{}}}
	for _, a := range none {
		for _, b := range none {
			sameIs(t, "without harts and rows", a, b, true)
		}
		sameIs(t, "a hart without records", a, api.Cand{Harts: [][]api.Rec{nil}}, false)
		sameIs(t, "a hart with an empty list", a, api.Cand{Harts: [][]api.Rec{{}}}, false)
		sameIs(t, "a row without stores", a, api.Cand{Rows: []api.Row{{}}}, false)
		sameIs(t, "a row with an empty list", a, api.Cand{Rows: []api.Row{{L: []api.Ref{}}}}, false)
	}
	sameIs(t, "records", api.Cand{Harts: [][]api.Rec{nil, {}}}, api.Cand{Harts: [][]api.Rec{{}, nil}}, true)
	sameIs(t, "stores", api.Cand{Rows: []api.Row{{Addr: 1}}}, api.Cand{Rows: []api.Row{{Addr: 1, L: []api.Ref{}}}}, true)
	sameIs(t, "addresses of rows without stores", api.Cand{Rows: []api.Row{{Addr: 1}}}, api.Cand{Rows: []api.Row{{Addr: 2}}}, false)
	sameIs(t, "a hart and a row", api.Cand{Harts: [][]api.Rec{nil}}, api.Cand{Rows: []api.Row{{}}}, false)
}

// Candidates that are not well formed are compared in the same way.
func TestSameNotWellFormed(t *testing.T) {
	for _, s := range spoilings() {
		c, d := base(), base()
		s.spoil(&c)
		s.spoil(&d)
		sameIs(t, s.what, c, d, true)
		sameIs(t, s.what, c, base(), equal(c, base()))
	}
	long, longer := api.Cand{Harts: hartsOf(3000)}, api.Cand{Harts: hartsOf(3001)}
	sameIs(t, "long", long, copied(long), true)
	sameIs(t, "longer", long, longer, false)
	many := api.Cand{Harts: make([][]api.Rec, 20)}
	sameIs(t, "many", many, copied(many), true)
	sameIs(t, "more", many, api.Cand{Harts: make([][]api.Rec, 21)}, false)
}

func TestSameRandom(t *testing.T) {
	r := rand.New(rand.NewPCG(13, 2))
	for range 20000 {
		a, b := random(r), random(r)
		if Same(a, b) != equal(a, b) || !Same(a, copied(a)) {
			t.Fatalf("%+v and %+v", a, b)
		}
	}
}

// P13.1: Clone.

func TestClone(t *testing.T) {
	cands := valid()
	for _, s := range spoilings() {
		c := base()
		s.spoil(&c)
		cands["spoiled: "+s.what] = c
	}
	cands["many harts"] = api.Cand{Harts: make([][]api.Rec, 20)}
	cands["many records"] = api.Cand{Harts: hartsOf(2000, 1)}
	for what, c := range cands {
		before := copied(c)
		n := Clone(c)
		if !equal(n, before) || !equal(c, before) || !Same(n, c) {
			t.Errorf("%s: not equal", what)
		}
	}
}

// Every field and list of a clone can be changed without a change of the argument,
// and the reverse.
func TestCloneIsNew(t *testing.T) {
	overwrite := func(c api.Cand) {
		for i, l := range c.Harts {
			for at := range l {
				l[at] = api.Rec{PC: 1, Val: 2, Src: ref(3, 4), Wait: true, Fail: true}
			}
			_ = append(l, api.Rec{PC: 9})
			c.Harts[i] = append(l[:0:0], api.Rec{PC: 5})
		}
		for i, row := range c.Rows {
			for at := range row.L {
				row.L[at] = ref(7, 7)
			}
			_ = append(row.L, ref(9, 9))
			c.Rows[i] = api.Row{Addr: 5}
		}
		_ = append(c.Harts, nil)
		_ = append(c.Rows, api.Row{})
	}
	for what, c := range valid() {
		before := copied(c)
		n := Clone(c)
		overwrite(n)
		if !equal(c, before) {
			t.Errorf("%s: a change of the clone changed the argument", what)
		}
		n = Clone(c)
		overwrite(c)
		if !equal(n, before) {
			t.Errorf("%s: a change of the argument changed the clone", what)
		}
	}
	for what, change := range changes() {
		c := base()
		n := Clone(c)
		change(&n)
		if !equal(c, base()) || equal(n, c) {
			t.Errorf("%s: a change of the clone changed the argument", what)
		}
		n = Clone(c)
		change(&c)
		if !equal(n, base()) || equal(n, c) {
			t.Errorf("%s: a change of the argument changed the clone", what)
		}
	}
}

// The lists of a clone do not share memory with each other either: each can be
// extended without a change of another one.
func TestCloneListsAreApart(t *testing.T) {
	flat := make([]api.Rec, 6)
	row := refs(0, 0, 1, 0, 0, 1, 1, 1)
	c := api.Cand{Harts: [][]api.Rec{flat[:2], flat[2:4], flat[:0], flat[2:4]}, Rows: []api.Row{{Addr: 0, L: row[:2]}, {Addr: 8, L: row[2:]}, {Addr: 16, L: row[:2]}}}
	n := Clone(c)
	for i := range n.Harts {
		n.Harts[i] = append(n.Harts[i], api.Rec{PC: i + 1})
		n.Harts[i][0].Val = i + 1
	}
	for i := range n.Rows {
		n.Rows[i].L = append(n.Rows[i].L, ref(5, i))
		n.Rows[i].L[0].At = i + 5
	}
	for i, l := range n.Harts {
		if l[0].Val != i+1 || l[len(l)-1].PC != i+1 {
			t.Errorf("hart %d: %+v", i, l)
		}
	}
	for i, x := range n.Rows {
		if x.L[0].At != i+5 || x.L[2] != ref(5, i) {
			t.Errorf("row %d: %+v", i, x)
		}
	}
	if !slices.Equal(flat, make([]api.Rec, 6)) || !slices.Equal(row, refs(0, 0, 1, 0, 0, 1, 1, 1)) {
		t.Error("the argument changed")
	}
}

// P13.2: Stores.

func storesAre(t *testing.T, c api.Cand, addr int, want []api.Ref) {
	t.Helper()
	if got := Stores(c, addr); !slices.Equal(got, want) {
		t.Errorf("Stores at %d: %v; want %v", addr, got, want)
	}
}

func TestStores(t *testing.T) {
	c := base()
	for addr, want := range map[int][]api.Ref{
		-16:      refs(3, 3),
		0:        refs(2, 1, 0, 0, 2, 0),
		16777216: refs(0, 2, 3, 0),
		most:     refs(0, 1),
		-15:      nil, -17: nil, 1: nil, 8: nil, -1: nil, 16777215: nil, 16777217: nil, 16777224: nil, least: nil, most - 1: nil, 16: nil, 1 << 32: nil,
	} {
		storesAre(t, c, addr, want)
		storesAre(t, api.Cand{}, addr, nil)
		storesAre(t, api.Cand{Harts: c.Harts}, addr, nil)
		storesAre(t, api.Cand{Rows: c.Rows}, addr, want)
	}
	// All the rows that there may be, with one store each.
	c = full(8192)
	for i := range 8192 {
		storesAre(t, c, 8*i-8, refs(i%8, i/8))
		storesAre(t, c, 8*i-7, nil)
	}
}

// The first of several rows with an address counts, and rows need not be in order.
func TestStoresNotWellFormed(t *testing.T) {
	c := api.Cand{Rows: []api.Row{
		{Addr: 8, L: refs(5, 6, 5, 6, -1, 0)},
		{Addr: 0, L: refs(1, 1)},
		{Addr: 8, L: refs(2, 2)},
		{Addr: 16},
		{Addr: 16, L: refs(3, 3)},
		{Addr: -8, L: []api.Ref{}},
		{Addr: -8, L: refs(4, 4)},
		{Addr: 0, L: refs(1, 2)},
		{Addr: least, L: refs(0, 0)},
	}}
	for addr, want := range map[int][]api.Ref{8: refs(5, 6, 5, 6, -1, 0), 0: refs(1, 1), 16: nil, -8: nil, least: refs(0, 0), 24: nil} {
		storesAre(t, c, addr, want)
	}
	for range 3 {
		c.Rows = append(c.Rows, c.Rows...)
	}
	storesAre(t, c, 8, refs(5, 6, 5, 6, -1, 0))
}

func TestStoresAreNew(t *testing.T) {
	c := base()
	l := Stores(c, 0)
	_ = append(l, ref(9, 9))
	clear(l)
	m := Stores(c, 0)
	if !equal(c, base()) || !slices.Equal(m, refs(2, 1, 0, 0, 2, 0)) {
		t.Error("a change of the stores changed the candidate")
	}
	clear(c.Rows[1].L)
	if !slices.Equal(m, refs(2, 1, 0, 0, 2, 0)) {
		t.Error("a change of the candidate changed the stores")
	}
}

// P13.2: Behind.

// wantBehind is the definition of Behind: somewhere among the stores, b stands at a
// higher index than a.
func wantBehind(c api.Cand, addr int, a, b api.Ref) bool {
	for _, row := range c.Rows {
		if row.Addr != addr {
			continue
		}
		l := row.L
		for j := range l {
			if l[j] == b && a.Hart == -1 {
				return true
			}
			for i := range j {
				if l[i] == a && l[j] == b {
					return true
				}
			}
		}
		return false
	}
	return false
}

func behindIs(t *testing.T, c api.Cand, addr int, a, b api.Ref, want bool) {
	t.Helper()
	if got := Behind(c, addr, a, b); got != want {
		t.Errorf("Behind at %d of %v and %v: %v; want %v", addr, a, b, got, want)
	}
	if got := wantBehind(c, addr, a, b); got != want {
		t.Errorf("the reference at %d of %v and %v: %v; want %v", addr, a, b, got, want)
	}
}

func TestBehindExamples(t *testing.T) {
	c := base() // at 0: (2, 1), (0, 0), (2, 0)
	for _, x := range []struct {
		addr int
		a, b api.Ref
		want bool
	}{
		{0, ref(2, 1), ref(0, 0), true},
		{0, ref(2, 1), ref(2, 0), true},
		{0, ref(0, 0), ref(2, 0), true},
		{0, ref(0, 0), ref(2, 1), false},
		{0, ref(2, 0), ref(2, 1), false},
		{0, ref(2, 0), ref(0, 0), false},
		{0, ref(2, 1), ref(2, 1), false},
		{0, ref(0, 0), ref(0, 0), false},
		{0, ref(2, 0), ref(2, 0), false},
		{0, ref(3, 3), ref(0, 0), false},    // a is a store to another address
		{0, ref(0, 1), ref(2, 0), false},    // a is no store
		{0, ref(9, 9), ref(2, 0), false},    // a is no record
		{0, ref(-2, 0), ref(2, 0), false},   // nor is it the initial data
		{0, ref(2, 1), ref(3, 3), false},    // b is a store to another address
		{0, ref(2, 1), ref(0, 1), false},    // b is no store
		{0, ref(2, 1), ref(9, 9), false},    // b is no record
		{0, ref(2, 1), ref(-1, 0), false},   // b is the initial data
		{0, ref(3, 3), ref(3, 3), false},    // both are missing
		{0, ref(3, 3), ref(0, 1), false},    // both are missing
		{0, ref(-1, 0), ref(2, 1), true},    // the initial data comes first
		{0, ref(-1, 0), ref(0, 0), true},    //
		{0, ref(-1, 0), ref(2, 0), true},    //
		{0, ref(-1, 1), ref(2, 1), true},    // whatever At is
		{0, ref(-1, -1), ref(2, 1), true},   //
		{0, ref(-1, most), ref(2, 0), true}, //
		{0, ref(-1, least), ref(0, 0), true},
		{0, ref(-1, 0), ref(3, 3), false},
		{0, ref(-1, 0), ref(-1, 0), false},
		{0, ref(-1, 5), ref(0, 1), false},
		{-16, ref(-1, 0), ref(3, 3), true},
		{-16, ref(3, 3), ref(3, 3), false},
		{-16, ref(2, 1), ref(0, 0), false},
		{16777216, ref(0, 2), ref(3, 0), true},
		{16777216, ref(3, 0), ref(0, 2), false},
		{most, ref(-1, 0), ref(0, 1), true},
		{8, ref(2, 1), ref(0, 0), false}, // no row has the address
		{8, ref(-1, 0), ref(0, 0), false},
		{1, ref(-1, 0), ref(-1, 0), false},
		{least, ref(-1, 0), ref(0, 1), false},
	} {
		behindIs(t, c, x.addr, x.a, x.b, x.want)
	}
	behindIs(t, api.Cand{}, 0, first, ref(0, 0), false)
	behindIs(t, api.Cand{}, 0, ref(0, 0), ref(0, 1), false)
}

// In a candidate that is not well formed, a store may occur twice, the initial data
// may, and several rows may have an address.
func TestBehindNotWellFormed(t *testing.T) {
	c := api.Cand{Rows: []api.Row{
		{Addr: 8, L: refs(0, 0, 1, 0, 0, 0, -1, 0, 2, 0)},
		{Addr: 8, L: refs(3, 0, 4, 0)},
		{Addr: 0},
		{Addr: 0, L: refs(3, 0, 4, 0)},
	}}
	for _, x := range []struct {
		addr int
		a, b api.Ref
		want bool
	}{
		{8, ref(0, 0), ref(1, 0), true},
		{8, ref(1, 0), ref(0, 0), true},
		{8, ref(0, 0), ref(0, 0), true},
		{8, ref(1, 0), ref(1, 0), false},
		{8, ref(0, 0), ref(-1, 0), true},
		{8, ref(2, 0), ref(-1, 0), false},
		{8, ref(-1, 0), ref(-1, 0), true},
		{8, ref(-1, 0), ref(0, 0), true},
		{8, ref(-1, 0), ref(2, 0), true},
		{8, ref(3, 0), ref(4, 0), false},
		{8, ref(-1, 0), ref(4, 0), false},
		{8, ref(0, 0), ref(4, 0), false},
		{0, ref(3, 0), ref(4, 0), false},
		{0, ref(-1, 0), ref(4, 0), false},
	} {
		behindIs(t, c, x.addr, x.a, x.b, x.want)
	}
}

func TestBehindRandom(t *testing.T) {
	r := rand.New(rand.NewPCG(13, 3))
	yes := 0
	for range 200000 {
		var c api.Cand
		for range r.IntN(4) {
			row := api.Row{Addr: r.IntN(3)}
			for range r.IntN(6) {
				row.L = append(row.L, ref(r.IntN(4)-1, r.IntN(2)))
			}
			c.Rows = append(c.Rows, row)
		}
		addr, a, b := r.IntN(3), ref(r.IntN(4)-1, r.IntN(2)), ref(r.IntN(4)-1, r.IntN(2))
		want := wantBehind(c, addr, a, b)
		if want {
			yes++
		}
		if got := Behind(c, addr, a, b); got != want {
			t.Fatalf("%+v at %d of %v and %v: %v; want %v", c, addr, a, b, got, want)
		}
	}
	if yes < 5000 {
		t.Errorf("only %d", yes)
	}
}

// P13.3: the bytes of a number.

// wantNumber is the definition of the bytes of a number.
func wantNumber(n int) []byte {
	z := big.NewInt(int64(n))
	if n < 0 {
		z.Neg(z).Lsh(z, 1).Sub(z, big.NewInt(1))
	} else {
		z.Lsh(z, 1)
	}
	var b []byte
	for {
		low := byte(new(big.Int).And(z, big.NewInt(127)).Int64())
		z.Rsh(z, 7)
		if z.Sign() == 0 {
			return append(b, low)
		}
		b = append(b, low+128)
	}
}

// edges returns the numbers around which the bytes of a number change.
func edges() []int {
	l := []int{0, 1, -1, 2, -2, most, most - 1, least, least + 1, 65536, 16777216, 1<<31 - 1, 1 << 31, -1 << 31, 1 << 32, 0x0123456789abcdef, -0x0123456789abcdef}
	// A code of 128^k is that of the number 128^k / 2; the highest power, 128^9, is
	// 2^63.
	for k := 1; k <= 9; k++ {
		half := 1 << (7*k - 1)
		for d := -3; d <= 3; d++ {
			l = append(l, half+d, -half+d)
		}
	}
	for k := 1; k <= 8; k++ {
		power := 1 << (7 * k)
		for d := -3; d <= 3; d++ {
			l = append(l, power+d, -power+d)
		}
	}
	return l
}

func TestNumberExamples(t *testing.T) {
	for _, x := range []struct {
		n    int
		want []byte
	}{
		{0, []byte{0}},
		{-1, []byte{1}},
		{1, []byte{2}},
		{-2, []byte{3}},
		{2, []byte{4}},
		{63, []byte{126}},
		{-64, []byte{127}},
		{64, []byte{128, 1}},
		{-65, []byte{129, 1}},
		{65, []byte{130, 1}},
		{8191, []byte{254, 127}},
		{-8192, []byte{255, 127}},
		{8192, []byte{128, 128, 1}},
		{150, []byte{172, 2}},
		{1 << 62, []byte{128, 128, 128, 128, 128, 128, 128, 128, 128, 1}},
		{1<<62 - 1, []byte{254, 255, 255, 255, 255, 255, 255, 255, 127}},
		{-1 << 62, []byte{255, 255, 255, 255, 255, 255, 255, 255, 127}},
		{most, []byte{254, 255, 255, 255, 255, 255, 255, 255, 255, 1}},
		{least, []byte{255, 255, 255, 255, 255, 255, 255, 255, 255, 1}},
	} {
		if w := wantNumber(x.n); !bytes.Equal(w, x.want) {
			t.Errorf("the reference of %d: %v; want %v", x.n, w, x.want)
		}
		hasNumber(t, x.n, x.want)
	}
}

// hasNumber tests the bytes of a number at each place where it may be of any value.
func hasNumber(t *testing.T, n int, number []byte) {
	t.Helper()
	for at := range 3 {
		c := api.Cand{Harts: [][]api.Rec{{{Src: first}}}, Rows: []api.Row{{L: refs(0, 0)}}}
		parts := [][]byte{{2, 2}, {0}, {0}, {1, 0, 0, 2}, {0}, {2, 0, 0}}
		switch at {
		case 0:
			c.Harts[0][0].PC, parts[1] = n, number
		case 1:
			c.Harts[0][0].Val, parts[2] = n, number
		case 2:
			c.Rows[0].Addr, parts[4] = n, number
		}
		want := bytes.Join(parts, nil)
		if b, e := Encode(c); !bytes.Equal(b, want) || e != api.OK {
			t.Errorf("Encode of %d at place %d: %v, %d; want %v", n, at, b, e, want)
		}
		if got, e := Decode(want); !equal(got, c) || e != api.OK {
			t.Errorf("Decode of %d at place %d: %+v, %d", n, at, got, e)
		}
	}
}

func TestNumberEdges(t *testing.T) {
	for _, n := range edges() {
		hasNumber(t, n, wantNumber(n))
		if !bytes.Equal(wantNumber(n), binary.AppendVarint(nil, int64(n))) {
			t.Errorf("the references of %d differ", n)
		}
	}
	for n := -20000; n <= 20000; n++ {
		hasNumber(t, n, binary.AppendVarint(nil, int64(n)))
	}
	r := rand.New(rand.NewPCG(13, 4))
	for range 20000 {
		n := int(r.Uint64()) >> r.IntN(64)
		hasNumber(t, n, binary.AppendVarint(nil, int64(n)))
	}
}

// P13.3: Encode.

// wantNumbers lists the numbers of which the bytes of a candidate are.
func wantNumbers(c api.Cand) []int {
	l := []int{len(c.Harts)}
	for _, hart := range c.Harts {
		l = append(l, len(hart))
		for _, r := range hart {
			l = append(l, r.PC, r.Val, r.Src.Hart, r.Src.At)
			// A candidate with both is not well formed: 3 makes it differ from others.
			l = append(l, map[[2]bool]int{{true, false}: 1, {false, true}: 2, {true, true}: 3}[[2]bool{r.Wait, r.Fail}])
		}
	}
	l = append(l, len(c.Rows))
	for _, row := range c.Rows {
		l = append(l, row.Addr, len(row.L))
		for _, s := range row.L {
			l = append(l, s.Hart, s.At)
		}
	}
	return l
}

// bytesOf returns the bytes of numbers.
func bytesOf(numbers ...int) []byte {
	var b []byte
	for _, n := range numbers {
		b = binary.AppendVarint(b, int64(n))
	}
	return b
}

func wantBytes(c api.Cand) []byte {
	return bytesOf(wantNumbers(c)...)
}

func TestEncodeExamples(t *testing.T) {
	for _, x := range []struct {
		c    api.Cand
		want []byte
	}{
		{api.Cand{}, []byte{0, 0}},
		{api.Cand{Harts: [][]api.Rec{nil}}, []byte{2, 0, 0}},
		{api.Cand{Harts: [][]api.Rec{{}, nil, {}}}, []byte{6, 0, 0, 0, 0}},
		{api.Cand{Harts: [][]api.Rec{{{Src: first}}}}, []byte{2, 2, 0, 0, 1, 0, 0, 0}},
		{api.Cand{Harts: [][]api.Rec{{{Src: first, Wait: true}}}}, []byte{2, 2, 0, 0, 1, 0, 2, 0}},
		{api.Cand{Harts: [][]api.Rec{{{Src: first, Fail: true}}}}, []byte{2, 2, 0, 0, 1, 0, 4, 0}},
		{api.Cand{Harts: [][]api.Rec{{{Val: 5, Src: ref(1, 0)}}, {{PC: 64, Val: -3, Src: ref(0, 0), Wait: true}}}, Rows: []api.Row{{Addr: -8, L: refs(1, 0)}, {Addr: 8, L: refs(0, 0)}}},
			[]byte{4, 2, 0, 10, 2, 0, 0, 2, 128, 1, 5, 0, 0, 2, 4, 15, 2, 2, 0, 16, 2, 0, 0}},
		{api.Cand{Harts: [][]api.Rec{nil, {{PC: 1, Val: 2, Src: ref(1, 1), Fail: true}, {PC: 3, Val: 4, Src: first}}}, Rows: []api.Row{{Addr: 5, L: refs(1, 1, 1, 0)}}},
			[]byte{4, 0, 4, 2, 4, 2, 2, 4, 6, 8, 1, 0, 0, 2, 10, 4, 2, 2, 2, 0}},
	} {
		if b, e := Encode(x.c); !bytes.Equal(b, x.want) || e != api.OK {
			t.Errorf("%+v: %v, %d; want %v", x.c, b, e, x.want)
		}
		if got, e := Decode(x.want); !equal(got, x.c) || e != api.OK {
			t.Errorf("%v: %+v, %d; want %+v", x.want, got, e, x.c)
		}
	}
}

func TestEncodeBytes(t *testing.T) {
	for what, c := range valid() {
		if b, e := Encode(c); !bytes.Equal(b, wantBytes(c)) || e != api.OK {
			t.Errorf("%s: %d bytes, %d", what, len(b), e)
		}
	}
	r := rand.New(rand.NewPCG(13, 5))
	for range 50000 {
		c := random(r)
		e := wantCheck(c)
		var want []byte
		if e == api.OK {
			want = wantBytes(c)
		}
		if b, got := Encode(c); !bytes.Equal(b, want) || got != e {
			t.Fatalf("%+v: %v, %d; want %v, %d", c, b, got, want, e)
		}
	}
}

// P13.3: Decode.

// split returns the numbers whose bytes b are, if there are any.
func split(b []byte) ([]int, bool) {
	var l []int
	for len(b) > 0 {
		v, n := binary.Varint(b)
		if n <= 0 || n != len(binary.AppendVarint(nil, v)) {
			return nil, false
		}
		l = append(l, int(v))
		b = b[n:]
	}
	return l, true
}

// wantCand finds the candidate whose bytes are b, by the numbers of which they are.
func wantCand(b []byte) (api.Cand, bool) {
	l, ok := split(b)
	// take returns the next n numbers; without them, there is no candidate.
	take := func(n int) []int {
		if n > len(l) {
			l, ok = nil, false
			return make([]int, n)
		}
		head := l[:n]
		l = l[n:]
		return head
	}
	count := func() int {
		n := take(1)[0]
		ok = ok && n >= 0 && n <= len(b)
		if !ok {
			return 0
		}
		return n
	}
	var c api.Cand
	for range count() {
		var hart []api.Rec
		for range count() {
			n := take(5)
			ok = ok && n[4] >= 0 && n[4] <= 2
			hart = append(hart, api.Rec{PC: n[0], Val: n[1], Src: ref(n[2], n[3]), Wait: n[4] == 1, Fail: n[4] == 2})
		}
		c.Harts = append(c.Harts, hart)
	}
	for range count() {
		row := api.Row{Addr: take(1)[0]}
		for range count() {
			n := take(2)
			row.L = append(row.L, ref(n[0], n[1]))
		}
		c.Rows = append(c.Rows, row)
	}
	if !ok || len(l) != 0 || wantCheck(c) != api.OK {
		return api.Cand{}, false
	}
	return c, true
}

// noForm tests that Decode finds no candidate.
func noForm(t *testing.T, b []byte, what string) {
	t.Helper()
	if c, e := Decode(b); !isZero(c) || e != api.ErrForm {
		t.Errorf("%s: %d harts, %d rows, %d; want ErrForm", what, len(c.Harts), len(c.Rows), e)
	}
	if _, ok := wantCand(b); ok {
		t.Errorf("%s: the reference finds a candidate", what)
	}
}

// agrees tests Decode against the reference.
func agrees(t *testing.T, b []byte) bool {
	t.Helper()
	want, ok := wantCand(b)
	if !ok {
		noForm(t, b, "not the bytes of a candidate")
		return false
	}
	if c, e := Decode(b); !equal(c, want) || e != api.OK {
		t.Errorf("%v: %+v, %d; want %+v", b, c, e, want)
	}
	return true
}

// small returns well-formed candidates with few bytes.
func small() []api.Cand {
	return []api.Cand{
		{},
		{Harts: make([][]api.Rec, 1)},
		{Harts: make([][]api.Rec, 8)},
		{Harts: hartsOf(1)},
		{Harts: hartsOf(1), Rows: []api.Row{{Addr: 100, L: refs(0, 0)}}},
		{Harts: hartsOf(0, 2, 1), Rows: []api.Row{{Addr: -3, L: refs(2, 0, 1, 0)}, {Addr: 16777216, L: refs(1, 1)}}},
		base(),
	}
}

func TestDecodeCandidates(t *testing.T) {
	for what, c := range valid() {
		if got, e := Decode(wantBytes(c)); !equal(got, c) || e != api.OK {
			t.Errorf("%s: %d harts, %d rows, %d", what, len(got.Harts), len(got.Rows), e)
		}
	}
}

// Bytes that end at each place, and bytes with others around them.
func TestDecodeOtherLengths(t *testing.T) {
	noForm(t, nil, "nil")
	noForm(t, []byte{}, "empty")
	for _, c := range small() {
		b := wantBytes(c)
		for n := range b {
			// The first ones have the rest in the memory behind them.
			noForm(t, b[:n], "the end lies behind")
			noForm(t, slices.Clip(slices.Clone(b[:n])), "the end is missing")
		}
		for v := range 256 {
			noForm(t, append(slices.Clone(b), byte(v)), "a byte behind")
			noForm(t, append(slices.Clone(b), byte(v), 0), "two bytes behind")
			agrees(t, append([]byte{byte(v)}, b...))
		}
		for n := 1; n <= 20; n++ {
			noForm(t, append(slices.Clone(b), make([]byte, n)...), "zeros behind the end")
		}
		noForm(t, append(slices.Clone(b), b...), "twice")
	}
	b := wantBytes(full(9))
	noForm(t, b[:len(b)-1], "the last byte is missing")
	noForm(t, append(b, 0), "a byte more")
}

// longer returns the bytes of a number with so many bytes more than needed.
func longer(n, more int) []byte {
	b := wantNumber(n)
	b[len(b)-1] += 128
	for range more - 1 {
		b = append(b, 128)
	}
	return append(b, 0)
}

// Each number in turn has more bytes than needed, or more than 64 bits.
func TestDecodeOtherNumbers(t *testing.T) {
	for _, c := range small() {
		numbers := wantNumbers(c)
		for at, n := range numbers {
			ahead, behind := bytesOf(numbers[:at]...), bytesOf(numbers[at+1:]...)
			with := func(b []byte) []byte { return slices.Concat(ahead, b, behind) }
			if got, e := Decode(with(wantNumber(n))); !equal(got, c) || e != api.OK {
				t.Fatalf("%+v: %d", c, e)
			}
			for _, more := range []int{1, 2, 3, 7, 8, 9, 10, 11, 20, 1000} {
				noForm(t, with(longer(n, more)), "more bytes than needed")
			}
			// Bits above the lowest 64, in the byte that has the highest one of them
			// and in those behind it.
			ten := longer(n, max(10-len(wantNumber(n)), 1))
			if len(ten) != 10 {
				continue
			}
			for _, high := range []byte{2, 4, 8, 16, 32, 64, 126, 3, 127} {
				over := slices.Clone(ten)
				over[9] = high
				noForm(t, with(over), "more than 64 bits")
			}
			for _, high := range []byte{1, 2, 64, 127} {
				over := append(slices.Clone(ten), high)
				over[9] = 128
				noForm(t, with(over), "more than 70 bits")
				over = append(slices.Clone(ten), 128, 128, high)
				over[9] = 128
				noForm(t, with(over), "more than 84 bits")
			}
			over := append(slices.Clone(ten), bytes.Repeat([]byte{128}, 300)...)
			over[9] = 128
			noForm(t, with(append(over, 1)), "more than 2100 bits")
		}
	}
}

// A number of 64 bits and one with a bit more, at the place of a value.
func TestDecodeOverflow(t *testing.T) {
	for _, x := range []struct {
		last byte
		ok   bool
	}{{0, false}, {1, true}, {2, false}, {3, false}, {64, false}, {127, false}} {
		for _, low := range []byte{254, 255} {
			number := append(append([]byte{low}, bytes.Repeat([]byte{255}, 8)...), x.last)
			b := slices.Concat([]byte{2, 2, 0}, number, []byte{1, 0, 0, 0})
			if agrees(t, b) != x.ok {
				t.Errorf("% x", b)
			}
		}
	}
	noForm(t, bytes.Repeat([]byte{255}, 1000), "a number without an end")
	noForm(t, bytes.Repeat([]byte{128}, 1000), "zeros without an end")
}

// Numbers of elements that are negative, greater than the limit, or greater than
// what the remaining bytes can hold, at each place; and codes other than 0, 1, 2.
func TestDecodeOtherCounts(t *testing.T) {
	others := append(edges(), 3, 4, 5, 7, 8, 9, 10, 100, 1023, 1024, 1025, 1026, 8192, 8193, -9, -1024)
	for _, c := range small() {
		numbers := wantNumbers(c)
		for at, own := range numbers {
			for _, n := range append(slices.Clone(others), own-1, own+1, own+2, -own, own|1<<32, own|least) {
				l := slices.Clone(numbers)
				l[at] = n
				agrees(t, bytesOf(l...))
				agrees(t, bytesOf(l[:at+1]...))
			}
		}
	}
	for _, n := range others {
		if n != 0 {
			noForm(t, bytesOf(n), "harts, and nothing behind")
			noForm(t, bytesOf(1, n), "records, and nothing behind")
			noForm(t, bytesOf(0, n), "rows, and nothing behind")
			noForm(t, bytesOf(0, n, 0), "rows, and one number behind")
			noForm(t, bytesOf(0, n, 0, 0), "rows, the first one empty")
			noForm(t, bytesOf(1, 1, 0, 0, -1, 0, 0, 1, 8, n), "stores, and nothing behind")
		}
		if n < 0 || n > 2 {
			noForm(t, bytesOf(1, 1, 0, 0, -1, 0, n, 0), "another code")
		} else if !agrees(t, bytesOf(1, 1, 0, 0, -1, 0, n, 0)) {
			t.Errorf("no candidate with the code %d", n)
		}
		if n < 0 {
			// The numbers behind could be those of fewer elements.
			noForm(t, bytesOf(n, 0), "a negative number of harts")
			noForm(t, bytesOf(1, n, 0), "a negative number of records")
			noForm(t, bytesOf(0, n), "a negative number of rows")
		}
	}
}

// As many elements as a limit says, and more, with all of them there.
func TestDecodeLimits(t *testing.T) {
	for n := range 300 {
		b := bytesOf(append(append([]int{n}, make([]int, n)...), 0)...)
		if agrees(t, b) != (n <= 8) {
			t.Errorf("%d harts", n)
		}
	}
	for n, want := range map[int]bool{1023: true, 1024: true, 1025: false, 1026: false, 4096: false} {
		for hart := range 8 {
			c := api.Cand{Harts: make([][]api.Rec, 8)}
			c.Harts[hart] = recordsOf(n)
			if agrees(t, wantBytes(c)) != want {
				t.Errorf("%d records of hart %d", n, hart)
			}
		}
	}
	// A row or a store more than there are records is one that occurs twice.
	c := full(maxHarts * maxRecs)
	c.Rows = append(c.Rows, api.Row{Addr: most, L: refs(0, 0)})
	noForm(t, wantBytes(c), "a row too many")
	c = full(1)
	c.Rows[0].L = append(c.Rows[0].L, ref(0, 0))
	noForm(t, wantBytes(c), "a store too many")
}

// Whole bytes of candidates that are not well formed.
func TestDecodeNotWellFormed(t *testing.T) {
	for _, s := range spoilings() {
		c := base()
		s.spoil(&c)
		noForm(t, wantBytes(c), s.what)
	}
	for what, c := range map[string]api.Cand{
		"nine harts":                 {Harts: make([][]api.Rec, 9)},
		"nine harts with records":    {Harts: hartsOf(1, 1, 1, 1, 1, 1, 1, 1, 1)},
		"many harts":                 {Harts: make([][]api.Rec, 5000)},
		"many records":               {Harts: hartsOf(1025)},
		"many records of the last":   {Harts: hartsOf(0, 1, 1025)},
		"far too many":               {Harts: hartsOf(20000)},
		"many harts and records":     {Harts: append(make([][]api.Rec, 8), recordsOf(1025))},
		"rows without records":       {Rows: []api.Row{{L: refs(0, 0)}}},
		"an empty row and no record": {Rows: []api.Row{{}}},
		"many empty rows":            {Rows: make([]api.Row, 10000)},
	} {
		noForm(t, wantBytes(c), what)
	}
}

// Every change of a byte makes the bytes of another candidate, or of none.
func TestDecodeChangedBytes(t *testing.T) {
	changed := 0
	for _, c := range small() {
		b := wantBytes(c)
		for at := range b {
			for v := range 256 {
				d := slices.Clone(b)
				d[at] = byte(v)
				if agrees(t, d) && !bytes.Equal(b, d) {
					changed++
				}
			}
			agrees(t, slices.Delete(slices.Clone(b), at, at+1))
			for _, v := range []byte{0, 1, 2, 4, 127, 128, 129, 255} {
				agrees(t, slices.Insert(slices.Clone(b), at, v))
			}
		}
	}
	if changed < 2000 {
		t.Errorf("only %d changed candidates", changed)
	}
}

// All short byte strings of bytes that make up candidates, and all of up to two.
func TestDecodeEveryShort(t *testing.T) {
	for v := range 256 {
		agrees(t, []byte{byte(v)})
		for w := range 256 {
			agrees(t, []byte{byte(v), byte(w)})
		}
	}
	alphabet := []byte{0, 1, 2, 4, 128}
	found := 0
	var b []byte
	var extend func(left int)
	extend = func(left int) {
		if agrees(t, b) {
			found++
		}
		if left == 0 || t.Failed() {
			return
		}
		for _, v := range alphabet {
			b = append(b, v)
			extend(left - 1)
			b = b[:len(b)-1]
		}
	}
	extend(8)
	if found < 50 {
		t.Errorf("only %d candidates", found)
	}
}

// Random numbers that could be those of a candidate, and random changes of their
// bytes.
func TestDecodeRandom(t *testing.T) {
	r := rand.New(rand.NewPCG(13, 6))
	found := 0
	for range 100000 {
		b := wantBytes(random(r))
		switch r.IntN(4) {
		case 0:
			b[r.IntN(len(b))] ^= 1 << r.IntN(8)
		case 1:
			b = b[:r.IntN(len(b))]
		case 2:
			at := r.IntN(len(b) + 1)
			b = slices.Insert(b, at, byte(r.IntN(256)))
		}
		if agrees(t, b) {
			found++
		}
		if t.Failed() {
			return
		}
	}
	if found < 10000 {
		t.Errorf("only %d candidates", found)
	}
}

// P13.4.

func TestDecodeInvertsEncode(t *testing.T) {
	inverts := func(what string, c api.Cand) {
		b, e := Encode(c)
		if e != api.OK {
			t.Fatalf("%s: %d", what, e)
		}
		got, e := Decode(b)
		if !equal(got, c) || !Same(got, c) || e != api.OK {
			t.Fatalf("%s: %d harts, %d rows, %d", what, len(got.Harts), len(got.Rows), e)
		}
	}
	for what, c := range valid() {
		inverts(what, c)
	}
	r := rand.New(rand.NewPCG(13, 7))
	for n := 0; n < 50000; {
		if c := random(r); Check(c) == api.OK {
			inverts("random", c)
			n++
		}
	}
}

// The bytes of equal candidates are equal, and those of others are not.
func TestEncodeTellsApart(t *testing.T) {
	own, _ := Encode(base())
	for what, change := range changes() {
		c := base()
		change(&c)
		if b, e := Encode(c); e == api.OK && bytes.Equal(b, own) {
			t.Errorf("%s: the same bytes", what)
		}
	}
}

// Rule 3: arguments are neither modified nor kept, and results are new memory.

// parted returns a candidate whose lists have memory behind their lengths, and that
// memory.
func parted() (part, whole api.Cand) {
	whole = base()
	part = api.Cand{Harts: slices.Clone(whole.Harts)[:3], Rows: slices.Clone(whole.Rows)[:2]}
	part.Harts[0] = part.Harts[0][:1]
	part.Harts[2] = part.Harts[2][:1]
	part.Rows[0].L = append(refs(2, 0), ref(3, 3))[:1]
	part.Rows[1].L = part.Rows[1].L[1:2]
	return part, whole
}

func TestArgumentsAreNotModified(t *testing.T) {
	part, whole := parted()
	partBefore, wholeBefore := copied(part), copied(whole)
	Check(part)
	Check(whole)
	Same(part, whole)
	Same(part, copied(part))
	Clone(part)
	_ = append(Stores(part, 0), ref(6, 6))
	_ = append(Stores(part, -16), ref(6, 6))
	Behind(part, 0, first, ref(0, 0))
	Behind(part, 0, ref(0, 0), ref(2, 1))
	b, e := Encode(part)
	Encode(whole)
	if e != api.OK || !equal(part, partBefore) || !equal(whole, wholeBefore) {
		t.Fatalf("%d; %+v, %+v; before: %+v, %+v", e, part, whole, partBefore, wholeBefore)
	}
	// Nor is the memory behind the lists.
	if !reflect.DeepEqual(part.Harts[:4][3], whole.Harts[3]) || !reflect.DeepEqual(part.Rows[:4][2:], whole.Rows[2:]) || part.Rows[0].L[:2][1] != ref(3, 3) {
		t.Error("the memory behind the lists was modified")
	}
	room := append(slices.Clone(b), 7, 7, 7)
	Decode(room[:len(b)])
	Decode(room[:len(b)-1])
	if !bytes.Equal(room, append(slices.Clone(b), 7, 7, 7)) {
		t.Error("Decode modified its argument")
	}
}

func TestResultsAreNew(t *testing.T) {
	b, _ := Encode(base())
	before := slices.Clone(b)
	c, _ := Decode(b)
	clear(b)
	if !equal(c, base()) {
		t.Error("what Decode returned hangs on its argument")
	}
	other, _ := Decode(before)
	for i := range c.Harts {
		c.Harts[i] = append(c.Harts[i], api.Rec{PC: i + 1})
		c.Harts[i][0].Val = 77
	}
	for i := range c.Rows {
		c.Rows[i].L = append(c.Rows[i].L, ref(7, i))
		c.Rows[i].L[0].At = 77 + i
	}
	for i := range c.Harts {
		if l := c.Harts[i]; l[len(l)-1].PC != i+1 {
			t.Error("the records of two harts share memory")
		}
	}
	for i := range c.Rows {
		if l := c.Rows[i].L; l[0].At != 77+i || l[len(l)-1] != ref(7, i) {
			t.Error("the stores of two rows share memory")
		}
	}
	if again, _ := Encode(base()); !bytes.Equal(again, before) || !equal(other, base()) {
		t.Error("two calls returned the same memory")
	}
}
