package rel

import (
	"math"
	"math/rand/v2"
	"slices"
	"testing"
)

const (
	most  = math.MaxInt
	least = math.MinInt
)

// maxEvents is the limit as a number, so that the tests say what the document says.
const maxEvents = 512

// table is a relation written down separately: table[a][b] says whether (a, b) is in it.
type table [][]bool

func newTable(n int) table {
	m := make(table, n)
	for a := range m {
		m[a] = make([]bool, n)
	}
	return m
}

// tableOf returns the table of pairs that are given as numbers: a, b, a, b, ..
func tableOf(n int, pairs ...int) table {
	m := newTable(n)
	for i := 0; i < len(pairs); i += 2 {
		m[pairs[i]][pairs[i+1]] = true
	}
	return m
}

// build returns the relation of a table.
func build(m table) *Rel {
	r := New(len(m))
	for a := range m {
		for b, in := range m[a] {
			if in {
				r.Add(a, b)
			}
		}
	}
	return r
}

// every returns the tables of all relations on n elements.
func every(n int) []table {
	var l []table
	for code := range 1 << (n * n) {
		m := newTable(n)
		for i := range n * n {
			m[i/n][i%n] = code>>i%2 == 1
		}
		l = append(l, m)
	}
	return l
}

// small returns the tables of all relations on at most n elements.
func small(n int) []table {
	var l []table
	for i := range n + 1 {
		l = append(l, every(i)...)
	}
	return l
}

// sizes are numbers of elements at which the words of rows begin and end.
var sizes = []int{0, 1, 2, 5, 63, 64, 65, 127, 128, 129, 200, 448, 449, 511, 512}

// random returns a table with about so many pairs an element.
func random(r *rand.Rand, n, degree int) table {
	m := newTable(n)
	for range n * degree {
		m[r.IntN(n)][r.IntN(n)] = true
	}
	return m
}

// randomAcyclic returns a table with about so many pairs an element, none of which
// leads against an order that is chosen at random.
func randomAcyclic(r *rand.Rand, n, degree int) table {
	at := r.Perm(n)
	m := newTable(n)
	for range n * degree {
		a, b := r.IntN(n), r.IntN(n)
		m[a][b] = at[a] < at[b]
	}
	return m
}

// fullTable returns the table with all pairs.
func fullTable(n int) table {
	m := newTable(n)
	for a := range m {
		for b := range m {
			m[a][b] = true
		}
	}
	return m
}

// tables returns tables of all kinds, for some of the sizes.
func tables(seed uint64) []table {
	r := rand.New(rand.NewPCG(14, seed))
	var l []table
	for _, n := range []int{0, 1, 2, 5, 63, 64, 65, 129, 449, 512} {
		l = append(l, newTable(n), fullTable(n))
		for _, degree := range []int{1, 2, n / 3} {
			l = append(l, random(r, n, degree), randomAcyclic(r, n, degree))
		}
	}
	return l
}

// wantPairs is the last sentence of P14.1.
func wantPairs(m table) [][2]int {
	var l [][2]int
	for a := range m {
		for b := range m {
			if m[a][b] {
				l = append(l, [2]int{a, b})
			}
		}
	}
	return l
}

// is tests that r is a relation with the elements and pairs of want.
func is(t *testing.T, what string, r *Rel, want table) {
	t.Helper()
	if r == nil {
		t.Fatalf("%s: nil", what)
	}
	if r.Len() != len(want) {
		t.Fatalf("%s: %d elements; want %d", what, r.Len(), len(want))
	}
	if l := r.Pairs(); !slices.Equal(l, wantPairs(want)) {
		t.Fatalf("%s: pairs %v; want %v", what, l, wantPairs(want))
	}
}

// others are numbers that are no elements of any relation.
var others = []int{-1, -2, -63, -64, -65, -511, -512, -513, 512, 513, 575, 576, 1024, 1 << 31, 1 << 32, -1 << 32, 1<<32 + 1, most - 63, most - 1, most, least, least + 1, least + 64}

// P14.1: New, Len, Add, Has, Pairs.

func TestNew(t *testing.T) {
	for n := -3; n <= 515; n++ {
		is(t, "New", New(n), newTable(min(max(n, 0), maxEvents)))
	}
	for n, want := range map[int]int{-512: 0, -513: 0, -1 << 32: 0, -1<<32 + 5: 0, least: 0, least + 1: 0, 1024: 512, 1 << 32: 512, 1<<32 + 5: 512, most - 1: 512, most: 512} {
		is(t, "New", New(n), newTable(want))
	}
}

func TestNewHasNoPairs(t *testing.T) {
	for _, n := range sizes {
		r := New(n)
		for a := -1; a <= n; a++ {
			for b := -1; b <= n; b++ {
				if r.Has(a, b) {
					t.Fatalf("%d elements: (%d, %d)", n, a, b)
				}
			}
		}
	}
}

// Each pair alone is the only one.
func TestAddOnePair(t *testing.T) {
	for _, n := range []int{1, 2, 3, 64, 65, 130} {
		for a := range n {
			for b := range n {
				r := New(n)
				if !r.Add(a, b) {
					t.Fatalf("%d elements: Add(%d, %d) is false", n, a, b)
				}
				if l := r.Pairs(); len(l) != 1 || l[0] != [2]int{a, b} {
					t.Fatalf("%d elements: Add(%d, %d): pairs %v", n, a, b, l)
				}
				if !r.Has(a, b) || r.Has(b, a) != (a == b) {
					t.Fatalf("%d elements: Add(%d, %d): Has(%d, %d) %v, Has(%d, %d) %v", n, a, b, a, b, r.Has(a, b), b, a, r.Has(b, a))
				}
			}
		}
	}
}

// Pairs are added one after the other, in any order; adding one again changes nothing.
func TestAddManyPairs(t *testing.T) {
	g := rand.New(rand.NewPCG(14, 1))
	for _, n := range sizes {
		for _, degree := range []int{1, 4, n} {
			r := New(n)
			m := newTable(n)
			for range n * degree {
				a, b := g.IntN(n), g.IntN(n)
				m[a][b] = true
				for range 1 + g.IntN(2) {
					if !r.Add(a, b) {
						t.Fatalf("%d elements: Add(%d, %d) is false", n, a, b)
					}
				}
			}
			is(t, "Add", r, m)
			for a := range n {
				for b := range n {
					if r.Has(a, b) != m[a][b] {
						t.Fatalf("%d elements: Has(%d, %d) is %v", n, a, b, !m[a][b])
					}
				}
			}
		}
	}
}

// A pair that has a component which is no element is not added, and is not in it.
func TestAddOutside(t *testing.T) {
	for _, n := range sizes {
		for _, m := range []table{newTable(n), random(rand.New(rand.NewPCG(14, 2)), n, 2), fullTable(n)} {
			r := build(m)
			out := append([]int{n, n + 1, n + 63, n + 64, -n - 1}, others...)
			all := append([]int{0, 1, 2, n / 2, n - 2, n - 1}, out...)
			for _, a := range out {
				for _, b := range all {
					for _, p := range [][2]int{{a, b}, {b, a}} {
						if r.Has(p[0], p[1]) || r.Add(p[0], p[1]) || r.Has(p[0], p[1]) {
							t.Fatalf("%d elements: (%d, %d) is a pair", n, p[0], p[1])
						}
					}
				}
			}
			is(t, "Add of no elements", r, m)
		}
	}
}

// In a full relation, every pair has its place.
func TestPairsFull(t *testing.T) {
	for _, n := range sizes {
		r := New(n)
		for b := n - 1; b >= 0; b-- {
			for a := n - 1; a >= 0; a-- {
				r.Add(a, b)
			}
		}
		l := r.Pairs()
		if len(l) != n*n {
			t.Fatalf("%d elements: %d pairs", n, len(l))
		}
		for i, p := range l {
			if p != [2]int{i / n, i % n} {
				t.Fatalf("%d elements: pair %d is %v", n, i, p)
			}
		}
	}
}

// The pairs that are returned are not the relation's own.
func TestPairsAreNew(t *testing.T) {
	m := tableOf(5, 0, 1, 3, 3, 4, 0)
	r := build(m)
	l := r.Pairs()
	for i := range l {
		l[i] = [2]int{2, 2}
	}
	is(t, "after the pairs were overwritten", r, m)
	r.Add(1, 1)
	if l[1] != [2]int{2, 2} {
		t.Errorf("pairs %v after another Add", l)
	}
}

func TestRelationsAreSeparate(t *testing.T) {
	a, b := New(70), New(70)
	a.Add(1, 69)
	b.Add(69, 1)
	is(t, "a", a, tableOf(70, 1, 69))
	is(t, "b", b, tableOf(70, 69, 1))
}

// P14.2: Union, Turned, After, Closure.

// wantUnion is P14.2 on Union.
func wantUnion(r table, l ...table) table {
	m := newTable(len(r))
	for _, s := range append([]table{r}, l...) {
		for _, p := range wantPairs(s) {
			if p[0] < len(m) && p[1] < len(m) {
				m[p[0]][p[1]] = true
			}
		}
	}
	return m
}

// wantTurned is P14.2 on Turned.
func wantTurned(r table) table {
	m := newTable(len(r))
	for _, p := range wantPairs(r) {
		m[p[1]][p[0]] = true
	}
	return m
}

// wantAfter is P14.2 on After.
func wantAfter(r, s table) table {
	m := newTable(len(r))
	for a := range m {
		for b := range min(len(r), len(s)) {
			for c := 0; r[a][b] && c < min(len(r), len(s)); c++ {
				m[a][c] = m[a][c] || s[b][c]
			}
		}
	}
	return m
}

// wantClosure is P14.2 on Closure: it visits what r leads to, element by element.
func wantClosure(r table) table {
	next := make([][]int, len(r))
	for _, p := range wantPairs(r) {
		next[p[0]] = append(next[p[0]], p[1])
	}
	m := newTable(len(r))
	for a := range r {
		work := []int{a}
		for len(work) > 0 {
			x := work[0]
			work = work[1:]
			for _, b := range next[x] {
				if !m[a][b] {
					m[a][b] = true
					work = append(work, b)
				}
			}
		}
	}
	return m
}

// All relations on at most three elements, each with each.
func TestTwoSmallRelations(t *testing.T) {
	l := small(3)
	var rels []*Rel
	for _, m := range l {
		rels = append(rels, build(m))
	}
	for i, r := range rels {
		for j, s := range rels {
			is(t, "Union", r.Union(s), wantUnion(l[i], l[j]))
			is(t, "After", r.After(s), wantAfter(l[i], l[j]))
		}
	}
	for i, r := range rels {
		is(t, "an argument, afterwards", r, l[i])
	}
}

// All relations on at most two elements, three at a time.
func TestUnionOfThreeSmallRelations(t *testing.T) {
	l := small(2)
	for _, r := range l {
		for _, s := range l {
			for _, u := range l {
				is(t, "Union", build(r).Union(build(s), build(u)), wantUnion(r, s, u))
			}
		}
	}
}

// All relations on at most four elements.
func TestOneSmallRelation(t *testing.T) {
	for _, m := range small(4) {
		r := build(m)
		is(t, "Turned", r.Turned(), wantTurned(m))
		is(t, "Closure", r.Closure(), wantClosure(m))
		is(t, "Union of nothing", r.Union(), m)
		is(t, "the relation, afterwards", r, m)
	}
}

func TestLargeRelations(t *testing.T) {
	for _, m := range tables(2) {
		r := build(m)
		is(t, "Turned", r.Turned(), wantTurned(m))
		is(t, "Closure", r.Closure(), wantClosure(m))
		is(t, "Union of nothing", r.Union(), m)
		is(t, "Union with itself", r.Union(r), m)
		is(t, "After itself", r.After(r), wantAfter(m, m))
		is(t, "the relation, afterwards", r, m)
	}
}

// Relations of different sizes: what is no element of the first one does not matter.
func TestTwoLargeRelations(t *testing.T) {
	g := rand.New(rand.NewPCG(14, 3))
	some := []int{0, 1, 2, 63, 64, 65, 129, 512}
	for _, n := range some {
		for _, o := range some {
			for _, degree := range []int{1, 3, 20} {
				m, k := random(g, n, degree), random(g, o, degree)
				r, s := build(m), build(k)
				is(t, "Union", r.Union(s), wantUnion(m, k))
				is(t, "After", r.After(s), wantAfter(m, k))
				is(t, "r, afterwards", r, m)
				is(t, "s, afterwards", s, k)
			}
		}
	}
}

func TestUnionOfMany(t *testing.T) {
	g := rand.New(rand.NewPCG(14, 4))
	for range 300 {
		pick := func() table {
			return random(g, sizes[g.IntN(10)], 1+g.IntN(2))
		}
		m := pick()
		r := build(m)
		var l []table
		var rels []*Rel
		for range g.IntN(6) {
			switch g.IntN(8) {
			case 0:
				rels = append(rels, nil)
			case 1:
				l, rels = append(l, m), append(rels, r)
			default:
				l = append(l, pick())
				rels = append(rels, build(l[len(l)-1]))
			}
		}
		given := slices.Clone(rels)
		is(t, "Union", r.Union(rels...), wantUnion(m, l...))
		is(t, "r, afterwards", r, m)
		if !slices.Equal(rels, given) {
			t.Fatal("Union changed its list")
		}
		rels = slices.DeleteFunc(rels, func(s *Rel) bool { return s == nil })
		for i, s := range rels {
			is(t, "an argument, afterwards", s, l[i])
		}
	}
}

func TestCombinedExamples(t *testing.T) {
	chain := build(tableOf(3, 0, 1, 1, 2))
	is(t, "the document's closure", chain.Closure(), tableOf(3, 0, 1, 1, 2, 0, 2))
	is(t, "a chain, turned", chain.Turned(), tableOf(3, 1, 0, 2, 1))
	is(t, "a chain after itself", chain.After(chain), tableOf(3, 0, 2))
	is(t, "After takes r first", build(tableOf(3, 0, 1)).After(build(tableOf(3, 1, 2))), tableOf(3, 0, 2))
	is(t, "not s first", build(tableOf(3, 1, 2)).After(build(tableOf(3, 0, 1))), tableOf(3))
	is(t, "a pair back", build(tableOf(2, 0, 1)).After(build(tableOf(2, 1, 0))), tableOf(2, 0, 0))
	is(t, "a pair back, closed", build(tableOf(2, 0, 1, 1, 0)).Closure(), tableOf(2, 0, 0, 0, 1, 1, 0, 1, 1))
	is(t, "a pair of an element with itself, closed", build(tableOf(2, 1, 1)).Closure(), tableOf(2, 1, 1))
	is(t, "nothing, closed", New(3).Closure(), tableOf(3))
	large, little := build(tableOf(100, 0, 1, 1, 99, 99, 0, 99, 98, 1, 0)), build(tableOf(2, 0, 1))
	is(t, "the union of a small and a large one", little.Union(large), tableOf(2, 0, 1, 1, 0))
	is(t, "the union of a large and a small one", large.Union(little), tableOf(100, 0, 1, 1, 99, 99, 0, 99, 98, 1, 0))
	is(t, "a small and then a large one", little.After(large), tableOf(2, 0, 0))
	is(t, "a large and then a small one", large.After(little), tableOf(100, 1, 1, 99, 1))
}

// What leads from an element to another one may be as long as there are elements,
// and may pass through them in any order.
func TestClosureOfLongChains(t *testing.T) {
	g := rand.New(rand.NewPCG(14, 5))
	for _, n := range sizes {
		up := make([]int, n)
		for i := range up {
			up[i] = i
		}
		down := slices.Clone(up)
		slices.Reverse(down)
		for _, l := range [][]int{up, down, g.Perm(n), g.Perm(n)} {
			m, want := newTable(n), newTable(n)
			for i, a := range l {
				for _, b := range l[i+1:] {
					want[a][b] = true
				}
				if i > 0 {
					m[l[i-1]][a] = true
				}
			}
			is(t, "a chain", build(m).Closure(), want)
			if n > 0 {
				m[l[n-1]][l[0]] = true
				is(t, "a round", build(m).Closure(), fullTable(n))
			}
		}
	}
}

// A result shares nothing with r, nor with the arguments, nor with other results.
func TestResultsAreNew(t *testing.T) {
	operations := map[string]func(r, s *Rel) *Rel{
		"Union of nothing":   func(r, _ *Rel) *Rel { return r.Union() },
		"Union":              func(r, s *Rel) *Rel { return r.Union(s) },
		"Union of no pairs":  func(r, s *Rel) *Rel { return New(s.Len()).Union(s) },
		"Turned":             func(r, _ *Rel) *Rel { return r.Turned() },
		"After":              func(r, s *Rel) *Rel { return r.After(s) },
		"Closure":            func(r, _ *Rel) *Rel { return r.Closure() },
		"New":                func(r, _ *Rel) *Rel { return New(r.Len()) },
		"Closure of Closure": func(r, _ *Rel) *Rel { return r.Closure().Closure() },
	}
	for what, operation := range operations {
		for _, n := range []int{3, 64, 70} {
			m, k := tableOf(n, 0, 1, 1, 2), tableOf(n, 1, 0, 2, 2)
			r, s := build(m), build(k)
			first, second := operation(r, s), operation(r, s)
			if first == r || first == s || first == second {
				t.Fatalf("%s: the result is not new", what)
			}
			want := newTable(n)
			for _, p := range first.Pairs() {
				want[p[0]][p[1]] = true
			}
			fill(second)
			is(t, what+", r after its result was changed", r, m)
			is(t, what+", s after the result was changed", s, k)
			is(t, what+", the result after another one was changed", first, want)
			fill(r)
			fill(s)
			is(t, what+", the result after r and s were changed", first, want)
		}
	}
}

// fill adds all pairs to r.
func fill(r *Rel) {
	for a := range r.Len() {
		for b := range r.Len() {
			r.Add(a, b)
		}
	}
}

// P14.3: Order and Acyclic.

// wantOrder is P14.3, by means of the definition of acyclic.
func wantOrder(m table) ([]int, bool) {
	closure := wantClosure(m)
	for a := range m {
		if closure[a][a] {
			return nil, false
		}
	}
	occurred := make([]bool, len(m))
	mayFollow := func(e int) bool {
		for a := range m {
			if m[a][e] && !occurred[a] {
				return false
			}
		}
		return !occurred[e]
	}
	var l []int
	for range m {
		e := 0
		for !mayFollow(e) {
			e++
		}
		occurred[e] = true
		l = append(l, e)
	}
	return l, true
}

// ordered tests Order and Acyclic, and P14.4, on the relation of m.
func ordered(t *testing.T, m table) {
	t.Helper()
	r := build(m)
	want, acyclic := wantOrder(m)
	if l, ok := r.Order(); ok != acyclic || !slices.Equal(l, want) {
		t.Fatalf("%d elements, pairs %v: Order %v, %v; want %v, %v", len(m), wantPairs(m), l, ok, want, acyclic)
	}
	if r.Acyclic() != acyclic {
		t.Fatalf("%d elements, pairs %v: Acyclic %v", len(m), wantPairs(m), !acyclic)
	}
	is(t, "the relation, afterwards", r, m)
	closure := r.Closure()
	back := false
	for a := range m {
		back = back || closure.Has(a, a)
	}
	if back == acyclic {
		t.Fatalf("%d elements, pairs %v: acyclic %v, a pair (a, a) in the closure %v", len(m), wantPairs(m), acyclic, back)
	}
	if closure.Acyclic() != acyclic {
		t.Fatalf("%d elements, pairs %v: its closure is acyclic: %v", len(m), wantPairs(m), !acyclic)
	}
}

func TestOrderOfSmallRelations(t *testing.T) {
	for _, m := range small(4) {
		ordered(t, m)
	}
}

// On five elements, all relations whose pairs lead upwards, and their turned ones.
func TestOrderOfFiveElements(t *testing.T) {
	for code := range 1 << 10 {
		m := newTable(5)
		for a := range 5 {
			for b := a + 1; b < 5; b++ {
				m[a][b] = code%2 == 1
				code >>= 1
			}
		}
		ordered(t, m)
		ordered(t, wantTurned(m))
	}
}

func TestOrderOfLargeRelations(t *testing.T) {
	for _, m := range tables(3) {
		ordered(t, m)
	}
}

// As many random relations as show each choice among the elements that may follow.
func TestOrderOfRandomRelations(t *testing.T) {
	g := rand.New(rand.NewPCG(14, 6))
	for range 3000 {
		n := 1 + g.IntN(12)
		ordered(t, randomAcyclic(g, n, 1+g.IntN(3)))
		ordered(t, random(g, n, 1))
	}
}

func TestOrderExamples(t *testing.T) {
	for _, c := range []struct {
		m    table
		want []int
	}{
		{tableOf(0), nil},
		{tableOf(1), []int{0}},
		{tableOf(4), []int{0, 1, 2, 3}},
		{tableOf(3, 0, 1, 1, 2), []int{0, 1, 2}},
		{tableOf(3, 2, 1, 1, 0), []int{2, 1, 0}},
		{tableOf(4, 3, 0), []int{1, 2, 3, 0}},
		{tableOf(4, 1, 0), []int{1, 0, 2, 3}},
		{tableOf(5, 3, 0, 4, 1), []int{2, 3, 0, 4, 1}},
		{tableOf(5, 4, 0, 3, 1), []int{2, 3, 1, 4, 0}},
		{tableOf(6, 2, 1, 1, 0, 2, 0, 5, 3), []int{2, 1, 0, 4, 5, 3}},
		{tableOf(4, 0, 3, 3, 1, 1, 2), []int{0, 3, 1, 2}},
	} {
		if l, ok := build(c.m).Order(); !ok || !slices.Equal(l, c.want) {
			t.Errorf("pairs %v: %v, %v; want %v", wantPairs(c.m), l, ok, c.want)
		}
		ordered(t, c.m)
	}
	for _, m := range []table{
		tableOf(1, 0, 0),
		tableOf(3, 2, 2),
		tableOf(3, 0, 1, 1, 1, 1, 2),
		tableOf(2, 0, 1, 1, 0),
		tableOf(3, 0, 1, 1, 2, 2, 0),
		tableOf(4, 0, 1, 2, 3, 3, 2),
		tableOf(4, 0, 1, 1, 0, 1, 2, 2, 3),
	} {
		if l, ok := build(m).Order(); ok || len(l) != 0 {
			t.Errorf("pairs %v: %v, %v; want no elements, false", wantPairs(m), l, ok)
		}
		ordered(t, m)
	}
}

// A cycle of any length, with others before, beside and behind it.
func TestCycles(t *testing.T) {
	g := rand.New(rand.NewPCG(14, 7))
	for _, n := range []int{1, 2, 5, 63, 64, 65, 129, 300} {
		for _, length := range []int{1, 2, n/2 + 1, n} {
			length = min(length, n)
			l := g.Perm(n)
			m := newTable(n)
			for i := range n - 1 {
				m[l[i]][l[i+1]] = true
			}
			ordered(t, m)
			from := g.IntN(n - length + 1)
			m[l[from+length-1]][l[from]] = true
			ordered(t, m)
			if build(m).Acyclic() {
				t.Errorf("%d elements, a cycle of %d: acyclic", n, length)
			}
		}
	}
}

// A pair that is added decides; the order that was returned before stays as it is.
func TestOrderAgain(t *testing.T) {
	r := build(tableOf(70, 69, 0))
	l, _ := r.Order()
	before := slices.Clone(l)
	for i := range l {
		l[i] = -1
	}
	if again, ok := r.Order(); !ok || !slices.Equal(again, before) {
		t.Errorf("after the order was overwritten: %v, %v", again, ok)
	}
	r.Add(0, 69)
	if l, ok := r.Order(); ok || len(l) != 0 || r.Acyclic() {
		t.Errorf("with a pair back: %v, %v", l, ok)
	}
}

// The iterators end when the loop over them ends.
func TestIteratorsEnd(t *testing.T) {
	r := build(fullTable(70))
	for stop := range 70 {
		n := 0
		for b := range r.rows[0].all() {
			if b != n {
				t.Errorf("element %d after %d others", b, n)
			}
			if n++; b == stop {
				break
			}
		}
		for a, b := range r.pairs() {
			if a*70+b != n-stop-1 {
				t.Errorf("pair (%d, %d) after %d others", a, b, n-stop-1)
			}
			if n++; b == stop {
				break
			}
		}
	}
}

// P14.3: nil.

func TestNil(t *testing.T) {
	var r *Rel
	if r.Len() != 0 || len(r.Pairs()) != 0 {
		t.Errorf("nil: %d elements, pairs %v", r.Len(), r.Pairs())
	}
	for _, a := range append([]int{0, 1, 2}, others...) {
		for _, b := range append([]int{0, 1, 2}, others...) {
			if r.Add(a, b) || r.Has(a, b) {
				t.Errorf("nil: Add or Has of (%d, %d) is true", a, b)
			}
		}
	}
	if l, ok := r.Order(); len(l) != 0 || !ok || !r.Acyclic() {
		t.Errorf("nil: Order %v, %v, Acyclic %v", l, ok, r.Acyclic())
	}
	full := New(3)
	fill(full)
	for what, got := range map[string]*Rel{
		"Union of nothing":     r.Union(),
		"Union of nil":         r.Union(nil),
		"Union of nil, twice":  r.Union(nil, nil),
		"Union of a full one":  r.Union(full),
		"Union of both":        r.Union(nil, full, nil),
		"Union of a nil list":  r.Union([]*Rel(nil)...),
		"Turned":               r.Turned(),
		"After nil":            r.After(nil),
		"After a full one":     r.After(full),
		"Closure":              r.Closure(),
		"New(0), Union of nil": New(0).Union(nil),
		"New(0), After nil":    New(0).After(nil),
	} {
		is(t, "nil: "+what, got, newTable(0))
	}
}

func TestNilArguments(t *testing.T) {
	for _, m := range append(small(2), tables(4)...) {
		r := build(m)
		is(t, "Union(nil)", r.Union(nil), m)
		is(t, "Union(nil, nil, nil)", r.Union(nil, nil, nil), m)
		is(t, "After(nil)", r.After(nil), newTable(len(m)))
		other := tableOf(3, 2, 0, 0, 0)
		is(t, "Union(nil, other)", r.Union(nil, build(other)), wantUnion(m, other))
		is(t, "Union(other, nil)", r.Union(build(other), nil), wantUnion(m, other))
		is(t, "the relation, afterwards", r, m)
	}
}
