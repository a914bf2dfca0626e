package comp_test

import (
	"math"
	"slices"
	"testing"

	"seedling/comp"
)

// dice answers numbers below n without a plan, the same ones each time.
func dice() func(n int) int {
	x := uint64(13)
	return func(n int) int {
		x = x*6364136223846793005 + 1442695040888963407
		return int(x>>33) % n
	}
}

// graphed is the graph of so many numbers in which one leads to another one as is told.
func graphed(many int, does func(a, b int) bool) [][]int {
	x := make([][]int, many)
	for a := range x {
		for b := range many {
			if does(a, b) {
				x[a] = append(x[a], b)
			}
		}
	}
	return x
}

// cloned is a graph once more.
func cloned(x [][]int) [][]int {
	l := make([][]int, len(x))
	for a, row := range x {
		l[a] = slices.Clone(row)
	}
	return l
}

// same says whether two rows of rows are.
func same(x, y [][]int) bool { return slices.EqualFunc(x, y, slices.Equal[[]int]) }

// told is all that the chapter's words tell of a right graph.
type told struct {
	does, on [][]bool // whether one leads to, leads on to, another one
	parts    [][]int
}

// tell tells that, from the words alone: rows by one number more and one number more, parts one by one.
func tell(x [][]int) told {
	l := told{does: table(len(x)), on: table(len(x))}
	for a, row := range x {
		l.on[a][a] = true
		for _, b := range row {
			l.does[a][b], l.on[a][b] = true, true
		}
	}
	for by := range x {
		for a := range x {
			for b := range x {
				l.on[a][b] = l.on[a][b] || l.on[a][by] && l.on[by][b]
			}
		}
	}
	put := make([]bool, len(x))
	for next := l.next(put); next != nil; next = l.next(put) {
		l.parts = append(l.parts, next)
		for _, a := range next {
			put[a] = true
		}
	}
	return l
}

// table is one of so many rows, each of as many.
func table(many int) [][]bool {
	l := make([][]bool, many)
	for a := range l {
		l[a] = make([]bool, many)
	}
	return l
}

// part are all that are together with a number.
func (l told) part(a int) []int {
	var part []int
	for b := range l.on {
		if l.on[a][b] && l.on[b][a] {
			part = append(part, b)
		}
	}
	return part
}

// next is the part to put next: that of the least number of which none of its part leads to one of another part that is not put.
func (l told) next(put []bool) []int {
	for a := range l.on {
		part := l.part(a)
		if put[a] || part[0] != a {
			continue
		}
		waits := false
		for _, b := range part {
			for c, does := range l.does[b] {
				waits = waits || does && !put[c] && !slices.Contains(part, c)
			}
		}
		if !waits {
			return part
		}
	}
	return nil
}

// ring says whether a number's part is one.
func (l told) ring(a int) bool { return len(l.part(a)) > 1 || l.does[a][a] }

// odd are numbers that no graph has.
func odd() []int { return []int{-1, -2, math.MinInt, math.MaxInt, 64, 65, 1 << 32} }

// holds holds all that is told of a right graph against the chapter's words.
func holds(t *testing.T, x [][]int) told {
	t.Helper()
	l := tell(x)
	if !comp.Right(x) {
		t.Fatal("not right: ", x)
	}
	if got := comp.Parts(x); !same(got, l.parts) {
		t.Fatal("parts: ", x, got, l.parts)
	}
	for a := range x {
		want := slices.IndexFunc(l.parts, func(part []int) bool { return slices.Contains(part, a) })
		if got := comp.Part(x, a); got != want {
			t.Fatal("part: ", x, a, got, want)
		}
		if got := comp.Ring(x, a); got != l.ring(a) {
			t.Fatal("ring: ", x, a, got)
		}
		for b := range x {
			if got := comp.Leads(x, a, b); got != l.on[a][b] {
				t.Fatal("leads: ", x, a, b, got)
			}
		}
	}
	turned := graphed(len(x), func(a, b int) bool { return l.does[b][a] })
	if got := comp.Turn(x); !same(got, turned) {
		t.Fatal("turn: ", x, got, turned)
	}
	return l
}

// follows holds what follows of each right graph.
func follows(t *testing.T, x [][]int) {
	t.Helper()
	parts, turned := comp.Parts(x), comp.Turn(x)
	var all []int
	for n, part := range parts {
		if len(part) == 0 || !slices.IsSorted(part) {
			t.Fatal("a part: ", x, part)
		}
		all = append(all, part...)
		for _, a := range part {
			if comp.Part(x, a) != n {
				t.Fatal("its place: ", x, a, n)
			}
			for _, b := range x[a] {
				if comp.Part(x, b) > n {
					t.Fatal("behind: ", x, a, b)
				}
			}
		}
	}
	slices.Sort(all)
	if len(all) != len(x) || len(slices.Compact(all)) != len(x) {
		t.Fatal("not in one part: ", x, parts)
	}
	back := comp.Parts(turned)
	slices.SortFunc(parts, slices.Compare[[]int])
	slices.SortFunc(back, slices.Compare[[]int])
	if !same(parts, back) {
		t.Fatal("turned, other parts: ", x, parts, back)
	}
	if again := comp.Turn(turned); !same(again, x) {
		t.Fatal("turned twice: ", x, again)
	}
}

// nothing holds that nothing is told of a graph that is not right.
func nothing(t *testing.T, what string, x [][]int) {
	t.Helper()
	if comp.Right(x) {
		t.Error("right: ", what)
	}
	if comp.Parts(x) != nil || comp.Turn(x) != nil {
		t.Error("parts: ", what)
	}
	none(t, what, x, append(odd(), 0, 1, 2, 63)...)
}

// none holds that nothing is told of numbers that a graph has not.
func none(t *testing.T, what string, x [][]int, numbers ...int) {
	t.Helper()
	for _, n := range numbers {
		if comp.Part(x, n) != -1 || comp.Ring(x, n) || comp.Leads(x, n, n) {
			t.Error("a number: ", what, n)
		}
		for a := range 3 {
			if comp.Leads(x, a, n) || comp.Leads(x, n, a) {
				t.Error("leads: ", what, a, n)
			}
		}
	}
}

// TestExample: P13.1 to P13.3: the chapter's one.
func TestExample(t *testing.T) {
	x := [][]int{{1, 3}, {2}, {1}, {3}, {0}}
	if l := comp.Parts(x); !same(l, [][]int{{1, 2}, {3}, {0}, {4}}) {
		t.Error(l)
	}
	for a, want := range []bool{false, true, true, true, false} {
		if comp.Ring(x, a) != want {
			t.Error(a)
		}
	}
	for a, want := range []int{2, 0, 0, 1, 3} {
		if n := comp.Part(x, a); n != want {
			t.Error(a, n)
		}
	}
	if l := comp.Turn(x); !same(l, [][]int{{4}, {0, 2}, {1}, {0, 3}, nil}) {
		t.Error(l)
	}
	if !comp.Leads(x, 4, 2) || comp.Leads(x, 2, 4) || !comp.Leads(x, 4, 4) || comp.Leads(x, 3, 1) {
		t.Error("leads")
	}
	holds(t, x)
	follows(t, x)
}

// TestOrder: P13.2: of several parts that may come next it is that of the least number, whoever leads to them; and each time anew.
func TestOrder(t *testing.T) {
	for _, c := range []struct{ x, parts [][]int }{
		{[][]int{nil, nil, nil}, [][]int{{0}, {1}, {2}}},
		{[][]int{{2}, nil, nil}, [][]int{{1}, {2}, {0}}},
		{[][]int{{3}, nil, nil, nil}, [][]int{{1}, {2}, {3}, {0}}},
		{[][]int{{1, 2}, {3}, nil, nil}, [][]int{{2}, {3}, {1}, {0}}},
		// 0 may come as soon as 3 is put, ahead of all others.
		{[][]int{{3}, {4}, {4}, nil, nil}, [][]int{{3}, {0}, {4}, {1}, {2}}},
		// Not by their greatest number, not by how many there are.
		{[][]int{{5}, nil, nil, nil, nil, {0}}, [][]int{{0, 5}, {1}, {2}, {3}, {4}}},
		{[][]int{nil, {2}, {1}, nil}, [][]int{{0}, {1, 2}, {3}}},
		// A part waits for those that any number of it leads to; the least number alone leads to none.
		{[][]int{{1}, {0, 3}, nil, nil}, [][]int{{2}, {3}, {0, 1}}},
		{[][]int{{2}, {2}, {0, 3}, {4}, {3}}, [][]int{{3, 4}, {0, 2}, {1}}},
		// Who leads to itself waits for nobody; who is led to twice is waited for twice.
		{[][]int{{0}, {0, 1}, {2}}, [][]int{{0}, {1}, {2}}},
		{[][]int{{1, 2, 3}, {0, 2, 3}, {3}, {2}}, [][]int{{2, 3}, {0, 1}}},
	} {
		if l := comp.Parts(c.x); !same(l, c.parts) {
			t.Error(c.x, l)
		}
		holds(t, c.x)
		follows(t, c.x)
	}
}

// TestLeads: P13.1: to itself always; through others; never back along a row.
func TestLeads(t *testing.T) {
	x := [][]int{{1}, {2}, nil, {0, 3}, {4}}
	for _, c := range []struct {
		a, b int
		is   bool
	}{{0, 0, true}, {2, 2, true}, {4, 4, true}, {0, 1, true}, {0, 2, true}, {1, 0, false}, {2, 0, false}, {3, 2, true}, {0, 3, false}, {4, 0, false}, {0, 4, false}} {
		if comp.Leads(x, c.a, c.b) != c.is {
			t.Error(c)
		}
	}
	none(t, "behind", x, append(odd(), 5, 6, 63)...)
}

// TestRing: P13.2: a number alone is a ring just if it leads to itself.
func TestRing(t *testing.T) {
	x := [][]int{{0}, nil, {3}, {2}, {5}, {6}, {4, 7}, nil, {1, 2, 4}}
	for a, want := range []bool{true, false, true, true, true, true, true, false, false} {
		if comp.Ring(x, a) != want {
			t.Error(a)
		}
	}
	holds(t, x)
	none(t, "behind", x, append(odd(), 9, 10, 63)...)
}

// TestNoNumbers: P13.1 to P13.3, R6: a graph of no numbers is right, and has no parts.
func TestNoNumbers(t *testing.T) {
	for _, x := range [][][]int{nil, {}, make([][]int, 0, 5)} {
		if !comp.Right(x) || len(comp.Parts(x)) != 0 || len(comp.Turn(x)) != 0 {
			t.Error(x)
		}
		none(t, "no numbers", x, append(odd(), 0, 1, 63)...)
	}
	// A row without elements and a nil one are one.
	x, y := [][]int{{}, {0}, {}}, [][]int{nil, {0}, nil}
	holds(t, x)
	if !same(comp.Parts(x), comp.Parts(y)) || !same(comp.Turn(x), comp.Turn(y)) {
		t.Error(x, y)
	}
}

// TestSmall: P13.1 to P13.4: all graphs of up to four numbers.
func TestSmall(t *testing.T) {
	for many := range 5 {
		for bits := range 1 << (many * many) {
			x := graphed(many, func(a, b int) bool { return bits>>(a*many+b)&1 > 0 })
			holds(t, x)
			// Every tenth is enough of the greatest ones: what follows asks much.
			if many < 4 || bits%10 == 7 {
				follows(t, x)
			}
		}
	}
}

// TestMany: P13.1 to P13.4: graphs without a plan, of many sizes, thin ones and thick ones.
func TestMany(t *testing.T) {
	roll := dice()
	parts, rings, other := 0, 0, 0
	for i := range 300 {
		many := 1 + i%comp.MaxPoints
		thin := 1 + roll(2*many)
		rank := make([]int, many)
		for a := range rank {
			rank[a] = roll(1 + many/3)
		}
		// All lead down the ranks, or, more of them, within one: else nearly all would be together, or none.
		x := graphed(many, func(a, b int) bool {
			return rank[a] > rank[b] && roll(thin) == 0 || rank[a] == rank[b] && roll(4) == 0
		})
		l := holds(t, x)
		follows(t, x)
		if len(l.parts) > 2 {
			parts++
		}
		if slices.ContainsFunc(l.parts, func(part []int) bool { return len(part) > 1 }) {
			rings++
		}
		if !slices.IsSortedFunc(l.parts, slices.Compare[[]int]) {
			other++
		}
	}
	if parts < 100 || rings < 100 || other < 100 {
		t.Error("few graphs that tell: ", parts, rings, other)
	}
}

// TestLimits: P13.1 to P13.4: as many numbers as there may be, in rows and rings, with all links and with none; one more is too many.
func TestLimits(t *testing.T) {
	const most = comp.MaxPoints
	if most != 64 {
		t.Fatal(most)
	}
	for what, c := range map[string]struct {
		does  func(a, b int) bool
		parts int
	}{
		"none":          {func(a, b int) bool { return false }, 64},
		"itself":        {func(a, b int) bool { return a == b }, 64},
		"all":           {func(a, b int) bool { return true }, 1},
		"all but":       {func(a, b int) bool { return a != b }, 1},
		"a ring":        {func(a, b int) bool { return b == (a+1)%64 }, 1},
		"a ring back":   {func(a, b int) bool { return a == (b+1)%64 }, 1},
		"a ring by 27":  {func(a, b int) bool { return b == (a+27)%64 }, 1},
		"rings by 24":   {func(a, b int) bool { return b == (a+24)%64 }, 8},
		"a row":         {func(a, b int) bool { return b == a+1 }, 64},
		"a row back":    {func(a, b int) bool { return a == b+1 }, 64},
		"all below":     {func(a, b int) bool { return b < a }, 64},
		"all above":     {func(a, b int) bool { return b > a }, 64},
		"pairs in rows": {func(a, b int) bool { return a/2 == b/2 || b == a+2 }, 32},
		"one for all":   {func(a, b int) bool { return a == 0 && b > 0 }, 64},
		"all for one":   {func(a, b int) bool { return a < 63 && b == 63 }, 64},
	} {
		x := graphed(most, c.does)
		if l := holds(t, x); len(l.parts) != c.parts {
			t.Error(what, len(l.parts))
		}
		follows(t, x)
		none(t, what, x, odd()...)
		nothing(t, what, append(x, nil))
		nothing(t, what, graphed(most+1, c.does))
	}
	if x := graphed(most, func(a, b int) bool { return b == a+1 }); !comp.Leads(x, 0, 63) || comp.Leads(x, 63, 0) || comp.Part(x, 0) != 63 || comp.Ring(x, 63) {
		t.Error("a row")
	}
}

// TestOthers: P13.1 to P13.3: graphs that are not right, though some of their rows would do.
func TestOthers(t *testing.T) {
	for what, x := range map[string][][]int{
		"falls":          {{1, 0}, {0}, {0}},
		"twice":          {{0, 0}, {1}, {2}},
		"twice behind":   {{0, 1, 1}, {0}, nil},
		"falls behind":   {{0, 2, 1}, {0}, nil},
		"the last row":   {{0}, {1}, {2, 1}},
		"behind":         {{1, 3}, {0}, {0}},
		"behind alone":   {{1}},
		"far behind":     {{0, math.MaxInt}, {0}, nil},
		"below":          {{-1, 0}, {0}, nil},
		"below alone":    {{-1}},
		"far below":      {{math.MinInt, 0}, {0}, nil},
		"in the last":    {{0}, {1}, {2, 3}},
		"64 behind":      {{0}, {1}, {64}},
		"long":           {slices.Repeat([]int{0}, 1000), {0}, nil},
		"65 rows":        make([][]int, 65),
		"65 with a ring": append(make([][]int, 64), []int{64}),
		"1000 rows":      slices.Repeat([][]int{{0}}, 1000),
	} {
		nothing(t, what, x)
	}
	// A row in the midst of many good ones.
	for _, bad := range [][]int{{5, 5}, {5, 4}, {-1, 4}, {4, 64}} {
		x := graphed(comp.MaxPoints, func(a, b int) bool { return (a+b)%3 == 0 })
		holds(t, x)
		x[40] = bad
		nothing(t, "in the midst", x)
	}
}

// TestNothingChanged: R3, R4: a graph is as it was, even behind its rows' ends; what is told is new memory, and alike each time.
func TestNothingChanged(t *testing.T) {
	x := [][]int{{1, 3}, {2}, {1, 2}, {3}, {0, 1, 4}, {4, 6}, {5}}
	want := cloned(x)
	for a, row := range x {
		x[a] = append(row, 77, 78)[:len(row)]
	}
	x = append(x, []int{79})[:len(x)]
	for range 2 {
		for _, tell := range []func() [][]int{func() [][]int { return comp.Parts(x) }, func() [][]int { return comp.Turn(x) }} {
			l, kept := tell(), cloned(tell())
			for n, row := range l {
				if !same(l[n:], kept[n:]) {
					t.Fatal("shared: ", l, kept)
				}
				clear(row[:cap(row)])
			}
			clear(l[:cap(l)])
			if again := tell(); !same(again, kept) {
				t.Error("not alike: ", again, kept)
			}
		}
		holds(t, x)
	}
	if !same(x, want) || x[:8][7][0] != 79 {
		t.Error("changed: ", x)
	}
	for a, row := range x {
		if behind := row[len(row) : len(row)+2]; !slices.Equal(behind, []int{77, 78}) {
			t.Error("changed behind: ", a, behind)
		}
	}
	// What was told of a graph is not kept: changed, it is asked anew.
	x[2] = nil
	holds(t, x)
	if comp.Ring(x, 1) || !comp.Leads(x, 5, 1) {
		t.Error("kept: ", x)
	}
}
