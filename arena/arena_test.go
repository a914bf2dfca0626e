package arena_test

import (
	"math"
	"slices"
	"testing"

	"seedling/api"
	"seedling/arena"
)

// plain is what an arena has to be, as the chapter's words have it: a row that is never shared.
type plain struct {
	most, peak int
	things     []int
}

// put says what the chapter's words do.
func (p *plain) put(l []int) (int, api.Errno) {
	if len(p.things)+len(l) > p.most {
		return 0, api.ErrFull
	}
	first := len(p.things)
	p.things = slices.Concat(p.things, l)
	p.peak = max(p.peak, len(p.things))
	return first, api.OK
}

// set says what the chapter's words do.
func (p *plain) set(n, x int) api.Errno {
	if n < 0 || n >= len(p.things) {
		return api.ErrRange
	}
	p.things = slices.Clone(p.things)
	p.things[n] = x
	return api.OK
}

// back says what the chapter's words do.
func (p *plain) back(mark int) api.Errno {
	if mark < 0 || mark > len(p.things) {
		return api.ErrRange
	}
	p.things = slices.Clone(p.things[:mark])
	return api.OK
}

// pair is a thing and its number.
type pair[T any] struct {
	n int
	x T
}

// through are the things that All goes through, up to so many.
func through[T any](a *arena.Arena[T], most int) []pair[T] {
	var l []pair[T]
	for n, x := range a.All() {
		l = append(l, pair[T]{n, x})
		if len(l) >= most {
			break
		}
	}
	return l
}

// odd are numbers of no thing and no mark of any of the arenas.
func odd() []int {
	return []int{math.MinInt, math.MinInt + 1, math.MinInt32, -1000, -2, -1, 1 << 40, math.MaxInt - 1, math.MaxInt}
}

// check holds an arena against what it has to be, in all that it tells without a change.
func check(t *testing.T, a *arena.Arena[int], p *plain) {
	t.Helper()
	size := len(p.things)
	if a.Len() != size || a.Mark() != size || a.Left() != p.most-size || a.Peak() != p.peak {
		t.Fatal(a.Len(), a.Mark(), a.Left(), a.Peak(), "want", size, p.most, p.peak)
	}
	for n, want := range p.things {
		if x, is := a.At(n); x != want || !is {
			t.Fatal("at", n, x, is, "want", want)
		}
	}
	for _, n := range append(odd(), size, size+1, p.most, p.most+1) {
		if n >= 0 && n < size {
			continue
		}
		if x, is := a.At(n); x != 0 || is {
			t.Fatal("at none", n, x, is)
		}
	}
	for most := 1; most <= size+1; most++ {
		l := through(a, most)
		if len(l) != min(most, size) {
			t.Fatal("all", l, most, size)
		}
		for i, x := range l {
			if x.n != i || x.x != p.things[i] {
				t.Fatal("all", l, p.things)
			}
		}
	}
}

// step does one thing, the same, to an arena and to what it has to be.
func step(t *testing.T, a *arena.Arena[int], p *plain, op, x int) {
	t.Helper()
	switch op {
	case 0, 1, 2, 3:
		var l []int
		for i := range op {
			l = append(l, 10*x+i)
		}
		n, e := a.Put(l...)
		if m, f := p.put(l); n != m || e != f {
			t.Fatal("put", l, n, e, "want", m, f)
		}
	case 4, 5, 6:
		if e, f := a.Set(op-4, -x), p.set(op-4, -x); e != f {
			t.Fatal("set", op-4, e, "want", f)
		}
	default:
		if e, f := a.Back(op-8), p.back(op-8); e != f {
			t.Fatal("back", op-8, e, "want", f)
		}
	}
	check(t, a, p)
}

const ops = 13 // of step: Put of none to three, Set of the first three, Back to -1 to 4

// TestExample: the chapter's.
func TestExample(t *testing.T) {
	a := arena.New[string](3)
	if n, e := a.Put("a", "b"); n != 0 || e != api.OK {
		t.Error(n, e)
	}
	mark := a.Mark()
	if mark != 2 {
		t.Error(mark)
	}
	if n, e := a.Put("c"); n != 2 || e != api.OK {
		t.Error(n, e)
	}
	if n, e := a.Put("d"); n != 0 || e != api.ErrFull {
		t.Error(n, e)
	}
	if e := a.Back(mark); e != api.OK || a.Len() != 2 || a.Peak() != 3 {
		t.Error(e, a.Len(), a.Peak())
	}
}

// TestSteps: P5.1 to P5.3: all rows of four steps, in arenas for none to four things.
func TestSteps(t *testing.T) {
	for most := range 5 {
		for row := range ops * ops * ops * ops {
			a, p := arena.New[int](most), &plain{most: most}
			for x, rest := 1, row; x <= 4; x, rest = x+1, rest/ops {
				step(t, a, p, rest%ops, x)
			}
		}
	}
}

// TestLongSteps: P5.1 to P5.3: long rows of steps without a plan, in arenas for some things.
func TestLongSteps(t *testing.T) {
	seed := uint64(5)
	roll := func(n int) int {
		seed = seed*6364136223846793005 + 1442695040888963407
		return int(seed>>33) % n
	}
	for most := range 40 {
		a, p := arena.New[int](most), &plain{most: most}
		for x := 1; x <= 400; x++ {
			switch op := roll(10); {
			case op < 6:
				step(t, a, p, roll(4), x)
			case op < 9:
				n := roll(most+3) - 1
				if e, f := a.Set(n, -x), p.set(n, -x); e != f {
					t.Fatal("set", n, e, f)
				}
			default:
				n := roll(most+3) - 1
				if e, f := a.Back(n), p.back(n); e != f {
					t.Fatal("back", n, e, f)
				}
			}
			check(t, a, p)
		}
	}
}

// TestNew: P5.1: none below 0, each an own one, without things.
func TestNew(t *testing.T) {
	for _, most := range []int{-1, -2, math.MinInt32, math.MinInt} {
		if arena.New[int](most) != nil || arena.New[string](most) != nil {
			t.Error("an arena for", most)
		}
	}
	for _, most := range []int{0, 1, 2, 1 << 20, math.MaxInt32, math.MaxInt} {
		a := arena.New[int](most)
		if a == nil {
			t.Fatal("no arena for", most)
		}
		if a.Len() != 0 || a.Mark() != 0 || a.Left() != most || a.Peak() != 0 {
			t.Error(most, a.Len(), a.Mark(), a.Left(), a.Peak())
		}
		if l := through(a, 1); len(l) != 0 {
			t.Error(most, l)
		}
	}
	a, b := arena.New[int](2), arena.New[int](2)
	a.Put(7)
	if b.Len() != 0 || b.Peak() != 0 {
		t.Error("arenas share")
	}
}

// TestNoRoom: P5.1: an arena for no things takes none, and none is what may be put.
func TestNoRoom(t *testing.T) {
	a := arena.New[int](0)
	for range 2 {
		if n, e := a.Put(); n != 0 || e != api.OK {
			t.Error(n, e)
		}
		if n, e := a.Put(1); n != 0 || e != api.ErrFull {
			t.Error(n, e)
		}
		if e := a.Set(0, 1); e != api.ErrRange {
			t.Error(e)
		}
		if e := a.Back(0); e != api.OK {
			t.Error(e)
		}
		if e := a.Back(1); e != api.ErrRange {
			t.Error(e)
		}
		check(t, a, &plain{})
	}
}

// TestPut: P5.1: all of them or none, up to the last one that there is room for.
func TestPut(t *testing.T) {
	a, p := arena.New[int](4), &plain{most: 4}
	for i, c := range []struct {
		l []int
		n int
		e api.Errno
	}{
		{nil, 0, api.OK},
		{[]int{1, 2, 3, 4, 5}, 0, api.ErrFull},
		{[]int{1, 2}, 0, api.OK},
		{[]int{}, 2, api.OK},
		{[]int{3, 4, 5}, 0, api.ErrFull},
		{[]int{3}, 2, api.OK},
		{[]int{4, 5}, 0, api.ErrFull},
		{[]int{4}, 3, api.OK},
		{nil, 4, api.OK},
		{[]int{5}, 0, api.ErrFull},
	} {
		if n, e := a.Put(c.l...); n != c.n || e != c.e {
			t.Error(i, n, e)
		}
		p.put(c.l)
		check(t, a, p)
	}
}

// TestGreatest: P5.1, P5.2: where sums wrap round.
func TestGreatest(t *testing.T) {
	a := arena.New[struct{}](math.MaxInt)
	if n, e := a.Put(struct{}{}); n != 0 || e != api.OK {
		t.Error(n, e)
	}
	all := make([]struct{}, math.MaxInt)
	if n, e := a.Put(all...); n != 0 || e != api.ErrFull || a.Len() != 1 || a.Left() != math.MaxInt-1 || a.Peak() != 1 {
		t.Error(n, e, a.Len(), a.Left(), a.Peak())
	}
	if n, e := a.Put(all[1:]...); n != 1 || e != api.OK || a.Len() != math.MaxInt || a.Left() != 0 || a.Peak() != math.MaxInt {
		t.Error(n, e, a.Len(), a.Left(), a.Peak())
	}
	if n, e := a.Put(all...); n != 0 || e != api.ErrFull {
		t.Error(n, e)
	}
	if _, is := a.At(math.MaxInt - 1); !is {
		t.Error("not there")
	}
	if _, is := a.At(math.MaxInt); is {
		t.Error("there")
	}
	if e := a.Back(1); e != api.OK || a.Len() != 1 {
		t.Error(e, a.Len())
	}
}

// TestWrong: P5.1, P5.2: numbers of no thing and no mark change nothing.
func TestWrong(t *testing.T) {
	a, p := arena.New[int](5), &plain{most: 5}
	p.put([]int{1, 2, 3})
	a.Put(1, 2, 3)
	for _, n := range append(odd(), 3, 4, 5) {
		if e := a.Set(n, 9); e != api.ErrRange {
			t.Error("set", n, e)
		}
		check(t, a, p)
	}
	for _, n := range append(odd(), 4, 5, 6) {
		if e := a.Back(n); e != api.ErrRange {
			t.Error("back", n, e)
		}
		check(t, a, p)
	}
}

// TestGone: P5.1, P5.2: of what is gone there is nothing to be told, set or gone back to, and its numbers come again.
func TestGone(t *testing.T) {
	a := arena.New[int](3)
	a.Put(1, 2, 3)
	a.Back(1)
	for n := 1; n <= 3; n++ {
		if x, is := a.At(n); x != 0 || is {
			t.Error("at", n, x, is)
		}
		if e := a.Set(n, 9); e != api.ErrRange {
			t.Error("set", n, e)
		}
		if e := a.Back(n + 1); e != api.ErrRange {
			t.Error("back", n+1, e)
		}
	}
	if n, e := a.Put(4); n != 1 || e != api.OK {
		t.Error(n, e)
	}
	if l := through(a, 9); !slices.Equal(l, []pair[int]{{0, 1}, {1, 4}}) {
		t.Error(l)
	}
	if x, is := a.At(2); x != 0 || is {
		t.Error("what is gone is back", x, is)
	}
}

// TestPeak: P5.2: it never falls, and what is not put does not count.
func TestPeak(t *testing.T) {
	a := arena.New[int](5)
	for i, c := range []struct {
		back, put, peak int
	}{
		{0, 2, 2}, {0, 1, 2}, {0, 6, 2}, {0, 3, 3}, {1, 1, 3}, {2, 2, 4}, {4, 2, 4}, {4, 1, 5}, {0, 0, 5}, {0, 5, 5}, {5, 1, 5},
	} {
		a.Back(c.back)
		a.Put(make([]int, c.put)...)
		if a.Peak() != c.peak {
			t.Error(i, a.Peak(), c.peak)
		}
	}
}

// TestAllLater: P5.3: what is told is what is there when it is gone through, not when it was asked for, and each time anew.
func TestAllLater(t *testing.T) {
	a := arena.New[int](5)
	all := a.All()
	tell := func() []int {
		var l []int
		for n, x := range all {
			if n != len(l) {
				t.Error("number", n, len(l))
			}
			l = append(l, x)
		}
		return l
	}
	if l := tell(); len(l) != 0 {
		t.Error(l)
	}
	a.Put(1, 2, 3)
	if l := tell(); !slices.Equal(l, []int{1, 2, 3}) {
		t.Error(l)
	}
	a.Set(1, 7)
	a.Put(4)
	if l := tell(); !slices.Equal(l, []int{1, 7, 3, 4}) {
		t.Error(l)
	}
	a.Back(2)
	for range 2 {
		if l := tell(); !slices.Equal(l, []int{1, 7}) {
			t.Error(l)
		}
	}
}

// TestAllTurns: P5.3: each thing is as it is when it is its turn.
func TestAllTurns(t *testing.T) {
	a := arena.New[int](4)
	a.Put(1, 2, 3, 4)
	var l []int
	for n, x := range a.All() {
		l = append(l, x)
		a.Set(n, 50)
		a.Set(n+1, x+10)
	}
	if !slices.Equal(l, []int{1, 11, 21, 31}) {
		t.Error(l)
	}
	if l := through(a, 9); !slices.Equal(l, []pair[int]{{0, 50}, {1, 50}, {2, 50}, {3, 50}}) {
		t.Error(l)
	}
}

// TestAllWithin: P5.3: going through while it is gone through, stopping within and without.
func TestAllWithin(t *testing.T) {
	a := arena.New[int](3)
	a.Put(0, 1, 2)
	var l []int
	for n := range a.All() {
		for m, x := range a.All() {
			if m > n {
				break
			}
			l = append(l, 10*n+x)
		}
		if n == 1 {
			break
		}
	}
	if !slices.Equal(l, []int{0, 10, 11}) {
		t.Error(l)
	}
}

// TestAllEnds: R1: whatever is put, or goes, while it is gone through, it ends.
func TestAllEnds(t *testing.T) {
	a := arena.New[int](math.MaxInt)
	a.Put(1, 2, 3)
	turns := 0
	for range a.All() {
		a.Put(4, 5, 6)
		if turns++; turns > 1000 {
			t.Fatal("no end")
		}
	}
	for n := range a.All() {
		a.Back(n)
	}
	for range a.All() {
		a.Back(0)
	}
	if a.Len() != 0 {
		t.Error(a.Len())
	}
	a.Put(1, 2, 3, 4)
	for range a.All() {
		a.Back(1)
		a.Put(7)
	}
	check(t, a, &plain{most: math.MaxInt, peak: a.Peak(), things: []int{1, 7}})
}

// noArenas are some that New did not answer.
func noArenas() map[string]*arena.Arena[int] {
	a := arena.New[int](4)
	a.Put(1, 2)
	copied := *a
	return map[string]*arena.Arena[int]{
		"nil":        nil,
		"below 0":    arena.New[int](-1),
		"not of New": {},
		"copy":       &copied,
	}
}

// TestNoArena: P5.4, R5: of nil, and of one that New did not answer.
func TestNoArena(t *testing.T) {
	for name, a := range noArenas() {
		for range 2 {
			for _, l := range [][]int{nil, {1}, {1, 2, 3, 4, 5}} {
				if n, e := a.Put(l...); n != 0 || e != api.ErrNil {
					t.Error(name, "put", l, n, e)
				}
			}
			for _, n := range append(odd(), 0, 1, 2, 5) {
				if x, is := a.At(n); x != 0 || is {
					t.Error(name, "at", n, x, is)
				}
				if e := a.Set(n, 1); e != api.ErrNil {
					t.Error(name, "set", n, e)
				}
				if e := a.Back(n); e != api.ErrNil {
					t.Error(name, "back", n, e)
				}
			}
			if a.Len() != 0 || a.Left() != 0 || a.Mark() != 0 || a.Peak() != 0 {
				t.Error(name, a.Len(), a.Left(), a.Mark(), a.Peak())
			}
			if l := through(a, 9); len(l) != 0 {
				t.Error(name, l)
			}
		}
	}
}

// TestCopy: R5: what is asked of a copy does nothing to the arena.
func TestCopy(t *testing.T) {
	a, p := arena.New[int](4), &plain{most: 4}
	p.put([]int{1, 2})
	a.Put(1, 2)
	b := *a
	b.Set(0, 9)
	b.Put(9)
	b.Back(0)
	check(t, a, p)
	a.Put(3)
	p.put([]int{3})
	b.Put(9)
	check(t, a, p)
}

// TestWhatFollows: P5.5: behind Back all is as it was, but for what was Set since; Len and Left are together most.
func TestWhatFollows(t *testing.T) {
	const most = 6
	for size := range most + 1 {
		for more := range most - size + 1 {
			a, p := arena.New[int](most), &plain{most: most}
			for n := range size {
				step(t, a, p, 1, n+1)
			}
			mark := a.Mark()
			for n := range more {
				if a.Len()+a.Left() != most {
					t.Fatal(a.Len(), a.Left())
				}
				step(t, a, p, 1, 20+n)
			}
			for n := range size + more {
				if e, f := a.Set(n, 100+n), p.set(n, 100+n); e != f {
					t.Fatal(n, e, f)
				}
			}
			if e := a.Back(mark); e != api.OK || a.Len() != size || a.Left() != most-size || a.Peak() != size+more {
				t.Fatal(e, a.Len(), a.Left(), a.Peak())
			}
			p.back(size)
			check(t, a, p)
			if n, e := a.Put(-1); size < most && (n != size || e != api.OK) {
				t.Fatal(n, e)
			}
		}
	}
}

// TestArgumentsStay: R3: what is handed in stays as it was, and is not kept.
func TestArgumentsStay(t *testing.T) {
	l := []int{1, 2, 3, 4, 5, 6}
	a := arena.New[int](9)
	a.Put(l[:3]...)
	a.Put(7)
	a.Set(0, 8)
	a.Back(1)
	a.Put(9, 9)
	if !slices.Equal(l, []int{1, 2, 3, 4, 5, 6}) {
		t.Error("an argument was changed", l)
	}
	b := arena.New[int](9)
	b.Put(l...)
	clear(l)
	for n := range 6 {
		if x, is := b.At(n); x != n+1 || !is {
			t.Error("an argument was kept", n, x, is)
		}
	}
}

// hold puts things of one type, and tells them again.
func hold[T any](t *testing.T, same func(a, b T) bool, l ...T) {
	t.Helper()
	var zero T
	a := arena.New[T](len(l))
	if n, e := a.Put(l...); n != 0 || e != api.OK {
		t.Fatal(n, e)
	}
	for i, x := range through(a, len(l)+1) {
		if x.n != i || !same(x.x, l[i]) {
			t.Error(i, x)
		}
		if y, is := a.At(i); !is || !same(y, l[i]) {
			t.Error(i, y, is)
		}
	}
	if x, is := a.At(len(l)); is || !same(x, zero) {
		t.Error("none", x, is)
	}
	if n, e := a.Put(l[0]); n != 0 || e != api.ErrFull {
		t.Error(n, e)
	}
	if e := a.Set(0, zero); e != api.OK {
		t.Error(e)
	}
	if x, is := a.At(0); !is || !same(x, zero) {
		t.Error("zero", x, is)
	}
	var none *arena.Arena[T]
	if x, is := none.At(0); is || !same(x, zero) {
		t.Error("of none", x, is)
	}
}

// alike holds two things against each other.
func alike[T comparable](a, b T) bool { return a == b }

// TestTypes: P5.1 to P5.4, of things of some types.
func TestTypes(t *testing.T) {
	hold(t, alike, "a", "", "a", "b\x00")
	hold(t, alike, api.Twig{Rule: 1, Kids: 2}, api.Twig{}, api.Twig{Level: 3})
	hold(t, alike, [3]byte{1, 2, 3}, [3]byte{})
	hold(t, alike, new(int), nil, new(int))
	hold(t, alike, any(1), any("a"), nil)
	hold(t, alike, struct{}{}, struct{}{})
	hold(t, slices.Equal, []int{1, 2}, nil, []int{3})
	hold(t, func(a, b func() int) bool { return (a == nil) == (b == nil) }, func() int { return 1 })
}

// TestOften: P5.1 to P5.3: many things, one by one and many at once, gone back and forth.
func TestOften(t *testing.T) {
	const most = 1 << 18
	a := arena.New[int](most)
	for n := range most {
		if first, e := a.Put(n); first != n || e != api.OK {
			t.Fatal(n, first, e)
		}
		if mark := a.Mark(); n%1024 == 1023 {
			a.Back(mark - 512)
			a.Put(make([]int, 512)...)
			for m := mark - 512; m < mark; m++ {
				a.Set(m, m)
			}
		}
	}
	if n, e := a.Put(0); n != 0 || e != api.ErrFull {
		t.Error(n, e)
	}
	next := 0
	for n, x := range a.All() {
		if n != next || x != n {
			t.Fatal(n, x, next)
		}
		next++
	}
	if next != most || a.Peak() != most || a.Left() != 0 {
		t.Error(next, a.Peak(), a.Left())
	}
}
