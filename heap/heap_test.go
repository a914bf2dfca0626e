package heap_test

import (
	"math"
	"slices"
	"testing"

	"seedling/api"
	"seedling/heap"
)

// plain is what a queue has to be, as the chapter's words have it: a row of things in the order of their turns, that is searched each time.
type plain struct{ row []heap.Item }

// place is where the thing of a name stands; -1, if there is none.
func (p *plain) place(name int) int {
	return slices.IndexFunc(p.row, func(x heap.Item) bool { return x.Name == name })
}

// first is where the first thing stands; -1, if there is none.
func (p *plain) first() int {
	at := -1
	for n, x := range p.row {
		if at < 0 || x.Key < p.row[at].Key {
			at = n
		}
	}
	return at
}

// put says what the chapter's words do.
func (p *plain) put(l []heap.Item) api.Errno {
	for _, x := range l {
		if p.place(x.Name) >= 0 {
			return api.ErrTwice
		}
		p.row = append(p.row, x)
	}
	return api.OK
}

// take says what the chapter's words do.
func (p *plain) take() (heap.Item, bool) {
	at := p.first()
	if at < 0 {
		return heap.Item{}, false
	}
	x := p.row[at]
	p.row = slices.Delete(p.row, at, at+1)
	return x, true
}

// drop says what the chapter's words do.
func (p *plain) drop(name int) bool {
	at := p.place(name)
	if at < 0 {
		return false
	}
	p.row = slices.Delete(p.row, at, at+1)
	return true
}

// move says what the chapter's words do.
func (p *plain) move(name, key int) api.Errno {
	at := p.place(name)
	if at < 0 {
		return api.ErrNone
	}
	p.row[at].Key = key
	return api.OK
}

// copy is one that shares nothing with this one.
func (p *plain) copy() *plain { return &plain{slices.Clone(p.row)} }

// order are the things as they would be taken.
func (p *plain) order() []heap.Item {
	var l []heap.Item
	for rest := p.copy(); len(rest.row) > 0; {
		x, _ := rest.take()
		l = append(l, x)
	}
	return l
}

// made is a queue of some things.
func made(t *testing.T, l ...heap.Item) *heap.Queue {
	t.Helper()
	q, e := heap.New(l...)
	if q == nil || e != api.OK {
		t.Fatal("new", l, q, e)
	}
	return q
}

// taken are the things that are taken, till there is none.
func taken(t *testing.T, q *heap.Queue) []heap.Item {
	t.Helper()
	var l []heap.Item
	for n := q.Len(); ; n-- {
		if q.Len() != n {
			t.Fatal("len", q.Len(), "want", n)
		}
		x, is := q.Take()
		if !is {
			if x != (heap.Item{}) || n != 0 {
				t.Fatal("taken none", x, n)
			}
			return l
		}
		l = append(l, x)
	}
}

// names are those of a row of things.
func names(l []heap.Item) []int {
	var r []int
	for _, x := range l {
		r = append(r, x.Name)
	}
	return r
}

// odd are numbers that are seldom met, as keys and as names.
func odd() []int {
	return []int{math.MinInt, math.MinInt + 1, math.MinInt32, -1, 0, 1, math.MaxInt32, math.MaxInt - 1, math.MaxInt}
}

// check holds a queue against what it has to be, in all that it tells without a change.
func check(t *testing.T, q *heap.Queue, p *plain, some []int) {
	t.Helper()
	want := p.order()
	if q.Len() != len(want) {
		t.Fatal("len", q.Len(), "want", want)
	}
	x, is := q.First()
	if is != (len(want) > 0) || is && x != want[0] || !is && x != (heap.Item{}) {
		t.Fatal("first", x, is, "want", want)
	}
	if l := slices.Collect(q.All()); !slices.Equal(l, want) {
		t.Fatal("all", l, "want", want)
	}
	for _, name := range some {
		at, key := p.place(name), 0
		if at >= 0 {
			key = p.row[at].Key
		}
		if k, is := q.Key(name); k != key || is != (at >= 0) {
			t.Fatal("key", name, k, is, "want", want)
		}
	}
}

const ops = 20 // of step

// step does one thing, the same, to a queue and to what it has to be: the names are 1 to 3, the keys 0 to 2.
func step(t *testing.T, q *heap.Queue, p *plain, op int) {
	t.Helper()
	switch name, key := op%3+1, op/3%3; {
	case op < 9:
		l := []heap.Item{{Key: key, Name: name}}
		if e, f := q.Put(l...), p.put(l); e != f {
			t.Fatal("put", l, e, "want", f)
		}
	case op < 15:
		if e, f := q.Move(name, 2*key), p.move(name, 2*key); e != f {
			t.Fatal("move", name, 2*key, e, "want", f)
		}
	case op < 18:
		if is, want := q.Drop(name), p.drop(name); is != want {
			t.Fatal("drop", name, is, "want", want)
		}
	case op == 18:
		x, is := q.Take()
		if y, want := p.take(); x != y || is != want {
			t.Fatal("take", x, is, "want", y, want)
		}
	default:
		l := []heap.Item{{Key: 1, Name: 3}, {Key: 0, Name: 1}, {Key: 1, Name: 2}}
		if e, f := q.Put(l...), p.put(l); e != f {
			t.Fatal("put", l, e, "want", f)
		}
	}
}

// TestExample: the chapter's.
func TestExample(t *testing.T) {
	l := []heap.Item{{5, 1}, {3, 2}, {5, 3}, {3, 4}}
	if r := names(taken(t, made(t, l...))); !slices.Equal(r, []int{2, 4, 1, 3}) {
		t.Error(r)
	}
	q := made(t, l...)
	if e := q.Move(1, 9); e != api.OK {
		t.Error(e)
	}
	if r := names(taken(t, q)); !slices.Equal(r, []int{2, 4, 3, 1}) {
		t.Error(r)
	}
}

// TestSteps: P17.1 to P17.3: all rows of four steps; each goes on with a copy, and does nothing to what was copied.
func TestSteps(t *testing.T) {
	var on func(q *heap.Queue, p *plain, left int)
	on = func(q *heap.Queue, p *plain, left int) {
		some := []int{0, 1, 2, 3, 4}
		check(t, q, p, some)
		if left == 0 {
			return
		}
		for op := range ops {
			next, want := q.Copy(), p.copy()
			step(t, next, want, op)
			on(next, want, left-1)
		}
		check(t, q, p, some)
	}
	on(made(t), &plain{}, 4)
}

// TestLongSteps: P17.1 to P17.4: long rows of steps without a plan, of few names and many, of few keys and many, up to where all are taken.
func TestLongSteps(t *testing.T) {
	seed := uint64(17)
	roll := func(n int) int {
		seed = seed*6364136223846793005 + 1442695040888963407
		return int(seed>>33) % n
	}
	for round := range 240 {
		q, p := made(t), &plain{}
		most, keys := 1+roll(60), 1+roll(1+round%40)
		for range 300 {
			name, key := roll(most), roll(keys)-keys/2
			switch op := roll(12); {
			case op < 5:
				l := []heap.Item{{key, name}, {roll(keys), roll(most)}, {key, roll(most)}}[:roll(4)]
				if e, f := q.Put(l...), p.put(l); e != f {
					t.Fatal("put", l, e, "want", f)
				}
			case op < 8:
				if e, f := q.Move(name, key), p.move(name, key); e != f {
					t.Fatal("move", name, key, e, "want", f)
				}
			case op < 10:
				if is, want := q.Drop(name), p.drop(name); is != want {
					t.Fatal("drop", name, is, "want", want)
				}
			case op < 11:
				x, is := q.Take()
				if y, want := p.take(); x != y || is != want {
					t.Fatal("take", x, is, "want", y, want)
				}
			default:
				q = q.Copy()
			}
			check(t, q, p, []int{name, roll(most), most, -1})
		}
		if l, want := taken(t, q), p.order(); !slices.Equal(l, want) {
			t.Fatal(l, "want", want)
		}
	}
}

// TestOrders: P17.4: seven things, of all rows of three keys: they come by keys, those of one key as they were put.
func TestOrders(t *testing.T) {
	const keys, most = 3, 7
	for number := range keys * keys * keys * keys * keys * keys * keys {
		var l, want []heap.Item
		for name, rest := 0, number; name < most; name, rest = name+1, rest/keys {
			l = append(l, heap.Item{Key: rest % keys, Name: -name})
		}
		for key := range keys {
			for _, x := range l {
				if x.Key == key {
					want = append(want, x)
				}
			}
		}
		if r := taken(t, made(t, l...)); !slices.Equal(r, want) {
			t.Fatal(l, r, want)
		}
		q := made(t)
		for _, x := range l {
			if e := q.Put(x); e != api.OK {
				t.Fatal(x, e)
			}
		}
		if r := slices.Collect(q.All()); !slices.Equal(r, want) {
			t.Fatal(l, r, want)
		}
	}
}

// TestNew: P17.1: each an own one; none, if two things have one name.
func TestNew(t *testing.T) {
	for _, l := range [][]heap.Item{
		{{1, 1}, {1, 1}},
		{{1, 1}, {2, 1}},
		{{1, 7}, {2, 8}, {0, 7}},
		{{1, 7}, {2, 8}, {0, 8}, {0, 9}},
		{{0, 0}, {0, 1}, {0, math.MinInt}, {5, math.MinInt}},
	} {
		if q, e := heap.New(l...); q != nil || e != api.ErrTwice {
			t.Error(l, q, e)
		}
	}
	check(t, made(t), &plain{}, odd())
	check(t, made(t, []heap.Item{}...), &plain{}, odd())
	a, b := made(t), made(t)
	if a == b {
		t.Fatal("one queue")
	}
	a.Put(heap.Item{Key: 1, Name: 2})
	check(t, b, &plain{}, []int{2})
	check(t, a, &plain{[]heap.Item{{1, 2}}}, []int{1, 2})
}

// TestPutTwice: P17.1: at the first name that the queue has already it ends; what stands ahead of it stays put, and what stands behind it is not put.
func TestPutTwice(t *testing.T) {
	for i, c := range []struct {
		l    []heap.Item
		e    api.Errno
		want []heap.Item
	}{
		{nil, api.OK, []heap.Item{{4, 1}, {4, 2}}},
		{[]heap.Item{{4, 3}, {1, 4}}, api.OK, []heap.Item{{1, 4}, {4, 1}, {4, 2}, {4, 3}}},
		{[]heap.Item{{1, 1}, {1, 3}}, api.ErrTwice, []heap.Item{{4, 1}, {4, 2}}},
		{[]heap.Item{{4, 2}}, api.ErrTwice, []heap.Item{{4, 1}, {4, 2}}},
		{[]heap.Item{{5, 3}, {1, 2}, {0, 4}}, api.ErrTwice, []heap.Item{{4, 1}, {4, 2}, {5, 3}}},
		{[]heap.Item{{5, 3}, {1, 4}, {0, 3}, {0, 5}}, api.ErrTwice, []heap.Item{{1, 4}, {4, 1}, {4, 2}, {5, 3}}},
		{[]heap.Item{{5, 3}, {5, 3}}, api.ErrTwice, []heap.Item{{4, 1}, {4, 2}, {5, 3}}},
	} {
		q := made(t, heap.Item{Key: 4, Name: 1}, heap.Item{Key: 4, Name: 2})
		if e := q.Put(c.l...); e != c.e {
			t.Error(i, e)
		}
		if l := taken(t, q); !slices.Equal(l, c.want) {
			t.Error(i, l)
		}
	}
}

// TestTurns: P17.1, P17.2: a name that is free again gets a new turn, a refused one changes none, and what was moved keeps its own.
func TestTurns(t *testing.T) {
	for i, c := range []struct {
		do   func(q *heap.Queue)
		want []int
	}{
		{func(q *heap.Queue) {}, []int{1, 2, 3}},
		{func(q *heap.Queue) { q.Drop(1); q.Put(heap.Item{Name: 1}) }, []int{2, 3, 1}},
		{func(q *heap.Queue) { q.Take(); q.Put(heap.Item{Name: 1}) }, []int{2, 3, 1}},
		{func(q *heap.Queue) { q.Drop(2); q.Put(heap.Item{Name: 4}, heap.Item{Name: 2}) }, []int{1, 3, 4, 2}},
		{func(q *heap.Queue) { q.Put(heap.Item{Name: 1}) }, []int{1, 2, 3}},
		{func(q *heap.Queue) { q.Put(heap.Item{Name: 4}, heap.Item{Name: 1}); q.Move(4, 0) }, []int{1, 2, 3, 4}},
		{func(q *heap.Queue) { q.Move(1, 0) }, []int{1, 2, 3}},
		{func(q *heap.Queue) { q.Move(1, 5); q.Move(1, 0) }, []int{1, 2, 3}},
		{func(q *heap.Queue) { q.Move(3, -5); q.Move(3, 0) }, []int{1, 2, 3}},
		{func(q *heap.Queue) { q.Move(2, 5); q.Put(heap.Item{Key: 5, Name: 4}); q.Move(3, 5) }, []int{1, 2, 3, 4}},
		{func(q *heap.Queue) { q.Put(heap.Item{Key: 5, Name: 4}); q.Move(1, 5) }, []int{2, 3, 1, 4}},
		{func(q *heap.Queue) { q.Put(heap.Item{Key: -5, Name: 4}); q.Move(4, 0) }, []int{1, 2, 3, 4}},
		{func(q *heap.Queue) { q.Take(); q.Take(); q.Take(); q.Put(heap.Item{Name: 9}, heap.Item{Name: 8}) }, []int{9, 8}},
	} {
		q := made(t, heap.Item{Name: 1}, heap.Item{Name: 2}, heap.Item{Name: 3})
		c.do(q)
		if l := names(taken(t, q)); !slices.Equal(l, c.want) {
			t.Error(i, l)
		}
	}
}

// TestOdd: P17.1 to P17.4: the least and greatest numbers, as keys and as names, in each of two orders.
func TestOdd(t *testing.T) {
	numbers := odd()
	for _, back := range []bool{false, true} {
		if back {
			slices.Reverse(numbers)
		}
		q, p := made(t), &plain{}
		for i, n := range numbers {
			l := []heap.Item{{Key: n, Name: numbers[len(numbers)-1-i]}}
			if e, f := q.Put(l...), p.put(l); e != f {
				t.Fatal(e, f)
			}
			check(t, q, p, numbers)
		}
		for _, name := range numbers {
			for _, key := range numbers {
				if e, f := q.Move(name, key), p.move(name, key); e != f {
					t.Fatal(e, f)
				}
				check(t, q, p, numbers)
			}
		}
		for _, name := range numbers {
			for _, want := range []bool{true, false} {
				if is := q.Drop(name); is != want {
					t.Fatal(name, is)
				}
				p.drop(name)
				check(t, q, p, numbers)
			}
			if e := q.Move(name, name); e != api.ErrNone {
				t.Fatal(name, e)
			}
		}
	}
}

// TestNoThing: P17.2: names that no thing has, of queues with things and without.
func TestNoThing(t *testing.T) {
	for _, l := range [][]heap.Item{nil, {{0, 3}}, {{3, 4}, {0, 5}, {3, 3}}} {
		q, p := made(t, l...), &plain{slices.Clone(l)}
		for _, name := range append(odd(), 2, 6) {
			if q.Drop(name) {
				t.Error("dropped", name)
			}
			if e := q.Move(name, 7); e != api.ErrNone {
				t.Error("moved", name, e)
			}
			check(t, q, p, []int{name, 3, 4, 5})
		}
	}
	q := made(t)
	for range 3 {
		if x, is := q.Take(); is || x != (heap.Item{}) {
			t.Error("taken", x, is)
		}
		if x, is := q.First(); is || x != (heap.Item{}) {
			t.Error("first", x, is)
		}
	}
	q.Put(heap.Item{Key: 6, Name: 7})
	check(t, q, &plain{[]heap.Item{{6, 7}}}, []int{6, 7})
}

// TestGone: P17.2, P17.4: what was dropped or taken never comes, and its name is free.
func TestGone(t *testing.T) {
	const most = 9
	for name := range most {
		var l []heap.Item
		for n := range most {
			l = append(l, heap.Item{Key: (n * 4) % most, Name: n})
		}
		q, p := made(t, l...), &plain{slices.Clone(l)}
		if !q.Drop(name) || q.Drop(name) {
			t.Error("drop", name)
		}
		p.drop(name)
		check(t, q, p, []int{name})
		if e := q.Move(name, 0); e != api.ErrNone {
			t.Error("move", name, e)
		}
		x, is := q.Take()
		if y, _ := p.take(); !is || x != y {
			t.Error("take", x, y)
		}
		if _, is := q.Key(x.Name); is || q.Drop(x.Name) {
			t.Error("taken is there", x)
		}
		again := []heap.Item{{100, name}, {-1, x.Name}}
		if e := q.Put(again...); e != api.OK {
			t.Error("put", again, e)
		}
		p.put(again)
		check(t, q, p, []int{name, x.Name})
		if l, want := taken(t, q), p.order(); !slices.Equal(l, want) {
			t.Error(l, want)
		}
	}
}

// TestAllOnTheWay: P17.3: it goes through those that there were when it began, whatever is done on the way.
func TestAllOnTheWay(t *testing.T) {
	for i, do := range []func(q *heap.Queue, x heap.Item){
		func(q *heap.Queue, x heap.Item) { q.Take() },
		func(q *heap.Queue, x heap.Item) { q.Drop(4); q.Drop(x.Name) },
		func(q *heap.Queue, x heap.Item) { q.Move(x.Name, 50); q.Move(3, -50) },
		func(q *heap.Queue, x heap.Item) { q.Put(heap.Item{Key: x.Key, Name: x.Name + 10}) },
		func(q *heap.Queue, x heap.Item) { q.Put(heap.Item{Key: -9, Name: 1 << 20 * x.Name}) },
		func(q *heap.Queue, x heap.Item) { q.Drop(x.Name); q.Put(x) },
		func(q *heap.Queue, x heap.Item) {
			for range q.Len() {
				q.Take()
			}
		},
	} {
		q := made(t, heap.Item{Key: 5, Name: 1}, heap.Item{Key: 3, Name: 2}, heap.Item{Key: 5, Name: 3}, heap.Item{Key: 3, Name: 4})
		var l []heap.Item
		for x := range q.All() {
			l = append(l, x)
			do(q, x)
		}
		if want := []heap.Item{{3, 2}, {3, 4}, {5, 1}, {5, 3}}; !slices.Equal(l, want) {
			t.Error(i, l)
		}
	}
}

// TestAllBegins: P17.3: it begins when it is gone through, not when it is asked for, and each time anew; it ends where the going stops, and nothing is gone for it.
func TestAllBegins(t *testing.T) {
	q, p := made(t), &plain{}
	all := q.All()
	for i, do := range []func(){
		func() {},
		func() { q.Put(heap.Item{Key: 2, Name: 1}); p.put([]heap.Item{{2, 1}}) },
		func() { q.Put(heap.Item{Key: 2, Name: 2}); p.put([]heap.Item{{2, 2}}) },
		func() { q.Put(heap.Item{Key: 1, Name: 3}); p.put([]heap.Item{{1, 3}}) },
		func() { q.Move(1, 0); p.move(1, 0) },
		func() { q.Drop(3); p.drop(3) },
		func() { q.Take(); p.take() },
	} {
		do()
		for range 2 {
			if l := slices.Collect(all); !slices.Equal(l, p.order()) {
				t.Error(i, l, p.order())
			}
		}
	}
	q = made(t, heap.Item{Key: 2, Name: 1}, heap.Item{Key: 1, Name: 2}, heap.Item{Key: 1, Name: 3})
	var l []int
	for x := range q.All() {
		for y := range q.All() {
			l = append(l, 10*x.Name+y.Name)
			if x == y {
				break
			}
		}
		if x.Name == 3 {
			break
		}
	}
	if !slices.Equal(l, []int{22, 32, 33}) || q.Len() != 3 {
		t.Error(l, q.Len())
	}
}

// TestCopy: P17.3: the same things and turns; what is done to one does nothing to the other one.
func TestCopy(t *testing.T) {
	l := []heap.Item{{2, 1}, {1, 2}, {2, 3}, {1, 4}}
	for i, do := range []func(q *heap.Queue){
		func(q *heap.Queue) { q.Put(heap.Item{Key: 1, Name: 5}, heap.Item{Key: 0, Name: 6}) },
		func(q *heap.Queue) { q.Take() },
		func(q *heap.Queue) { q.Drop(3) },
		func(q *heap.Queue) { q.Move(2, 7); q.Move(3, 0) },
		func(q *heap.Queue) {
			for range 4 {
				q.Take()
			}
			q.Put(heap.Item{Key: 8, Name: 2}, heap.Item{Key: 8, Name: 1})
		},
	} {
		for _, first := range []bool{true, false} {
			a := made(t, l...)
			b := a.Copy()
			if b == nil || b == a {
				t.Fatal("no copy")
			}
			if !first {
				a, b = b, a
			}
			do(a)
			check(t, b, &plain{slices.Clone(l)}, []int{1, 2, 3, 4, 5, 6})
			if r := names(taken(t, b)); !slices.Equal(r, []int{2, 4, 1, 3}) {
				t.Error(i, first, r)
			}
		}
	}
	q := made(t, l...)
	q.Drop(3)
	q.Put(heap.Item{Key: 2, Name: 3})
	q.Move(2, 2)
	c := q.Copy().Copy()
	for _, x := range []*heap.Queue{q, c} {
		if e := x.Put(heap.Item{Key: 2, Name: 5}); e != api.OK {
			t.Error(e)
		}
	}
	if a, b := names(taken(t, q)), names(taken(t, c)); !slices.Equal(a, []int{4, 1, 2, 3, 5}) || !slices.Equal(a, b) {
		t.Error(a, b)
	}
	check(t, made(t).Copy(), &plain{}, odd())
}

// noQueues are some that neither New nor Copy answered.
func noQueues(t *testing.T) map[string]*heap.Queue {
	q := made(t, heap.Item{Key: 1, Name: 2}, heap.Item{Key: 0, Name: 1})
	twice, _ := heap.New(heap.Item{Name: 1}, heap.Item{Name: 1})
	var none *heap.Queue
	copied, onto := *q, made(t, heap.Item{Name: 1})
	*onto = *q
	return map[string]*heap.Queue{
		"nil":          nil,
		"of twice":     twice,
		"not of New":   {},
		"copied":       &copied,
		"put onto":     onto,
		"copy of none": none.Copy(),
		"copy of such": (&copied).Copy(),
	}
}

// TestNoQueue: P17.3, R5: of nil, and of one that was not answered.
func TestNoQueue(t *testing.T) {
	for name, q := range noQueues(t) {
		for range 2 {
			for _, l := range [][]heap.Item{nil, {{1, 7}}, {{1, 1}, {2, 1}}} {
				if e := q.Put(l...); e != api.ErrNil {
					t.Error(name, "put", l, e)
				}
			}
			for _, n := range append(odd(), 2, 7) {
				if q.Drop(n) {
					t.Error(name, "drop", n)
				}
				if e := q.Move(n, n); e != api.ErrNil {
					t.Error(name, "move", n, e)
				}
				if k, is := q.Key(n); k != 0 || is {
					t.Error(name, "key", n, k, is)
				}
			}
			if x, is := q.First(); is || x != (heap.Item{}) {
				t.Error(name, "first", x, is)
			}
			if x, is := q.Take(); is || x != (heap.Item{}) {
				t.Error(name, "take", x, is)
			}
			all := q.All()
			if all == nil {
				t.Fatal(name, "nothing to go through")
			}
			if l := slices.Collect(all); len(l) != 0 || q.Len() != 0 || q.Copy() != nil {
				t.Error(name, l, q.Len(), q.Copy())
			}
		}
	}
}

// TestValue: R1, R5: what is asked of a copied value does nothing to the queue, and one that is put back takes nothing back.
func TestValue(t *testing.T) {
	q, p := made(t), &plain{}
	old := *q
	l := []heap.Item{{2, 1}, {1, 2}, {1, 3}}
	q.Put(l...)
	p.put(l)
	old.Put(heap.Item{Name: 9})
	old.Take()
	old.Drop(1)
	old.Move(2, 5)
	check(t, q, p, []int{1, 2, 3, 9})
	*q = old
	check(t, q, p, []int{1, 2, 3, 9})
	step(t, q, p, 18)
	step(t, q, p, 15)
	check(t, q, p, []int{1, 2, 3, 9})
}

// TestArgumentsStay: R3: what is handed in stays as it was, and is not kept.
func TestArgumentsStay(t *testing.T) {
	l := []heap.Item{{5, 1}, {3, 2}, {5, 3}, {3, 4}, {0, 5}}
	was := slices.Clone(l)
	q, p := made(t, l[:3]...), &plain{slices.Clone(l)}
	q.Put(l[3:]...)
	a, b := made(t, l...), made(t, l...)
	a.Move(1, -1)
	taken(t, a)
	b.Put(heap.Item{Key: 9, Name: 9})
	if !slices.Equal(l, was) {
		t.Error("an argument was changed", l)
	}
	clear(l)
	check(t, q, p, []int{0, 1, 2, 3, 4, 5})
}

// TestOften: P17.4: many things, put, moved and dropped; they come by keys, those of one key as they were put.
func TestOften(t *testing.T) {
	const most, keys = 1 << 17, 1 << 10
	q := made(t)
	for n := range most {
		if e := q.Put(heap.Item{Key: n * 7919 % keys, Name: n}); e != api.OK {
			t.Fatal(n, e)
		}
	}
	for n := 0; n < most; n += 3 {
		if e := q.Move(n, keys-n*31%keys); e != api.OK {
			t.Fatal(n, e)
		}
	}
	for n := 1; n < most; n += 3 {
		if !q.Drop(n) {
			t.Fatal(n)
		}
	}
	var want []heap.Item
	for n := range most {
		switch n % 3 {
		case 0:
			want = append(want, heap.Item{Key: keys - n*31%keys, Name: n})
		case 2:
			want = append(want, heap.Item{Key: n * 7919 % keys, Name: n})
		}
	}
	slices.SortStableFunc(want, func(a, b heap.Item) int { return a.Key - b.Key })
	if l := slices.Collect(q.All()); !slices.Equal(l, want) {
		t.Error("all")
	}
	if l := taken(t, q); !slices.Equal(l, want) {
		t.Error("taken")
	}
}
