package class_test

import (
	"math"
	"slices"
	"testing"

	"seedling/api"
	"seedling/class"
)

// plain is a set of bytes told in the simplest way, to hold classes against.
type plain [256]bool

// plainOf tells a class by its bits, as the chapter's words have it.
func plainOf(c api.Class) plain {
	var p plain
	for b := range p {
		p[b] = c[b/64]&(1<<(b%64)) != 0
	}
	return p
}

// runsOf tells runs by looking at each byte and its neighbours.
func runsOf(p plain) [][2]byte {
	var l [][2]byte
	for b := range p {
		if p[b] && (b == 0 || !p[b-1]) {
			last := b
			for last < 255 && p[last+1] {
				last++
			}
			l = append(l, [2]byte{byte(b), byte(last)})
		}
	}
	return l
}

// mixed are classes of all sorts: none, all, edges of words, single bytes, and some without a plan, the same ones each time.
func mixed() []api.Class {
	all := ^uint64(0)
	l := []api.Class{
		{},
		{all, all, all, all},
		{1},
		{0, 0, 0, 1 << 63},
		{1, 1, 1, 1<<63 | 1},
		{1 << 63, 1},
		{1 << 63, all, 1},
		{0, 1 << 63, 1},
		{0x5555555555555555, 0xaaaaaaaaaaaaaaaa, 0x5555555555555555, 0xaaaaaaaaaaaaaaaa},
		{all, 0, all, 0},
		{0, all, 0, all},
		{all, all, all, all >> 1},
		{all - 1, all, all, all},
	}
	x := uint64(7)
	for range 40 {
		var c api.Class
		for i := range c {
			x = x*6364136223846793005 + 1442695040888963407
			c[i] = x ^ x>>29
		}
		l = append(l, c)
	}
	return l
}

// TestOf: P1.1, of none, of one, of each byte, of some twice, in any order.
func TestOf(t *testing.T) {
	if c := class.Of(); c != (api.Class{}) {
		t.Error("of none", c)
	}
	for b := range 256 {
		var want api.Class
		want[b/64] = 1 << (b % 64)
		if c := class.Of(byte(b)); c != want {
			t.Error("of one", b, c)
		}
		var twice plain
		twice['q'], twice[b] = true, true
		if c := class.Of(byte(b), 'q', byte(b)); plainOf(c) != twice {
			t.Error("of some twice", b, c)
		}
	}
	var want plain
	want[0], want[63], want[64], want['c'], want[255] = true, true, true, true, true
	if c := class.Of(255, 'c', 63, 0, 64, 'c', 0); plainOf(c) != want {
		t.Error("of some", c)
	}
}

// TestRange: P1.1, from each byte to each byte, also from above to.
func TestRange(t *testing.T) {
	for from := range 256 {
		for to := range 256 {
			var want plain
			for b := from; b <= to; b++ {
				want[b] = true
			}
			c := class.Range(byte(from), byte(to))
			if plainOf(c) != want {
				t.Fatal(from, to, c)
			}
			if from > to && c != (api.Class{}) {
				t.Fatal("from above to", from, to, c)
			}
		}
	}
}

// TestHasAndLen: P1.1, of each byte and class.
func TestHasAndLen(t *testing.T) {
	for i, c := range mixed() {
		n := 0
		for b, is := range plainOf(c) {
			if class.Has(c, byte(b)) != is {
				t.Error("has", i, b)
			}
			if is {
				n++
			}
		}
		if class.Len(c) != n {
			t.Error("len", i, class.Len(c), n)
		}
	}
	if class.Len(api.Class{}) != 0 || class.Len(class.Not(api.Class{})) != 256 || class.Len(class.Of(3, 3, 200)) != 2 {
		t.Error("len of none, of all, of two")
	}
}

// TestNot: P1.2, and twice.
func TestNot(t *testing.T) {
	for i, c := range mixed() {
		had, not := plainOf(c), plainOf(class.Not(c))
		for b := range had {
			if had[b] == not[b] {
				t.Error(i, b)
			}
		}
		if class.Not(class.Not(c)) != c || class.Len(c)+class.Len(class.Not(c)) != 256 {
			t.Error("twice", i)
		}
	}
}

// TestOrAnd: P1.2, of none, of one, of two, of many.
func TestOrAnd(t *testing.T) {
	none, all := api.Class{}, class.Range(0, 255)
	if class.Or() != none || class.And() != all || class.Or(nil...) != none || class.And(nil...) != all {
		t.Error("of none")
	}
	l := mixed()
	for i, a := range l {
		if class.Or(a) != a || class.And(a) != a {
			t.Error("of one", i)
		}
		for k, b := range l {
			or, and := plainOf(class.Or(a, b)), plainOf(class.And(a, b))
			for x := range 256 {
				if or[x] != (class.Has(a, byte(x)) || class.Has(b, byte(x))) || and[x] != (class.Has(a, byte(x)) && class.Has(b, byte(x))) {
					t.Fatal("of two", i, k, x)
				}
			}
		}
	}
	var ones, holes []api.Class
	for b := range 256 {
		ones = append(ones, class.Of(byte(b)))
		holes = append(holes, class.Not(class.Of(byte(b))))
	}
	if class.Or(ones...) != all || class.And(ones...) != none || class.Or(holes...) != all || class.And(holes...) != none {
		t.Error("of all bytes")
	}
	if class.Or(ones[1:]...) != holes[0] || class.And(holes[:255]...) != ones[255] {
		t.Error("of all bytes but one")
	}
	if class.Or(l[2], l[3], l[4]) != class.Of(0, 64, 128, 192, 255) {
		t.Error("of three")
	}
}

// TestRuns: P1.3 and the chapter's example.
func TestRuns(t *testing.T) {
	for i, c := range mixed() {
		if got, want := class.Runs(c), runsOf(plainOf(c)); !slices.Equal(got, want) {
			t.Error(i, got, want)
		}
	}
	x := class.Of('a', 'b', 'c', 'x')
	if l := class.Runs(x); !slices.Equal(l, [][2]byte{{'a', 'c'}, {'x', 'x'}}) {
		t.Error("example", l)
	}
	if l := class.Runs(class.Not(x)); !slices.Equal(l, [][2]byte{{0, 'a' - 1}, {'d', 'w'}, {'y', 255}}) {
		t.Error("example, not", l)
	}
	if l := class.Runs(api.Class{}); len(l) != 0 {
		t.Error("of none", l)
	}
	if l := class.Runs(class.Range(0, 255)); !slices.Equal(l, [][2]byte{{0, 255}}) {
		t.Error("of all", l)
	}
	if l := class.Runs(class.Of(0, 255)); !slices.Equal(l, [][2]byte{{0, 0}, {255, 255}}) {
		t.Error("of both ends", l)
	}
}

// TestFrom: P1.3, of none, in any order, meeting, touching, wrong ones (from above to) too.
func TestFrom(t *testing.T) {
	for i, c := range []struct {
		runs [][2]byte
		want api.Class
	}{
		{nil, api.Class{}},
		{[][2]byte{{'a', 'c'}}, class.Of('a', 'b', 'c')},
		{[][2]byte{{'x', 'x'}, {'a', 'c'}}, class.Of('a', 'b', 'c', 'x')},
		{[][2]byte{{'a', 'm'}, {'h', 'z'}}, class.Range('a', 'z')},
		{[][2]byte{{'a', 'm'}, {'n', 'z'}}, class.Range('a', 'z')},
		{[][2]byte{{'a', 'z'}, {'c', 'd'}, {'a', 'z'}}, class.Range('a', 'z')},
		{[][2]byte{{'z', 'a'}}, api.Class{}},
		{[][2]byte{{'z', 'a'}, {'b', 'b'}, {255, 0}}, class.Of('b')},
		{[][2]byte{{255, 255}, {0, 0}}, class.Of(0, 255)},
		{[][2]byte{{0, 255}}, class.Not(api.Class{})},
	} {
		if got := class.From(c.runs...); got != c.want {
			t.Error(i, got)
		}
	}
}

// TestNext: P1.3, of numbers that are bytes, and of any others.
func TestNext(t *testing.T) {
	for i, c := range mixed() {
		p := plainOf(c)
		for from := -3; from < 260; from++ {
			want, is := 0, false
			for b := 255; b >= max(from, 0); b-- {
				if p[b] {
					want, is = b, true
				}
			}
			if got, ok := class.Next(c, from); int(got) != want || ok != is {
				t.Fatal(i, from, got, ok)
			}
		}
		first, is := class.Next(c, 0)
		for _, from := range []int{-1, -256, math.MinInt32, math.MinInt + 1, math.MinInt} {
			if b, ok := class.Next(c, from); b != first || ok != is {
				t.Error("below 0", i, from, b, ok)
			}
		}
		for _, from := range []int{256, 257, 512, math.MaxInt32, math.MaxInt} {
			if b, ok := class.Next(c, from); b != 0 || ok {
				t.Error("above 255", i, from, b, ok)
			}
		}
	}
}

// TestWhatFollows: P1.4.
func TestWhatFollows(t *testing.T) {
	l := mixed()
	for i, c := range l {
		runs := class.Runs(c)
		if class.From(runs...) != c {
			t.Error("from of the runs", i)
		}
		for k, r := range runs {
			if r[0] > r[1] || k > 0 && int(r[0]) <= int(runs[k-1][1])+1 {
				t.Error("runs meet or touch", i, k, runs)
			}
		}
		for k, d := range l {
			if class.Not(class.Or(c, d)) != class.And(class.Not(c), class.Not(d)) || class.Not(class.And(c, d)) != class.Or(class.Not(c), class.Not(d)) {
				t.Error("not of or", i, k)
			}
		}
	}
	var nots []api.Class
	for _, c := range l[2:8] {
		nots = append(nots, class.Not(c))
	}
	if class.Not(class.Or(l[2:8]...)) != class.And(nots...) || class.Not(class.Or()) != class.And() {
		t.Error("not of or, of many and of none")
	}
}

// TestArgumentsStay: R3, R4: what is handed in stays as it was, what is handed out is new, and the same each time.
func TestArgumentsStay(t *testing.T) {
	bytes := []byte("cab")
	classes := []api.Class{class.Of('a'), class.Of('b')}
	runs := [][2]byte{{'x', 'z'}, {'a', 'c'}}
	class.Of(bytes...)
	class.Or(classes...)
	class.And(classes...)
	class.From(runs...)
	if string(bytes) != "cab" || !slices.Equal(classes, []api.Class{class.Of('a'), class.Of('b')}) || !slices.Equal(runs, [][2]byte{{'x', 'z'}, {'a', 'c'}}) {
		t.Error("an argument was changed")
	}
	c := class.From(runs...)
	first := class.Runs(c)
	first[0] = [2]byte{1, 2}
	if l := class.Runs(c); !slices.Equal(l, [][2]byte{{'a', 'c'}, {'x', 'z'}}) {
		t.Error("runs are shared", l)
	}
}
