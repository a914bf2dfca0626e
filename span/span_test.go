package span_test

import (
	"bytes"
	"math"
	"slices"
	"testing"

	"seedling/api"
	"seedling/span"
)

// most is behind all places that the tests count one by one.
const most = 40

// to is a span, right or not.
func to(from, to int) api.Span { return api.Span{From: from, To: to} }

// few are all spans between -1 and 4, right or not.
func few() []api.Span {
	var l []api.Span
	for from := -1; from <= 4; from++ {
		for end := -1; end <= 4; end++ {
			l = append(l, to(from, end))
		}
	}
	return l
}

// far are spans with the numbers at which sums and differences wrap round.
func far() []api.Span {
	ends := []int{math.MinInt, math.MinInt + 1, -1, 0, 1, math.MaxInt32, math.MaxInt - 1, math.MaxInt}
	var l []api.Span
	for _, from := range ends {
		for _, end := range ends {
			l = append(l, to(from, end))
		}
	}
	return l
}

// dice answers numbers below n without a plan, the same ones each time.
func dice() func(n int) int {
	x := uint64(3)
	return func(n int) int {
		x = x*6364136223846793005 + 1442695040888963407
		return int(x>>33) % n
	}
}

// rows are rows of spans: of none, one, two and three of few, and longer ones without a plan.
func rows() [][]api.Span {
	l := [][]api.Span{nil, {}}
	f := few()
	for _, a := range f {
		l = append(l, []api.Span{a})
		for _, b := range f {
			l = append(l, []api.Span{a, b})
			if span.Right(a) && span.Right(b) {
				for _, c := range f {
					l = append(l, []api.Span{a, b, c})
				}
			}
		}
	}
	roll := dice()
	for range 3000 {
		var row []api.Span
		wide := 1 + roll(20)
		for range roll(9) {
			from := roll(most-wide) - roll(20)/19
			row = append(row, to(from, from+roll(wide+1)-roll(15)/14))
		}
		l = append(l, row)
	}
	return l
}

// isRight says what the chapter's words do.
func isRight(s api.Span) bool { return s.From >= 0 && s.To >= s.From }

// has says what the chapter's words do.
func has(s api.Span, place int) bool { return isRight(s) && s.From <= place && place < s.To }

// inside says what the chapter's words do.
func inside(a, b api.Span) bool { return isRight(a) && isRight(b) && a.From >= b.From && a.To <= b.To }

// gapsOf tells gaps by going from place to place.
func gapsOf(s api.Span, l []api.Span) []api.Span {
	var gaps []api.Span
	open := false
	for place := 0; place <= most; place++ {
		free := has(s, place) && !slices.ContainsFunc(l, func(x api.Span) bool { return has(x, place) })
		if free && !open {
			gaps = append(gaps, to(place, place))
		}
		if free {
			gaps[len(gaps)-1].To = place + 1
		}
		open = free
	}
	return gaps
}

// nestedOf tells of each two, by their places, whether one lies in the other one or they have none in common.
func nestedOf(l []api.Span) bool {
	for i, a := range l {
		if !isRight(a) {
			return false
		}
		for _, b := range l[:i] {
			common := false
			for place := range most + 1 {
				common = common || has(a, place) && has(b, place)
			}
			if common && !inside(a, b) && !inside(b, a) {
				return false
			}
		}
	}
	return true
}

// TestExample: the chapter's.
func TestExample(t *testing.T) {
	got := span.Gaps(to(0, 9), to(2, 4), to(3, 6))
	if !slices.Equal(got, []api.Span{to(0, 2), to(6, 9)}) {
		t.Error(got)
	}
}

// TestRightLenHas: P3.1, of right ones and others, at each place and at none.
func TestRightLenHas(t *testing.T) {
	for _, s := range append(few(), to(3, most), to(0, 17)) {
		if span.Right(s) != isRight(s) {
			t.Error("right", s)
		}
		n := 0
		for place := -2; place <= most+2; place++ {
			if has(s, place) {
				n++
			}
			if span.Has(s, place) != has(s, place) {
				t.Error("has", s, place)
			}
		}
		if span.Len(s) != n {
			t.Error("len", s, span.Len(s), n)
		}
	}
}

// TestFarNumbers: P3.1, at the least and the greatest numbers.
func TestFarNumbers(t *testing.T) {
	for _, s := range far() {
		want := 0
		if isRight(s) {
			want = s.To - s.From
		}
		if span.Right(s) != isRight(s) || span.Len(s) != want {
			t.Error(s, span.Right(s), span.Len(s))
		}
		for _, place := range []int{math.MinInt, -1, 0, 1, math.MaxInt - 1, math.MaxInt} {
			if span.Has(s, place) != has(s, place) {
				t.Error("has", s, place)
			}
		}
	}
	if span.Len(to(0, math.MaxInt)) != math.MaxInt || span.Has(to(0, math.MaxInt), math.MaxInt) || !span.Has(to(0, math.MaxInt), math.MaxInt-1) {
		t.Error("the greatest span")
	}
}

// TestTwo: P3.1, P3.2: In, Less, Meet and Join of each two, right or not.
func TestTwo(t *testing.T) {
	for _, l := range [][]api.Span{few(), far()} {
		for _, a := range l {
			for _, b := range l {
				both := isRight(a) && isRight(b)
				if got := span.In(a, b); got != inside(a, b) {
					t.Error("in", a, b, got)
				}
				if got, want := span.Less(a, b), both && (a.From < b.From || a.From == b.From && a.To > b.To); got != want {
					t.Error("less", a, b, got)
				}
				met := to(max(a.From, b.From), min(a.To, b.To))
				is := both && isRight(met)
				if !is {
					met = api.Span{}
				}
				if got, ok := span.Meet(a, b); got != met || ok != is {
					t.Error("meet", a, b, got, ok)
				}
			}
		}
	}
}

// TestEdgesOfTwo: P3.1, P3.2: spans that touch, empty ones, ones that are alike.
func TestEdgesOfTwo(t *testing.T) {
	if m, is := span.Meet(to(0, 2), to(2, 4)); m != to(2, 2) || !is {
		t.Error("those that touch meet in an empty one", m, is)
	}
	if m, is := span.Meet(to(0, 2), to(3, 4)); m != to(0, 0) || is {
		t.Error("those apart do not meet", m, is)
	}
	if m, is := span.Meet(to(0, 0), to(0, 0)); m != to(0, 0) || !is {
		t.Error("empty ones meet", m, is)
	}
	if !span.In(to(4, 4), to(2, 4)) || !span.In(to(2, 2), to(2, 4)) || span.In(to(5, 5), to(2, 4)) || span.In(to(2, 4), to(3, 3)) {
		t.Error("empty ones lie where their ends do")
	}
	if !span.In(to(2, 4), to(2, 4)) || span.Less(to(2, 4), to(2, 4)) {
		t.Error("one lies in itself, and does not stand ahead of itself")
	}
	if !span.Less(to(2, 9), to(2, 4)) || span.Less(to(2, 4), to(2, 9)) || !span.Less(to(2, 4), to(2, 2)) || !span.Less(to(2, 2), to(3, 9)) {
		t.Error("the wider one stands ahead")
	}
}

// TestWrong: those that are not right are told nothing of, in either place.
func TestWrong(t *testing.T) {
	right := to(0, 9)
	for _, s := range []api.Span{to(3, 2), to(-1, 4), to(-1, -1), to(-4, -1), to(0, -1), to(9, 0)} {
		if span.Right(s) || span.Len(s) != 0 || span.Has(s, s.From) || span.Has(s, 0) || span.Has(s, 3) {
			t.Error(s)
		}
		if span.In(s, right) || span.In(right, s) || span.In(s, s) || span.Less(s, right) || span.Less(right, s) {
			t.Error("in, less", s)
		}
		for _, pair := range [][2]api.Span{{s, right}, {right, s}, {s, s}} {
			if m, is := span.Meet(pair[0], pair[1]); m != to(0, 0) || is {
				t.Error("meet", pair, m, is)
			}
		}
		if j := span.Join(s); j != to(0, 0) {
			t.Error("join", s, j)
		}
		if j := span.Join(s, to(5, 6), s, to(4, 4), s); j != to(4, 6) {
			t.Error("join", s, j)
		}
		if g := span.Gaps(s); len(g) != 0 {
			t.Error("gaps of it", s, g)
		}
		if g := span.Gaps(s, right); len(g) != 0 {
			t.Error("gaps of it", s, g)
		}
		if g := span.Gaps(right, s, to(1, 2), s); !slices.Equal(g, []api.Span{to(0, 1), to(2, 9)}) {
			t.Error("gaps beside it", s, g)
		}
		if span.Nested(s) || span.Nested(right, s) || span.Nested(s, right) || span.Nested(to(1, 2), right, s) {
			t.Error("nested", s)
		}
		if b, e := span.Cut([]byte("0123456789"), s); b != nil || e != api.ErrRange {
			t.Error("cut", s, b, e)
		}
	}
}

// TestJoin: P3.2, of none, of some, in any order.
func TestJoin(t *testing.T) {
	if span.Join() != to(0, 0) || span.Join(nil...) != to(0, 0) {
		t.Error("of none")
	}
	for _, l := range rows() {
		var want api.Span
		if right := slices.DeleteFunc(slices.Clone(l), func(s api.Span) bool { return !isRight(s) }); len(right) > 0 {
			want = right[0]
			for _, s := range right {
				want.From, want.To = min(want.From, s.From), max(want.To, s.To)
			}
		}
		if got := span.Join(l...); got != want {
			t.Fatal(l, got, want)
		}
		back := slices.Clone(l)
		slices.Reverse(back)
		if got := span.Join(back...); got != want {
			t.Fatal(back, got, want)
		}
	}
	if j := span.Join(to(5, 5)); j != to(5, 5) {
		t.Error("of an empty one", j)
	}
	if j := span.Join(to(7, math.MaxInt), to(3, 3)); j != to(3, math.MaxInt) {
		t.Error("of the greatest", j)
	}
}

// TestGaps: P3.3, of spans right or not, beside rows of all sorts, in any order.
func TestGaps(t *testing.T) {
	l := []api.Span{to(0, most), to(0, 4), to(1, 4), to(2, 3), to(2, 2), to(0, 0), to(3, 3), to(10, 25), to(3, 2), to(-1, 3)}
	for _, row := range rows() {
		back := slices.Clone(row)
		slices.Reverse(back)
		for _, s := range l {
			want := gapsOf(s, row)
			if got := span.Gaps(s, row...); !slices.Equal(got, want) {
				t.Fatal(s, row, got, want)
			}
			if got := span.Gaps(s, back...); !slices.Equal(got, want) {
				t.Fatal(s, back, got, want)
			}
		}
	}
}

// TestEdgesOfGaps: P3.3: empty ones cut nothing, those that touch leave none between, those outside do not matter.
func TestEdgesOfGaps(t *testing.T) {
	for i, c := range []struct {
		s    api.Span
		l    []api.Span
		want []api.Span
	}{
		{to(0, 9), nil, []api.Span{to(0, 9)}},
		{to(4, 4), nil, nil},
		{to(0, 9), []api.Span{to(4, 4)}, []api.Span{to(0, 9)}},
		{to(0, 9), []api.Span{to(0, 0), to(9, 9)}, []api.Span{to(0, 9)}},
		{to(0, 9), []api.Span{to(2, 4), to(4, 6)}, []api.Span{to(0, 2), to(6, 9)}},
		{to(0, 9), []api.Span{to(0, 9)}, nil},
		{to(0, 9), []api.Span{to(0, 99)}, nil},
		{to(3, 9), []api.Span{to(0, 3), to(9, 12)}, []api.Span{to(3, 9)}},
		{to(3, 9), []api.Span{to(0, 4), to(8, 12)}, []api.Span{to(4, 8)}},
		{to(3, 9), []api.Span{to(0, 1), to(10, 12)}, []api.Span{to(3, 9)}},
		{to(3, 9), []api.Span{to(20, 22), to(10, 12), to(5, 6)}, []api.Span{to(3, 5), to(6, 9)}},
		{to(0, 9), []api.Span{to(1, 8), to(2, 3)}, []api.Span{to(0, 1), to(8, 9)}},
		{to(0, 9), []api.Span{to(6, 7), to(2, 3), to(4, 5)}, []api.Span{to(0, 2), to(3, 4), to(5, 6), to(7, 9)}},
		{to(0, math.MaxInt), []api.Span{to(math.MaxInt-1, math.MaxInt)}, []api.Span{to(0, math.MaxInt-1)}},
		{to(1, math.MaxInt), []api.Span{to(5, math.MaxInt-1)}, []api.Span{to(1, 5), to(math.MaxInt-1, math.MaxInt)}},
	} {
		if got := span.Gaps(c.s, c.l...); !slices.Equal(got, c.want) {
			t.Error(i, got, c.want)
		}
	}
}

// TestCut: P3.3, of each span around texts of some lengths.
func TestCut(t *testing.T) {
	for _, text := range []string{"", "a", "abc", "a\x00\xff\n"} {
		for _, s := range slices.Concat(few(), far(), []api.Span{to(0, 5), to(5, 5), to(4, 5)}) {
			got, e := span.Cut([]byte(text), s)
			if !isRight(s) || s.To > len(text) {
				if got != nil || e != api.ErrRange {
					t.Errorf("%q %v: %q %v", text, s, got, e)
				}
			} else if string(got) != text[s.From:s.To] || e != api.OK {
				t.Errorf("%q %v: %q %v", text, s, got, e)
			}
		}
	}
	if b, e := span.Cut(nil, to(0, 0)); len(b) != 0 || e != api.OK {
		t.Error("of no text", b, e)
	}
}

// TestNested: P3.3, of rows of all sorts, in any order.
func TestNested(t *testing.T) {
	if !span.Nested() || !span.Nested(nil...) {
		t.Error("of none")
	}
	for _, row := range rows() {
		want := nestedOf(row)
		if span.Nested(row...) != want {
			t.Fatal(row, want)
		}
		back := slices.Clone(row)
		slices.Reverse(back)
		if span.Nested(back...) != want {
			t.Fatal(back, want)
		}
	}
}

// TestEdgesOfNested: P3.3: those that touch, those alike, empty ones, ones in ones, crossings far apart in the row.
func TestEdgesOfNested(t *testing.T) {
	for i, c := range []struct {
		l    []api.Span
		want bool
	}{
		{[]api.Span{to(0, 2), to(2, 4)}, true},
		{[]api.Span{to(0, 3), to(2, 4)}, false},
		{[]api.Span{to(0, 3), to(0, 3), to(0, 3)}, true},
		{[]api.Span{to(0, 9), to(0, 3), to(3, 9), to(3, 4)}, true},
		{[]api.Span{to(0, 9), to(1, 9), to(2, 9)}, true},
		{[]api.Span{to(0, 9), to(0, 8), to(0, 7), to(7, 8), to(8, 9)}, true},
		{[]api.Span{to(3, 3), to(0, 3), to(2, 2), to(9, 9)}, true},
		{[]api.Span{to(3, 3), to(0, 4), to(2, 5)}, false},
		{[]api.Span{to(0, 5), to(1, 2), to(3, 4), to(4, 6)}, false},
		{[]api.Span{to(4, 6), to(3, 4), to(1, 2), to(0, 5)}, false},
		{[]api.Span{to(0, math.MaxInt), to(1, math.MaxInt)}, true},
		{[]api.Span{to(0, math.MaxInt-1), to(1, math.MaxInt)}, false},
	} {
		if got := span.Nested(c.l...); got != c.want {
			t.Error(i, got)
		}
	}
}

// TestWhatFollows: P3.4.
func TestWhatFollows(t *testing.T) {
	l := few()
	for _, a := range l {
		for _, b := range l {
			for _, c := range l {
				if span.In(a, b) && span.In(b, c) && !span.In(a, c) {
					t.Error("in", a, b, c)
				}
				if span.Less(a, b) && span.Less(b, c) && !span.Less(a, c) {
					t.Error("less", a, b, c)
				}
			}
		}
	}
	count := func(place int, l ...api.Span) int {
		n := 0
		for _, s := range l {
			if span.Has(s, place) {
				n++
			}
		}
		return n
	}
	for _, row := range rows() {
		s := to(1, most-3)
		gaps := span.Gaps(s, row...)
		met := api.Span{}
		if len(row) == 1 {
			met, _ = span.Meet(s, row[0])
			if got := append([]api.Span{met}, gaps...); !span.Nested(got...) {
				t.Fatal("not apart", row, got)
			}
		}
		for place := range most + 1 {
			free, held := count(place, gaps...), count(place, row...) > 0
			if want := span.Has(s, place) && !held; (free == 1) != want || free > 1 {
				t.Fatal("gaps", row, place, free)
			}
			if len(row) == 1 && span.Has(s, place) && free+count(place, met) != 1 {
				t.Fatal("gaps and met", row, place)
			}
		}
		for i, g := range gaps {
			if span.Len(g) == 0 || i > 0 && g.From <= gaps[i-1].To {
				t.Fatal("gaps are empty, or touch", row, gaps)
			}
		}
	}
}

// TestArgumentsStay: R3, R4: what is handed in stays as it was, what is handed out is new, and the same each time.
func TestArgumentsStay(t *testing.T) {
	l := []api.Span{to(7, 8), to(3, 2), to(4, 4), to(2, 6), to(3, 5), to(1, 1)}
	was := slices.Clone(l)
	s := to(0, 9)
	first := span.Gaps(s, l...)
	span.Join(l...)
	span.Nested(l...)
	span.Nested(l[3:]...)
	if !slices.Equal(l, was) {
		t.Error("an argument was changed", l)
	}
	want := slices.Clone(first)
	clear(first)
	clear(l)
	if got := span.Gaps(s, was...); !slices.Equal(got, want) || !slices.Equal(got, []api.Span{to(0, 2), to(6, 7), to(8, 9)}) {
		t.Error("gaps are shared", got)
	}
	text := []byte("abcdef")
	cut, _ := span.Cut(text, to(1, 4))
	clear(text)
	if string(cut) != "bcd" {
		t.Errorf("the text is shared: %q", cut)
	}
	text = []byte("abcdef")
	cut, _ = span.Cut(text, to(1, 4))
	copy(append(cut, 'x', 'y'), "123")
	if !bytes.Equal(text, []byte("abcdef")) {
		t.Errorf("the text was changed: %q", text)
	}
}

// TestMany: P3.3, of rows so long that each can not be held against each.
func TestMany(t *testing.T) {
	const n = 1 << 17
	var apart, within []api.Span
	for i := range n {
		apart = append(apart, to(3*i, 3*i+2))
		within = append(within, to(i, 2*n-i))
	}
	slices.Reverse(apart)
	slices.Reverse(within)
	if !span.Nested(apart...) || !span.Nested(within...) {
		t.Error("nested")
	}
	if span.Nested(append(apart, to(1, 4))...) || span.Nested(append(within, to(n-3, n+7))...) {
		t.Error("not nested")
	}
	gaps := span.Gaps(to(0, 3*n), apart...)
	if len(gaps) != n {
		t.Fatal(len(gaps))
	}
	for i, g := range gaps {
		if g != to(3*i+2, 3*i+3) {
			t.Fatal(i, g)
		}
	}
	if g := span.Gaps(to(0, 2*n), within...); len(g) != 0 {
		t.Error(g)
	}
}
