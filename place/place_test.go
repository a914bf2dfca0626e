package place_test

import (
	"bytes"
	"math"
	"strings"
	"testing"

	"seedling/place"
)

// spot is a line and a column.
type spot struct{ line, column int }

// spotsOf tells the line and column of each place, by going from byte to byte as the chapter's words have it.
func spotsOf(text string) []spot {
	l := []spot{{1, 1}}
	for i := range len(text) {
		s := l[i]
		if text[i] == 10 {
			l = append(l, spot{s.line + 1, 1})
		} else {
			l = append(l, spot{s.line, s.column + 1})
		}
	}
	return l
}

// texts are all of up to seven bytes a and 10, and some of other sorts.
func texts() []string {
	l := []string{""}
	for i := 0; len(l[i]) < 7; i++ {
		l = append(l, l[i]+"a", l[i]+"\n")
	}
	return append(l,
		"ab\nc",
		"one\r\ntwo\r\n",
		"\r\r\n\r",
		"\x00\n\x00\xff\n\x0b\x0c",
		"\xc3\xa4\n\xe2\x82\xac\xc2\x85x\xe2\x80\xa8y",
		strings.Repeat("x", 300)+"\n"+strings.Repeat("y", 70),
		strings.Repeat("\n", 500),
		strings.Repeat("ab\n\nc", 200),
		strings.Repeat("ab\n\nc\n", 200),
	)
}

// odd are numbers that are no place, no line and no column of any of the texts.
func odd() []int {
	return []int{math.MinInt, math.MinInt + 1, math.MinInt32, -1000, -2, -1, 1 << 20, math.MaxInt32, math.MaxInt - 1, math.MaxInt}
}

// TestExample: the chapter's.
func TestExample(t *testing.T) {
	x := place.New([]byte("ab\nc"))
	if x.Lines() != 2 || x.Len() != 4 {
		t.Error(x.Lines(), x.Len())
	}
	for at, want := range []spot{{1, 1}, {1, 2}, {1, 3}, {2, 1}, {2, 2}} {
		if line, column, is := x.At(at); line != want.line || column != want.column || !is {
			t.Error(at, line, column, is)
		}
	}
	if from, to, is := x.Line(1); from != 0 || to != 3 || !is {
		t.Error("first line", from, to, is)
	}
	if from, to, is := x.Line(2); from != 3 || to != 4 || !is {
		t.Error("last line", from, to, is)
	}
}

// TestEdges: P2.1, P2.2: no byte, a byte 10 alone, one at the end, rows of them, the text's end.
func TestEdges(t *testing.T) {
	for _, c := range []struct {
		text       string
		lines      int
		end        spot
		from, to   int // of the last line
		column     int // of that line, the least that is none
		beforeLast int // of the line ahead, the least that is none; 0 without one
	}{
		{"", 1, spot{1, 1}, 0, 0, 2, 0},
		{"a", 1, spot{1, 2}, 0, 1, 3, 0},
		{"\n", 2, spot{2, 1}, 1, 1, 2, 2},
		{"ab\n", 2, spot{2, 1}, 3, 3, 2, 4},
		{"\nab", 2, spot{2, 3}, 1, 3, 4, 2},
		{"\n\n\n", 4, spot{4, 1}, 3, 3, 2, 2},
		{"a\n\n", 3, spot{3, 1}, 3, 3, 2, 2},
		{"a\n\nb", 3, spot{3, 2}, 3, 4, 3, 2},
		{"a\rb", 1, spot{1, 4}, 0, 3, 5, 0},
	} {
		x := place.New([]byte(c.text))
		if x.Lines() != c.lines || x.Len() != len(c.text) {
			t.Errorf("%q: %d lines, %d bytes", c.text, x.Lines(), x.Len())
		}
		if line, column, is := x.At(len(c.text)); (spot{line, column}) != c.end || !is {
			t.Errorf("%q: end at %d:%d, %v", c.text, line, column, is)
		}
		if at, is := x.Place(c.end.line, c.end.column); at != len(c.text) || !is {
			t.Errorf("%q: place of the end %d, %v", c.text, at, is)
		}
		if from, to, is := x.Line(c.lines); from != c.from || to != c.to || !is {
			t.Errorf("%q: last line %d to %d, %v", c.text, from, to, is)
		}
		if at, is := x.Place(c.lines, c.column); at != 0 || is {
			t.Errorf("%q: behind the end %d, %v", c.text, at, is)
		}
		if at, is := x.Place(c.lines-1, c.beforeLast); at != 0 || is {
			t.Errorf("%q: behind a byte 10 %d, %v", c.text, at, is)
		}
	}
}

// TestNumbers: P2.1, Lines and Len.
func TestNumbers(t *testing.T) {
	for _, text := range texts() {
		x := place.New([]byte(text))
		if want := strings.Count(text, "\n") + 1; x.Lines() != want || x.Len() != len(text) {
			t.Errorf("%q: %d lines, want %d, %d bytes, want %d", text, x.Lines(), want, x.Len(), len(text))
		}
	}
}

// TestAt: P2.1, of each place, and of what is none.
func TestAt(t *testing.T) {
	for _, text := range texts() {
		x := place.New([]byte(text))
		for at, want := range spotsOf(text) {
			if line, column, is := x.At(at); line != want.line || column != want.column || !is {
				t.Fatalf("%q: at %d: %d:%d, %v", text, at, line, column, is)
			}
		}
		for _, at := range append(odd(), len(text)+1, len(text)+2) {
			if line, column, is := x.At(at); line != 0 || column != 0 || is {
				t.Fatalf("%q: no place %d: %d:%d, %v", text, at, line, column, is)
			}
		}
	}
}

// TestPlace: P2.2, of lines and columns that a place has, and of those that none has.
func TestPlace(t *testing.T) {
	for _, text := range texts() {
		x := place.New([]byte(text))
		places, widest := map[spot]int{}, 0
		for at, s := range spotsOf(text) {
			places[s] = at
			widest = max(widest, s.column)
		}
		for line := -2; line <= x.Lines()+2; line++ {
			for column := -2; column <= widest+2; column++ {
				want, has := places[spot{line, column}]
				if at, is := x.Place(line, column); at != want || is != has {
					t.Fatalf("%q: %d:%d: %d, %v, want %d, %v", text, line, column, at, is, want, has)
				}
			}
			for _, column := range odd() {
				if at, is := x.Place(line, column); at != 0 || is {
					t.Fatalf("%q: no column %d:%d: %d, %v", text, line, column, at, is)
				}
			}
		}
		for _, line := range odd() {
			for _, column := range append(odd(), 0, 1, 2) {
				if at, is := x.Place(line, column); at != 0 || is {
					t.Fatalf("%q: no line %d:%d: %d, %v", text, line, column, at, is)
				}
			}
		}
	}
}

// TestLine: P2.2, of each line, its byte 10 with it, and of what is none.
func TestLine(t *testing.T) {
	for _, text := range texts() {
		x := place.New([]byte(text))
		begin := 0
		for i, want := range strings.SplitAfter(text, "\n") {
			from, to, is := x.Line(i + 1)
			if from != begin || to != begin+len(want) || !is {
				t.Fatalf("%q: line %d: %d to %d, %v", text, i+1, from, to, is)
			}
			begin = to
		}
		for _, line := range append(odd(), 0, x.Lines()+1, x.Lines()+2) {
			if from, to, is := x.Line(line); from != 0 || to != 0 || is {
				t.Fatalf("%q: no line %d: %d to %d, %v", text, line, from, to, is)
			}
		}
	}
}

// TestNoIndex: P2.3, of nil, and of one that New did not answer.
func TestNoIndex(t *testing.T) {
	for name, x := range map[string]*place.Index{"nil": nil, "not of New": {}} {
		if x.Lines() != 0 || x.Len() != 0 {
			t.Error(name, x.Lines(), x.Len())
		}
		for _, n := range append(odd(), 0, 1, 2) {
			if line, column, is := x.At(n); line != 0 || column != 0 || is {
				t.Error(name, "at", n, line, column, is)
			}
			if from, to, is := x.Line(n); from != 0 || to != 0 || is {
				t.Error(name, "line", n, from, to, is)
			}
			for _, m := range append(odd(), 0, 1, 2) {
				if at, is := x.Place(n, m); at != 0 || is {
					t.Error(name, "place", n, m, at, is)
				}
			}
		}
	}
}

// TestNilText: R6: no text and an empty one are one.
func TestNilText(t *testing.T) {
	x := place.New(nil)
	line, column, is := x.At(0)
	if x == nil || x.Lines() != 1 || x.Len() != 0 || line != 1 || column != 1 || !is {
		t.Error(x.Lines(), x.Len(), line, column, is)
	}
	if from, to, is := x.Line(1); from != 0 || to != 0 || !is {
		t.Error(from, to, is)
	}
	if at, is := x.Place(1, 1); at != 0 || !is {
		t.Error(at, is)
	}
}

// TestWhatFollows: P2.4.
func TestWhatFollows(t *testing.T) {
	for _, text := range texts() {
		x := place.New([]byte(text))
		met := map[spot]bool{}
		for at := range len(text) + 1 {
			line, column, _ := x.At(at)
			if met[spot{line, column}] {
				t.Fatalf("%q: %d:%d is of two places", text, line, column)
			}
			met[spot{line, column}] = true
			if back, is := x.Place(line, column); back != at || !is {
				t.Fatalf("%q: %d:%d: %d, %v, not %d", text, line, column, back, is, at)
			}
			if from, to, is := x.Line(line); !is || at < from || at > to || column != at-from+1 {
				t.Fatalf("%q: %d is not in its line %d, %d to %d, %v", text, at, line, from, to, is)
			}
		}
		end := 0
		for line := 1; line <= x.Lines(); line++ {
			from, to, is := x.Line(line)
			if from != end || to < from || !is {
				t.Fatalf("%q: line %d, %d to %d, %v, lies not behind %d", text, line, from, to, is, end)
			}
			end = to
		}
		if end != x.Len() {
			t.Fatalf("%q: lines end at %d", text, end)
		}
	}
}

// TestTextStays: R3, R4: the text is neither changed nor kept, indexes do not share, and an index answers the same each time.
func TestTextStays(t *testing.T) {
	text := []byte("ab\nc\n")
	x := place.New(text)
	if string(text) != "ab\nc\n" {
		t.Error("the text was changed")
	}
	copy(text, "\n\n\n\n\n")
	y := place.New(text)
	for range 2 {
		if x.Lines() != 3 || x.Len() != 5 || y.Lines() != 6 || y.Len() != 5 {
			t.Error(x.Lines(), x.Len(), y.Lines(), y.Len())
		}
		if line, column, is := x.At(4); line != 2 || column != 2 || !is {
			t.Error("the text was kept", line, column, is)
		}
		if line, column, is := y.At(4); line != 5 || column != 1 || !is {
			t.Error("the text was kept", line, column, is)
		}
	}
}

// TestLong: a text of many bytes, asked at its lines' first and last places.
func TestLong(t *testing.T) {
	row := []byte("0123456\n")
	const rows = 1 << 17
	x := place.New(bytes.Repeat(row, rows))
	if x.Lines() != rows+1 || x.Len() != 8*rows {
		t.Error(x.Lines(), x.Len())
	}
	for i := range rows {
		for _, column := range []int{1, 8} {
			at := 8*i + column - 1
			if line, c, is := x.At(at); line != i+1 || c != column || !is {
				t.Fatal(at, line, c, is)
			}
			if p, is := x.Place(i+1, column); p != at || !is {
				t.Fatal(i+1, column, p, is)
			}
		}
	}
	if line, column, is := x.At(8 * rows); line != rows+1 || column != 1 || !is {
		t.Error("end", line, column, is)
	}
}
