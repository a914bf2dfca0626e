package escape_test

import (
	"bytes"
	"math"
	"slices"
	"strings"
	"testing"

	"seedling/api"
	"seedling/escape"
)

// places are those that there are.
func places() []escape.Place { return []escape.Place{escape.Quote, escape.Class} }

// wrongPlaces are none.
func wrongPlaces() []escape.Place {
	return []escape.Place{0, 3, 4, -1, -2, 255, 257, 258, math.MinInt, math.MaxInt}
}

// named are the bytes that do not stand for themselves in a place, though they may be seen.
func named(p escape.Place) string {
	if p == escape.Quote {
		return `"\`
	}
	return `]-\`
}

// bare are the bytes that stand for themselves in a place.
func bare(p escape.Place) string {
	var l []byte
	for b := 32; b <= 126; b++ {
		if !strings.Contains(named(p), string(rune(b))) {
			l = append(l, byte(b))
		}
	}
	return string(l)
}

// writtenOf tells how a byte is written, as the chapter's words have it.
func writtenOf(p escape.Place, b byte) string {
	switch {
	case strings.IndexByte(bare(p), b) >= 0:
		return string([]byte{b})
	case b == 10:
		return `\n`
	case b == 13:
		return `\r`
	case b == 9:
		return `\t`
	case strings.IndexByte(named(p), b) >= 0:
		return `\` + string([]byte{b})
	}
	return `\x` + "0123456789abcdef"[b/16:][:1] + "0123456789abcdef"[b%16:][:1]
}

// formsOf are all rows of bytes from which a byte is read in a place, each with that byte.
func formsOf(p escape.Place) map[string]byte {
	forms := map[string]byte{`\n`: 10, `\r`: 13, `\t`: 9, `\\`: 92, `\"`: 34, `\]`: 93, `\-`: 45}
	for _, b := range []byte(bare(p)) {
		forms[string([]byte{b})] = b
	}
	digits := map[byte]int{}
	for n := range 16 {
		digits["0123456789abcdef"[n]], digits["0123456789ABCDEF"[n]] = n, n
	}
	for high, h := range digits {
		for low, l := range digits {
			forms[string([]byte{'\\', 'x', high, low})] = byte(16*h + l)
		}
	}
	return forms
}

// readOf tells what is read from a place in a text on, by trying all lengths that a form may have: none of them begins another one.
func readOf(forms map[string]byte, s string, at int) (byte, int, bool) {
	if at < 0 || at > len(s) {
		return 0, 0, false
	}
	for n := 1; n <= 4 && at+n <= len(s); n++ {
		if b, is := forms[s[at:at+n]]; is {
			return b, at + n, true
		}
	}
	return 0, 0, false
}

// decodeOf tells what a text says, by going on from form to form.
func decodeOf(forms map[string]byte, s string) ([]byte, int, api.Errno) {
	var l []byte
	for at := 0; at < len(s); {
		b, next, is := readOf(forms, s, at)
		if !is {
			return nil, at, api.ErrSyntax
		}
		l, at = append(l, b), next
	}
	return l, 0, api.OK
}

// dice answers numbers below n without a plan, the same ones each time.
func dice() func(n int) int {
	x := uint64(4)
	return func(n int) int {
		x = x*6364136223846793005 + 1442695040888963407
		return int(x>>33) % n
	}
}

// texts are all of up to five bytes out of those that matter most, and longer ones without a plan, many of them nearly right.
func texts() []string {
	l := []string{""}
	for i := 0; len(l[i]) < 5; i++ {
		for _, b := range []byte(`a\x4n"-F`) {
			l = append(l, l[i]+string([]byte{b}))
		}
	}
	roll := dice()
	parts := []string{`\`, `\n`, `\r`, `\t`, `\\`, `\"`, `\]`, `\-`, `\x0a`, `\xFf`, `\x`, `\x4`, `\xg0`, `\a`, `"`, `]`, `-`, "a", "z", " ", "~", "\x7f", "\n", "\x00", "\xff", "0", "ä"}
	for range 3000 {
		var s strings.Builder
		few := 1 + roll(len(parts))
		for range roll(12) {
			s.WriteString(parts[roll(few)])
		}
		l = append(l, s.String())
	}
	return l
}

// TestExample: the chapter's.
func TestExample(t *testing.T) {
	for _, c := range []struct {
		p    escape.Place
		b    byte
		want string
	}{
		{escape.Quote, '"', `\"`},
		{escape.Quote, 10, `\n`},
		{escape.Quote, 0, `\x00`},
		{escape.Class, '-', `\-`},
		{escape.Class, '"', `"`},
	} {
		if got := escape.One(c.p, c.b); got != c.want {
			t.Errorf("%d, %d: %q", c.p, c.b, got)
		}
	}
}

// TestNumbersOfPlaces: the constants.
func TestNumbersOfPlaces(t *testing.T) {
	if escape.Quote != 1 || escape.Class != 2 {
		t.Error(escape.Quote, escape.Class)
	}
}

// TestOne: P4.1, of each byte, in both places.
func TestOne(t *testing.T) {
	for _, p := range places() {
		for b := range 256 {
			if got, want := escape.One(p, byte(b)), writtenOf(p, byte(b)); got != want {
				t.Errorf("%d, %d: %q, want %q", p, b, got, want)
			}
		}
	}
}

// TestEdgesOfOne: P4.1: the bytes at the edges of each row of the chapter's, one by one.
func TestEdgesOfOne(t *testing.T) {
	for _, c := range []struct {
		b            byte
		quote, class string
	}{
		{0, `\x00`, `\x00`}, {8, `\x08`, `\x08`}, {9, `\t`, `\t`}, {10, `\n`, `\n`}, {11, `\x0b`, `\x0b`}, {12, `\x0c`, `\x0c`}, {13, `\r`, `\r`}, {14, `\x0e`, `\x0e`},
		{31, `\x1f`, `\x1f`}, {32, " ", " "}, {33, "!", "!"}, {34, `\"`, `"`}, {35, "#", "#"}, {39, "'", "'"},
		{44, ",", ","}, {45, "-", `\-`}, {46, ".", "."}, {47, "/", "/"}, {91, "[", "["}, {92, `\\`, `\\`}, {93, "]", `\]`}, {94, "^", "^"},
		{'n', "n", "n"}, {'r', "r", "r"}, {'t', "t", "t"}, {'x', "x", "x"}, {126, "~", "~"}, {127, `\x7f`, `\x7f`}, {128, `\x80`, `\x80`}, {255, `\xff`, `\xff`},
	} {
		if got := escape.One(escape.Quote, c.b); got != c.quote {
			t.Errorf("quote, %d: %q", c.b, got)
		}
		if got := escape.One(escape.Class, c.b); got != c.class {
			t.Errorf("class, %d: %q", c.b, got)
		}
	}
}

// TestAll: P4.1, of none, of each two, of all.
func TestAll(t *testing.T) {
	for _, p := range places() {
		if got := escape.All(p, nil); got != "" {
			t.Errorf("%d, of none: %q", p, got)
		}
		if got := escape.All(p, []byte{}); got != "" {
			t.Errorf("%d, of no bytes: %q", p, got)
		}
		var all []byte
		want := ""
		for b := range 256 {
			all, want = append(all, byte(b)), want+writtenOf(p, byte(b))
			for c := range 256 {
				if got := escape.All(p, []byte{byte(b), byte(c)}); got != writtenOf(p, byte(b))+writtenOf(p, byte(c)) {
					t.Fatalf("%d, %d, %d: %q", p, b, c, got)
				}
			}
		}
		if got := escape.All(p, all); got != want {
			t.Errorf("%d, of all: %q", p, got)
		}
	}
	if got := escape.All(escape.Quote, []byte("a\"\n]-\\\xc3\xa4")); got != `a\"\n]-\\\xc3\xa4` {
		t.Error(got)
	}
	if got := escape.All(escape.Class, []byte("a\"\n]-\\\xc3\xa4")); got != `a"\n\]\-\\\xc3\xa4` {
		t.Error(got)
	}
}

// holdRead holds what is read from a place in a text on against the chapter's words.
func holdRead(t *testing.T, p escape.Place, forms map[string]byte, s string, at int) {
	t.Helper()
	b, next, is := escape.Read(p, s, at)
	wantB, wantNext, wantIs := readOf(forms, s, at)
	if b != wantB || next != wantNext || is != wantIs {
		t.Fatalf("%d, %q at %d: %d, %d, %v, want %d, %d, %v", p, s, at, b, next, is, wantB, wantNext, wantIs)
	}
}

// TestRead: P4.2, of all rows of one byte and of two, and of all that may be taken for digits.
func TestRead(t *testing.T) {
	for _, p := range places() {
		forms := formsOf(p)
		for b := range 256 {
			holdRead(t, p, forms, string([]byte{byte(b)}), 0)
			for c := range 256 {
				holdRead(t, p, forms, string([]byte{byte(b), byte(c)}), 0)
				holdRead(t, p, forms, string([]byte{'\\', 'x', byte(b), byte(c)}), 0)
				holdRead(t, p, forms, string([]byte{'0', '\\', byte(b), byte(c), '0'}), 1)
			}
		}
	}
}

// TestReadInTexts: P4.2, from each place of texts of all sorts, and from what is none.
func TestReadInTexts(t *testing.T) {
	for _, p := range places() {
		forms := formsOf(p)
		for _, s := range texts() {
			for at := -3; at <= len(s)+3; at++ {
				holdRead(t, p, forms, s, at)
			}
			for _, at := range []int{math.MinInt, math.MinInt + 1, math.MinInt32, math.MaxInt32, math.MaxInt - 4, math.MaxInt - 1, math.MaxInt} {
				holdRead(t, p, forms, s, at)
			}
		}
	}
}

// TestEdgesOfRead: P4.2, one by one: what one place reads and the other does not, what ends too early, what is nearly right.
func TestEdgesOfRead(t *testing.T) {
	for _, c := range []struct {
		p    escape.Place
		s    string
		at   int
		b    byte
		next int
		is   bool
	}{
		{escape.Quote, "a", 0, 'a', 1, true},
		{escape.Quote, "a", 1, 0, 0, false},
		{escape.Quote, "", 0, 0, 0, false},
		{escape.Quote, `"`, 0, 0, 0, false},
		{escape.Quote, `\"`, 0, '"', 2, true},
		{escape.Quote, `\"`, 1, 0, 0, false},
		{escape.Quote, "]", 0, ']', 1, true},
		{escape.Quote, "-", 0, '-', 1, true},
		{escape.Quote, `\]`, 0, ']', 2, true},
		{escape.Quote, `\-`, 0, '-', 2, true},
		{escape.Class, `"`, 0, '"', 1, true},
		{escape.Class, `\"`, 0, '"', 2, true},
		{escape.Class, "]", 0, 0, 0, false},
		{escape.Class, "-", 0, 0, 0, false},
		{escape.Class, `\]`, 0, ']', 2, true},
		{escape.Class, `\-`, 0, '-', 2, true},
		{escape.Class, "[", 0, '[', 1, true},
		{escape.Class, `\[`, 0, 0, 0, false},
		{escape.Quote, `\'`, 0, 0, 0, false},
		{escape.Quote, `\0`, 0, 0, 0, false},
		{escape.Quote, `\N`, 0, 0, 0, false},
		{escape.Quote, `\a`, 0, 0, 0, false},
		{escape.Quote, "\\\n", 0, 0, 0, false},
		{escape.Quote, "\\\r", 0, 0, 0, false},
		{escape.Quote, "\\\t", 0, 0, 0, false},
		{escape.Quote, "\\", 0, 0, 0, false},
		{escape.Quote, `\\`, 0, '\\', 2, true},
		{escape.Quote, `\\n`, 0, '\\', 2, true},
		{escape.Quote, `\\n`, 1, '\n', 3, true},
		{escape.Quote, `\x`, 0, 0, 0, false},
		{escape.Quote, `\x4`, 0, 0, 0, false},
		{escape.Quote, `\x4g`, 0, 0, 0, false},
		{escape.Quote, `\xg4`, 0, 0, 0, false},
		{escape.Quote, `\x+4`, 0, 0, 0, false},
		{escape.Quote, `\x-4`, 0, 0, 0, false},
		{escape.Quote, `\x_4`, 0, 0, 0, false},
		{escape.Quote, `\x4_`, 0, 0, 0, false},
		{escape.Quote, `\x 4`, 0, 0, 0, false},
		{escape.Quote, `\x0x`, 0, 0, 0, false},
		{escape.Quote, `\X41`, 0, 0, 0, false},
		{escape.Quote, `\x41`, 0, 'A', 4, true},
		{escape.Quote, `\x411`, 0, 'A', 4, true},
		{escape.Quote, `\xaF`, 0, 0xaf, 4, true},
		{escape.Quote, `\xFf`, 0, 0xff, 4, true},
		{escape.Quote, `\x00`, 0, 0, 4, true},
		{escape.Class, `\x5d`, 0, ']', 4, true},
		{escape.Quote, "\x1f", 0, 0, 0, false},
		{escape.Quote, " ", 0, ' ', 1, true},
		{escape.Quote, "~", 0, '~', 1, true},
		{escape.Quote, "\x7f", 0, 0, 0, false},
		{escape.Quote, "\x80", 0, 0, 0, false},
		{escape.Quote, "ä", 0, 0, 0, false},
		{escape.Quote, "\n", 0, 0, 0, false},
	} {
		b, next, is := escape.Read(c.p, c.s, c.at)
		if b != c.b || next != c.next || is != c.is {
			t.Errorf("%d, %q at %d: %d, %d, %v", c.p, c.s, c.at, b, next, is)
		}
	}
}

// TestDecode: P4.2, of texts of all sorts.
func TestDecode(t *testing.T) {
	for _, p := range places() {
		forms := formsOf(p)
		for _, s := range texts() {
			b, at, e := escape.Decode(p, s)
			wantB, wantAt, wantE := decodeOf(forms, s)
			if !bytes.Equal(b, wantB) || at != wantAt || e != wantE {
				t.Fatalf("%d, %q: %q, %d, %d, want %q, %d, %d", p, s, b, at, e, wantB, wantAt, wantE)
			}
		}
	}
}

// TestEdgesOfDecode: P4.2, one by one: no text, the first thing that is wrong, and where.
func TestEdgesOfDecode(t *testing.T) {
	for _, c := range []struct {
		p    escape.Place
		s    string
		want string
		at   int
		e    api.Errno
	}{
		{escape.Quote, "", "", 0, api.OK},
		{escape.Class, "", "", 0, api.OK},
		{escape.Quote, `a\x00\n`, "a\x00\n", 0, api.OK},
		{escape.Quote, `ab"c\q`, "", 2, api.ErrSyntax},
		{escape.Class, `ab"c\q`, "", 4, api.ErrSyntax},
		{escape.Class, "a-z", "", 1, api.ErrSyntax},
		{escape.Class, "[]", "", 1, api.ErrSyntax},
		{escape.Quote, "[a-z]", "[a-z]", 0, api.OK},
		{escape.Quote, `\`, "", 0, api.ErrSyntax},
		{escape.Quote, `\\\`, "", 2, api.ErrSyntax},
		{escape.Quote, `a\x4`, "", 1, api.ErrSyntax},
		{escape.Quote, `\x4\x41`, "", 0, api.ErrSyntax},
		{escape.Quote, `\n\n\z\n`, "", 4, api.ErrSyntax},
		{escape.Quote, "a\nb", "", 1, api.ErrSyntax},
		{escape.Quote, "ab\xff", "", 2, api.ErrSyntax},
	} {
		b, at, e := escape.Decode(c.p, c.s)
		if string(b) != c.want || at != c.at || e != c.e {
			t.Errorf("%d, %q: %q, %d, %d", c.p, c.s, b, at, e)
		}
		if e != api.OK && b != nil {
			t.Errorf("%d, %q: beside an error %q", c.p, c.s, b)
		}
	}
}

// TestWrongPlaces: of what is no place nothing is told.
func TestWrongPlaces(t *testing.T) {
	for _, p := range wrongPlaces() {
		for b := range 256 {
			if got := escape.One(p, byte(b)); got != "" {
				t.Errorf("one %d, %d: %q", p, b, got)
			}
		}
		if got := escape.All(p, []byte("ab\n\"")); got != "" {
			t.Errorf("all %d: %q", p, got)
		}
		for _, s := range []string{"", "a", " ", `\n`, `\\`, `\x41`, `ab\]`, "\xff"} {
			for at := range len(s) + 1 {
				if b, next, is := escape.Read(p, s, at); b != 0 || next != 0 || is {
					t.Errorf("read %d, %q at %d: %d, %d, %v", p, s, at, b, next, is)
				}
			}
			// From no text nothing need be read.
			want := api.ErrSyntax
			if s == "" {
				want = api.OK
			}
			if b, at, e := escape.Decode(p, s); b != nil || at != 0 || e != want {
				t.Errorf("decode %d, %q: %q, %d, %d", p, s, b, at, e)
			}
		}
	}
}

// TestWrittenIsRead: P4.3, of each byte, whatever stands behind it, and of rows of them.
func TestWrittenIsRead(t *testing.T) {
	for _, p := range places() {
		var all []byte
		for b := range 256 {
			all = append(all, byte(b), byte(255-b))
			s := escape.One(p, byte(b))
			for _, behind := range []string{"", "0", "x", "n", `\`, "\xff"} {
				if got, next, is := escape.Read(p, "ab"+s+behind, 2); got != byte(b) || next != 2+len(s) || !is {
					t.Errorf("%d, %d: %d, %d, %v", p, b, got, next, is)
				}
			}
		}
		for n := range len(all) + 1 {
			if got, at, e := escape.Decode(p, escape.All(p, all[:n])); !bytes.Equal(got, all[:n]) || at != 0 || e != api.OK {
				t.Errorf("%d, of %d: %q, %d, %d", p, n, got, at, e)
			}
		}
	}
}

// TestReadIsWritten: P4.3: whatever form a byte was read from, it is written in one way, which is no longer.
func TestReadIsWritten(t *testing.T) {
	for _, p := range places() {
		for form, b := range formsOf(p) {
			got, next, is := escape.Read(p, form, 0)
			if got != b || next != len(form) || !is {
				t.Errorf("%d, %q: %d, %d, %v", p, form, got, next, is)
			}
			if s := escape.One(p, got); s != writtenOf(p, b) || len(s) > len(form) {
				t.Errorf("%d, %q is written %q", p, form, s)
			}
		}
		for _, s := range texts() {
			b, _, e := escape.Decode(p, s)
			if e != api.OK {
				continue
			}
			once := escape.All(p, b)
			again, _, e := escape.Decode(p, once)
			if e != api.OK || !bytes.Equal(again, b) || len(once) > len(s) {
				t.Fatalf("%d, %q: %q", p, s, once)
			}
		}
	}
}

// TestArgumentsStay: R3, R4: what is handed in stays as it was, what is handed out is new, and the same each time.
func TestArgumentsStay(t *testing.T) {
	b := []byte("a\"\n]\\\x00-")
	was := slices.Clone(b)
	for _, p := range places() {
		want := escape.All(p, b)
		if !bytes.Equal(b, was) {
			t.Fatalf("%d: an argument was changed: %q", p, b)
		}
		clear(b)
		if got := escape.All(p, was); got != want {
			t.Errorf("%d: the bytes are kept: %q", p, got)
		}
		copy(b, was)
		first, _, _ := escape.Decode(p, want)
		clear(first)
		if second, _, e := escape.Decode(p, want); !bytes.Equal(second, was) || e != api.OK {
			t.Errorf("%d: what was read is shared: %q", p, second)
		}
	}
}

// TestLong: P4.1, P4.2, of texts as long as a script may be.
func TestLong(t *testing.T) {
	const n = api.MaxScript
	for _, p := range places() {
		for _, s := range []string{"a", `\n`, `\\`, `\x41`} {
			b, at, e := escape.Decode(p, strings.Repeat(s, n/len(s)))
			if len(b) != n/len(s) || at != 0 || e != api.OK {
				t.Errorf("%d, %q: %d bytes, %d, %d", p, s, len(b), at, e)
			}
		}
		if b, at, e := escape.Decode(p, strings.Repeat("a", n)+"\n"); b != nil || at != n || e != api.ErrSyntax {
			t.Errorf("%d: %d bytes, %d, %d", p, len(b), at, e)
		}
		if s := escape.All(p, bytes.Repeat([]byte{0}, n)); s != strings.Repeat(`\x00`, n) {
			t.Errorf("%d: %d bytes", p, len(s))
		}
	}
}
