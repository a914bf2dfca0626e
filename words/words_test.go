package words_test

import (
	"math"
	"regexp"
	"slices"
	"strconv"
	"strings"
	"testing"
	"unsafe"

	"seedling/api"
	"seedling/words"
)

// What the chapter says, as patterns: a byte that stands for itself, or what is behind a backslash.
const (
	behind  = `\\(?:[nrt\\"\]\-]|x[0-9a-fA-F][0-9a-fA-F])`
	quoted  = `(?:[ !#-\[\]-~]|` + behind + `)`
	classed = `(?:[ -,.-\[^-~]|` + behind + `)`
)

// patterns are those of all that a text may have: at most one of the words' matches at a place.
type patterns struct {
	skip, name, text, set, sign, item, char *regexp.Regexp
}

// model is what the chapter says of words.
func model() patterns {
	return patterns{
		skip: regexp.MustCompile(`^(?:[ \t\n\r]|#[^\n]*)*`),
		name: regexp.MustCompile(`^([A-Za-z_][A-Za-z_0-9]*)(?::([0-9]+))?`),
		text: regexp.MustCompile(`^"(` + quoted + `*)"`),
		set:  regexp.MustCompile(`^\[((?:` + classed + `-` + classed + `|` + classed + `)*)\]`),
		sign: regexp.MustCompile(`^(?:<-|[/().;*+?!&])`),
		item: regexp.MustCompile(`(` + classed + `)(?:-(` + classed + `))?`),
		char: regexp.MustCompile(quoted),
	}
}

// byteOf is what a pattern's match of one byte stands for.
func byteOf(s string) byte {
	if s[0] != '\\' {
		return s[0]
	}
	switch s[1] {
	case 'n':
		return 10
	case 'r':
		return 13
	case 't':
		return 9
	case 'x':
		n, err := strconv.ParseInt(s[2:], 16, 16)
		if err != nil {
			panic(err)
		}
		return byte(n)
	}
	return s[1]
}

// put puts the bytes from a first to a last one into a class.
func put(c *api.Class, from, to byte) {
	for n := int(from); n <= int(to); n++ {
		c[n/64] |= 1 << (n % 64)
	}
}

// classOf is the class of a set's items.
func (p patterns) classOf(items string) api.Class {
	var c api.Class
	for _, m := range p.item.FindAllStringSubmatch(items, -1) {
		from := byteOf(m[1])
		to := from
		if m[2] != "" {
			to = byteOf(m[2])
		}
		put(&c, from, to)
	}
	return c
}

// bytesOf are the bytes of a text's row.
func (p patterns) bytesOf(row string) string {
	var l []byte
	for _, m := range p.char.FindAllString(row, -1) {
		l = append(l, byteOf(m))
	}
	return string(l)
}

// levelOf is a name's, by its digits.
func levelOf(digits string) int {
	if digits == "" {
		return -1
	}
	if len(digits) > 4 {
		return 9999
	}
	n, err := strconv.Atoi(digits)
	if err != nil {
		panic(err)
	}
	return n
}

// skipOf is what Skip must tell.
func (p patterns) skipOf(s string, at int) int {
	if at < 0 || at > len(s) {
		return at
	}
	return at + len(p.skip.FindString(s[at:]))
}

// nextOf is what Next must tell.
func (p patterns) nextOf(s string, at int) (words.Word, bool) {
	if at < 0 || at > len(s) {
		return words.Word{}, false
	}
	at = p.skipOf(s, at)
	rest := s[at:]
	if rest == "" {
		return words.Word{Kind: 1, At: at, Next: at}, true
	}
	if m := p.name.FindStringSubmatch(rest); m != nil {
		return words.Word{Kind: 2, At: at, Next: at + len(m[0]), Text: m[1], Level: levelOf(m[2])}, true
	}
	if m := p.text.FindStringSubmatch(rest); m != nil {
		return words.Word{Kind: 3, At: at, Next: at + len(m[0]), Text: p.bytesOf(m[1])}, true
	}
	if m := p.set.FindStringSubmatch(rest); m != nil {
		return words.Word{Kind: 4, At: at, Next: at + len(m[0]), Class: p.classOf(m[1])}, true
	}
	if m := p.sign.FindString(rest); m != "" {
		return words.Word{Kind: 5, At: at, Next: at + len(m), Text: m}, true
	}
	return words.Word{}, false
}

// allOf is what All must tell.
func (p patterns) allOf(s string) ([]words.Word, int, api.Errno) {
	if len(s) > api.MaxGrammar {
		return nil, 0, api.ErrLong
	}
	var l []words.Word
	for at := 0; ; {
		w, is := p.nextOf(s, at)
		if !is {
			return nil, p.skipOf(s, at), api.ErrSyntax
		}
		l, at = append(l, w), w.Next
		if w.Kind == words.End {
			return l, 0, api.OK
		}
	}
}

// hold holds what is told of a text, from each place of it and from some that are none, against the model.
func hold(t *testing.T, p patterns, s string) {
	t.Helper()
	for at := -2; at <= len(s)+2; at++ {
		if got, want := words.Skip(s, at), p.skipOf(s, at); got != want {
			t.Fatalf("skip %q at %d: %d, want %d", s, at, got, want)
		}
		got, is := words.Next(s, at)
		want, wantIs := p.nextOf(s, at)
		if got != want || is != wantIs {
			t.Fatalf("next %q at %d: %v, %v, want %v, %v", s, at, got, is, want, wantIs)
		}
	}
	holdAll(t, p, s)
}

// holdAll holds what All tells of a text against the model.
func holdAll(t *testing.T, p patterns, s string) {
	t.Helper()
	l, at, e := words.All(s)
	wantL, wantAt, wantE := p.allOf(s)
	if !slices.Equal(l, wantL) || at != wantAt || e != wantE {
		t.Fatalf("all %q: %v, %d, %d, want %v, %d, %d", s, l, at, e, wantL, wantAt, wantE)
	}
	if e != api.OK && l != nil {
		t.Fatalf("all %q: beside an error %v", s, l)
	}
}

// dice answers numbers below n without a plan, the same ones each time.
func dice() func(n int) int {
	x := uint64(7)
	return func(n int) int {
		x = x*6364136223846793005 + 1442695040888963407
		return int(x>>33) % n
	}
}

// rows are all rows of up to so many bytes of some.
func rows(of string, most int) []string {
	l := []string{""}
	for i := 0; len(l[i]) < most; i++ {
		for _, b := range []byte(of) {
			l = append(l, l[i]+string([]byte{b}))
		}
	}
	return l
}

// good are words, each as it stands in a text; none but a name may go on with what begins another one.
func good() []string {
	return []string{
		"A", "_", "z9", "rule_1", "A:0", "B:1", "c:99", "D:0007", "E:10000", "_:12345678901234567890123",
		`""`, `"a"`, `"a b"`, `"#"`, `"\""`, `"\\"`, `"\x00\xfF"`, `"]-["`, `"\n\r\t\]\-"`,
		"[]", "[a]", "[a-z]", "[z-a]", "[a-a]", "[ #]", `["]`, `[\]\-]`, `[\x00-\xff]`, `[a-c_0-9\n]`, `[\--\]]`, "[[]", "[^/]",
		"<-", "/", "(", ")", ".", ";", "*", "+", "?", "!", "&",
	}
}

// bad are parts that are no words, or no whole ones.
func bad() []string {
	return []string{
		`"`, `"a`, `"\"`, `"\q"`, "\"\n\"", "\"\x7f\"", "\"\xff\"", `"\x4"`, "[", "[a", "[a-", "[a-]", "[-]", "[-a]", "[a-b-c]", "[a--]", `[\]`, `[\q]`, "[\n]", "[\xff]", "[a-\n]",
		"]", "-", "<", "<<-", "< -", ":", ":1", "A:", "A: 1", "A :1", "A:b", "1", "9a", "=", "\\", "{", "}", "|", "@", "$", "%", "^", "~", "`", "'", ",", ">", "\x00", "\v", "\f", "\x1f", "\x7f", "\x80", "\x85", "\xa0", "\xc2\xa0", "\xff", "ä", "\u2028",
	}
}

// gaps are what may stand between words.
func gaps() []string {
	return []string{" ", "\t", "\n", "\r", "\r\n", "  ", "\n\n", "#\n", "#a\n", "# <- \"\n ", "\t#[#\n#\"\n", " #\r\n", "#\xff\x00\n"}
}

// texts are rows of words without a plan, some of them with what is none.
func texts() []string {
	roll := dice()
	all := slices.Concat(good(), good(), gaps(), gaps(), bad())
	var l []string
	for range 4000 {
		var s strings.Builder
		few := 1 + roll(len(all))
		for range roll(9) {
			s.WriteString(all[roll(few)])
		}
		l = append(l, s.String())
	}
	return l
}

// wrongPlaces are none of any text.
func wrongPlaces() []int {
	return []int{math.MinInt, math.MinInt + 1, math.MinInt32, -1000, -1, 1000, math.MaxInt32, 1 << 40, math.MaxInt - 1, math.MaxInt}
}

// word is one, by all of its parts.
func word(kind words.Kind, at, next int, text string, level int, bytes string) words.Word {
	var c api.Class
	for _, b := range []byte(bytes) {
		put(&c, b, b)
	}
	return words.Word{Kind: kind, At: at, Next: next, Text: text, Level: level, Class: c}
}

// TestExample: the chapter's.
func TestExample(t *testing.T) {
	l, at, e := words.All(`A:2 <- "a" [b-d]* ;`)
	want := []words.Word{
		word(words.Name, 0, 3, "A", 2, ""),
		word(words.Sign, 4, 6, "<-", 0, ""),
		word(words.Text, 7, 10, "a", 0, ""),
		word(words.Set, 11, 16, "", 0, "bcd"),
		word(words.Sign, 16, 17, "*", 0, ""),
		word(words.Sign, 18, 19, ";", 0, ""),
		word(words.End, 19, 19, "", 0, ""),
	}
	if !slices.Equal(l, want) || at != 0 || e != api.OK {
		t.Error(l, at, e)
	}
}

// TestNumbersOfKinds: the constants.
func TestNumbersOfKinds(t *testing.T) {
	if words.End != 1 || words.Name != 2 || words.Text != 3 || words.Set != 4 || words.Sign != 5 {
		t.Error(words.End, words.Name, words.Text, words.Set, words.Sign)
	}
}

// TestWords: P7.2, P7.1, one by one: what is one word, and what it has.
func TestWords(t *testing.T) {
	for _, c := range []struct {
		s    string
		want words.Word
	}{
		{"", word(1, 0, 0, "", 0, "")},
		{" ", word(1, 1, 1, "", 0, "")},
		{"#a", word(1, 2, 2, "", 0, "")},
		{"#a\n", word(1, 3, 3, "", 0, "")},
		{"A", word(2, 0, 1, "A", -1, "")},
		{"_", word(2, 0, 1, "_", -1, "")},
		{"z", word(2, 0, 1, "z", -1, "")},
		{"Za9_b", word(2, 0, 5, "Za9_b", -1, "")},
		{" A", word(2, 1, 2, "A", -1, "")},
		{"A:0", word(2, 0, 3, "A", 0, "")},
		{"A1:99", word(2, 0, 5, "A1", 99, "")},
		{"A:100", word(2, 0, 5, "A", 100, "")},
		{"A:07", word(2, 0, 4, "A", 7, "")},
		{"A:0000", word(2, 0, 6, "A", 0, "")},
		{"A:1000", word(2, 0, 6, "A", 1000, "")},
		{"A:9998", word(2, 0, 6, "A", 9998, "")},
		{"A:9999", word(2, 0, 6, "A", 9999, "")},
		{"A:10000", word(2, 0, 7, "A", 9999, "")},
		{"A:00001", word(2, 0, 7, "A", 9999, "")},
		{"A:99999999999999999999999", word(2, 0, 25, "A", 9999, "")},
		{strings.Repeat("a", 33), word(2, 0, 33, strings.Repeat("a", 33), -1, "")},
		{strings.Repeat("a", 300) + ":3", word(2, 0, 302, strings.Repeat("a", 300), 3, "")},
		{`""`, word(3, 0, 2, "", 0, "")},
		{`"a"`, word(3, 0, 3, "a", 0, "")},
		{`"\"\\\n\x00]-#"`, word(3, 0, 15, "\"\\\n\x00]-#", 0, "")},
		{`"<-"`, word(3, 0, 4, "<-", 0, "")},
		{`"` + strings.Repeat("t", 65) + `"`, word(3, 0, 67, strings.Repeat("t", 65), 0, "")},
		{"[]", word(4, 0, 2, "", 0, "")},
		{"[a]", word(4, 0, 3, "", 0, "a")},
		{"[ab]", word(4, 0, 4, "", 0, "ab")},
		{"[a-d]", word(4, 0, 5, "", 0, "abcd")},
		{"[d-a]", word(4, 0, 5, "", 0, "")},
		{"[d-ax]", word(4, 0, 6, "", 0, "x")},
		{"[xd-a]", word(4, 0, 6, "", 0, "x")},
		{"[c-c]", word(4, 0, 5, "", 0, "c")},
		{"[a-cx-z]", word(4, 0, 8, "", 0, "abcxyz")},
		{"[a-cb-d]", word(4, 0, 8, "", 0, "abcd")},
		{`[a\-c]`, word(4, 0, 6, "", 0, "a-c")},
		{`[+-\-]`, word(4, 0, 6, "", 0, "+,-")},
		{`[\--/]`, word(4, 0, 6, "", 0, "-./")},
		{`[\\-\]]`, word(4, 0, 7, "", 0, `\]`)},
		{`[\x00-\x02\n]`, word(4, 0, 13, "", 0, "\x00\x01\x02\n")},
		{`["#[ ]`, word(4, 0, 6, "", 0, `"#[ `)},
		{"<-", word(5, 0, 2, "<-", 0, "")},
		{"\t/", word(5, 1, 2, "/", 0, "")},
		{"(", word(5, 0, 1, "(", 0, "")},
		{")", word(5, 0, 1, ")", 0, "")},
		{".", word(5, 0, 1, ".", 0, "")},
		{";", word(5, 0, 1, ";", 0, "")},
		{"*", word(5, 0, 1, "*", 0, "")},
		{"+", word(5, 0, 1, "+", 0, "")},
		{"?", word(5, 0, 1, "?", 0, "")},
		{"!", word(5, 0, 1, "!", 0, "")},
		{"&", word(5, 0, 1, "&", 0, "")},
	} {
		if got, is := words.Next(c.s, 0); got != c.want || !is {
			t.Errorf("%q: %v, %v", c.s, got, is)
		}
		want := []words.Word{c.want}
		if c.want.Kind != words.End {
			want = append(want, words.Word{Kind: words.End, At: len(c.s), Next: len(c.s)})
		}
		if l, at, e := words.All(c.s); !slices.Equal(l, want) || at != 0 || e != api.OK {
			t.Errorf("%q: %v, %d, %d", c.s, l, at, e)
		}
	}
}

// TestWholeClass: P7.2: the greatest pair, and one that would be, turned round.
func TestWholeClass(t *testing.T) {
	full := api.Class{math.MaxUint64, math.MaxUint64, math.MaxUint64, math.MaxUint64}
	for s, want := range map[string]api.Class{`[\x00-\xff]`: full, `[\xff-\x00]`: {}, `[\xff-\xff\x00]`: {1, 0, 0, 1 << 63}, `[\x00-\xFEÿ]`: {}, `[\x00-\x7f\x80-\xff]`: full} {
		w, is := words.Next(s, 0)
		if strings.Contains(s, "ÿ") {
			if is || w != (words.Word{}) {
				t.Errorf("%q: %v", s, w)
			}
			continue
		}
		if !is || w.Class != want || w.Next != len(s) {
			t.Errorf("%q: %v, %v", s, w, is)
		}
	}
}

// TestParted: P7.1: where a word ends and the next one begins without a blank.
func TestParted(t *testing.T) {
	for s, want := range map[string][]int{
		"A:1b":         {0, 3, 4},
		"A:1_":         {0, 3, 4},
		"A9b":          {0, 3},
		`A"a"[a]B`:     {0, 1, 4, 7, 8},
		"A<-B;":        {0, 1, 3, 4, 5},
		"<-<-":         {0, 2, 4},
		"()":           {0, 1, 2},
		"**??++":       {0, 1, 2, 3, 4, 5, 6},
		"!&.":          {0, 1, 2, 3},
		"A#B\nC":       {0, 4, 5},
		"A #;\r;\n; #": {0, 7, 10},
		`""""`:         {0, 2, 4},
		"[][]":         {0, 2, 4},
		"[a][b-c]":     {0, 3, 8},
		"\n\nA\n\n":    {2, 5},
		"#\n#\n;#\n#":  {4, 8},
	} {
		l, at, e := words.All(s)
		var got []int
		for _, w := range l {
			got = append(got, w.At)
		}
		if !slices.Equal(got, want) || at != 0 || e != api.OK {
			t.Errorf("%q: %v, %d, %d", s, l, at, e)
		}
	}
}

// TestNoWords: P7.1: where there is none.
func TestNoWords(t *testing.T) {
	for _, c := range []struct {
		s  string
		at int
	}{
		{"1", 0}, {"9A", 0}, {" 1", 1}, {"#\n\t=", 3}, {"-", 0}, {"<", 0}, {"<<-", 0}, {"< -", 0}, {"A <", 2}, {"->", 0}, {"]", 0}, {"[]]", 2}, {"\\", 0}, {"'a'", 0}, {"A = B", 2}, {"A:", 1}, {":1", 0}, {"A:b", 1}, {"A :1", 2}, {"A: 1", 1}, {"A::1", 1}, {"A:1:2", 3}, {"A:-1", 1}, {"A:+1", 1}, {"A:#\n1", 1},
		{`"`, 0}, {`"a`, 0}, {`a "b`, 2}, {`"""`, 2}, {`"\"`, 0}, {`"\q"`, 0}, {`"\x4"`, 0}, {"\"\n\"", 0}, {"\"a\tb\"", 0}, {"\"\x7f\"", 0}, {"\"ä\"", 0}, {`; "a" "b\z"`, 6},
		{"[", 0}, {"[a", 0}, {"A[a", 1}, {"[a-", 0}, {"[a-]", 0}, {"[-]", 0}, {"[-a]", 0}, {"[a-b-c]", 0}, {"[a--b]", 0}, {"[a---]", 0}, {`[\]`, 0}, {`[a-\]`, 0}, {`[\q]`, 0}, {"[\n]", 0}, {"[a-\n]", 0}, {"[\xff]", 0}, {"[]]", 2}, {"[a]b]", 4}, {"[#\n]", 0},
		{"\v", 0}, {"\f", 0}, {"A\x00", 1}, {"A\xa0", 1}, {"A\xc2\xa0;", 1}, {"\xef\xbb\xbfA", 0}, {"ä", 0}, {"Aä", 1}, {"#ä\nÄ", 4},
	} {
		l, at, e := words.All(c.s)
		if l != nil || at != c.at || e != api.ErrSyntax {
			t.Errorf("%q: %v, %d, %d", c.s, l, at, e)
		}
		if w, is := words.Next(c.s, c.at); is || w != (words.Word{}) {
			t.Errorf("%q at %d: %v, %v", c.s, c.at, w, is)
		}
	}
}

// TestSkip: P7.2, one by one.
func TestSkip(t *testing.T) {
	for _, c := range []struct {
		s        string
		at, want int
	}{
		{"", 0, 0}, {"", -1, -1}, {"", 1, 1},
		{"a", 0, 0}, {"a", 1, 1}, {"a", 2, 2}, {" a", -1, -1}, {" ", 2, 2},
		{" a", 0, 1}, {" a", 1, 1}, {"\t\n\r a", 0, 4}, {"\t\n\r a", 2, 4}, {"a \nb", 1, 3}, {"a \nb", 0, 0},
		{"\va", 0, 0}, {"\fa", 0, 0}, {"\x00", 0, 0}, {"\xa0", 0, 0}, {"\x85", 0, 0},
		{"#", 0, 1}, {"#\n", 0, 2}, {"#a\nb", 0, 3}, {"#a\nb", 1, 1}, {"#a\nb", 2, 3}, {"# a", 1, 2}, {"#a", 0, 2}, {"#a\rb", 0, 4}, {"#a#b\n#c\n d", 0, 9}, {"#\n\n#\n;", 0, 5}, {"  #x", 0, 4}, {" # \n # \n", 0, 8}, {"##\nA", 1, 3},
		{`"#"`, 0, 0}, {`"#"`, 1, 3}, {"#\"\n\"", 0, 3},
	} {
		if got := words.Skip(c.s, c.at); got != c.want {
			t.Errorf("%q at %d: %d, want %d", c.s, c.at, got, c.want)
		}
	}
}

// TestWrongPlaces: P7.2: of what is no place of a text.
func TestWrongPlaces(t *testing.T) {
	for _, s := range []string{"", "A", " A ", "#", `"a"`, "1", "\n;#"} {
		for _, at := range append(wrongPlaces(), len(s)+1) {
			if got := words.Skip(s, at); got != at {
				t.Errorf("skip %q at %d: %d", s, at, got)
			}
			if w, is := words.Next(s, at); is || w != (words.Word{}) {
				t.Errorf("next %q at %d: %v, %v", s, at, w, is)
			}
		}
	}
}

// TestFromWithin: P7.2: a place in the middle of a word, or of a remark, is a place like another one.
func TestFromWithin(t *testing.T) {
	s := `AB:12<-"a#b" [c-d]#;`
	for _, c := range []struct {
		at   int
		want words.Word
		is   bool
	}{
		{0, word(2, 0, 5, "AB", 12, ""), true},
		{1, word(2, 1, 5, "B", 12, ""), true},
		{2, words.Word{}, false},
		{3, words.Word{}, false},
		{5, word(5, 5, 7, "<-", 0, ""), true},
		{6, words.Word{}, false},
		{7, word(3, 7, 12, "a#b", 0, ""), true},
		{8, word(2, 8, 9, "a", -1, ""), true},
		{9, word(1, 20, 20, "", 0, ""), true},
		{10, word(2, 10, 11, "b", -1, ""), true},
		{11, words.Word{}, false},
		{12, word(4, 13, 18, "", 0, "cd"), true},
		{15, words.Word{}, false},
		{16, word(2, 16, 17, "d", -1, ""), true},
		{18, word(1, 20, 20, "", 0, ""), true},
		{19, word(5, 19, 20, ";", 0, ""), true},
		{20, word(1, 20, 20, "", 0, ""), true},
	} {
		if got, is := words.Next(s, c.at); got != c.want || is != c.is {
			t.Errorf("at %d: %v, %v", c.at, got, is)
		}
	}
}

// TestShortTexts: P7.1, P7.2, of all texts of one and two bytes, and of all up to four bytes that matter most, and up to six that matter in each word.
func TestShortTexts(t *testing.T) {
	p := model()
	for b := range 256 {
		hold(t, p, string([]byte{byte(b)}))
		for c := range 256 {
			holdAll(t, p, string([]byte{byte(b), byte(c)}))
			holdAll(t, p, string([]byte{'"', byte(b), byte(c), '"'}))
			holdAll(t, p, string([]byte{'[', byte(b), byte(c), ']'}))
			holdAll(t, p, string([]byte{'[', byte(b), '-', byte(c), ']'}))
			holdAll(t, p, string([]byte{'A', byte(b), byte(c), ';'}))
			holdAll(t, p, string([]byte{'#', byte(b), byte(c)}))
		}
	}
	for _, s := range rows("A1:\"[]-# \n<\\", 4) {
		hold(t, p, s)
	}
	for _, of := range []string{`a"\x4`, `[]a-\`, "A:19 ", "#\n A\r", "<-(;*"} {
		for _, s := range rows(of, 6) {
			holdAll(t, p, s)
		}
	}
}

// TestTexts: P7.1, P7.2, of longer texts, right ones and others, from each place.
func TestTexts(t *testing.T) {
	p := model()
	right, wrong := 0, 0
	for _, s := range texts() {
		hold(t, p, s)
		if _, _, e := words.All(s); e == api.OK {
			right++
		} else {
			wrong++
		}
	}
	if right < 500 || wrong < 500 {
		t.Error("too few of a sort: ", right, wrong)
	}
}

// TestAllIsNext: P7.1, P7.2: All's words are Next's, each from the end of the one ahead; between them there are blanks and remarks alone (P7.3).
func TestAllIsNext(t *testing.T) {
	for _, s := range texts() {
		l, _, e := words.All(s)
		if e != api.OK {
			continue
		}
		at := 0
		for i, want := range l {
			got, is := words.Next(s, at)
			if got != want || !is || words.Skip(s, at) != want.At || (want.Kind == words.End) != (i == len(l)-1) {
				t.Fatalf("%q at %d: %v, %v, want %v", s, at, got, is, want)
			}
			if !onlyGaps(s[at:want.At]) {
				t.Fatalf("%q: between words %q", s, s[at:want.At])
			}
			at = want.Next
		}
		if at != len(s) {
			t.Fatalf("%q ends at %d", s, at)
		}
	}
}

// onlyGaps says whether what stands between words is blanks and remarks alone.
func onlyGaps(s string) bool {
	for _, line := range strings.Split(s, "\n") {
		ahead, _, _ := strings.Cut(line, "#")
		if strings.Trim(ahead, " \t\r") != "" {
			return false
		}
	}
	return true
}

// bare are words without their places.
func bare(l []words.Word) []words.Word {
	l = slices.Clone(l)
	for i := range l {
		l[i].At, l[i].Next = 0, 0
	}
	return l
}

// TestBlanksDoNotMatter: P7.3: the same words with whatever blanks and remarks between them, and around all.
func TestBlanksDoNotMatter(t *testing.T) {
	roll := dice()
	parts, between := good(), gaps()
	for range 2000 {
		var one, other strings.Builder
		other.WriteString(between[roll(len(between))])
		n := roll(9)
		for range n {
			s := parts[roll(len(parts))]
			one.WriteString(s + " ")
			other.WriteString(s + between[roll(len(between))] + between[roll(len(between))])
		}
		l, _, e := words.All(one.String())
		m, _, f := words.All(other.String() + "#")
		if e != api.OK || f != api.OK || len(l) != n+1 || !slices.Equal(bare(l), bare(m)) {
			t.Fatalf("%q, %q: %v, %v", one.String(), other.String(), l, m)
		}
	}
}

// TestNoBlanksNeeded: P7.3: without any blank between words, where they do not run into each other, too.
func TestNoBlanksNeeded(t *testing.T) {
	for _, a := range good() {
		for _, b := range good() {
			l, _, e := words.All(a + " " + b)
			m, _, f := words.All(a + b)
			if e != api.OK || f != api.OK || len(l) != 3 {
				t.Fatalf("%q, %q: %v", a, b, l)
			}
			named := l[0].Kind == words.Name && l[1].Kind == words.Name && l[0].Level < 0
			if !named && !slices.Equal(bare(l), bare(m)) {
				t.Errorf("%q, %q: %v, %v", a, b, l, m)
			}
		}
	}
}

// TestLong: P7.1: up to MaxGrammar bytes, and one more, which is told ahead of what is no word.
func TestLong(t *testing.T) {
	const n = api.MaxGrammar
	for _, c := range []struct {
		s     string
		words int
	}{
		{strings.Repeat(";", n), n + 1},
		{strings.Repeat(" ", n), 1},
		{strings.Repeat("#", n), 1},
		{strings.Repeat("#\n", n/2), 1},
		{strings.Repeat("a", n), 2},
		{"a:" + strings.Repeat("9", n-2), 2},
		{`"` + strings.Repeat("a", n-2) + `"`, 2},
		{`"` + strings.Repeat(`\"`, n/2-1) + `"`, 2},
		{"[" + strings.Repeat("a", n-2) + "]", 2},
		{"[" + strings.Repeat(`\-`, n/2-1) + "]", 2},
		{strings.Repeat("<-", n/2), n/2 + 1},
	} {
		if l, at, e := words.All(c.s); len(l) != c.words || at != 0 || e != api.OK {
			t.Errorf("%.9q: %d words, %d, %d", c.s, len(l), at, e)
		}
		if l, at, e := words.All(c.s + " "); l != nil || at != 0 || e != api.ErrLong {
			t.Errorf("%.9q and a blank: %d words, %d, %d", c.s, len(l), at, e)
		}
	}
	for _, s := range []string{"=", `"`, "[", "\xff"} {
		if l, at, e := words.All(strings.Repeat(" ", n-1) + s); l != nil || at != n-1 || e != api.ErrSyntax {
			t.Errorf("%q at the end: %v, %d, %d", s, l, at, e)
		}
		if l, at, e := words.All(strings.Repeat(s, n+1)); l != nil || at != 0 || e != api.ErrLong {
			t.Errorf("%q, too long: %v, %d, %d", s, l, at, e)
		}
	}
}

// TestLongerTexts: P7.2: Skip and Next take texts that All does not.
func TestLongerTexts(t *testing.T) {
	const n = api.MaxScript
	if got := words.Skip(strings.Repeat(" ", n)+"a", 0); got != n {
		t.Error(got)
	}
	if got := words.Skip("#"+strings.Repeat("a", n), 0); got != n+1 {
		t.Error(got)
	}
	s := strings.Repeat(" ", n) + `"` + strings.Repeat("a", n) + `"`
	if w, is := words.Next(s, 1); !is || w != word(3, n, 2*n+2, strings.Repeat("a", n), 0, "") {
		t.Error(w.Kind, w.At, w.Next, is)
	}
	if w, is := words.Next(s[:len(s)-1], 1); is || w != (words.Word{}) {
		t.Error(w.Kind, w.At, w.Next, is)
	}
	if w, is := words.Next(strings.Repeat("a", n), 0); !is || w.Next != n || len(w.Text) != n {
		t.Error(w.Kind, w.At, w.Next, is)
	}
}

// TestNewMemory: R3, R4: what is handed out shares nothing with the text, nor with what was handed out before, and is the same each time.
func TestNewMemory(t *testing.T) {
	s := strings.Clone(`Name:1 <- "text" [set] ; ! Other ""`)
	first, _, _ := words.All(s)
	want := slices.Clone(first)
	from := uintptr(unsafe.Pointer(unsafe.StringData(s)))
	for _, w := range first {
		at := uintptr(unsafe.Pointer(unsafe.StringData(w.Text)))
		if w.Text != "" && from <= at && at < from+uintptr(len(s)) {
			t.Errorf("%q is a piece of the text", w.Text)
		}
	}
	clear(first)
	if second, _, e := words.All(s); !slices.Equal(second, want) || e != api.OK {
		t.Error(second, e)
	}
}
