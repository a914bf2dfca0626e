package read_test

import (
	"math"
	"slices"
	"strconv"
	"strings"
	"testing"
	"unsafe"

	"seedling/api"
	"seedling/gram"
	"seedling/read"
	"seedling/words"
)

// part is a node of a body, with its kids, and how its word is written, if it has one of its own.
type part struct {
	node api.Node
	name string
	word string
	kids []*part
	at   int
}

// of is a part of a Kind, and kids.
func of(k api.Kind, kids ...*part) *part { return &part{node: api.Node{Kind: k}, kids: kids} }

// empty, dot, set, text and call are parts without kids.
func empty() *part { return of(api.Empty) }
func dot() *part   { return &part{node: api.Node{Kind: api.Any}, word: "."} }
func set(word string, l ...byte) *part {
	p := &part{node: api.Node{Kind: api.Set}, word: word}
	for _, b := range l {
		p.node.Class[b/64] |= 1 << (b % 64)
	}
	return p
}
func text(word, s string) *part {
	return &part{node: api.Node{Kind: api.Text, Text: s}, word: word}
}
func call(name string) *part { return &part{node: api.Node{Kind: api.Call}, name: name, word: name} }
func level(name string, n int) *part {
	p := call(name)
	p.node.Level, p.word = n, name+":"+strconv.Itoa(n)
	return p
}

// tight is how tight a Kind binds: what binds less than its place asks for stands in brackets.
func tight(k api.Kind) int {
	switch k {
	case api.Alt:
		return 0
	case api.Seq:
		return 1
	case api.Not, api.And:
		return 2
	}
	return 3
}

// mark is the sign of a Kind with one kid.
func mark(k api.Kind) string {
	return map[api.Kind]string{api.Star: "*", api.Plus: "+", api.Opt: "?", api.Not: "!", api.And: "&"}[k]
}

// writer writes a text, word by word.
type writer struct {
	strings.Builder
	gap  func() string // what stands behind a word
	more func() bool   // whether brackets that need not be stand
}

// put writes a word, and is its place.
func (w *writer) put(word string) int {
	at := w.Len()
	w.WriteString(word + w.gap())
	return at
}

// part writes one where tight ones stand, and puts down the places of all of its nodes.
func (w *writer) part(p *part, at int) {
	if tight(p.node.Kind) < at || w.more() {
		w.put("(")
		w.part(p, 0)
		w.put(")")
		return
	}
	switch k := p.node.Kind; k {
	case api.Empty:
		p.at = w.put("(")
		w.put(")")
	case api.Seq:
		w.row(p, 2, func() {})
	case api.Alt:
		w.row(p, 1, func() { w.put("/") })
	case api.Not, api.And:
		p.at = w.put(mark(k))
		w.part(p.kids[0], 2)
	case api.Star, api.Plus, api.Opt:
		w.part(p.kids[0], 3)
		p.at = w.put(mark(k))
	default:
		p.at = w.put(p.word)
	}
}

// row writes kids, with what stands between them.
func (w *writer) row(p *part, at int, between func()) {
	for i, kid := range p.kids {
		if i > 0 {
			between()
		}
		w.part(kid, at)
	}
	p.at = p.kids[0].at
}

// lay lays a part's nodes into a tree.
func (p *part) lay(t *read.Tree) int {
	n := len(t.Nodes)
	t.Grammar.Nodes = append(t.Grammar.Nodes, p.node)
	t.Nodes, t.Names = append(t.Nodes, p.at), append(t.Names, p.name)
	var kids []int
	for _, kid := range p.kids {
		kids = append(kids, kid.lay(t))
	}
	t.Grammar.Nodes[n].Kids = kids
	return n
}

// written is the text of bodies, the rules' names A0, A1 and so on, and its tree.
func (w *writer) written(bodies ...*part) (string, read.Tree) {
	var t read.Tree
	w.Reset()
	w.WriteString(w.gap())
	for i, body := range bodies {
		name := "A" + strconv.Itoa(i)
		t.Rules = append(t.Rules, w.put(name))
		w.put("<-")
		w.part(body, 0)
		w.put(";")
		t.Grammar.Rules = append(t.Grammar.Rules, api.Rule{Name: name, Body: body.lay(&t)})
	}
	return w.String(), t
}

// plain is a writer with a blank behind each word, and no brackets that need not be.
func plain() *writer {
	return &writer{gap: func() string { return " " }, more: func() bool { return false }}
}

// wild is a writer with whatever may stand behind a word, and whatever brackets.
func wild(roll func(int) int) *writer {
	l := []string{" ", " ", "\n", "\t\r\n", " # (\"[ <- ;\n", "#\n#\n", "  "}
	return &writer{gap: func() string { return l[roll(len(l))] }, more: func() bool { return roll(5) == 0 }}
}

// dice answers numbers below n without a plan, the same ones each time.
func dice() func(n int) int {
	x := uint64(8)
	return func(n int) int {
		x = x*6364136223846793005 + 1442695040888963407
		return int(x>>33) % n
	}
}

// same says whether two trees are.
func same(a, b read.Tree) bool {
	return gram.Same(a.Grammar, b.Grammar) && slices.Equal(a.Rules, b.Rules) && slices.Equal(a.Nodes, b.Nodes) && slices.Equal(a.Names, b.Names)
}

// zero says whether a tree has nothing.
func zero(t read.Tree) bool {
	return t.Grammar.Rules == nil && t.Grammar.Nodes == nil && t.Rules == nil && t.Nodes == nil && t.Names == nil
}

// reads holds what is told of a text that is right against its tree.
func reads(t *testing.T, s string, want read.Tree) {
	t.Helper()
	if got, d := read.Text(s); d != (api.Diag{}) || !same(got, want) {
		t.Fatalf("%.300q: %v, %v, want %v", s, got, d, want)
	}
}

// fails holds what is told of a text that is wrong against its diag.
func fails(t *testing.T, s string, e api.Errno, at int) {
	t.Helper()
	if got, d := read.Text(s); d != (api.Diag{Err: e, At: at}) || !zero(got) {
		t.Errorf("%.300q: %v, %v, want %d at %d", s, got, d, e, at)
	}
}

// must is the tree of a text that is right.
func must(t *testing.T, s string) read.Tree {
	t.Helper()
	l, d := read.Text(s)
	if d != (api.Diag{}) {
		t.Fatalf("%.300q: %v", s, d)
	}
	return l
}

// leaves are parts without kids, one of each Kind and more.
func leaves() []*part {
	return []*part{
		empty(), dot(), set("[b-d]", 'b', 'c', 'd'), text(`"a"`, "a"), call("B"), level("A0", 2),
		level("_", 0), level("x9", 99), text(`"!"`, "!"), text(`"("`, "("), text(`"<-"`, "<-"), text(`"\x00\\\""`, "\x00\\\""), set(`[\-*]`, '-', '*'), call("A1"),
		// Above the limits, and read nevertheless.
		level("C", 100), level("C", 9999), text(`""`, ""), set("[]"), set("[z-a]"), call(strings.Repeat("n", 33)), text(`"`+strings.Repeat("t", 65)+`"`, strings.Repeat("t", 65)),
	}
}

// singles are the Kinds with one kid.
func singles() []api.Kind { return []api.Kind{api.Star, api.Plus, api.Opt, api.Not, api.And} }

// rowsOf are all rows of so many parts at least, with so many nodes together; bodies are those of each number of nodes that is less.
func rowsOf(bodies [][]*part, least, size int) [][]*part {
	if size == 0 && least <= 0 {
		return [][]*part{nil}
	}
	var l [][]*part
	for n := 1; n <= size && n < len(bodies); n++ {
		for _, rest := range rowsOf(bodies, least-1, size-n) {
			for _, p := range bodies[n] {
				l = append(l, append([]*part{p}, rest...))
			}
		}
	}
	return l
}

// allBodies are those of up to so many nodes, by their numbers of nodes, of the first five leaves.
func allBodies(most int) [][]*part {
	bodies := [][]*part{nil, leaves()[:5]}
	for size := 2; size <= most; size++ {
		var l []*part
		for _, kid := range bodies[size-1] {
			for _, k := range singles() {
				l = append(l, of(k, kid))
			}
		}
		for _, kids := range rowsOf(bodies, 2, size-1) {
			l = append(l, of(api.Seq, kids...), of(api.Alt, kids...))
		}
		bodies = append(bodies, l)
	}
	return bodies
}

// random is a part without a plan.
func random(roll func(int) int, deep int) *part {
	all := leaves()
	if deep == 0 || roll(4) == 0 {
		return all[roll(len(all))]
	}
	k := api.Kind(6 + roll(7))
	if k != api.Seq && k != api.Alt {
		return of(k, random(roll, deep-1))
	}
	p := of(k)
	for range 2 + roll(4) {
		p.kids = append(p.kids, random(roll, deep-1))
	}
	return p
}

// clone is a part of its own, so that each of its nodes has a place of its own.
func (p *part) clone() *part {
	c := *p
	c.kids = nil
	for _, kid := range p.kids {
		c.kids = append(c.kids, kid.clone())
	}
	return &c
}

// TestExample: the chapter's.
func TestExample(t *testing.T) {
	got, d := read.Text(`A <- !"a"* / B:2 ();`)
	want := read.Tree{
		Grammar: api.Grammar{
			Rules: []api.Rule{{Name: "A", Body: 0}},
			Nodes: []api.Node{
				{Kind: api.Alt, Kids: []int{1, 4}},
				{Kind: api.Not, Kids: []int{2}},
				{Kind: api.Star, Kids: []int{3}},
				{Kind: api.Text, Text: "a"},
				{Kind: api.Seq, Kids: []int{5, 6}},
				{Kind: api.Call, Level: 2},
				{Kind: api.Empty},
			},
		},
		Rules: []int{0},
		Nodes: []int{5, 5, 9, 6, 13, 13, 17},
		Names: []string{"", "", "", "", "", "B", ""},
	}
	if d != (api.Diag{}) || !same(got, want) {
		t.Error(got, d)
	}
}

// TestPlaces: P8.1: of each node that of its own word; of Seq and Alt that of their first kid, which may be a sign behind a part.
func TestPlaces(t *testing.T) {
	for _, c := range []struct {
		s     string
		rules []int
		nodes []int
	}{
		{`A<-();`, []int{0}, []int{3}},
		{` A <- ( ) ;`, []int{1}, []int{6}},
		{`A<-.;`, []int{0}, []int{3}},
		{`A<-[a];B<-"b";`, []int{0, 7}, []int{3, 10}},
		{`A<-(((.)));`, []int{0}, []int{6}},
		{`A<-((()));`, []int{0}, []int{5}},
		{`A<-.*;`, []int{0}, []int{4, 3}},
		{`A<-. * + ?;`, []int{0}, []int{9, 7, 5, 3}},
		{`A<-(.)*;`, []int{0}, []int{6, 4}},
		{`A<-!.;`, []int{0}, []int{3, 4}},
		{`A<-! & !.;`, []int{0}, []int{3, 5, 7, 8}},
		{`A<-!.*;`, []int{0}, []int{3, 5, 4}},
		{`A<-(!.)*;`, []int{0}, []int{7, 4, 5}},
		{`A<-. .;`, []int{0}, []int{3, 3, 5}},
		{`A<-.*.;`, []int{0}, []int{4, 4, 3, 5}},
		{`A<-.*/.;`, []int{0}, []int{4, 4, 3, 6}},
		{`A<-.*./.;`, []int{0}, []int{4, 4, 4, 3, 5, 7}},
		{`A<-(. .)+.;`, []int{0}, []int{8, 8, 4, 4, 6, 9}},
		{`A<-(./.).;`, []int{0}, []int{4, 4, 4, 6, 8}},
		{`A<-(!.)B:1;`, []int{0}, []int{4, 4, 5, 7}},
		{"#\nA#\n<-#\nB:03#\n;#", []int{2}, []int{9}},
	} {
		got := must(t, c.s)
		if !slices.Equal(got.Rules, c.rules) || !slices.Equal(got.Nodes, c.nodes) {
			t.Errorf("%s: %v, %v", c.s, got.Rules, got.Nodes)
		}
	}
}

// TestAllBodies: P8.1, P8.3: each body of up to five nodes, written in one way and with whatever brackets and blanks.
func TestAllBodies(t *testing.T) {
	roll := dice()
	straight, bent := plain(), wild(roll)
	for _, l := range allBodies(5) {
		for _, p := range l {
			p = p.clone()
			s, want := straight.written(p)
			reads(t, s, want)
			if !gram.Right(want.Grammar) {
				t.Fatalf("%q: not right", s)
			}
			s, want = bent.written(p)
			reads(t, s, want)
		}
	}
}

// TestManyRules: P8.1, P8.3: grammars of several rules, higher bodies, and all leaves.
func TestManyRules(t *testing.T) {
	roll := dice()
	straight, bent := plain(), wild(roll)
	for range 3000 {
		var l []*part
		for range 1 + roll(6) {
			l = append(l, random(roll, roll(6)).clone())
		}
		s, want := straight.written(l...)
		if len(s) > api.MaxGrammar {
			continue
		}
		reads(t, s, want)
		if s, want = bent.written(l...); len(s) <= api.MaxGrammar {
			reads(t, s, want)
		}
	}
}

// TestLeaves: P8.1: what a word has, its node has; what is above the limits, too.
func TestLeaves(t *testing.T) {
	for _, p := range leaves() {
		s, want := plain().written(p)
		reads(t, s, want)
		x, y := must(t, s).Grammar.Nodes[0], p.node
		if x.Kind != y.Kind || x.Class != y.Class || x.Text != y.Text || x.Level != y.Level || x.Rule != 0 || len(x.Kids) != 0 {
			t.Errorf("%s: %v", s, x)
		}
	}
	// Of a word's level of -1 nothing is left.
	if got := must(t, "A <- A A:0 A:0001 A:00000;"); got.Grammar.Nodes[1].Level != 0 || got.Grammar.Nodes[2].Level != 0 || got.Grammar.Nodes[3].Level != 1 || got.Grammar.Nodes[4].Level != 9999 {
		t.Error(got)
	}
}

// TestNames: P8.1: rules of one name, and calls of none, are read: no call is resolved.
func TestNames(t *testing.T) {
	got := must(t, "A <- C; B <- B A:1; A <- .;")
	for i, name := range []string{"A", "B", "A"} {
		if got.Grammar.Rules[i].Name != name {
			t.Error(i, got.Grammar.Rules[i])
		}
	}
	if !slices.Equal(got.Names, []string{"C", "", "B", "A", ""}) {
		t.Error(got.Names)
	}
	for _, x := range got.Grammar.Nodes {
		if x.Rule != 0 {
			t.Error(x)
		}
	}
}

// state is what may come next; open is how many brackets are open.
type state struct {
	is   int
	open int
}

// States.
const (
	first  = iota // a rule
	again         // a rule, or the End
	arrow         // <-
	item          // an item
	under         // an item's part behind ! or &
	close0        // an item, or the ) of ()
	after         // what goes on behind a primary part
	done
)

// isPart says whether a word is a primary part alone.
func isPart(w string) bool { return strings.ContainsAny(w[:1], `AB".[`) }

// step is the state behind a word, as it is written; false, if the word may not come.
func (x state) step(w string) (state, bool) {
	to := func(is int) (state, bool) { return state{is, x.open}, true }
	switch x.is {
	case first, again:
		if w == "" && x.is == again {
			return to(done)
		}
		if w == "A" || w == "B" {
			return to(arrow)
		}
		return x, false
	case arrow:
		if w == "<-" {
			return to(item)
		}
		return x, false
	case close0:
		if w == ")" {
			x.open--
			return to(after)
		}
	case after:
		switch {
		case w == "*" || w == "+" || w == "?":
			return to(after)
		case w == "/":
			return to(item)
		case w == ";" && x.open == 0:
			return to(again)
		case w == ")" && x.open > 0:
			x.open--
			return to(after)
		}
	}
	switch {
	case w == "":
		return x, false
	case w == "!" || w == "&":
		return to(under)
	case w == "(":
		x.open++
		return to(close0)
	case isPart(w):
		return to(after)
	}
	return x, false
}

// wrongAt is the place of the first word that may not come, the words parted by blanks; -1, if there is none.
func wrongAt(l []string) int {
	at, x := 0, state{}
	for _, w := range append(slices.Clone(l), "") {
		is := false
		if x, is = x.step(w); !is {
			return at
		}
		at += len(w) + 1
	}
	return -1
}

// holdWords holds what is told of a row of words against the states.
func holdWords(t *testing.T, l []string) bool {
	t.Helper()
	s := ""
	for _, w := range l {
		s += w + " "
	}
	at := wrongAt(l)
	if at < 0 {
		got := must(t, s)
		if len(got.Rules) != len(got.Grammar.Rules) || len(got.Nodes) != len(got.Grammar.Nodes) || len(got.Names) != len(got.Nodes) || len(got.Rules) == 0 {
			t.Fatalf("%s: %v", s, got)
		}
	} else {
		fails(t, s, api.ErrSyntax, at)
	}
	return at < 0 || at == len(s)
}

// alphabet are words, one of each sort.
func alphabet() []string {
	return []string{"A", "A:1", `"*"`, "[(]", ".", "<-", "/", "(", ")", ";", "*", "+", "?", "!", "&"}
}

// TestSyntax: P8.1: all rows of words that may go on with one more word, and that one: behind nothing, and behind what begins a rule.
func TestSyntax(t *testing.T) {
	for _, c := range []struct {
		from []string
		most int
	}{
		{nil, 5},
		{[]string{"A", "<-"}, 4},
		{[]string{"A", "<-", "(", "("}, 3},
		{[]string{"A", "<-", ".", "/", "!"}, 3},
		{[]string{"A", "<-", "(", ".", ")", ";"}, 4},
	} {
		rows := [][]string{c.from}
		for range c.most {
			var next [][]string
			for _, l := range rows {
				if !holdWords(t, l) {
					continue
				}
				for _, w := range alphabet() {
					next = append(next, append(slices.Clone(l), w))
				}
			}
			rows = next
		}
		for _, l := range rows {
			holdWords(t, l)
		}
	}
}

// wordsOf are those of a text, as they are written, without the End.
func wordsOf(t *testing.T, s string) []string {
	t.Helper()
	row, _, e := words.All(s)
	if e != api.OK {
		t.Fatalf("%q: %d", s, e)
	}
	var l []string
	for _, w := range row[:len(row)-1] {
		l = append(l, s[w.At:w.Next])
	}
	return l
}

// TestSyntaxLong: P8.1: longer texts, cut short, with a word too many, one too few, or another one.
func TestSyntaxLong(t *testing.T) {
	roll := dice()
	for range 6000 {
		var bodies []*part
		for range 1 + roll(3) {
			bodies = append(bodies, random(roll, 4).clone())
		}
		s, _ := plain().written(bodies...)
		if len(s) > api.MaxGrammar/2 {
			continue
		}
		l := wordsOf(t, s)
		at := roll(len(l))
		w := alphabet()[roll(len(alphabet()))]
		switch roll(4) {
		case 0:
			l = l[:at]
		case 1:
			l = slices.Insert(l, at, w)
		case 2:
			l = slices.Delete(l, at, at+1)
		case 3:
			l[at] = w
		}
		// The states know a name by its first byte, and those of rules by A and B.
		for i, w := range l {
			if x, is := words.Next(w, 0); is && x.Kind == words.Name {
				l[i] = "A"
				if x.Level >= 0 {
					l[i] = "A:1"
				}
			}
		}
		holdWords(t, l)
	}
}

// TestWrong: P8.1, one by one: where the first wrong word is.
func TestWrong(t *testing.T) {
	for _, c := range []struct {
		s  string
		at int
	}{
		{"", 0},
		{" ", 1},
		{"# a\n\n", 5},
		{"# a", 3},
		{"A", 1},
		{"A ", 2},
		{"A:0 <- .;", 0},
		{"A <- .; B:1 <- .;", 8},
		{`"A" <- .;`, 0},
		{"<- .;", 0},
		{"A .;", 2},
		{"A A <- .;", 2},
		{"A <-", 4},
		{"A <- ;", 5},
		{"A <- .", 6},
		{"A <- . # ;", 10},
		{"A <- .;;", 7},
		{"A <- .; B", 9},
		{"A <- .; .", 8},
		{"A <- . B <- .;", 9},
		{"A <- / .;", 5},
		{"A <- . /;", 8},
		{"A <- . / / .;", 9},
		{"A <- *;", 5},
		{"A <- !;", 6},
		{"A <- !*;", 6},
		{"A <- !/;", 6},
		{"A <- !);", 6},
		{"A <- .!;", 7},
		{"A <- )", 5},
		{"A <- .);", 6},
		{"A <- ();)", 8},
		{"A <- ());", 7},
		{"A <- (;", 6},
		{"A <- (/);", 6},
		{"A <- (*);", 6},
		{"A <- (!);", 7},
		{"A <- (.;", 7},
		{"A <- (. / );", 10},
		{"A <- (.", 7},
		{"A <- (A <- .);", 8},
		{`A <- "<-" "a" <- .;`, 14},
	} {
		fails(t, c.s, api.ErrSyntax, c.at)
	}
}

// TestTextsAreNoSigns: P8.1: a Text with the bytes of a sign stands for itself.
func TestTextsAreNoSigns(t *testing.T) {
	for _, w := range []string{"!", "&", "*", "+", "?", ".", "(", ")", "/", ";", "<-", ""} {
		got := must(t, `A <- "`+w+`";`)
		if len(got.Nodes) != 1 || got.Grammar.Nodes[0].Kind != api.Text || got.Grammar.Nodes[0].Text != w {
			t.Error(w, got)
		}
		fails(t, `A "`+w+`" .;`, api.ErrSyntax, 2)
		fails(t, `A <- . "`+w+`"`, api.ErrSyntax, 9+len(w))
		fails(t, `A <- ("a" "`+w+`";`, api.ErrSyntax, 12+len(w))
	}
}

// TestWordsFirst: P8.1: what words.All tells, it tells first, wherever it is.
func TestWordsFirst(t *testing.T) {
	for _, c := range []struct {
		s  string
		at int
	}{
		{"=", 0},
		{"; A <- =", 7},
		{"A <- .; -", 8},
		{"A <- \"a", 5},
		{") [a-", 2},
		{"A <- B: 1;", 6},
		{"A <- B :1;", 7},
		{"A < - .;", 2},
		{"A <- " + strings.Repeat("(", 501) + "\x00", 506},
	} {
		fails(t, c.s, api.ErrSyntax, c.at)
	}
	const n = api.MaxGrammar
	body := "A <- .;"
	if got := must(t, body+strings.Repeat(" ", n-len(body))); len(got.Nodes) != 1 {
		t.Error(got)
	}
	fails(t, body+strings.Repeat(" ", n-len(body)+1), api.ErrLong, 0)
	fails(t, strings.Repeat("=", n+1), api.ErrLong, 0)
	fails(t, "A <- "+strings.Repeat("(", n), api.ErrLong, 0)
	fails(t, strings.Repeat("=", n), api.ErrSyntax, 0)
}

// nested is a rule's text with so many brackets around something, with marks ahead of and behind each.
func nested(n int, within, ahead, behind string) string {
	return "A <- " + strings.Repeat(ahead+"(", n) + within + strings.Repeat(")"+behind, n) + ";"
}

// tooDeep is the place of the first bracket with 500 open ones ahead of it; -1, if there is none.
func tooDeep(s string) int {
	open := 0
	for at, b := range []byte(s) {
		switch b {
		case '(':
			if open == 500 {
				return at
			}
			open++
		case ')':
			open--
		}
	}
	return -1
}

// TestBrackets: P8.1: 500 may be open, and no more, whatever stands between them; those of an Empty count.
func TestBrackets(t *testing.T) {
	for _, c := range []struct{ within, ahead, behind string }{
		{".", "", ""}, {".", "!", ""}, {".", "", "*"}, {".", "&!", "?+"}, {". .", ".", "."}, {".", "./", "/."}, {".", "()", "()"}, {".", "(.)", ""}, {"()", "", ""}, {"()", "!", "*"},
	} {
		own := strings.Count(c.within, "(")
		s := nested(500-own, c.within, c.ahead, c.behind)
		if got := must(t, s); len(got.Nodes) == 0 || tooDeep(s) >= 0 {
			t.Error(c)
		}
		for _, n := range []int{501 - own, 502, 600} {
			s = nested(n, c.within, c.ahead, c.behind)
			fails(t, s, api.ErrLong, tooDeep(s))
		}
	}
}

// TestBracketsInTurn: P8.1: brackets that are closed again do not count, in one rule or in several.
func TestBracketsInTurn(t *testing.T) {
	if got := must(t, "A <- "+strings.Repeat("()", 501)+";"); len(got.Nodes) != 502 {
		t.Error(len(got.Nodes))
	}
	if got := must(t, "A <- "+strings.Repeat("(.)", 1000)+";"); len(got.Nodes) != 1001 {
		t.Error(len(got.Nodes))
	}
	if got := must(t, strings.Repeat(nested(400, ".", "", ""), 5)); len(got.Nodes) != 5 {
		t.Error(len(got.Nodes))
	}
	one := strings.Repeat("(", 499) + "()" + strings.Repeat(")", 499)
	if got := must(t, "A <- "+one+one+" / ("+one[1:len(one)-1]+");"); len(got.Nodes) != 5 {
		t.Error(len(got.Nodes))
	}
	fails(t, "A <- "+one+"("+one+");", api.ErrLong, 5+len(one)+500)
}

// TestBracketsAndSyntax: P8.1: what is wrong ahead of the bracket that is too many goes first, what is wrong behind it does not.
func TestBracketsAndSyntax(t *testing.T) {
	deep := strings.Repeat("(", 501)
	fails(t, "A <- "+deep, api.ErrLong, 505)
	fails(t, "A <- "+deep+";", api.ErrLong, 505)
	fails(t, "A <- "+deep+"/", api.ErrLong, 505)
	fails(t, "A <- "+deep+strings.Repeat(")", 600), api.ErrLong, 505)
	fails(t, "A <- . ; <- "+deep, api.ErrSyntax, 9)
	fails(t, "A <- * "+deep, api.ErrSyntax, 5)
	fails(t, "A "+deep, api.ErrSyntax, 2)
	fails(t, "A <- "+deep[1:], api.ErrSyntax, 505)
	fails(t, "A <- "+deep[1:]+"/(", api.ErrSyntax, 505)
	fails(t, "A <- "+deep[1:]+"!*(", api.ErrSyntax, 506)
}

// TestLongRows: R1: as many signs as a text has room for.
func TestLongRows(t *testing.T) {
	const n = api.MaxGrammar - len("A<-.;")
	for _, c := range []struct {
		ahead, behind string
		kind          api.Kind
	}{
		{"!", "", api.Not}, {"&", "", api.And}, {"", "*", api.Star}, {"", "+", api.Plus}, {"", "?", api.Opt},
	} {
		got := must(t, "A<-"+strings.Repeat(c.ahead, n)+"."+strings.Repeat(c.behind, n)+";")
		if len(got.Nodes) != n+1 || got.Grammar.Nodes[n].Kind != api.Any {
			t.Fatal(c, len(got.Nodes))
		}
		for i, x := range got.Grammar.Nodes[:n] {
			at := 3 + i
			if c.behind != "" {
				at = 3 + n - i
			}
			if x.Kind != c.kind || !slices.Equal(x.Kids, []int{i + 1}) || got.Nodes[i] != at {
				t.Fatal(c, i, x, got.Nodes[i])
			}
		}
		if d := read.Limits(got); d.Err != api.ErrLong {
			t.Error(c, d)
		}
	}
	for _, w := range []string{".", "/.", "()", "(.)", "[]", `""`, "!.", ".*"} {
		got := must(t, "A<-."+strings.Repeat(w, n/len(w))+";")
		if kids := got.Grammar.Nodes[0].Kids; len(kids) != n/len(w)+1 {
			t.Error(w, len(kids))
		}
	}
	if got := must(t, strings.Repeat("A<-.;", api.MaxGrammar/5)); len(got.Rules) != api.MaxGrammar/5 {
		t.Error(len(got.Rules))
	}
}

// above are the places of what is above the limits, as the chapter names them one by one.
func above(t read.Tree) []int {
	var l []int
	put := func(is bool, at int) {
		if is {
			l = append(l, at)
		}
	}
	for i, r := range t.Grammar.Rules {
		put(i == 32, t.Rules[i])
		put(len(r.Name) > 32, t.Rules[i])
		put(height(t.Grammar.Nodes, r.Body) > 16, t.Rules[i])
	}
	for n, x := range t.Grammar.Nodes {
		at := t.Nodes[n]
		put(n == 2048, at)
		switch x.Kind {
		case api.Call:
			put(len(t.Names[n]) > 32, at)
			put(x.Level > 99, at)
		case api.Text:
			put(x.Text == "" || len(x.Text) > 64, at)
		case api.Set:
			put(x.Class == api.Class{}, at)
		case api.Seq, api.Alt:
			put(len(x.Kids) > 64, at)
		}
	}
	return l
}

// height is a node's.
func height(l []api.Node, n int) int {
	h := 0
	for _, kid := range l[n].Kids {
		h = max(h, height(l, kid))
	}
	return h + 1
}

// holdLimits holds what is told of a text's tree against the places; the place, or -1.
func holdLimits(t *testing.T, s string) int {
	t.Helper()
	tree := must(t, s)
	want := api.Diag{}
	at := -1
	if l := above(tree); len(l) > 0 {
		at = slices.Min(l)
		want = api.Diag{Err: api.ErrLong, At: at}
	}
	if d := read.Limits(tree); d != want {
		t.Fatalf("%.300q: %v, want %v", s, d, want)
	}
	return at
}

// limits holds a text against a place, too.
func limits(t *testing.T, s string, at int) {
	t.Helper()
	if got := holdLimits(t, s); got != at {
		t.Errorf("%.300q: %d, want %d", s, got, at)
	}
}

// many are so many rules, with one body.
func many(n int, body string) string {
	var s strings.Builder
	for i := range n {
		s.WriteString("A" + strconv.Itoa(i) + "<-" + body + ";")
	}
	return s.String()
}

// TestLimits: P8.2: each limit, from both sides.
func TestLimits(t *testing.T) {
	rep := strings.Repeat
	for _, c := range []struct {
		s  string
		at int
	}{
		{"A <- .;", -1},
		{" A <- B;", -1},
		{many(32, "."), -1},
		{many(33, "."), len(many(32, "."))},
		{many(40, "."), len(many(32, "."))},
		{rep("n", 32) + " <- .;", -1},
		{" " + rep("n", 33) + " <- .;", 1},
		{"A <- .; " + rep("n", 33) + " <- .;", 8},
		{"A <- " + rep("n", 32) + ";", -1},
		{"A <- " + rep("n", 33) + ";", 5},
		{"A <- . " + rep("n", 33) + ":1;", 7},
		{"A <- B:99;", -1},
		{"A <- B:0099;", -1},
		{"A <- B:100;", 5},
		{"A <- B:9999;", 5},
		{"A <- B:00000;", 5},
		{`A <- "";`, 5},
		{`A <- "a" "";`, 9},
		{`A <- "` + rep("a", 64) + `";`, -1},
		{`A <- "` + rep("a", 65) + `";`, 5},
		{`A <- "` + rep(`\x00`, 64) + `";`, -1},
		{`A <- "` + rep(`\x00`, 65) + `";`, 5},
		{"A <- [];", 5},
		{"A <- [b-a];", 5},
		{"A <- [a-a];", -1},
		{"A <- " + rep(".", 64) + ";", -1},
		{"A <- " + rep(".", 65) + ";", 5},
		{"A <- ." + rep("/.", 63) + ";", -1},
		{"A <- ." + rep("/.", 64) + ";", 5},
		{"A <- .*" + rep(".", 64) + ";", 6},
		{"A <- !(.*" + rep("/.", 64) + ");", 8},
		{"A <- (" + rep(".", 64) + ") .;", -1},
		{"A <- ." + rep("*", 15) + ";", -1},
		{" A <- ." + rep("*", 16) + ";", 1},
		{"A <- " + rep("!", 15) + ".;", -1},
		{" A <- " + rep("!", 16) + ".;", 1},
		{"A <- .; B <- " + rep("(./", 15) + "." + rep(")", 15) + ";", -1},
		{"A <- .; B <- " + rep("(./", 16) + "." + rep(")", 16) + ";", 8},
		{"A <- .; B <- . (. / . (" + rep("!", 12) + ".)) .;", -1},
		{"A <- .; B <- . (. / . (" + rep("!", 13) + ".)) .;", 8},
		{"A <- " + rep("(", 500) + "." + rep(")", 500) + ";", -1},
	} {
		limits(t, c.s, c.at)
	}
}

// TestManyNodes: P8.2: 2048 nodes, and one more, of several sorts.
func TestManyNodes(t *testing.T) {
	rep := strings.Repeat
	// 31 rules of 66 nodes are 2046.
	full := many(31, rep(".", 63)+".*")
	limits(t, full, -1)
	limits(t, full+"B <- .*;", -1)
	at := len(full) + len("B <- ")
	limits(t, full+"B <- . .;", at+2)
	limits(t, full+"B <- .**;", at)
	limits(t, full+"B <- !!.;", at+2)
	limits(t, full+"B <- ....;", at+1)
	// The 2049th node is a sign; the one behind it has a place ahead of the sign's, and is not meant.
	limits(t, full+"B <- . .*;", at+3)
	limits(t, full+"B <- !!.*;", at+3)
	limits(t, full+"B <- ! . .*;", at+2)
	limits(t, full+"B <- !(.*);", at+2)
	limits(t, full+"B <- .*?+;", at+1)
	limits(t, full+"B <- . (A A)* A;", at+2+5)
	// Of the 2048 alone.
	limits(t, full+"B <- !.;", -1)
}

// TestLeast: P8.2: of several the least place, which need not be that of the first node.
func TestLeast(t *testing.T) {
	rep := strings.Repeat
	long := rep("n", 33)
	limits(t, `A <- "" [] B:100;`, 5)
	limits(t, `A <- . [] "";`, 7)
	limits(t, long+" <- "+long+";", 0)
	limits(t, "A <- "+long+"; "+long+" <- .;", 5)
	// The place of the Seq is behind that of its first kid's kid.
	limits(t, `A <- ""*`+rep(".", 64)+";", 5)
	limits(t, `A <- (. "" .)*`+rep(".", 64)+";", 8)
	limits(t, `A <- (. . .)*`+rep(".", 64)+` "";`, 12)
	// The rule whose body is too high is ahead of all in it, and behind those ahead of it.
	limits(t, ` A <- ""`+rep("*", 16)+";", 1)
	limits(t, ` A <- []; B <- `+rep("!", 16)+".;", 6)
	limits(t, many(32, ".")+`B <- "";`, len(many(32, ".")))
	limits(t, many(31, ".")+`B <- "";C <- .;`, len(many(31, "."))+5)
}

// TestLimitsOfAll: P8.2: trees without a plan, of which some are above limits.
func TestLimitsOfAll(t *testing.T) {
	roll := dice()
	w := wild(roll)
	none := 0
	for range 1500 {
		var l []*part
		for range 1 + roll(3) + roll(2)*roll(35) {
			p := random(roll, roll(4))
			for range roll(2) * roll(20) {
				p = of(singles()[roll(5)], p)
			}
			for range roll(2) * roll(2) {
				p = of(api.Kind(6+roll(2)), append([]*part{p, dot()}, slices.Repeat([]*part{dot()}, 60+roll(6))...)...)
			}
			l = append(l, p.clone())
		}
		s, _ := w.written(l...)
		if len(s) <= api.MaxGrammar && holdLimits(t, s) < 0 {
			none++
		}
	}
	if none == 0 {
		t.Error("all are above limits")
	}
}

// TestPreorder: P8.3: where nothing is above the limits, and names are unlike, a tree's grammar is right.
func TestPreorder(t *testing.T) {
	roll := dice()
	w := wild(roll)
	count := 0
	for range 3000 {
		var l []*part
		for range 1 + roll(4) {
			l = append(l, random(roll, roll(5)).clone())
		}
		s, _ := w.written(l...)
		if len(s) > api.MaxGrammar {
			continue
		}
		got := must(t, s)
		if is := read.Limits(got) == (api.Diag{}); is != gram.Right(got.Grammar) {
			// Names that are too long are no part of the grammar.
			if is || !slices.Contains(got.Names, strings.Repeat("n", 33)) {
				t.Fatalf("%q: %v", s, got)
			}
		} else if is {
			count++
		}
	}
	if count < 100 {
		t.Error("few trees: ", count)
	}
}

// TestBlanks: P8.3: whatever stands between words, all but the places is the same.
func TestBlanks(t *testing.T) {
	roll := dice()
	straight, bent := plain(), wild(roll)
	bent.more = straight.more
	for range 2000 {
		p := random(roll, 5).clone()
		s, _ := straight.written(p)
		other, _ := bent.written(p)
		if len(s) > api.MaxGrammar || len(other) > api.MaxGrammar {
			continue
		}
		a, b := must(t, s), must(t, other)
		if !gram.Same(a.Grammar, b.Grammar) || !slices.Equal(a.Names, b.Names) || len(a.Nodes) != len(b.Nodes) {
			t.Fatalf("%q, %q", s, other)
		}
	}
	a, b := must(t, `A<-!A:1"a"[b]*.+(A/())?;B<-A A;`), must(t, "#\n A <- ! A:1 \"a\" [b] * . + ( A / ( ) ) ? ; #\tB\nB <- A\r\nA ; #")
	if !gram.Same(a.Grammar, b.Grammar) || !slices.Equal(a.Names, b.Names) {
		t.Error(a, b)
	}
}

// strange are trees that no text has.
func strange(base read.Tree) []read.Tree {
	l := []read.Tree{{}, {Rules: []int{1}}, {Nodes: []int{1}}, {Names: []string{"A"}}}
	change := func(f func(x *read.Tree)) {
		x := read.Tree{Grammar: gram.Copy(base.Grammar), Rules: slices.Clone(base.Rules), Nodes: slices.Clone(base.Nodes), Names: slices.Clone(base.Names)}
		f(&x)
		l = append(l, x)
	}
	for _, n := range []int{math.MinInt, -1, 0, 1, 2, 5, 6, 7, 99, math.MaxInt} {
		for i := range base.Nodes {
			change(func(x *read.Tree) { x.Grammar.Nodes[i].Kids = []int{n} })
			change(func(x *read.Tree) { x.Grammar.Nodes[i].Kids = append(x.Grammar.Nodes[i].Kids, n, n) })
			change(func(x *read.Tree) { x.Grammar.Nodes[i].Kind = api.Kind(n) })
			change(func(x *read.Tree) { x.Grammar.Nodes[i].Rule = n })
			change(func(x *read.Tree) { x.Grammar.Nodes[i].Level = n })
			change(func(x *read.Tree) { x.Nodes[i] = n })
			change(func(x *read.Tree) { x.Names[i] = "" })
		}
		change(func(x *read.Tree) { x.Grammar.Rules[1].Body = n })
		change(func(x *read.Tree) { x.Rules[0] = n })
	}
	change(func(x *read.Tree) { x.Nodes = nil })
	change(func(x *read.Tree) { x.Nodes = x.Nodes[1:] })
	change(func(x *read.Tree) { x.Names = nil })
	change(func(x *read.Tree) { x.Rules = nil })
	change(func(x *read.Tree) { x.Grammar.Nodes = nil })
	change(func(x *read.Tree) { x.Grammar.Rules = nil })
	change(func(x *read.Tree) { x.Grammar.Rules[0].Name = "" })
	change(func(x *read.Tree) { x.Grammar = api.Grammar{} })
	return l
}

// TestStrangeTrees: R1: Limits ends, and does not panic, whatever tree it is given; of the same it tells the same.
func TestStrangeTrees(t *testing.T) {
	for _, s := range []string{`A <- !"a"* / B:2 (); B <- .;`, `A <- !""* / B:100 (); ` + strings.Repeat("n", 33) + ` <- [];`} {
		for i, x := range strange(must(t, s)) {
			d := read.Limits(x)
			if d != read.Limits(x) || d.Err != api.OK && d.Err != api.ErrLong || d.Err == api.OK && d.At != 0 {
				t.Error(s, i, d)
			}
		}
	}
	if d := read.Limits(read.Tree{}); d != (api.Diag{}) {
		t.Error(d)
	}
}

// TestNothingChanged: R3: Limits changes nothing.
func TestNothingChanged(t *testing.T) {
	for _, s := range []string{`A <- !"a"* / B:2 ();`, `A <- "" [] B:100 ` + strings.Repeat(".", 65) + ";"} {
		got, want := must(t, s), must(t, s)
		read.Limits(got)
		if !same(got, want) {
			t.Error(s)
		}
	}
}

// TestNewMemory: R3, R4: a tree shares nothing with its text, with another tree, nor one of its lists with another.
func TestNewMemory(t *testing.T) {
	s := strings.Clone(`Name <- ("text" Name / .)* (. / Other)? ; Other <- "more" . ;`)
	from := uintptr(unsafe.Pointer(unsafe.StringData(s)))
	first := must(t, s)
	piece := func(x string) bool {
		at := uintptr(unsafe.Pointer(unsafe.StringData(x)))
		return x != "" && from <= at && at < from+uintptr(len(s))
	}
	for i, x := range first.Grammar.Nodes {
		if piece(x.Text) || piece(first.Names[i]) {
			t.Error(i, "is a piece of the text")
		}
	}
	for _, r := range first.Grammar.Rules {
		if piece(r.Name) {
			t.Error(r.Name, "is a piece of the text")
		}
	}
	want := must(t, s)
	for i := range first.Grammar.Nodes {
		x := &first.Grammar.Nodes[i]
		_ = append(x.Kids, -9, -9, -9, -9)
	}
	_, _, _ = append(first.Nodes, -9), append(first.Rules, -9), append(first.Names, "x")
	if !same(first, want) {
		t.Error("lists share their room")
	}
	for i := range first.Grammar.Nodes {
		clear(first.Grammar.Nodes[i].Kids)
	}
	clear(first.Grammar.Nodes)
	clear(first.Grammar.Rules)
	clear(first.Rules)
	clear(first.Nodes)
	clear(first.Names)
	if !same(must(t, s), want) {
		t.Error("not alike")
	}
}
