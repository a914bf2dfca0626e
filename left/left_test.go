package left_test

import (
	"math"
	"reflect"
	"slices"
	"strings"
	"testing"

	"seedling/api"
	"seedling/gram"
	"seedling/left"
	"seedling/names"
	"seedling/read"
	"seedling/show"
)

// part is a node of a body, and its kids as they hang on it, without numbers.
type part struct {
	api.Node
	kids []part
}

// of is a part of a Kind, and kids.
func of(k api.Kind, kids ...part) part { return part{Node: api.Node{Kind: k}, kids: kids} }

// set, text and call are parts that have something.
func set(words ...uint64) part {
	p := of(api.Set)
	copy(p.Class[:], words)
	return p
}
func text(s string) part { return part{Node: api.Node{Kind: api.Text, Text: s}} }
func call(rule, level int) part {
	return part{Node: api.Node{Kind: api.Call, Rule: rule, Level: level}}
}

// lay lays a part's nodes behind a grammar's last one.
func (p part) lay(g *api.Grammar) int {
	n := len(g.Nodes)
	g.Nodes = append(g.Nodes, p.Node)
	for _, kid := range p.kids {
		k := kid.lay(g)
		g.Nodes[n].Kids = append(g.Nodes[n].Kids, k)
	}
	return n
}

// nameOf is a name for a rule: no other number has it.
func nameOf(i int) string { return string(rune('A'+i%26)) + strings.Repeat("_", i/26) }

// laid is the grammar of some bodies, whose rules are A, B, C and so on.
func laid(bodies ...part) api.Grammar {
	var g api.Grammar
	for i, body := range bodies {
		g.Rules = append(g.Rules, api.Rule{Name: nameOf(i), Body: body.lay(&g)})
	}
	return g
}

// hung is a grammar's node as a part.
func hung(g api.Grammar, n int) part {
	p := part{Node: g.Nodes[n]}
	p.Kids = nil
	for _, kid := range g.Nodes[n].Kids {
		p.kids = append(p.kids, hung(g, kid))
	}
	return p
}

// dice answers numbers below n without a plan, the same ones each time.
func dice() func(n int) int {
	x := uint64(12)
	return func(n int) int {
		x = x*6364136223846793005 + 1442695040888963407
		return int(x>>33) % n
	}
}

// random is a part without a plan, of a height at most, in a grammar of so many rules.
func random(roll func(int) int, high, rules int) part {
	if high == 1 || roll(5) == 0 {
		if roll(2) > 0 {
			return call(roll(rules), roll(100)*roll(2))
		}
		return []part{of(api.Empty), of(api.Any), set(0, uint64(1+roll(99))), text(nameOf(roll(40)))}[roll(4)]
	}
	k := []api.Kind{api.Seq, api.Seq, api.Seq, api.Alt, api.Plus, api.Kind(8 + roll(5)), api.Kind(8 + roll(5))}[roll(7)]
	if k != api.Seq && k != api.Alt {
		return of(k, random(roll, high-1, rules))
	}
	p := of(k)
	for range 2 + roll(3) {
		p.kids = append(p.kids, random(roll, high-1, rules))
	}
	return p
}

// randomGrammar is one without a plan, of up to so many rules.
func randomGrammar(roll func(int) int, most int) api.Grammar {
	rules := 1 + roll(most)
	var l []part
	for range rules {
		l = append(l, random(roll, 1+roll(4), rules))
	}
	return laid(l...)
}

// grammarAs is a text's grammar, that must be right.
func grammarAs(t *testing.T, s string) api.Grammar {
	t.Helper()
	x, d := read.Text(s)
	if d != (api.Diag{}) {
		t.Fatal(s, d)
	}
	g, d := names.Resolve(x)
	if d != (api.Diag{}) || !gram.Right(g) {
		t.Fatal(s, d)
	}
	return g
}

// written is a grammar as a text, to tell what went wrong with which one.
func written(g api.Grammar) string {
	s, _ := show.Text(g)
	return s
}

// may says of each node whether it may match nothing, by those of which that is known; until no more are.
func may(g api.Grammar) []bool {
	in := make([]bool, len(g.Nodes))
	for more := true; more; {
		more = false
		for n, x := range g.Nodes {
			can := 0
			for _, kid := range x.Kids {
				if in[kid] {
					can++
				}
			}
			is := false
			switch x.Kind {
			case api.Empty, api.Star, api.Opt, api.Not, api.And:
				is = true
			case api.Seq:
				is = can == len(x.Kids)
			case api.Alt, api.Plus:
				is = can > 0
			case api.Call:
				is = in[g.Rules[x.Rule].Body]
			}
			more = more || is != in[n]
			in[n] = is
		}
	}
	return in
}

// hang is where a node hangs: the node whose kid it is, -1 of a body, and whether it stands at that one's own place.
type hang struct {
	at    int
	first bool
}

// hangs are those of a grammar's nodes.
func hangs(g api.Grammar) []hang {
	in := may(g)
	l := make([]hang, len(g.Nodes))
	for _, r := range g.Rules {
		l[r.Body] = hang{at: -1}
	}
	for n, x := range g.Nodes {
		for i, kid := range x.Kids {
			ahead := x.Kids[:i]
			taken := slices.ContainsFunc(ahead, func(k int) bool { return !in[k] })
			l[kid] = hang{at: n, first: x.Kind != api.Seq || !taken}
		}
	}
	return l
}

// told is all that the chapter's words tell of a grammar: the nodes and rules of each node, and walks[n][i][k]: whether i goes to k by n calls.
type told struct {
	nodes, calls [][]int
	walks        [][][]bool
}

// add puts a number behind a row's last one, if it is not there.
func add(l []int, x int) []int {
	if slices.Contains(l, x) {
		return l
	}
	return append(l, x)
}

// tell tells that: from each node up to those at whose own place it stands; from each call to calls of one more.
func tell(g api.Grammar) told {
	x := told{nodes: make([][]int, len(g.Nodes)), calls: make([][]int, len(g.Nodes))}
	l := hangs(g)
	for n, node := range g.Nodes {
		for up := n; ; up = l[up].at {
			x.nodes[up] = append(x.nodes[up], n)
			if node.Kind == api.Call {
				x.calls[up] = add(x.calls[up], node.Rule)
			}
			if !l[up].first {
				break
			}
		}
	}
	for _, row := range x.calls {
		slices.Sort(row)
	}
	x.walks = walks(len(g.Rules), func(i, k int) bool { return slices.Contains(x.calls[g.Rules[i].Body], k) })
	return x
}

// walks are those of up to as many calls as there are rules, and one more.
func walks(rules int, does func(i, k int) bool) [][][]bool {
	var l [][][]bool
	for n := range rules + 2 {
		l = append(l, make([][]bool, rules))
		for i := range rules {
			l[n][i] = make([]bool, rules)
			for k := range rules {
				l[n][i][k] = n == 0 && i == k
				for by := 0; n > 0 && by < rules && !l[n][i][k]; by++ {
					l[n][i][k] = does(i, by) && l[n-1][by][k]
				}
			}
		}
	}
	return l
}

// way is the shortest row of rules from one to another one: at each step the least rule from which it is still as near.
func (x told) way(i, k int) []int {
	calls := 1
	for !x.walks[calls][i][k] {
		if calls++; calls == len(x.walks) {
			return nil
		}
	}
	row := []int{i}
	for ; calls > 0; calls-- {
		at := row[len(row)-1]
		next := 0
		for !x.walks[1][at][next] || !x.walks[calls-1][next][k] {
			next++
		}
		row = append(row, next)
	}
	return row
}

// same holds a row that was told against the one that is wanted.
func same(t *testing.T, what string, g api.Grammar, got, want []int) {
	t.Helper()
	if !slices.Equal(got, want) {
		t.Fatalf("%s: %v, want %v: %s", what, got, want, written(g))
	}
}

// holds holds all that is told of a right grammar against the chapter's words.
func holds(t *testing.T, g api.Grammar) told {
	t.Helper()
	x := tell(g)
	for n := range g.Nodes {
		same(t, "nodes", g, left.Nodes(g, n), x.nodes[n])
		same(t, "calls", g, left.Calls(g, n), x.calls[n])
	}
	holdsRules(t, g, x)
	return x
}

// holdsRules holds what is told of a right grammar's rules.
func holdsRules(t *testing.T, g api.Grammar, x told) {
	t.Helper()
	graph := left.Graph(g)
	if len(graph) != len(g.Rules) {
		t.Fatal(graph, written(g))
	}
	for i, r := range g.Rules {
		same(t, "graph", g, graph[i], x.calls[r.Body])
		var to []int
		for k := range g.Rules {
			row := x.way(i, k)
			if row != nil {
				to = append(to, k)
			}
			same(t, "way", g, left.Way(g, i, k), row)
		}
		same(t, "to", g, left.To(g, i), to)
		if is := left.Goes(g, i); is != slices.Contains(to, i) {
			t.Fatal("goes: ", i, is, written(g))
		}
	}
}

// TestExample: the chapter's.
func TestExample(t *testing.T) {
	g := grammarAs(t, `A <- B? A "x" / !C .; B <- "b" A; C <- "c"* C;`)
	holds(t, g)
	if l := left.Graph(g); !reflect.DeepEqual(l, [][]int{{0, 1, 2}, nil, {2}}) && !reflect.DeepEqual(l, [][]int{{0, 1, 2}, {}, {2}}) {
		t.Error(l)
	}
	same(t, "to", g, left.To(g, 0), []int{0, 1, 2})
	same(t, "to", g, left.To(g, 1), nil)
	same(t, "to", g, left.To(g, 2), []int{2})
	if !left.Goes(g, 0) || left.Goes(g, 1) || !left.Goes(g, 2) {
		t.Error("goes")
	}
	same(t, "way", g, left.Way(g, 0, 2), []int{0, 2})
	same(t, "way", g, left.Way(g, 0, 0), []int{0, 0})
	same(t, "way", g, left.Way(g, 2, 2), []int{2, 2})
	same(t, "way", g, left.Way(g, 2, 0), nil)
	same(t, "way", g, left.Way(g, 1, 1), nil)
}

// TestBodies: P12.1: nodes at a body's own place, and rules that are called there, written down.
func TestBodies(t *testing.T) {
	for _, c := range []struct {
		body         string
		nodes, calls []int
	}{
		{`()`, []int{0}, nil},
		{`.`, []int{0}, nil},
		{`[a-z]`, []int{0}, nil},
		{`"A"`, []int{0}, nil},
		{`A`, []int{0}, []int{0}},
		{`C:99`, []int{0}, []int{2}},
		// 0 Seq, 1, 2, 3.
		{`A B C`, []int{0, 1}, []int{0}},
		{`C A B`, []int{0, 1, 2}, []int{0, 2}},
		{`C C B A`, []int{0, 1, 2, 3}, []int{1, 2}},
		{`C C:1 C:2`, []int{0, 1, 2, 3}, []int{2}},
		{`"x" A`, []int{0, 1}, nil},
		{`. A`, []int{0, 1}, nil},
		{`[x] A`, []int{0, 1}, nil},
		{`() A`, []int{0, 1, 2}, []int{0}},
		{`A "x"`, []int{0, 1}, []int{0}},
		{`() "x" A`, []int{0, 1, 2}, nil},
		// 0 Alt, 1, 2, 3.
		{`A / B / C`, []int{0, 1, 2, 3}, []int{0, 1, 2}},
		{`C / B:7 / C:1`, []int{0, 1, 2, 3}, []int{1, 2}},
		{`"x" / . / A`, []int{0, 1, 2, 3}, []int{0}},
		{`A / "x"`, []int{0, 1, 2}, []int{0}},
		{`A*`, []int{0, 1}, []int{0}},
		{`A+`, []int{0, 1}, []int{0}},
		{`A?`, []int{0, 1}, []int{0}},
		{`!A`, []int{0, 1}, []int{0}},
		{`&A`, []int{0, 1}, []int{0}},
		// 0 Seq, 1 the single one, 2 its kid, 3 the call behind.
		{`B* A`, []int{0, 1, 2, 3}, []int{0, 1}},
		{`B? A`, []int{0, 1, 2, 3}, []int{0, 1}},
		{`!B A`, []int{0, 1, 2, 3}, []int{0, 1}},
		{`&B A`, []int{0, 1, 2, 3}, []int{0, 1}},
		{`B+ A`, []int{0, 1, 2}, []int{1}},
		{`C+ A`, []int{0, 1, 2, 3}, []int{0, 2}},
		{`!"x" A`, []int{0, 1, 2, 3}, []int{0}},
		{`&"x" A`, []int{0, 1, 2, 3}, []int{0}},
		// 0 Seq, 1 Seq or Alt, 2, 3, 4 the call behind.
		{`(C B) A`, []int{0, 1, 2, 3}, []int{1, 2}},
		{`(B C) A`, []int{0, 1, 2}, []int{1}},
		{`(C C) A`, []int{0, 1, 2, 3, 4}, []int{0, 2}},
		{`(B / C) A`, []int{0, 1, 2, 3, 4}, []int{0, 1, 2}},
		{`(B / "x") A`, []int{0, 1, 2, 3}, []int{1}},
		// What stands behind in a row within may stand at no own place, but what is chosen beside it does.
		// 0 Alt, 1 Seq, 2, 3, 4 Seq, 5, 6.
		{`"x" A / C B`, []int{0, 1, 2, 4, 5, 6}, []int{1, 2}},
		// 0 Star, 1 Seq, 2 Opt, 3 Text, 4 Not, 5 Plus, 6 B, 7 A, 8 B.
		{`("x"? !B+ A B)*`, []int{0, 1, 2, 3, 4, 5, 6, 7}, []int{0, 1}},
	} {
		// A and B take a byte, C may match nothing; D alone calls.
		g := grammarAs(t, `A <- "a"; B <- "b"; C <- "c"?; D <- `+c.body+`;`)
		body := g.Rules[3].Body
		for i := range c.nodes {
			c.nodes[i] += body
		}
		same(t, c.body, g, left.Nodes(g, body), c.nodes)
		same(t, c.body, g, left.Calls(g, body), c.calls)
		same(t, c.body, g, left.Graph(g)[3], c.calls)
		same(t, c.body, g, left.To(g, 3), c.calls)
		holds(t, g)
	}
}

// TestWithin: P12.1: nodes below a body's first one, and those that stand at no own place of it.
func TestWithin(t *testing.T) {
	// 0 Alt, 1 Seq, 2 "x", 3 Opt, 4 A, 5 B, 6 Seq, 7 And, 8 Seq, 9 B, 10 A, 11 C; 12 Text; 13 Star, 14 Any.
	g := grammarAs(t, `A <- "x" A? B / &(B A) C; B <- "b"; C <- .*;`)
	for n, want := range [][2][]int{
		{{0, 1, 2, 6, 7, 8, 9, 11}, {1, 2}},
		{{1, 2}, nil},
		{{2}, nil},
		{{3, 4}, {0}},
		{{4}, {0}},
		{{5}, {1}},
		{{6, 7, 8, 9, 11}, {1, 2}},
		{{7, 8, 9}, {1}},
		{{8, 9}, {1}},
		{{9}, {1}},
		{{10}, {0}},
		{{11}, {2}},
		{{12}, nil},
		{{13, 14}, nil},
		{{14}, nil},
	} {
		same(t, "nodes", g, left.Nodes(g, n), want[0])
		same(t, "calls", g, left.Calls(g, n), want[1])
	}
	holds(t, g)
}

// TestWays: P12.2, P12.3: ways that are written down here.
func TestWays(t *testing.T) {
	for _, c := range []struct {
		text     string
		from, to int
		want     []int
	}{
		{`A <- A;`, 0, 0, []int{0, 0}},
		{`A <- "a" A;`, 0, 0, nil},
		{`A <- B; B <- A;`, 0, 0, []int{0, 1, 0}},
		{`A <- B; B <- A;`, 0, 1, []int{0, 1}},
		{`A <- B "a" / "x"; B <- A "b";`, 1, 1, []int{1, 0, 1}},
		// Through itself is no shorter way.
		{`A <- A / B; B <- A;`, 0, 0, []int{0, 0}},
		{`A <- A / B; B <- A;`, 1, 1, []int{1, 0, 1}},
		{`A <- A / B; B <- B / C; C <- ();`, 0, 2, []int{0, 1, 2}},
		// The shorter one, though its rules are greater.
		{`A <- B / E; B <- C; C <- D; D <- (); E <- D;`, 0, 3, []int{0, 4, 3}},
		{`A <- B / D; B <- C; C <- D; D <- ();`, 0, 3, []int{0, 3}},
		// Of as short ones the least where they differ first, not last.
		{`A <- B / C; B <- E; C <- D; D <- F; E <- F; F <- ();`, 0, 5, []int{0, 1, 4, 5}},
		{`A <- C / B; B <- D; C <- D; D <- ();`, 0, 3, []int{0, 1, 3}},
		{`A <- C / D; B <- A; C <- F; D <- E; E <- A; F <- A;`, 0, 0, []int{0, 2, 5, 0}},
		{`A <- (); B <- F / E; C <- A; D <- A; E <- D; F <- C;`, 1, 0, []int{1, 4, 3, 0}},
		{`A <- B; B <- (); C <- A / B; D <- C;`, 3, 1, []int{3, 2, 1}},
		{`A <- (); B <- A; C <- B; D <- C; E <- D;`, 4, 0, []int{4, 3, 2, 1, 0}},
		{`A <- (); B <- A; C <- B; D <- C; E <- D;`, 0, 4, nil},
		{`A <- (); B <- A; C <- B; D <- C; E <- D;`, 2, 2, nil},
		// One that is gone to from a ring, but is in none.
		{`A <- B; B <- C / D; C <- A; D <- ();`, 2, 3, []int{2, 0, 1, 3}},
		{`A <- B; B <- C / D; C <- A; D <- ();`, 3, 3, nil},
	} {
		g := grammarAs(t, c.text)
		same(t, c.text, g, left.Way(g, c.from, c.to), c.want)
		if is := slices.Contains(left.To(g, c.from), c.to); is != (c.want != nil) {
			t.Error(c.text, c.from, c.to, is)
		}
		if c.from == c.to && left.Goes(g, c.from) != (c.want != nil) {
			t.Error(c.text, c.from)
		}
		holds(t, g)
	}
}

// bodiesOf are all bodies of so many nodes, out of some leaves and Kinds; Seqs and Alts have two kids or three.
func bodiesOf(size int, leaves []part, singles []api.Kind) []part {
	if size == 1 {
		return leaves
	}
	var l []part
	for _, kid := range bodiesOf(size-1, leaves, singles) {
		for _, k := range singles {
			l = append(l, of(k, kid))
		}
	}
	for _, k := range []api.Kind{api.Seq, api.Alt} {
		for many := 2; many <= 3; many++ {
			for _, row := range kidsOf(many, size-1, leaves, singles) {
				l = append(l, of(k, row...))
			}
		}
	}
	return l
}

// kidsOf are all rows of so many kids that have so many nodes together.
func kidsOf(many, size int, leaves []part, singles []api.Kind) [][]part {
	if many == 0 && size == 0 {
		return [][]part{nil}
	}
	if many == 0 || size < many {
		return nil
	}
	var l [][]part
	for first := 1; first <= size; first++ {
		for _, behind := range kidsOf(many-1, size-first, leaves, singles) {
			for _, kid := range bodiesOf(first, leaves, singles) {
				l = append(l, append([]part{kid}, behind...))
			}
		}
	}
	return l
}

// upTo are all bodies of up to so many nodes.
func upTo(size int, leaves []part, singles []api.Kind) []part {
	var l []part
	for n := 1; n <= size; n++ {
		l = append(l, bodiesOf(n, leaves, singles)...)
	}
	return l
}

// TestAllBodies: P12.1, P12.2: all grammars of one rule of up to five nodes, and of two of up to three.
func TestAllBodies(t *testing.T) {
	every := []api.Kind{api.Star, api.Plus, api.Opt, api.Not, api.And}
	for _, body := range upTo(5, []part{of(api.Empty), of(api.Any), call(0, 3)}, every) {
		holds(t, laid(body))
	}
	l := upTo(3, []part{of(api.Empty), text("t"), call(0, 0), call(1, 7)}, []api.Kind{api.Plus, api.And})
	for _, a := range l {
		for _, b := range l {
			holds(t, laid(a, b))
		}
	}
}

// graphed is a grammar whose rules call each other at their own places as a table says, and the others behind.
func graphed(rules int, does func(i, k int) bool) api.Grammar {
	var l []part
	for i := range rules {
		seq := of(api.Seq, of(api.Empty))
		var behind []part
		// From the last one on, so that what is told can not be in the order in which it stands.
		for k := rules - 1; k >= 0; k-- {
			if does(i, k) {
				seq.kids = append(seq.kids, of([]api.Kind{api.Opt, api.And, api.Star, api.Not}[(i+k)%4], call(k, i+k)))
			} else {
				behind = append(behind, call(k, 0))
			}
		}
		if len(seq.kids) < api.MaxKids-1 {
			seq.kids = append(seq.kids, of(api.Any))
		}
		seq.kids = append(seq.kids, behind...)
		l = append(l, seq)
	}
	return laid(l...)
}

// holdsGraph holds what is told of a grammar's rules against the table out of which it was made.
func holdsGraph(t *testing.T, rules int, does func(i, k int) bool) api.Grammar {
	t.Helper()
	g := graphed(rules, does)
	if !gram.Right(g) {
		t.Fatal("not right: ", rules)
	}
	x := told{calls: make([][]int, len(g.Nodes)), walks: walks(rules, does)}
	for i, r := range g.Rules {
		for k := range rules {
			if does(i, k) {
				x.calls[r.Body] = append(x.calls[r.Body], k)
			}
		}
	}
	holdsRules(t, g, x)
	return g
}

// TestAllGraphs: P12.2, P12.3: all ways in which up to three rules may call each other, and many of four to 32.
func TestAllGraphs(t *testing.T) {
	for rules := 1; rules <= 3; rules++ {
		for bits := range 1 << (rules * rules) {
			holdsGraph(t, rules, func(i, k int) bool { return bits>>(i*rules+k)&1 == 1 })
		}
	}
	for bits := 0; bits < 1<<16; bits += 67 {
		holdsGraph(t, 4, func(i, k int) bool { return bits>>(i*4+k)&1 == 1 })
	}
	roll := dice()
	for n := range 28 {
		rules := 5 + n%28
		sparse := []int{1, 2, 3, rules / 2, rules, 2 * rules}[roll(6)]
		var table [32][32]bool
		for i := range rules {
			for k := range rules {
				table[i][k] = roll(max(sparse, 2)) == 0
			}
		}
		holdsGraph(t, rules, func(i, k int) bool { return table[i][k] })
	}
}

// TestRows: P12.2, P12.3: rows and rings of as many rules as there may be, in each order of some.
func TestRows(t *testing.T) {
	for step := 1; step < 32; step += 10 {
		at := func(place int) int { return place * step % 32 }
		var next [32]int
		var all []int
		for place := range 32 {
			next[at(place)] = at(place + 1)
			all = append(all, at(place))
		}
		ring := holdsGraph(t, 32, func(i, k int) bool { return next[i] == k })
		same(t, "ring", ring, left.Way(ring, 0, 0), append(slices.Clone(all), 0))
		same(t, "ring", ring, left.Way(ring, at(1), 0), append(slices.Clone(all[1:]), 0))
		if len(left.To(ring, 5)) != 32 || !left.Goes(ring, 31) {
			t.Error(step)
		}
		row := holdsGraph(t, 32, func(i, k int) bool { return next[i] == k && k != 0 })
		same(t, "row", row, left.Way(row, 0, at(31)), all)
		same(t, "row", row, left.Way(row, at(31), 0), nil)
		if left.Goes(row, 0) || left.To(row, at(31)) != nil || len(left.To(row, at(7))) != 24 {
			t.Error(step)
		}
	}
}

// follows holds what follows of each rule.
func follows(t *testing.T, g api.Grammar) {
	t.Helper()
	graph := left.Graph(g)
	for i := range g.Rules {
		to := left.To(g, i)
		calls := func(k int) bool { return slices.Contains(graph[k], i) }
		if left.Goes(g, i) != slices.ContainsFunc(to, calls) {
			t.Fatal("no rule that calls it: ", i, written(g))
		}
		for _, k := range to {
			for _, far := range left.To(g, k) {
				if !slices.Contains(to, far) {
					t.Fatal("not as well: ", i, k, far, written(g))
				}
			}
			way := left.Way(g, i, k)
			if len(way) < 2 || way[0] != i || way[len(way)-1] != k {
				t.Fatal(i, k, way, written(g))
			}
			for n, by := range way[1:] {
				if !slices.Contains(graph[way[n]], by) {
					t.Fatal(i, k, way, written(g))
				}
			}
		}
	}
}

// shuts holds that what stands behind something that takes a byte is called at no own place, but what stands behind something that may match nothing is.
func shuts(t *testing.T, roll func(int) int, g api.Grammar) {
	t.Helper()
	var open, shut []part
	for _, r := range g.Rules {
		body := hung(g, r.Body)
		one := []part{of(api.Any), text("t"), set(1), of(api.Plus, of(api.Any)), of(api.Alt, of(api.Any), text("u"))}[roll(5)]
		none := []part{of(api.Empty), of(api.Opt, one), of(api.Star, one), of(api.Not, one), of(api.And, one)}[roll(5)]
		shut = append(shut, of(api.Seq, none, one, body))
		open = append(open, of(api.Seq, none, none, body))
	}
	for i, row := range left.Graph(laid(shut...)) {
		if len(row) != 0 || left.Goes(laid(shut...), i) {
			t.Fatal(i, row, written(g))
		}
	}
	graph := left.Graph(g)
	for i, row := range left.Graph(laid(open...)) {
		same(t, "open", g, row, graph[i])
	}
}

// TestManyGrammars: P12.1 to P12.4, of grammars without a plan.
func TestManyGrammars(t *testing.T) {
	roll := dice()
	far, goes := 0, 0
	for i := range 1200 {
		g := randomGrammar(roll, 1+i%16)
		if !gram.Right(g) {
			t.Fatal("not right: ", i)
		}
		x := holds(t, g)
		follows(t, g)
		shuts(t, roll, g)
		for k := range g.Rules {
			if x.way(k, k) != nil {
				goes++
			}
			for i := range g.Rules {
				if len(x.way(i, k)) > 3 {
					far++
				}
			}
		}
	}
	if far < 500 || goes < 500 {
		t.Error("few grammars that tell: ", far, goes)
	}
}

// tower is a body of that height, at whose own place its last part stands.
func tower(height int, last part) part {
	p := last
	for h := 1; h < height; h++ {
		switch h % 4 {
		case 0:
			p = of(api.And, p)
		case 1:
			p = of(api.Seq, of(api.Empty), p)
		case 2:
			p = of(api.Alt, of(api.Any), p)
		case 3:
			p = of(api.Plus, p)
		}
	}
	return p
}

// TestLimits: P12.1 to P12.3: grammars as high, as wide and as great as they may be.
func TestLimits(t *testing.T) {
	g := laid(tower(api.MaxHeight, call(1, api.MaxLevel)), tower(api.MaxHeight, call(0, 0)))
	holds(t, g)
	same(t, "high", g, left.Way(g, 0, 0), []int{0, 1, 0})
	if len(left.Nodes(g, 0)) != g.Rules[1].Body {
		t.Error(left.Nodes(g, 0))
	}
	wide := of(api.Seq, slices.Repeat([]part{of(api.Opt, of(api.Any))}, api.MaxKids)...)
	wide.kids[api.MaxKids-1] = call(0, 0)
	if g = laid(wide); !left.Goes(g, 0) || len(left.Nodes(g, 0)) != 2*api.MaxKids {
		t.Error(left.Nodes(g, 0))
	}
	wide.kids[api.MaxKids-2] = of(api.Any)
	if g = laid(wide); left.Goes(g, 0) || len(left.Nodes(g, 0)) != 2*api.MaxKids-2 {
		t.Error(left.Nodes(g, 0))
	}
	wide.Kind = api.Alt
	if g = laid(wide); !left.Goes(g, 0) {
		t.Error(left.Nodes(g, 0))
	}
	// 32 rules of 64 nodes: as many nodes as there may be; each one may match nothing by the next ones alone.
	var l []part
	for i := range api.MaxRules {
		l = append(l, of(api.Seq, slices.Repeat([]part{call(min(i+1, 31), 0)}, 63)...))
	}
	l[31] = of(api.Seq, slices.Repeat([]part{of(api.Empty)}, 63)...)
	l[31].kids[62] = call(0, 0)
	g = laid(l...)
	if !gram.Right(g) || len(g.Nodes) != api.MaxNodes {
		t.Fatal(len(g.Nodes))
	}
	// The last call leads back: no rule may match nothing, and of each Seq the first kid alone stands at its place; of the last one all do.
	if len(left.Nodes(g, 0)) != 2 || len(left.Nodes(g, 31*64)) != 64 || len(left.Way(g, 0, 0)) != 33 {
		t.Error(left.Nodes(g, 0), left.Way(g, 0, 0))
	}
	g.Nodes[api.MaxNodes-1] = api.Node{Kind: api.Empty}
	if len(left.Nodes(g, 0)) != 64 || len(left.Nodes(g, 31*64)) != 64 || left.Goes(g, 0) || len(left.Way(g, 0, 31)) != 32 {
		t.Error(left.Nodes(g, 0), left.Way(g, 0, 31))
	}
	same(t, "last", g, left.Nodes(g, api.MaxNodes-1), []int{api.MaxNodes - 1})
	same(t, "behind", g, left.Nodes(g, api.MaxNodes), nil)
}

// odd are numbers that no rule or node has.
func odd() []int {
	return []int{-1, -2, math.MinInt, math.MaxInt, 1 << 11, 1 << 32}
}

// none holds that nothing is told of some numbers.
func none(t *testing.T, what string, g api.Grammar, numbers ...int) {
	t.Helper()
	for _, n := range numbers {
		if left.Nodes(g, n) != nil || left.Calls(g, n) != nil {
			t.Error("node: ", what, n)
		}
		noRule(t, what, g, n)
	}
}

// noRule holds that nothing is told of a number that is no rule's.
func noRule(t *testing.T, what string, g api.Grammar, n int) {
	t.Helper()
	if left.To(g, n) != nil || left.Goes(g, n) || left.Way(g, n, n) != nil {
		t.Error("rule: ", what, n)
	}
	for i := range len(g.Rules) + 2 {
		if left.Way(g, i, n) != nil || left.Way(g, n, i) != nil {
			t.Error("way: ", what, i, n)
		}
	}
}

// nothing holds that nothing is told of a grammar that is not right.
func nothing(t *testing.T, what string, g api.Grammar) {
	t.Helper()
	if gram.Right(g) {
		t.Error("right: ", what)
	}
	none(t, what, g, append(odd(), 0, 1, 2, 3, 4, 5, 31, 32)...)
	if left.Graph(g) != nil {
		t.Error(what)
	}
}

// TestNoSuch: P12.1 to P12.3: nodes and rules that there are not, of a grammar in which all there are go to each other.
func TestNoSuch(t *testing.T) {
	g := laid(of(api.Alt, call(0, 0), call(1, 0)), of(api.Alt, call(0, 0), call(1, 0)))
	none(t, "neither", g, append(odd(), 6, 7, 31, 32, 33, 63, 64)...)
	for n := 2; n < 6; n++ {
		noRule(t, "a node is no rule", g, n)
		if left.Nodes(g, n) == nil {
			t.Error("a node: ", n)
		}
	}
	same(t, "to", g, left.To(g, 1), []int{0, 1})
	// As many rules as there may be: the number behind the last one is none.
	g = graphed(api.MaxRules, func(i, k int) bool { return k == (i+1)%api.MaxRules })
	if !gram.Right(g) || !left.Goes(g, 31) {
		t.Fatal("no ring")
	}
	for _, n := range append(odd(), 32, 33, 64) {
		noRule(t, "32 rules", g, n)
	}
}

// TestOthers: P12.1 to P12.3: grammars that are not right, though some of their rules and nodes would do.
func TestOthers(t *testing.T) {
	nothing(t, "empty", api.Grammar{})
	nothing(t, "no nodes", api.Grammar{Rules: []api.Rule{{Name: "A"}}})
	nothing(t, "no rules", api.Grammar{Nodes: []api.Node{{Kind: api.Call}}})
	nothing(t, "33 rules", laid(slices.Repeat([]part{call(0, 0)}, 33)...))
	nothing(t, "too high", laid(tower(api.MaxHeight+1, call(0, 0))))
	nothing(t, "65 kids", laid(of(api.Seq, slices.Repeat([]part{call(0, 0)}, 65)...)))
	nothing(t, "too many nodes", laid(slices.Repeat([]part{of(api.Seq, slices.Repeat([]part{of(api.Opt, call(0, 0))}, 32)...)}, 32)...))
	nothing(t, "an empty text", laid(of(api.Alt, call(0, 0), text(""))))
	nothing(t, "an empty class", laid(call(0, 0), set()))
	nothing(t, "a level", laid(of(api.Opt, call(0, 100))))
	for what, change := range map[string]func(g *api.Grammar){
		"two of a name":   func(g *api.Grammar) { g.Rules[1].Name = "A" },
		"no name":         func(g *api.Grammar) { g.Rules[1].Name = "" },
		"a body below":    func(g *api.Grammar) { g.Rules[0].Body = -1 },
		"a body behind":   func(g *api.Grammar) { g.Rules[1].Body = math.MaxInt },
		"one body of two": func(g *api.Grammar) { g.Rules[1].Body = 0 },
		"a rule less":     func(g *api.Grammar) { g.Rules = g.Rules[:1] },
		"a node less":     func(g *api.Grammar) { g.Nodes = g.Nodes[:3] },
		"a node more":     func(g *api.Grammar) { g.Nodes = append(g.Nodes, api.Node{Kind: api.Empty}) },
		"its own kid":     func(g *api.Grammar) { g.Nodes[0].Kids[0] = 0 },
		"a kid twice":     func(g *api.Grammar) { g.Nodes[0].Kids[1] = 1 },
		"a kid of none":   func(g *api.Grammar) { g.Nodes[0].Kids[1] = math.MaxInt },
		"a kid below":     func(g *api.Grammar) { g.Nodes[0].Kids[1] = -1 },
		"no kids":         func(g *api.Grammar) { g.Nodes[0].Kids = nil },
		"a rule behind":   func(g *api.Grammar) { g.Nodes[1].Rule = 2 },
		"a rule below":    func(g *api.Grammar) { g.Nodes[1].Rule = math.MinInt },
		"a text too much": func(g *api.Grammar) { g.Nodes[3].Text = "t" },
		"no Kind":         func(g *api.Grammar) { g.Nodes[3].Kind = 0 },
		"a Kind behind":   func(g *api.Grammar) { g.Nodes[3].Kind = 13 },
		"a Kind below":    func(g *api.Grammar) { g.Nodes[3].Kind = -1 },
	} {
		g := laid(of(api.Alt, call(1, 0), call(0, 0)), call(0, 0))
		holds(t, g)
		change(&g)
		nothing(t, what, g)
	}
}

// alike holds that a row that is told is new memory, up to its capacity, and told alike each time.
func alike(t *testing.T, what string, tell func() []int) {
	t.Helper()
	l := tell()
	kept := slices.Clone(l)
	clear(l[:cap(l)])
	if again := tell(); len(kept) == 0 || !slices.Equal(again, kept) {
		t.Error("not alike: ", what, again, kept)
	}
}

// TestNothingChanged: R3, R4: a grammar is as it was, even behind its rows' ends; what is told is new, and alike each time.
func TestNothingChanged(t *testing.T) {
	s := `A <- B? A "x" / !C (B / C); B <- C* B / D A; C <- "c"* C / D; D <- !A / .;`
	g, want := grammarAs(t, s), grammarAs(t, s)
	g.Rules = append(g.Rules, api.Rule{Name: "Z", Body: 7})[:4]
	many := len(g.Nodes)
	g.Nodes = append(g.Nodes, api.Node{Kind: api.Any, Level: 7})[:many]
	for range 2 {
		for n, x := range g.Nodes {
			alike(t, "nodes", func() []int { return left.Nodes(g, n) })
			if x.Kind == api.Call {
				alike(t, "calls", func() []int { return left.Calls(g, n) })
			}
		}
		for i := range g.Rules {
			alike(t, "to", func() []int { return left.To(g, i) })
			alike(t, "way", func() []int { return left.Way(g, 0, i) })
		}
		graph, again := left.Graph(g), left.Graph(g)
		for i, row := range graph {
			// A row that is cleared changes no other one, of this answer or of another.
			clear(row[:cap(row)])
			for k := range graph {
				if k > i && !slices.Equal(graph[k], again[k]) {
					t.Error("shared: ", i, k)
				}
			}
		}
		clear(graph[:cap(graph)])
		holds(t, g)
	}
	if !reflect.DeepEqual(g, want) || g.Rules[:5][4] != (api.Rule{Name: "Z", Body: 7}) || g.Nodes[:many+1][many].Level != 7 {
		t.Error("changed: ", written(g))
	}
	// What was told of a grammar is not kept: changed, it is asked anew.
	holds(t, g)
	g.Nodes[g.Rules[3].Body+1].Kind = api.Plus
	x := holds(t, g)
	if reflect.DeepEqual(x, tell(want)) {
		t.Error("no change that tells")
	}
}
