package null_test

import (
	"math"
	"math/bits"
	"reflect"
	"slices"
	"strings"
	"testing"

	"seedling/api"
	"seedling/gram"
	"seedling/names"
	"seedling/null"
	"seedling/read"
)

// part is a node of a body, and its kids as they hang on it, without numbers.
type part struct {
	api.Node
	kids []part
}

// of is a part of a Kind, and kids.
func of(k api.Kind, kids ...part) part { return part{Node: api.Node{Kind: k}, kids: kids} }

// set, text and call are parts that have something.
func set(words ...uint64) part {
	p := of(api.Set)
	copy(p.Class[:], words)
	return p
}
func text(s string) part { return part{Node: api.Node{Kind: api.Text, Text: s}} }
func call(rule, level int) part {
	return part{Node: api.Node{Kind: api.Call, Rule: rule, Level: level}}
}

// lay lays a part's nodes behind a grammar's last one.
func (p part) lay(g *api.Grammar) int {
	n := len(g.Nodes)
	g.Nodes = append(g.Nodes, p.Node)
	for _, kid := range p.kids {
		k := kid.lay(g)
		g.Nodes[n].Kids = append(g.Nodes[n].Kids, k)
	}
	return n
}

// nameOf is a name for a rule: no other number has it.
func nameOf(i int) string { return string(rune('A'+i%26)) + strings.Repeat("_", i/26) }

// laid is the grammar of some bodies, whose rules are A, B, C and so on.
func laid(bodies ...part) api.Grammar {
	var g api.Grammar
	for i, body := range bodies {
		g.Rules = append(g.Rules, api.Rule{Name: nameOf(i), Body: body.lay(&g)})
	}
	return g
}

// hung is a grammar's node, with another part in the place of one of its nodes.
func hung(g api.Grammar, n, changed int, to part) part {
	if n == changed {
		return to
	}
	p := part{Node: g.Nodes[n]}
	p.Kids = nil
	for _, kid := range g.Nodes[n].Kids {
		p.kids = append(p.kids, hung(g, kid, changed, to))
	}
	return p
}

// put is a grammar with another part in the place of one of its nodes.
func put(g api.Grammar, changed int, to part) api.Grammar {
	var l []part
	for _, r := range g.Rules {
		l = append(l, hung(g, r.Body, changed, to))
	}
	return laid(l...)
}

// dice answers numbers below n without a plan, the same ones each time.
func dice() func(n int) int {
	x := uint64(11)
	return func(n int) int {
		x = x*6364136223846793005 + 1442695040888963407
		return int(x>>33) % n
	}
}

// random is a part without a plan, of a height at most, in a grammar of so many rules.
func random(roll func(int) int, high, rules int) part {
	if high == 1 || roll(5) == 0 {
		if roll(3) > 0 {
			return call(roll(rules), roll(100)*roll(2))
		}
		return []part{of(api.Empty), of(api.Any), set(0, uint64(1+roll(99))), text(nameOf(roll(40)))}[roll(4)]
	}
	// Kinds that never hang on their kids are rare, so that rules come in late, or not at all.
	k := []api.Kind{api.Seq, api.Seq, api.Alt, api.Alt, api.Plus, api.Plus, api.Kind(8 + roll(5))}[roll(7)]
	if k != api.Seq && k != api.Alt {
		return of(k, random(roll, high-1, rules))
	}
	p := of(k)
	for range 2 + roll(3) {
		p.kids = append(p.kids, random(roll, high-1, rules))
	}
	return p
}

// randomGrammar is one without a plan, of up to so many rules.
func randomGrammar(roll func(int) int, most int) api.Grammar {
	rules := 1 + roll(most)
	var l []part
	for range rules {
		l = append(l, random(roll, 1+roll(4), rules))
	}
	return laid(l...)
}

// grammarAs is a text's grammar, that must be right.
func grammarAs(t *testing.T, s string) api.Grammar {
	t.Helper()
	x, d := read.Text(s)
	if d != (api.Diag{}) {
		t.Fatal(s, d)
	}
	g, d := names.Resolve(x)
	if d != (api.Diag{}) || !gram.Right(g) {
		t.Fatal(s, d, g)
	}
	return g
}

// may says what the chapter's table does of a node, by some rules.
func may(g api.Grammar, n int, by func(rule int) bool) bool {
	x := g.Nodes[n]
	can := 0
	for _, kid := range x.Kids {
		if may(g, kid, by) {
			can++
		}
	}
	switch x.Kind {
	case api.Empty, api.Star, api.Opt, api.Not, api.And:
		return true
	case api.Seq:
		return can == len(x.Kids)
	case api.Alt, api.Plus:
		return can > 0
	case api.Call:
		return by(x.Rule)
	}
	return false
}

// ranks are those of a grammar's rules, round by round.
func ranks(g api.Grammar) []int {
	in := make([]int, len(g.Rules))
	for round := 1; round <= len(in)+1; round++ {
		next := slices.Clone(in)
		for i, r := range g.Rules {
			if in[i] == 0 && may(g, r.Body, func(rule int) bool { return in[rule] > 0 }) {
				next[i] = round
			}
		}
		in = next
	}
	return in
}

// least is the least set of rules out of which no rule's body leads: all sets are tried.
func least(g api.Grammar) uint {
	best := uint(1)<<len(g.Rules) - 1
	for some := range best {
		closed := true
		for i, r := range g.Rules {
			in := some>>i&1 == 1
			closed = closed && (in || !may(g, r.Body, func(rule int) bool { return some>>rule&1 == 1 }))
		}
		if closed && bits.OnesCount(some) < bits.OnesCount(best) {
			best = some
		}
	}
	return best
}

// rises says whether a row does, without anything twice.
func rises(l []int) bool {
	for i := 1; i < len(l); i++ {
		if l[i] <= l[i-1] {
			return false
		}
	}
	return true
}

// ranksTold are those that the package tells of a right grammar's rules, and its Rule and Rules of them alike.
func ranksTold(t *testing.T, g api.Grammar) []int {
	t.Helper()
	var told []int
	l := null.Rules(g)
	for i := range g.Rules {
		told = append(told, null.Rank(g, i))
		if is := null.Rule(g, i); is != (told[i] > 0) || is != slices.Contains(l, i) {
			t.Fatalf("rule %d: %v, rank %d, rules %v: %v", i, is, told[i], l, g)
		}
	}
	if !rises(l) || len(l) > 0 && l[len(l)-1] >= len(g.Rules) {
		t.Fatal(l, g)
	}
	return told
}

// holds holds all that is told of a right grammar against the chapter's words.
func holds(t *testing.T, g api.Grammar) []int {
	t.Helper()
	want := ranks(g)
	if told := ranksTold(t, g); !slices.Equal(told, want) {
		t.Fatalf("ranks %v, want %v: %v", told, want, g)
	}
	var nodes []int
	for n := range g.Nodes {
		is := may(g, n, func(rule int) bool { return want[rule] > 0 })
		if is {
			nodes = append(nodes, n)
		}
		if null.Node(g, n) != is {
			t.Fatalf("node %d: %v: %v", n, !is, g)
		}
	}
	if l := null.Nodes(g); !slices.Equal(l, nodes) {
		t.Fatalf("nodes %v, want %v: %v", l, nodes, g)
	}
	return want
}

// TestExamples: the chapter's.
func TestExamples(t *testing.T) {
	for _, c := range []struct {
		text  string
		ranks []int
		nodes []int
	}{
		// 0 Alt, 1 Seq, 2 B, 3 C, 4 "a"; 5 Opt, 6 "b"; 7 Seq, 8 Star, 9 B, 10 Plus, 11 D; 12 Alt, 13 Not, 14 A, 15 Any.
		{`A <- B C / "a"; B <- "b"?; C <- B* D+; D <- !A / .;`, []int{3, 1, 2, 1}, []int{0, 1, 2, 3, 5, 7, 8, 9, 10, 11, 12, 13, 14}},
		{`A <- A;`, []int{0}, nil},
		{`A <- A / ();`, []int{1}, []int{0, 1, 2}},
	} {
		g := grammarAs(t, c.text)
		if got := holds(t, g); !slices.Equal(got, c.ranks) {
			t.Error(c.text, got)
		}
		if got := null.Nodes(g); !slices.Equal(got, c.nodes) {
			t.Error(c.text, got)
		}
	}
}

// TestKinds: P11.1: each line of the chapter's table, with kids that may and kids that may not.
func TestKinds(t *testing.T) {
	for s, want := range map[string]bool{
		`()`: true, `.`: false, `[a-z]`: false, `"a"`: false, `N`: true, `M`: false,
		`N:9`: true, `M:9`: false,
		`() N`: true, `N M`: false, `M N`: false, `M .`: false, `N () "a"? N`: true, `N () "a" N`: false,
		`N / M`: true, `M / N`: true, `M / .`: false, `M / . / "a" / [b]`: false, `M / . / "a" / ()`: true, `N / ()`: true,
		`N*`: true, `M*`: true, `.*`: true, `N+`: true, `M+`: false, `.+`: false, `()+`: true, `(M / ())+`: true, `(M ())+`: false,
		`N?`: true, `M?`: true, `"a"?`: true, `!N`: true, `!M`: true, `!.`: true, `&N`: true, `&M`: true, `&"a"`: true,
		`A`: false, `A+`: false, `A A`: false, `A / A`: false, `A*`: true, `A / N`: true, `A N`: false, `!A`: true, `&A A`: false,
		`((N N)+ / .)+ N`: true, `((N M)+ / .)+ N`: false,
	} {
		g := grammarAs(t, `A <- `+s+`; N <- (); M <- .;`)
		holds(t, g)
		if null.Rule(g, 0) != want || null.Node(g, 0) != want || !null.Rule(g, 1) || null.Rule(g, 2) {
			t.Error(s)
		}
	}
}

// TestRanks: P11.1: ranks that are written down here: the rules of a round do not come in by each other.
func TestRanks(t *testing.T) {
	for s, want := range map[string][]int{
		`A <- B; B <- A;`:                              {0, 0},
		`A <- B; B <- ();`:                             {2, 1},
		`A <- (); B <- A;`:                             {1, 2},
		`A <- (); B <- A; C <- B; D <- C;`:             {1, 2, 3, 4},
		`A <- (); B <- A / (); C <- B; D <- A B;`:      {1, 1, 2, 2},
		`A <- B / C; B <- C; C <- ();`:                 {2, 2, 1},
		`A <- B C; B <- C; C <- ();`:                   {3, 2, 1},
		`A <- A / B; B <- A / C; C <- B / D; D <- C?;`: {4, 3, 2, 1},
		`A <- B / "a"; B <- C "b" / A; C <- ();`:       {0, 0, 1},
		`A <- B A / (); B <- A "b" / B C; C <- "c"*;`:  {1, 0, 1},
		`A <- !A; B <- &B A; C <- C+ / B+;`:            {1, 2, 3},
	} {
		if got := holds(t, grammarAs(t, s)); !slices.Equal(got, want) {
			t.Error(s, got)
		}
	}
}

// rows are 32 rules of which each calls the next one, and the last one nothing; the other way round, or in any order.
func rows(step int, end part) api.Grammar {
	l := make([]part, 32)
	for i := range l {
		at := i * step % 32
		l[at] = end
		if i < 31 {
			l[at] = of(api.Plus, call((i+1)*step%32, i))
		}
	}
	return laid(l...)
}

// TestLongRows: P11.1: as many rounds as there may be rules, in each order of some.
func TestLongRows(t *testing.T) {
	for step := 1; step < 32; step += 2 {
		got := holds(t, rows(step, of(api.Empty)))
		for i := range 32 {
			if got[i*step%32] != 32-i {
				t.Fatal(step, got)
			}
		}
		if got := holds(t, rows(step, of(api.Any))); slices.Max(got) != 0 {
			t.Fatal(step, got)
		}
		// A ring of all has none that comes in first.
		if got := holds(t, rows(step, call(0, 0))); slices.Max(got) != 0 {
			t.Fatal(step, got)
		}
	}
}

// bodiesOf are all bodies of so many nodes, out of some leaves and Kinds; Seqs and Alts have two kids or three.
func bodiesOf(size int, leaves []part, singles []api.Kind) []part {
	if size == 1 {
		return leaves
	}
	var l []part
	for _, kid := range bodiesOf(size-1, leaves, singles) {
		for _, k := range singles {
			l = append(l, of(k, kid))
		}
	}
	for _, k := range []api.Kind{api.Seq, api.Alt} {
		for _, row := range kidsOf(2, size-1, leaves, singles) {
			l = append(l, of(k, row...))
		}
		for _, row := range kidsOf(3, size-1, leaves, singles) {
			l = append(l, of(k, row...))
		}
	}
	return l
}

// kidsOf are all rows of so many kids that have so many nodes together.
func kidsOf(many, size int, leaves []part, singles []api.Kind) [][]part {
	if many == 0 && size == 0 {
		return [][]part{nil}
	}
	if many == 0 || size < many {
		return nil
	}
	var l [][]part
	for first := 1; first <= size; first++ {
		for _, behind := range kidsOf(many-1, size-first, leaves, singles) {
			for _, kid := range bodiesOf(first, leaves, singles) {
				l = append(l, append([]part{kid}, behind...))
			}
		}
	}
	return l
}

// upTo are all bodies of up to so many nodes.
func upTo(size int, leaves []part, singles []api.Kind) []part {
	var l []part
	for n := 1; n <= size; n++ {
		l = append(l, bodiesOf(n, leaves, singles)...)
	}
	return l
}

// every is a row of all Kinds with one kid.
func every() []api.Kind { return []api.Kind{api.Star, api.Plus, api.Opt, api.Not, api.And} }

// closes holds the rules that come in against all sets of rules.
func closes(t *testing.T, g api.Grammar) {
	t.Helper()
	want := least(g)
	for i := range g.Rules {
		if null.Rule(g, i) != (want>>i&1 == 1) {
			t.Fatalf("%d, want %b: %v", i, want, g)
		}
	}
}

// TestAllBodies: P11.1, P11.2: all grammars of one rule of up to five nodes, and of two of up to three.
func TestAllBodies(t *testing.T) {
	for _, body := range upTo(5, []part{of(api.Empty), of(api.Any), call(0, 0)}, every()) {
		g := laid(body)
		holds(t, g)
		closes(t, g)
	}
	l := upTo(3, []part{of(api.Empty), text("t"), call(0, 0), call(1, 7)}, []api.Kind{api.Plus, api.Not})
	for _, a := range l {
		for _, b := range l {
			g := laid(a, b)
			holds(t, g)
			closes(t, g)
		}
	}
}

// TestAllThrees: P11.1: three rules, each of which may be any row or choice of two of all.
func TestAllThrees(t *testing.T) {
	l := []part{of(api.Empty)}
	for a := range 3 {
		l = append(l, call(a, a))
		for b := a; b < 3; b++ {
			l = append(l, of(api.Seq, call(a, 0), call(b, 0)), of(api.Alt, call(a, 0), call(b, 0)))
		}
	}
	for _, a := range l {
		for _, b := range l {
			for _, c := range l {
				g := laid(a, b, c)
				if got, want := ranksTold(t, g), ranks(g); !slices.Equal(got, want) {
					t.Fatal(got, want, g)
				}
				closes(t, g)
			}
		}
	}
}

// leaning is a grammar whose calls match nothing, if their rules have a rank from 1 to the greatest one, and else one byte.
func leaning(g api.Grammar, ranks []int, greatest int) api.Grammar {
	g = gram.Copy(g)
	for n, x := range g.Nodes {
		if x.Kind != api.Call {
			continue
		}
		g.Nodes[n] = api.Node{Kind: api.Any}
		if r := ranks[x.Rule]; 0 < r && r <= greatest {
			g.Nodes[n] = api.Node{Kind: api.Empty}
		}
	}
	return g
}

// leans holds each rule's rank against those on which it leans: the ranks below it are enough, those below the one below are not.
func leans(t *testing.T, g api.Grammar, ranks []int) {
	t.Helper()
	for i, r := range g.Rules {
		if null.Rule(g, i) != null.Node(g, r.Body) {
			t.Fatal("a rule may not what its body may: ", i, g)
		}
		rank := ranks[i]
		if rank == 0 {
			rank = len(g.Rules) + 2
		}
		if is := null.Node(leaning(g, ranks, rank-1), r.Body); is != (ranks[i] > 0) {
			t.Fatal(i, rank, is, g)
		}
		if rank > 1 && null.Node(leaning(g, ranks, rank-2), r.Body) {
			t.Fatal("it may by lower ranks: ", i, rank, g)
		}
	}
}

// gains holds that no rule goes, where a part that may not match nothing becomes one that may.
func gains(t *testing.T, roll func(int) int, g api.Grammar) {
	t.Helper()
	before, n := null.Rules(g), roll(len(g.Nodes))
	if null.Node(g, n) {
		return
	}
	same := hung(g, n, -1, part{})
	for _, to := range []part{of(api.Empty), of(api.Opt, same), of(api.Star, same), of(api.Not, same), of(api.Alt, same, of(api.Empty))} {
		changed := put(g, n, to)
		if !null.Node(changed, n) {
			t.Fatal(n, changed)
		}
		after := null.Rules(changed)
		for _, i := range before {
			if !slices.Contains(after, i) {
				t.Fatal(i, g, changed)
			}
		}
	}
}

// TestManyGrammars: P11.1 to P11.3, of grammars without a plan.
func TestManyGrammars(t *testing.T) {
	roll := dice()
	late, never := 0, 0
	for i := range 3000 {
		g := randomGrammar(roll, 1+i%32)
		if !gram.Right(g) {
			t.Fatal(g)
		}
		l := holds(t, g)
		leans(t, g, l)
		gains(t, roll, g)
		if len(l) <= 8 {
			closes(t, g)
		}
		if slices.Max(l) > 2 {
			late++
		}
		if slices.Min(l) == 0 {
			never++
		}
	}
	if late < 500 || never < 500 {
		t.Error("few grammars that tell: ", late, never)
	}
}

// tower is a body of that height, which may match nothing if its last part may.
func tower(height int, last part) part {
	p := last
	for h := 1; h < height; h++ {
		switch h % 3 {
		case 0:
			p = of(api.Plus, p)
		case 1:
			p = of(api.Seq, of(api.Empty), p)
		case 2:
			p = of(api.Alt, of(api.Any), p)
		}
	}
	return p
}

// TestLimits: P11.1, P11.2: grammars as high, as wide and as great as they may be.
func TestLimits(t *testing.T) {
	for _, last := range []part{of(api.Empty), text("x"), call(1, 99), call(2, 0)} {
		g := laid(tower(api.MaxHeight, last), of(api.Empty), of(api.Any))
		want := last.Kind == api.Empty || last.Rule == 1
		if holds(t, g)[0] > 0 != want {
			t.Error(last)
		}
	}
	wide := of(api.Seq, slices.Repeat([]part{of(api.Opt, of(api.Any))}, api.MaxKids)...)
	if l := holds(t, laid(wide)); l[0] != 1 {
		t.Error(l)
	}
	wide.kids[api.MaxKids-1] = of(api.Any)
	if l := holds(t, laid(wide)); l[0] != 0 {
		t.Error(l)
	}
	wide.Kind = api.Alt
	if l := holds(t, laid(wide)); l[0] != 1 {
		t.Error(l)
	}
	// 32 rules of 64 nodes, each of which leans on the next one with all it has: as many rounds and nodes as there may be.
	var l []part
	for i := range 31 {
		l = append(l, of(api.Seq, slices.Repeat([]part{call(i+1, 0)}, 63)...))
	}
	l = append(l, of(api.Seq, slices.Repeat([]part{of(api.Empty)}, 63)...))
	g := laid(l...)
	if !gram.Right(g) || len(g.Nodes) != api.MaxNodes {
		t.Fatal(len(g.Nodes))
	}
	if null.Rank(g, 0) != 32 || len(null.Rules(g)) != 32 || len(null.Nodes(g)) != api.MaxNodes || !null.Node(g, api.MaxNodes-1) || null.Node(g, api.MaxNodes) {
		t.Error(null.Rank(g, 0))
	}
	g.Nodes[api.MaxNodes-1].Kind = api.Any
	if null.Rank(g, 0) != 0 || null.Rules(g) != nil || len(null.Nodes(g)) != 62 {
		t.Error(null.Nodes(g))
	}
}

// odd are numbers that no rule or node has.
func odd() []int { return []int{-1, math.MinInt, math.MaxInt, 1 << 11, 1 << 32} }

// none holds that nothing is told of some numbers.
func none(t *testing.T, what string, g api.Grammar, numbers ...int) {
	t.Helper()
	for _, n := range numbers {
		if null.Node(g, n) || null.Rule(g, n) || null.Rank(g, n) != 0 {
			t.Error(what, n)
		}
	}
}

// nothing holds that nothing is told of a grammar that is not right.
func nothing(t *testing.T, what string, g api.Grammar) {
	t.Helper()
	if gram.Right(g) {
		t.Error("right: ", what)
	}
	none(t, what, g, append(odd(), 0, 1, 2, 3, 4, 31, 32)...)
	if null.Rules(g) != nil || null.Nodes(g) != nil {
		t.Error(what)
	}
}

// TestNoSuch: P11.1: nodes and rules that there are not.
func TestNoSuch(t *testing.T) {
	g := laid(of(api.Star, of(api.Empty)), of(api.Empty))
	none(t, "neither", g, append(odd(), 3)...)
	if null.Rule(g, 2) || null.Rank(g, 2) != 0 || !null.Node(g, 2) {
		t.Error("a node is no rule")
	}
	g = laid(of(api.Empty), of(api.Empty))
	none(t, "neither", g, append(odd(), 2)...)
}

// TestOthers: P11.1, P11.2: grammars that are not right, though some of their rules and nodes would do.
func TestOthers(t *testing.T) {
	nothing(t, "empty", api.Grammar{})
	nothing(t, "no nodes", api.Grammar{Rules: []api.Rule{{Name: "A"}}})
	nothing(t, "no rules", api.Grammar{Nodes: []api.Node{{Kind: api.Empty}}})
	nothing(t, "33 rules", laid(slices.Repeat([]part{of(api.Empty)}, 33)...))
	nothing(t, "too high", laid(tower(api.MaxHeight+1, of(api.Empty))))
	nothing(t, "65 kids", laid(of(api.Seq, slices.Repeat([]part{of(api.Empty)}, 65)...)))
	nothing(t, "too many nodes", laid(slices.Repeat([]part{of(api.Seq, slices.Repeat([]part{of(api.Opt, of(api.Empty))}, 32)...)}, 32)...))
	nothing(t, "an empty text", laid(text("")))
	nothing(t, "an empty class", laid(of(api.Empty), set()))
	nothing(t, "a level", laid(of(api.Opt, call(0, 100))))
	for what, change := range map[string]func(g *api.Grammar){
		"two of a name":   func(g *api.Grammar) { g.Rules[1].Name = "A" },
		"no name":         func(g *api.Grammar) { g.Rules[1].Name = "" },
		"a body below":    func(g *api.Grammar) { g.Rules[0].Body = -1 },
		"a body behind":   func(g *api.Grammar) { g.Rules[1].Body = math.MaxInt },
		"one body of two": func(g *api.Grammar) { g.Rules[1].Body = 0 },
		"a rule less":     func(g *api.Grammar) { g.Rules = g.Rules[:1] },
		"a node less":     func(g *api.Grammar) { g.Nodes = g.Nodes[:3] },
		"a node more":     func(g *api.Grammar) { g.Nodes = append(g.Nodes, api.Node{Kind: api.Empty}) },
		"its own kid":     func(g *api.Grammar) { g.Nodes[0].Kids[0] = 0 },
		"a kid twice":     func(g *api.Grammar) { g.Nodes[0].Kids[1] = 1 },
		"a kid of none":   func(g *api.Grammar) { g.Nodes[0].Kids[1] = math.MaxInt },
		"a kid below":     func(g *api.Grammar) { g.Nodes[0].Kids[1] = -1 },
		"no kids":         func(g *api.Grammar) { g.Nodes[0].Kids = nil },
		"a rule behind":   func(g *api.Grammar) { g.Nodes[1].Rule = 2 },
		"a rule below":    func(g *api.Grammar) { g.Nodes[1].Rule = math.MinInt },
		"a text too much": func(g *api.Grammar) { g.Nodes[3].Text = "t" },
		"no Kind":         func(g *api.Grammar) { g.Nodes[3].Kind = 0 },
		"a Kind behind":   func(g *api.Grammar) { g.Nodes[3].Kind = 13 },
		"a Kind below":    func(g *api.Grammar) { g.Nodes[3].Kind = -1 },
	} {
		g := laid(of(api.Alt, call(1, 0), of(api.Empty)), of(api.Empty))
		holds(t, g)
		change(&g)
		nothing(t, what, g)
	}
}

// TestNothingChanged: R3, R4: a grammar is as it was, even behind its rows' ends; what is told is new, and alike each time.
func TestNothingChanged(t *testing.T) {
	s := `A <- B C / "a"; B <- "b"?; C <- B* D+ / [x] A:3; D <- !A / .;`
	g, same := grammarAs(t, s), grammarAs(t, s)
	g.Rules = append(g.Rules, api.Rule{Name: "Z", Body: 7})[:4]
	many := len(g.Nodes)
	g.Nodes = append(g.Nodes, api.Node{Kind: api.Any, Level: 7})[:many]
	for range 2 {
		for _, tell := range []func(api.Grammar) []int{null.Rules, null.Nodes} {
			l := tell(g)
			kept := slices.Clone(l)
			clear(l[:cap(l)])
			if again := tell(g); len(kept) == 0 || !slices.Equal(again, kept) {
				t.Error("not alike: ", again, kept)
			}
		}
		holds(t, g)
	}
	if !reflect.DeepEqual(g, same) || g.Rules[:5][4] != (api.Rule{Name: "Z", Body: 7}) || g.Nodes[:many+1][many].Level != 7 {
		t.Error("changed: ", g)
	}
	// What was told of a grammar is not kept: changed, it is asked anew.
	g.Nodes[g.Rules[1].Body].Kind = api.Plus
	if got := holds(t, g); !slices.Equal(got, []int{0, 0, 2, 1}) {
		t.Error("kept: ", got)
	}
}
