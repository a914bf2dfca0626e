package well_test

import (
	"math"
	"reflect"
	"slices"
	"strings"
	"testing"
	"unsafe"

	"seedling/api"
	"seedling/gram"
	"seedling/names"
	"seedling/null"
	"seedling/read"
	"seedling/show"
	"seedling/well"
)

// part is a node of a body, and its kids as they hang on it, without numbers.
type part struct {
	api.Node
	kids []part
}

// of is a part of a Kind, and kids.
func of(k api.Kind, kids ...part) part { return part{Node: api.Node{Kind: k}, kids: kids} }

// set, text and call are parts that have something.
func set(words ...uint64) part {
	p := of(api.Set)
	copy(p.Class[:], words)
	return p
}
func text(s string) part { return part{Node: api.Node{Kind: api.Text, Text: s}} }
func call(rule, level int) part {
	return part{Node: api.Node{Kind: api.Call, Rule: rule, Level: level}}
}

// lay lays a part's nodes behind a grammar's last one.
func (p part) lay(g *api.Grammar) int {
	n := len(g.Nodes)
	g.Nodes = append(g.Nodes, p.Node)
	for _, kid := range p.kids {
		k := kid.lay(g)
		g.Nodes[n].Kids = append(g.Nodes[n].Kids, k)
	}
	return n
}

// nameOf is a name for a rule: no other number has it.
func nameOf(i int) string { return string(rune('A'+i%26)) + strings.Repeat("_", i/26) }

// laid is the grammar of some bodies, whose rules are A, B, C and so on.
func laid(bodies ...part) api.Grammar {
	var g api.Grammar
	for i, body := range bodies {
		g.Rules = append(g.Rules, api.Rule{Name: nameOf(i), Body: body.lay(&g)})
	}
	return g
}

// dice answers numbers below n without a plan, the same ones each time.
func dice() func(n int) int {
	x := uint64(15)
	return func(n int) int {
		x = x*6364136223846793005 + 1442695040888963407
		return int(x>>33) % n
	}
}

// random is a part without a plan, of a height at most, in a grammar of so many rules.
func random(roll func(int) int, high, rules int) part {
	if high == 1 || roll(5) == 0 {
		if roll(2) > 0 {
			return call(roll(rules), roll(100)*roll(2))
		}
		return []part{of(api.Empty), of(api.Any), set(0, uint64(1+roll(99))), text(nameOf(roll(40)))}[roll(4)]
	}
	// From Seq on: Star and Plus are as frequent as all others.
	k := []api.Kind{api.Seq, api.Alt, api.Star, api.Plus, api.Star, api.Plus, api.Kind(6 + roll(7))}[roll(7)]
	if k != api.Seq && k != api.Alt {
		return of(k, random(roll, high-1, rules))
	}
	p := of(k)
	for range 2 + roll(3) {
		p.kids = append(p.kids, random(roll, high-1, rules))
	}
	return p
}

// randomGrammar is one without a plan, of up to so many rules.
func randomGrammar(roll func(int) int, most int) api.Grammar {
	rules := 1 + roll(most)
	var l []part
	for range rules {
		l = append(l, random(roll, 1+roll(5), rules))
	}
	return laid(l...)
}

// grammarAs is a text's grammar, that must be right.
func grammarAs(t *testing.T, s string) api.Grammar {
	t.Helper()
	x, d := read.Text(s)
	if d != (api.Diag{}) {
		t.Fatal(s, d)
	}
	g, d := names.Resolve(x)
	if d != (api.Diag{}) || !gram.Right(g) {
		t.Fatal(s, d)
	}
	return g
}

// written is a grammar as a text, to tell what went wrong with which one.
func written(g api.Grammar) string {
	s, _ := show.Text(g)
	return s
}

// may says of each node whether it may match nothing, by those of which that is known; until no more are.
func may(g api.Grammar) []bool {
	in := make([]bool, len(g.Nodes))
	for more := true; more; {
		more = false
		for n, x := range g.Nodes {
			can := 0
			for _, kid := range x.Kids {
				if in[kid] {
					can++
				}
			}
			is := false
			switch x.Kind {
			case api.Empty, api.Star, api.Opt, api.Not, api.And:
				is = true
			case api.Seq:
				is = can == len(x.Kids)
			case api.Alt, api.Plus:
				is = can > 0
			case api.Call:
				is = in[g.Rules[x.Rule].Body]
			}
			more = more || is != in[n]
			in[n] = is
		}
	}
	return in
}

// idles are the idle nodes by the chapter's words.
func idles(g api.Grammar) []int {
	in := may(g)
	var l []int
	for n, x := range g.Nodes {
		if x.Kind == api.Star && in[x.Kids[0]] || x.Kind == api.Plus && in[x.Kids[0]] {
			l = append(l, n)
		}
	}
	return l
}

// mendedOf is a grammar, some of whose nodes are Opts, made anew part by part.
func mendedOf(g api.Grammar, opts []int) api.Grammar {
	x := api.Grammar{Rules: slices.Clone(g.Rules)}
	for n, node := range g.Nodes {
		if slices.Contains(opts, n) {
			node = api.Node{Kind: api.Opt, Kids: []int{n + 1}}
		}
		x.Nodes = append(x.Nodes, node)
	}
	return x
}

// sameGrammar says whether two grammars are, by nothing of the program.
func sameGrammar(a, b api.Grammar) bool {
	same := slices.Equal(a.Rules, b.Rules) && len(a.Nodes) == len(b.Nodes)
	for n := 0; same && n < len(a.Nodes); n++ {
		x, y := a.Nodes[n], b.Nodes[n]
		same = slices.Equal(x.Kids, y.Kids)
		x.Kids, y.Kids = nil, nil
		same = same && reflect.DeepEqual(x, y)
	}
	return same
}

// holds holds all that is told of a right grammar against the chapter's words, and answers its idle nodes.
func holds(t *testing.T, g api.Grammar) []int {
	t.Helper()
	want := idles(g)
	for n := range g.Nodes {
		if is := well.Idle(g, n); is != slices.Contains(want, n) {
			t.Fatalf("node %d: %v: %s", n, is, written(g))
		}
	}
	if l := well.All(g); !slices.Equal(l, want) {
		t.Fatalf("all %v, want %v: %s", l, want, written(g))
	}
	least := slices.Concat(want, []int{0})[0]
	if n, is := well.First(g); n != least || is != (len(want) > 0) {
		t.Fatalf("first %d, %v, want %v: %s", n, is, want, written(g))
	}
	if is := well.Well(g); is != (len(want) == 0) {
		t.Fatalf("well %v, want %v: %s", is, want, written(g))
	}
	if x, is := well.Mend(g); !is || !sameGrammar(x, mendedOf(g, want)) {
		t.Fatalf("mended %v, want %v: %s%s", is, want, written(x), written(g))
	}
	return want
}

// follows holds what follows of what is mended.
func follows(t *testing.T, g api.Grammar) {
	t.Helper()
	x, is := well.Mend(g)
	if !is || !gram.Right(x) || !well.Well(x) || well.All(x) != nil {
		t.Fatal("not well: ", written(g), written(x))
	}
	if same := sameGrammar(g, x); same != well.Well(g) {
		t.Fatal("the same: ", same, written(g), written(x))
	}
	if !slices.Equal(null.Nodes(x), null.Nodes(g)) || !slices.Equal(null.Rules(x), null.Rules(g)) || !slices.Equal(may(x), may(g)) {
		t.Fatal("what may match nothing: ", written(g), written(x))
	}
	if y, is := well.Mend(x); !is || !sameGrammar(x, y) {
		t.Fatal("mended twice: ", written(x), written(y))
	}
}

// TestExamples: the chapter's, and those of DOC.md.
func TestExamples(t *testing.T) {
	for _, c := range []struct {
		text, mended string
		idle         []int
	}{
		{`A <- B* "a"+; B <- !"a" .?;`, "A <- B? \"a\"+;\nB <- !\"a\" .?;\n", []int{1}},
		{`A <- ("a"?)?;`, "A <- \"a\"??;\n", nil},
		{`A <- ("a"?)+;`, "A <- \"a\"??;\n", []int{0}},
	} {
		g := grammarAs(t, c.text)
		if l := holds(t, g); !slices.Equal(l, c.idle) {
			t.Error(c.text, l)
		}
		x, is := well.Mend(g)
		if s, e := show.Text(x); !is || e != api.OK || !sameGrammar(grammarAs(t, s), grammarAs(t, c.mended)) {
			t.Error(c.text, s)
		}
		follows(t, g)
	}
}

// TestKids: P15.1, P15.2: each Kind as the kid of each one that has one kid; A's body is that, N may match nothing, M may not.
func TestKids(t *testing.T) {
	for kid, empties := range map[string]bool{
		`()`: true, `.`: false, `[a-z]`: false, `"a"`: false, `N`: true, `M`: false, `N:9`: true, `M:9`: false,
		`(() N)`: true, `(N M)`: false, `(M N)`: false, `(N () "a"? N)`: true, `(N () "a" N)`: false,
		`(N / M)`: true, `(M / N)`: true, `(M / . / "a")`: false, `(M / ())`: true,
		`(.*)`: true, `(M*)`: true, `(.+)`: false, `(M+)`: false, `(.?)`: true, `(N?)`: true,
		`(!.)`: true, `(!N)`: true, `(&.)`: true, `(&M)`: true,
		`A`: true, `(A "a")`: false, `(A A)`: true,
	} {
		for sign, idle := range map[string]bool{`*`: empties, `+`: empties, `?`: false} {
			s := `A <- ` + kid + sign + ` / (); N <- (); M <- .;`
			g := grammarAs(t, s)
			// 0 Alt, 1 what repeats.
			if l := holds(t, g); slices.Contains(l, 1) != idle || len(l) > 1 {
				t.Error(s, l)
			}
			follows(t, g)
		}
		for _, sign := range []string{`!`, `&`} {
			g := grammarAs(t, `A <- `+sign+kid+` / (); N <- (); M <- .;`)
			if l := holds(t, g); len(l) > 0 {
				t.Error(sign, kid, l)
			}
			follows(t, g)
		}
	}
}

// TestWritten: P15.1, P15.2: idle nodes, and what is mended, that are written down here.
func TestWritten(t *testing.T) {
	for _, c := range []struct {
		text, mended string
		idle         []int
	}{
		{`A <- "a";`, `A <- "a";`, nil},
		{`A <- "a"* "b"+ .?;`, `A <- "a"* "b"+ .?;`, nil},
		// Repeats of repeats: all that have such a kid, asked of the grammar as it was.
		{`A <- ("a"*)*;`, `A <- ("a"*)?;`, []int{0}},
		{`A <- ("a"+)+;`, `A <- ("a"+)+;`, nil},
		{`A <- ("a"+)*;`, `A <- ("a"+)*;`, nil},
		{`A <- (("a"*)+)*;`, `A <- (("a"*)?)?;`, []int{0, 1}},
		{`A <- ((("a"?)+)*)+;`, `A <- ((("a"?)?)?)?;`, []int{0, 1, 2}},
		{`A <- ((("a"+)+)*)?;`, `A <- ((("a"+)+)*)?;`, nil},
		{`A <- (()+ .)+;`, `A <- (()? .)+;`, []int{2}},
		// What is called decides, near or far, not where it stands.
		{`A <- B*; B <- C+; C <- D; D <- "d"?;`, `A <- B?; B <- C?; C <- D; D <- "d"?;`, []int{0, 2}},
		{`A <- B*; B <- C+; C <- D; D <- "d";`, `A <- B*; B <- C+; C <- D; D <- "d";`, nil},
		{`A <- "a"; B <- A+ C*; C <- (A / B)*; D <- C+;`, `A <- "a"; B <- A+ C?; C <- (A / B)*; D <- C?;`, []int{4, 10}},
		{`A <- A* "a" / B+; B <- A / B / ();`, `A <- A? "a" / B?; B <- A / B / ();`, []int{2, 5}},
		{`A <- A* "a";`, `A <- A* "a";`, nil},
		{`A <- A+;`, `A <- A+;`, nil},
		{`A <- A*;`, `A <- A?;`, []int{0}},
		{`A <- B+ / "x"; B <- A+;`, `A <- B+ / "x"; B <- A+;`, nil},
		{`A <- B+ / (); B <- A+;`, `A <- B? / (); B <- A?;`, []int{1, 4}},
		// The last node of all, and the first one.
		{`A <- "a"*; B <- ()*;`, `A <- "a"*; B <- ()?;`, []int{2}},
		{`A <- ()+; B <- "b"+;`, `A <- ()?; B <- "b"+;`, []int{0}},
		{`A <- ()?; B <- (!.)? (&.)? ;`, `A <- ()?; B <- (!.)? (&.)?;`, nil},
		{`A <- (!.)* (&A)+ "a"; B <- !(()*) &((.*)+);`, `A <- (!.)? (&A)? "a"; B <- !(()?) &((.*)?);`, []int{1, 4, 10, 13}},
	} {
		g := grammarAs(t, c.text)
		if l := holds(t, g); !slices.Equal(l, c.idle) {
			t.Error(c.text, l)
		}
		if x, is := well.Mend(g); !is || !sameGrammar(x, grammarAs(t, c.mended)) {
			t.Error(c.text, written(x))
		}
		follows(t, g)
	}
}

// bodiesOf are all bodies of so many nodes, out of some leaves and Kinds; Seqs and Alts have two kids.
func bodiesOf(size int, leaves []part, singles []api.Kind) []part {
	if size == 1 {
		return leaves
	}
	var l []part
	for _, kid := range bodiesOf(size-1, leaves, singles) {
		for _, k := range singles {
			l = append(l, of(k, kid))
		}
	}
	for first := 1; first < size-1; first++ {
		for _, a := range bodiesOf(first, leaves, singles) {
			for _, b := range bodiesOf(size-1-first, leaves, singles) {
				l = append(l, of(api.Seq, a, b), of(api.Alt, a, b))
			}
		}
	}
	return l
}

// upTo are all bodies of up to so many nodes.
func upTo(size int, leaves []part, singles []api.Kind) []part {
	var l []part
	for n := 1; n <= size; n++ {
		l = append(l, bodiesOf(n, leaves, singles)...)
	}
	return l
}

// TestAllBodies: P15.1 to P15.3: all grammars of one rule of up to five nodes, and of two of up to three.
func TestAllBodies(t *testing.T) {
	every := []api.Kind{api.Star, api.Plus, api.Opt, api.Not, api.And}
	for _, body := range upTo(5, []part{of(api.Empty), of(api.Any), call(0, 3)}, every) {
		g := laid(body)
		holds(t, g)
		follows(t, g)
	}
	l := upTo(3, []part{of(api.Empty), text("t"), call(0, 0), call(1, 7)}, []api.Kind{api.Star, api.Plus})
	for _, a := range l {
		for _, b := range l {
			g := laid(a, b)
			holds(t, g)
			follows(t, g)
		}
	}
}

// TestManyGrammars: P15.1 to P15.3, of grammars without a plan.
func TestManyGrammars(t *testing.T) {
	roll := dice()
	none, some := 0, 0
	for i := range 1500 {
		g := randomGrammar(roll, 1+i%32)
		if !gram.Right(g) {
			t.Fatal("not right: ", i)
		}
		if l := holds(t, g); len(l) == 0 {
			none++
		} else if len(l) > 2 {
			some++
		}
		follows(t, g)
	}
	if none < 200 || some < 500 {
		t.Error("few grammars that tell: ", none, some)
	}
}

// tower is a body of that height, all repeats above its last part.
func tower(height int, last part) part {
	p := last
	for h := 1; h < height; h++ {
		p = of([]api.Kind{api.Plus, api.Star}[min(h/8, 1)], p)
	}
	return p
}

// TestLimits: P15.1, P15.2: grammars as high, as wide and as great as they may be.
func TestLimits(t *testing.T) {
	// Above the last part there are 7 Pluses and 8 Stars: of what takes a byte none of the Pluses is idle, nor the Star just above them.
	for n, last := range []part{of(api.Empty), of(api.Any), call(1, 99), call(2, 0)} {
		g := laid(tower(api.MaxHeight, last), of(api.Empty), of(api.Any))
		if l := holds(t, g); len(l) != []int{15, 7}[n%2] {
			t.Error(last, l)
		}
		follows(t, g)
	}
	wide := of(api.Seq, slices.Repeat([]part{of(api.Opt, of(api.Any))}, api.MaxKids)...)
	for _, last := range []part{of(api.Empty), of(api.Any)} {
		wide.kids[api.MaxKids-1] = last
		g := laid(of(api.Plus, wide))
		if l := holds(t, g); len(l) > 0 != (last.Kind == api.Empty) {
			t.Error(last, l)
		}
		follows(t, g)
	}
	// 32 rules, each of which hangs on the next one.
	for _, last := range []part{of(api.Empty), of(api.Any)} {
		var l []part
		for i := range 31 {
			l = append(l, of(api.Plus, call(i+1, i)))
		}
		g := laid(append(l, last)...)
		if l := holds(t, g); len(l) != 31 && last.Kind == api.Empty || len(l) > 0 && last.Kind == api.Any {
			t.Error(last, l)
		}
		follows(t, g)
	}
}

// most is a grammar of as many rules and nodes as there may be, nearly half of which repeat.
func most(kid part) api.Grammar {
	// A body has 64 nodes: a Seq, 31 repeats and their kids, and one kid alone.
	body := of(api.Seq, slices.Repeat([]part{of(api.Star, kid)}, 31)...)
	body.kids = append(body.kids, kid)
	return laid(slices.Repeat([]part{body}, api.MaxRules)...)
}

// TestMost: P15.1, P15.2: as many nodes as there may be, idle ones up to the last repeat; and one more.
func TestMost(t *testing.T) {
	g := most(of(api.Empty))
	if !gram.Right(g) || len(g.Nodes) != api.MaxNodes {
		t.Fatal(len(g.Nodes))
	}
	l := well.All(g)
	if len(l) != 31*32 || !slices.Equal(l, idles(g)) || l[0] != 1 || l[len(l)-1] != api.MaxNodes-3 {
		t.Error(l)
	}
	if !well.Idle(g, api.MaxNodes-3) || well.Idle(g, api.MaxNodes-1) || well.Idle(g, api.MaxNodes) || well.Well(g) {
		t.Error("idle")
	}
	follows(t, g)
	g = most(of(api.Any))
	if !well.Well(g) || well.All(g) != nil {
		t.Error(well.All(g))
	}
	follows(t, g)
	g.Nodes[api.MaxNodes-2].Kind = api.Plus
	nothing(t, "a Plus of none", g)
	g = most(of(api.Any))
	g.Nodes[len(g.Nodes)-1] = api.Node{Kind: api.Star, Kids: []int{api.MaxNodes}}
	g.Nodes = append(g.Nodes, api.Node{Kind: api.Empty})
	nothing(t, "one node too many", g)
}

// odd are numbers that no node has.
func odd() []int { return []int{-1, math.MinInt, math.MaxInt, 1 << 11, 1 << 32} }

// nothing holds that nothing is told of a grammar that is not right.
func nothing(t *testing.T, what string, g api.Grammar) {
	t.Helper()
	if gram.Right(g) {
		t.Error("right: ", what)
	}
	for _, n := range append(odd(), 0, 1, 2, 3, 4, 31, 32) {
		if well.Idle(g, n) {
			t.Error(what, n)
		}
	}
	if n, is := well.First(g); n != 0 || is || well.All(g) != nil || well.Well(g) {
		t.Error(what, n, is)
	}
	if x, is := well.Mend(g); is || x.Rules != nil || x.Nodes != nil {
		t.Error(what, x)
	}
}

// TestNoSuch: P15.1: nodes that there are not.
func TestNoSuch(t *testing.T) {
	g := grammarAs(t, `A <- ()*; B <- ()+;`)
	for _, n := range append(odd(), 4) {
		if well.Idle(g, n) {
			t.Error(n)
		}
	}
	holds(t, g)
}

// TestOthers: P15.1, P15.2: grammars that are not right, though some of their nodes would be idle.
func TestOthers(t *testing.T) {
	idle := of(api.Star, of(api.Empty))
	nothing(t, "empty", api.Grammar{})
	nothing(t, "no nodes", api.Grammar{Rules: []api.Rule{{Name: "A"}}})
	nothing(t, "no rules", api.Grammar{Nodes: laid(idle).Nodes})
	nothing(t, "33 rules", laid(slices.Repeat([]part{idle}, 33)...))
	nothing(t, "too high", laid(tower(api.MaxHeight+1, of(api.Empty))))
	nothing(t, "65 kids", laid(of(api.Plus, of(api.Seq, slices.Repeat([]part{idle}, 65)...))))
	nothing(t, "an empty text", laid(idle, text("")))
	nothing(t, "a text too long", laid(idle, text(strings.Repeat("t", 65))))
	nothing(t, "an empty class", laid(of(api.Star, set()), idle))
	nothing(t, "a level", laid(of(api.Star, call(0, 100))))
	for what, change := range map[string]func(g *api.Grammar){
		"two of a name":    func(g *api.Grammar) { g.Rules[1].Name = "A" },
		"no name":          func(g *api.Grammar) { g.Rules[1].Name = "" },
		"a name too long":  func(g *api.Grammar) { g.Rules[1].Name = strings.Repeat("B", 33) },
		"a body below":     func(g *api.Grammar) { g.Rules[0].Body = -1 },
		"a body behind":    func(g *api.Grammar) { g.Rules[1].Body = math.MaxInt },
		"one body of two":  func(g *api.Grammar) { g.Rules[1].Body = 0 },
		"a rule less":      func(g *api.Grammar) { g.Rules = g.Rules[:1] },
		"a node less":      func(g *api.Grammar) { g.Nodes = g.Nodes[:4] },
		"a node more":      func(g *api.Grammar) { g.Nodes = append(g.Nodes, api.Node{Kind: api.Empty}) },
		"its own kid":      func(g *api.Grammar) { g.Nodes[0].Kids[0] = 0 },
		"a Star's own kid": func(g *api.Grammar) { g.Nodes[1].Kids[0] = 1 },
		"a kid twice":      func(g *api.Grammar) { g.Nodes[0].Kids[1] = 1 },
		"a kid of none":    func(g *api.Grammar) { g.Nodes[1].Kids[0] = math.MaxInt },
		"a kid below":      func(g *api.Grammar) { g.Nodes[1].Kids[0] = -1 },
		"no kids":          func(g *api.Grammar) { g.Nodes[1].Kids = nil },
		"two kids":         func(g *api.Grammar) { g.Nodes[1].Kids = []int{2, 3} },
		"a Plus of none":   func(g *api.Grammar) { g.Nodes[3].Kind = api.Plus },
		"a rule behind":    func(g *api.Grammar) { g.Nodes[2].Rule = 2 },
		"a rule below":     func(g *api.Grammar) { g.Nodes[2].Rule = math.MinInt },
		"a text too much":  func(g *api.Grammar) { g.Nodes[3].Text = "t" },
		"no Kind":          func(g *api.Grammar) { g.Nodes[3].Kind = 0 },
		"a Kind behind":    func(g *api.Grammar) { g.Nodes[3].Kind = 13 },
		"a Kind below":     func(g *api.Grammar) { g.Nodes[1].Kind = -8 },
	} {
		// 0 Alt, 1 Star, 2 B, 3 Empty; 4 Plus, 5 Empty.
		g := laid(of(api.Alt, of(api.Star, call(1, 0)), of(api.Empty)), of(api.Plus, of(api.Empty)))
		if l := holds(t, g); !slices.Equal(l, []int{1, 4}) {
			t.Error(l)
		}
		change(&g)
		nothing(t, what, g)
	}
}

// TestNothingChanged: R3, R4: a grammar is as it was, even behind its rows' ends; what is told is alike each time, and not kept.
func TestNothingChanged(t *testing.T) {
	s := `A <- B* "a"+ / [x]? A:3; B <- (!"a" .?)+ / "b"*;`
	g, same := grammarAs(t, s), grammarAs(t, s)
	g.Rules = append(g.Rules, api.Rule{Name: "Z", Body: 7})[:2]
	many := len(g.Nodes)
	g.Nodes = append(g.Nodes, api.Node{Kind: api.Star, Level: 7})[:many]
	for range 2 {
		l := well.All(g)
		kept := slices.Clone(l)
		clear(l[:cap(l)])
		if again := well.All(g); len(kept) != 2 || !slices.Equal(again, kept) {
			t.Error("not alike: ", again, kept)
		}
		holds(t, g)
	}
	if !reflect.DeepEqual(g, same) || g.Rules[:3][2] != (api.Rule{Name: "Z", Body: 7}) || g.Nodes[:many+1][many].Level != 7 {
		t.Error("changed: ", g)
	}
	// What was told of a grammar is not kept: changed, it is asked anew.
	g.Nodes[2].Kind = api.Opt
	if got := holds(t, g); len(got) != 1 {
		t.Error("kept: ", got)
	}
}

// TestMendedIsNew: R3: what is mended shares nothing with the grammar, nor with what was mended ahead of it, be there idle nodes or none.
func TestMendedIsNew(t *testing.T) {
	for _, s := range []string{`A <- B* "a"+ / [x]? A:3; B <- (!"a" .?)+;`, `A <- B "a"+ / [x] A:3; B <- !"a" .?;`} {
		g, same := grammarAs(t, s), grammarAs(t, s)
		x, _ := well.Mend(g)
		y, _ := well.Mend(g)
		if !reflect.DeepEqual(x, y) {
			t.Error("not alike: ", s)
		}
		kept := gram.Copy(y)
		for i, r := range x.Rules {
			if unsafe.StringData(r.Name) == unsafe.StringData(g.Rules[i].Name) {
				t.Error("one name of two: ", s)
			}
		}
		for n := range x.Nodes {
			row := x.Nodes[n].Kids
			clear(row[:cap(row)])
			if len(x.Nodes[n].Text) > 0 && unsafe.StringData(x.Nodes[n].Text) == unsafe.StringData(g.Nodes[n].Text) {
				t.Error("one text of two: ", s)
			}
		}
		clear(x.Rules[:cap(x.Rules)])
		clear(x.Nodes[:cap(x.Nodes)])
		if !reflect.DeepEqual(g, same) || !reflect.DeepEqual(y, kept) {
			t.Error("shared: ", s)
		}
	}
}
