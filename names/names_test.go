package names_test

import (
	"fmt"
	"math"
	"reflect"
	"slices"
	"strings"
	"testing"
	"unsafe"

	"seedling/api"
	"seedling/gram"
	"seedling/names"
	"seedling/read"
	"seedling/show"
)

// part is a node of a body, and its kids as they hang on it, without numbers.
type part struct {
	api.Node
	kids []part
}

// of is a part of a Kind, and kids.
func of(k api.Kind, kids ...part) part { return part{Node: api.Node{Kind: k}, kids: kids} }

// call is one of a rule.
func call(rule, level int) part {
	return part{Node: api.Node{Kind: api.Call, Rule: rule, Level: level}}
}

// lay lays a part's nodes behind a grammar's last one.
func (p part) lay(g *api.Grammar) int {
	n := len(g.Nodes)
	g.Nodes = append(g.Nodes, p.Node)
	for _, kid := range p.kids {
		k := kid.lay(g)
		g.Nodes[n].Kids = append(g.Nodes[n].Kids, k)
	}
	return n
}

// nameOf is a name for a rule: no other number has it.
func nameOf(i int) string { return string(rune('A'+i%26)) + strings.Repeat("_", i/26) }

// laid is the grammar of some bodies, whose rules are A, B, C and so on.
func laid(bodies ...part) api.Grammar {
	var g api.Grammar
	for i, body := range bodies {
		g.Rules = append(g.Rules, api.Rule{Name: nameOf(i), Body: body.lay(&g)})
	}
	return g
}

// dice answers numbers below n without a plan, the same ones each time.
func dice() func(n int) int {
	x := uint64(10)
	return func(n int) int {
		x = x*6364136223846793005 + 1442695040888963407
		return int(x>>33) % n
	}
}

// random is a part without a plan, of a height at most, in a grammar of so many rules.
func random(roll func(int) int, high, rules int) part {
	if high == 1 || roll(4) == 0 {
		return []part{
			of(api.Empty), of(api.Any), call(roll(rules), 0), call(roll(rules), roll(100)),
			{Node: api.Node{Kind: api.Set, Class: api.Class{0, uint64(1 + roll(99))}}},
			{Node: api.Node{Kind: api.Text, Text: nameOf(roll(40))}},
		}[roll(6)]
	}
	k := api.Kind(6 + roll(7))
	if k != api.Seq && k != api.Alt {
		return of(k, random(roll, high-1, rules))
	}
	p := of(k)
	for range 2 + roll(3) {
		p.kids = append(p.kids, random(roll, high-1, rules))
	}
	return p
}

// randomGrammar is one without a plan, of up to so many rules.
func randomGrammar(roll func(int) int, most int) api.Grammar {
	rules := 1 + roll(most)
	var l []part
	for range rules {
		l = append(l, random(roll, 1+roll(5), rules))
	}
	return laid(l...)
}

// readAs is a text's tree, that must be right.
func readAs(t *testing.T, s string) read.Tree {
	t.Helper()
	x, d := read.Text(s)
	if d != (api.Diag{}) {
		t.Fatal(s, d)
	}
	return x
}

// grammarAs is a text's grammar, that must be right.
func grammarAs(t *testing.T, s string) api.Grammar {
	t.Helper()
	g, d := names.Resolve(readAs(t, s))
	if d != (api.Diag{}) || !gram.Right(g) {
		t.Fatal(s, d, g)
	}
	return g
}

// refuses holds what Resolve told against a diag.
func refuses(t *testing.T, x read.Tree, want api.Diag) {
	t.Helper()
	g, d := names.Resolve(x)
	if d != want || !reflect.DeepEqual(g, api.Grammar{}) {
		t.Fatalf("%v: %v, %v, want %v", x, g, d, want)
	}
}

// tells holds what Twice or Lost told.
func tells(t *testing.T, what string, n int, is bool, want int) {
	t.Helper()
	if is != (want >= 0) || n != max(want, 0) {
		t.Fatalf("%s: %d, %v, want %d", what, n, is, want)
	}
}

// twiceAs and lostAs are what the chapter's words say of a whole tree: -1, if there is none.
func twiceAs(x read.Tree) int {
	for i, r := range x.Grammar.Rules {
		for _, ahead := range x.Grammar.Rules[:i] {
			if ahead.Name == r.Name {
				return i
			}
		}
	}
	return -1
}
func lostAs(x read.Tree) int {
	for n, node := range x.Grammar.Nodes {
		if node.Kind == api.Call && gram.Rule(x.Grammar, x.Names[n]) < 0 {
			return n
		}
	}
	return -1
}

// resolves holds all that is told of a whole tree against the chapter's words.
func resolves(t *testing.T, x read.Tree) {
	t.Helper()
	twice, lost := twiceAs(x), lostAs(x)
	n, is := names.Twice(x)
	tells(t, "twice", n, is, twice)
	n, is = names.Lost(x)
	tells(t, "lost", n, is, lost)
	if twice >= 0 {
		refuses(t, x, api.Diag{Err: api.ErrTwice, At: x.Rules[twice]})
		return
	}
	if lost >= 0 {
		refuses(t, x, api.Diag{Err: api.ErrNone, At: x.Nodes[lost]})
		return
	}
	want := gram.Copy(x.Grammar)
	for n, node := range want.Nodes {
		if node.Kind == api.Call {
			want.Nodes[n].Rule = gram.Rule(x.Grammar, x.Names[n])
		}
	}
	g, d := names.Resolve(x)
	if d != (api.Diag{}) || !gram.Same(g, want) {
		t.Fatalf("%v: %v, %v, want %v", x, g, d, want)
	}
}

// TestExample: the chapter's.
func TestExample(t *testing.T) {
	g := grammarAs(t, `A <- B A; B <- "b";`)
	for i, want := range [][]int{{0, 1}, {}} {
		if l := names.Called(g, i); !slices.Equal(l, want) {
			t.Error(i, l)
		}
	}
	if l := names.Reached(g, 0); !slices.Equal(l, []int{0, 1}) {
		t.Error(l)
	}
	refuses(t, readAs(t, `A <- C;`), api.Diag{Err: api.ErrNone, At: 5})
	refuses(t, readAs(t, `A <- B; A <- A; B <- ();`), api.Diag{Err: api.ErrTwice, At: 8})
}

// TestTexts: P10.1: what is wrong, which rule or node has it, and where.
func TestTexts(t *testing.T) {
	for _, c := range []struct {
		text        string
		diag        api.Diag
		twice, lost int
	}{
		{`A <- ();`, api.Diag{}, -1, -1},
		{`A <- A:2;`, api.Diag{}, -1, -1},
		{`A <- B; B <- A;`, api.Diag{}, -1, -1},
		{`A <- "B" [C] .;`, api.Diag{}, -1, -1},
		{`A <- B;`, api.Diag{Err: api.ErrNone, At: 5}, -1, 0},
		{`A <- a;`, api.Diag{Err: api.ErrNone, At: 5}, -1, 0},
		{`Ab <- A;`, api.Diag{Err: api.ErrNone, At: 6}, -1, 0},
		{`A <- Ab;`, api.Diag{Err: api.ErrNone, At: 5}, -1, 0},
		{`A <- A B:3 C;`, api.Diag{Err: api.ErrNone, At: 7}, -1, 2},
		{`A <- (() / "x" !B)*;`, api.Diag{Err: api.ErrNone, At: 16}, -1, 6},
		{`A <- B; B <- C; C <- D;`, api.Diag{Err: api.ErrNone, At: 21}, -1, 2},
		{`A <- (); A <- ();`, api.Diag{Err: api.ErrTwice, At: 9}, 1, -1},
		{` B <- A; A <- (); B <- B;`, api.Diag{Err: api.ErrTwice, At: 18}, 2, -1},
		{`A <- (); B <- (); B <- (); A <- ();`, api.Diag{Err: api.ErrTwice, At: 18}, 2, -1},
		{`A <- (); A <- (); A <- ();`, api.Diag{Err: api.ErrTwice, At: 9}, 1, -1},
		// What is wrong with rules goes ahead, wherever it stands.
		{`A <- C; A <- ();`, api.Diag{Err: api.ErrTwice, At: 8}, 1, 0},
		{`A <- (); A <- C; C <- D; C <- ();`, api.Diag{Err: api.ErrTwice, At: 9}, 1, 2},
	} {
		x := readAs(t, c.text)
		g, d := names.Resolve(x)
		if d != c.diag || (d != (api.Diag{})) != reflect.DeepEqual(g, api.Grammar{}) {
			t.Error(c.text, g, d)
		}
		n, is := names.Twice(x)
		tells(t, c.text, n, is, c.twice)
		n, is = names.Lost(x)
		tells(t, c.text, n, is, c.lost)
		resolves(t, x)
	}
}

// TestAllNames: P10.1: all grammars of up to three rules, of which each has a name and calls two of some names.
func TestAllNames(t *testing.T) {
	l := []string{"A", "B", "C", "a"}
	var texts []string
	var rules []string
	for _, name := range l[:3] {
		for _, one := range l {
			for _, two := range l[:2] {
				rules = append(rules, fmt.Sprintf("%s<-%s(.%s);", name, one, two))
			}
		}
	}
	rows := []string{""}
	for range 3 {
		var longer []string
		for _, row := range rows {
			for _, r := range rules {
				longer = append(longer, row+r)
			}
		}
		rows = longer
		texts = append(texts, rows...)
	}
	for _, s := range texts {
		resolves(t, readAs(t, s))
	}
}

// TestOwnTrees: P10.1: trees that no text has: the places are those of the tree; names of nodes that are no calls are none; the rules that calls had do not matter.
func TestOwnTrees(t *testing.T) {
	roll := dice()
	l := []string{"", "A", "B", "C", "no name", "A_"}
	for range 20000 {
		var x read.Tree
		for range roll(4) {
			x.Grammar.Rules = append(x.Grammar.Rules, api.Rule{Name: l[roll(len(l))], Body: roll(9) - 4})
			x.Rules = append(x.Rules, roll(2000)-1000)
		}
		for range roll(5) {
			kind := api.Call
			if roll(3) == 0 {
				kind = api.Kind(roll(16) - 2)
			}
			x.Grammar.Nodes = append(x.Grammar.Nodes, api.Node{Kind: kind, Text: l[roll(3)], Rule: roll(9) - 4, Level: roll(300), Kids: []int{roll(9)}[roll(2):]})
			x.Nodes = append(x.Nodes, roll(2000)-1000)
			x.Names = append(x.Names, l[roll(len(l))])
		}
		resolves(t, x)
	}
	resolves(t, read.Tree{})
	resolves(t, read.Tree{Rules: []int{}, Nodes: []int{}, Names: []string{}})
}

// TestNotWhole: P10.1: trees with more or less places or names than rules and nodes, whatever else is wrong with them.
func TestNotWhole(t *testing.T) {
	for _, s := range []string{`A <- A;`, `A <- (); B <- A / "b";`, `A <- B;`, `A <- (); A <- ();`} {
		for _, change := range []func(x *read.Tree){
			func(x *read.Tree) { x.Rules = nil },
			func(x *read.Tree) { x.Rules = x.Rules[1:] },
			func(x *read.Tree) { x.Rules = append(x.Rules, 0) },
			func(x *read.Tree) { x.Nodes = nil },
			func(x *read.Tree) { x.Nodes = x.Nodes[1:] },
			func(x *read.Tree) { x.Nodes = append(x.Nodes, 0) },
			func(x *read.Tree) { x.Names = nil },
			func(x *read.Tree) { x.Names = x.Names[1:] },
			func(x *read.Tree) { x.Names = append(x.Names, "A") },
			func(x *read.Tree) { x.Grammar.Rules = x.Grammar.Rules[1:] },
			func(x *read.Tree) { x.Grammar.Nodes = x.Grammar.Nodes[1:] },
			func(x *read.Tree) { x.Grammar.Rules = append(x.Grammar.Rules, api.Rule{Name: "C"}) },
			func(x *read.Tree) { x.Grammar.Nodes = append(x.Grammar.Nodes, api.Node{Kind: api.Any}) },
			func(x *read.Tree) { x.Grammar = api.Grammar{} },
			func(x *read.Tree) { x.Nodes, x.Names = x.Nodes[1:], x.Names[1:] },
			func(x *read.Tree) { x.Nodes, x.Grammar.Nodes = x.Nodes[1:], x.Grammar.Nodes[1:] },
		} {
			x := readAs(t, s)
			change(&x)
			refuses(t, x, api.Diag{Err: api.ErrShape})
			n, is := names.Twice(x)
			tells(t, "twice", n, is, -1)
			n, is = names.Lost(x)
			tells(t, "lost", n, is, -1)
		}
	}
}

// calls are who calls whom in a right grammar, told from its nodes' owners.
func calls(g api.Grammar) [][]bool {
	l := make([][]bool, len(g.Rules))
	for i := range l {
		l[i] = make([]bool, len(g.Rules))
	}
	for n, x := range g.Nodes {
		if x.Kind == api.Call {
			l[gram.Owner(g, n)][x.Rule] = true
		}
	}
	return l
}

// reach is who is reached from whom, each rule from itself.
func reach(calls [][]bool) [][]bool {
	l := make([][]bool, len(calls))
	for i, row := range calls {
		l[i] = slices.Clone(row)
		l[i][i] = true
	}
	for by := range l {
		for from := range l {
			for to := range l {
				l[from][to] = l[from][to] || l[from][by] && l[by][to]
			}
		}
	}
	return l
}

// asNumbers are the places of what is true, told by a closure.
func asNumbers(many int, is func(i int) bool) []int {
	var l []int
	for i := range many {
		if is(i) {
			l = append(l, i)
		}
	}
	return l
}

// whom holds what is told of each rule of a right grammar against who calls whom.
func whom(t *testing.T, g api.Grammar) {
	t.Helper()
	direct := calls(g)
	far := reach(direct)
	for i := range g.Rules {
		for _, c := range []struct {
			what      string
			got, want []int
		}{
			{"callers", names.Callers(g, i), asNumbers(len(direct), func(j int) bool { return direct[j][i] })},
			{"called", names.Called(g, i), asNumbers(len(direct), func(j int) bool { return direct[i][j] })},
			{"reached", names.Reached(g, i), asNumbers(len(direct), func(j int) bool { return far[i][j] })},
		} {
			if !slices.Equal(c.got, c.want) {
				t.Fatalf("%s of %d: %v, want %v: %v", c.what, i, c.got, c.want, g)
			}
		}
	}
}

// TestWhom: P10.2: grammars of which the answers are written down here.
func TestWhom(t *testing.T) {
	for _, c := range []struct {
		text                    string
		rule                    int
		callers, called, reachd []int
	}{
		{`A <- ();`, 0, nil, nil, []int{0}},
		{`A <- A;`, 0, []int{0}, []int{0}, []int{0}},
		{`A <- A A:1 / A;`, 0, []int{0}, []int{0}, []int{0}},
		{`A <- C B; B <- "A"; C <- (!B)*;`, 0, nil, []int{1, 2}, []int{0, 1, 2}},
		{`A <- C B; B <- "A"; C <- (!B)*;`, 1, []int{0, 2}, nil, []int{1}},
		{`A <- C B; B <- "A"; C <- (!B)*;`, 2, []int{0}, []int{1}, []int{1, 2}},
		{`A <- D; B <- A; C <- B; D <- C; E <- D;`, 3, []int{0, 4}, []int{2}, []int{0, 1, 2, 3}},
		{`A <- D; B <- A; C <- B; D <- C; E <- D;`, 4, nil, []int{3}, []int{0, 1, 2, 3, 4}},
	} {
		g := grammarAs(t, c.text)
		if l := names.Callers(g, c.rule); !slices.Equal(l, c.callers) {
			t.Error(c.text, c.rule, l)
		}
		if l := names.Called(g, c.rule); !slices.Equal(l, c.called) {
			t.Error(c.text, c.rule, l)
		}
		if l := names.Reached(g, c.rule); !slices.Equal(l, c.reachd) {
			t.Error(c.text, c.rule, l)
		}
		whom(t, g)
	}
}

// among is the grammar in which each rule calls those of a row, in Seqs and Alts, or none.
func among(rules int, does func(i, j int) bool) api.Grammar {
	var l []part
	for i := range rules {
		p := of([]api.Kind{api.Seq, api.Alt}[i%2], of(api.Empty), of(api.Any))
		for j := range rules {
			if does(i, j) {
				p.kids = append(p.kids, of(api.And, call(rules-1-j, j)))
			}
		}
		l = append(l, p)
	}
	return laid(l...)
}

// TestAllCalls: P10.2: each way in which up to three rules may call each other, and long rows and rings of 32.
func TestAllCalls(t *testing.T) {
	for rules := 1; rules <= 3; rules++ {
		for bits := range 1 << (rules * rules) {
			whom(t, among(rules, func(i, j int) bool { return bits>>(i*rules+j)&1 == 1 }))
		}
	}
	for step := range 32 {
		whom(t, among(32, func(i, j int) bool { return (i+step)%32 == 31-j }))
		whom(t, among(32, func(i, j int) bool { return i+step == 31-j }))
		whom(t, among(32, func(i, j int) bool { return i-step == 31-j }))
	}
	whom(t, among(31, func(i, j int) bool { return true }))
	whom(t, among(32, func(i, j int) bool { return false }))
}

// mirrored holds callers against the called, and what is reached of what is reached.
func mirrored(t *testing.T, g api.Grammar) {
	t.Helper()
	var callers, called, reached [][]int
	for i := range g.Rules {
		callers, called = append(callers, names.Callers(g, i)), append(called, names.Called(g, i))
		reached = append(reached, names.Reached(g, i))
	}
	for a := range g.Rules {
		for b := range g.Rules {
			if slices.Contains(callers[a], b) != slices.Contains(called[b], a) {
				t.Fatal(a, b, g)
			}
		}
		for _, b := range reached[a] {
			for _, c := range reached[b] {
				if !slices.Contains(reached[a], c) {
					t.Fatal(a, b, c, g)
				}
			}
		}
	}
}

// TestManyGrammars: P10.2, P10.3: what is reached, what is read of a text, and who is whose caller.
func TestManyGrammars(t *testing.T) {
	roll := dice()
	read := 0
	for i := range 3000 {
		g := randomGrammar(roll, 1+i%32)
		if !gram.Right(g) {
			continue
		}
		whom(t, g)
		mirrored(t, g)
		s, e := show.Text(g)
		if e != api.OK {
			continue
		}
		read++
		if back := grammarAs(t, s); !gram.Same(back, g) {
			t.Fatal(s, back)
		}
	}
	if read < 1000 {
		t.Error("few texts: ", read)
	}
}

// none holds that no rule of a grammar has any answer.
func none(t *testing.T, what string, g api.Grammar, rules ...int) {
	t.Helper()
	for _, i := range rules {
		for _, l := range [][]int{names.Callers(g, i), names.Called(g, i), names.Reached(g, i)} {
			if l != nil {
				t.Error(what, i, l)
			}
		}
	}
}

// TestOthers: P10.2: rules that there are not, and grammars that are not right.
func TestOthers(t *testing.T) {
	far := []int{-1, math.MinInt, math.MaxInt, 32, 1 << 32}
	none(t, "no rule", laid(call(0, 0)), append(far, 1)...)
	none(t, "no rule", laid(call(1, 0), call(0, 0)), append(far, 2)...)
	all := append(far, 0, 1, 2)
	none(t, "empty", api.Grammar{}, all...)
	none(t, "no nodes", api.Grammar{Rules: []api.Rule{{Name: "A"}}}, all...)
	none(t, "no rules", api.Grammar{Nodes: []api.Node{{Kind: api.Any}}}, all...)
	none(t, "no such rule", laid(call(0, 0), call(2, 0)), all...)
	none(t, "no such rule", laid(call(0, 0), call(-1, 0)), all...)
	none(t, "level", laid(call(0, 100)), all...)
	none(t, "kids", laid(of(api.Seq, call(0, 0))), all...)
	none(t, "33 rules", laid(slices.Repeat([]part{call(0, 0)}, 33)...), all...)
	for _, change := range []func(g *api.Grammar){
		func(g *api.Grammar) { g.Rules[1].Name = "A" },
		func(g *api.Grammar) { g.Rules[1].Name = "" },
		func(g *api.Grammar) { g.Rules[0].Body = -1 },
		func(g *api.Grammar) { g.Rules[0].Body = 1 },
		func(g *api.Grammar) { g.Rules[1].Body = 0 },
		func(g *api.Grammar) { g.Rules[1].Body = 9 },
		func(g *api.Grammar) { g.Rules[1].Body = math.MaxInt },
		func(g *api.Grammar) { g.Rules[1].Body = math.MinInt },
		func(g *api.Grammar) { g.Rules = g.Rules[:1] },
		func(g *api.Grammar) { g.Nodes = g.Nodes[:3] },
		func(g *api.Grammar) { g.Nodes[0].Kids[0] = 0 },
		func(g *api.Grammar) { g.Nodes[0].Kids[1] = 1 },
		func(g *api.Grammar) { g.Nodes[3].Text = "t" },
		func(g *api.Grammar) { g.Nodes[3].Kind = 13 },
	} {
		g := laid(of(api.Seq, call(0, 0), call(1, 0)), call(1, 0))
		change(&g)
		none(t, "changed", g, all...)
	}
}

// TestNothingChanged: R3: a tree and a grammar are as they were, and share nothing with what is told; R4: it is told alike each time.
func TestNothingChanged(t *testing.T) {
	text := `A <- B "t" / A:2 (C)*; B <- !C; C <- "u" / A;`
	x, same := readAs(t, text), readAs(t, text)
	g, d := names.Resolve(x)
	want := gram.Copy(g)
	if d != (api.Diag{}) || !reflect.DeepEqual(x, same) {
		t.Fatal(d, x)
	}
	for i, r := range g.Rules {
		if unsafe.StringData(r.Name) == unsafe.StringData(x.Grammar.Rules[i].Name) {
			t.Error("a name is shared: ", r.Name)
		}
		g.Rules[i].Name, g.Rules[i].Body = "z", 77
	}
	for n, node := range g.Nodes {
		if node.Text != "" && unsafe.StringData(node.Text) == unsafe.StringData(x.Grammar.Nodes[n].Text) {
			t.Error("a text is shared: ", node.Text)
		}
		for i := range node.Kids {
			node.Kids[i] = 77
		}
		g.Nodes[n] = api.Node{}
	}
	if !reflect.DeepEqual(x, same) {
		t.Error("changed: ", x)
	}
	if again, _ := names.Resolve(x); !gram.Same(again, want) {
		t.Error("not alike: ", again)
	}
	for _, tell := range []func(api.Grammar, int) []int{names.Callers, names.Called, names.Reached} {
		l := tell(want, 0)
		kept := slices.Clone(l)
		clear(l[:cap(l)])
		if again := tell(want, 0); !slices.Equal(again, kept) {
			t.Error("not alike: ", again, kept)
		}
	}
	if again, _ := names.Resolve(x); !gram.Same(again, want) {
		t.Error("changed: ", want)
	}
}

// TestMany: R1: trees that are far too great for a grammar are resolved as any, and asked in time.
func TestMany(t *testing.T) {
	var x read.Tree
	for i := range 20000 {
		name := fmt.Sprint("N", i)
		x.Grammar.Rules = append(x.Grammar.Rules, api.Rule{Name: name})
		x.Grammar.Nodes = append(x.Grammar.Nodes, api.Node{Kind: api.Call})
		x.Rules, x.Nodes, x.Names = append(x.Rules, i), append(x.Nodes, 3*i), append(x.Names, fmt.Sprint("N", 19999-i))
	}
	g, d := names.Resolve(x)
	if d != (api.Diag{}) || g.Nodes[1].Rule != 19998 || g.Nodes[19999].Rule != 0 {
		t.Error(d)
	}
	none(t, "too great", g, 0, 1, 19999)
	x.Names[19999] = "O"
	refuses(t, x, api.Diag{Err: api.ErrNone, At: 59997})
	x.Grammar.Rules[19999].Name = "N7"
	refuses(t, x, api.Diag{Err: api.ErrTwice, At: 19999})
}
