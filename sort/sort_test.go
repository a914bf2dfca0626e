package sort_test

import (
	"math"
	"reflect"
	"slices"
	"strings"
	"testing"

	"seedling/api"
	"seedling/gram"
	"seedling/left"
	"seedling/names"
	"seedling/read"
	"seedling/show"
	"seedling/sort"
)

// dice answers numbers below n without a plan, the same ones each time.
func dice() func(n int) int {
	x := uint64(14)
	return func(n int) int {
		x = x*6364136223846793005 + 1442695040888963407
		return int(x>>33) % n
	}
}

// grammarAs is a text's grammar, that must be right.
func grammarAs(t *testing.T, s string) api.Grammar {
	t.Helper()
	x, d := read.Text(s)
	if d != (api.Diag{}) {
		t.Fatal(s, d)
	}
	g, d := names.Resolve(x)
	if d != (api.Diag{}) || !gram.Right(g) {
		t.Fatal(s, d)
	}
	return g
}

// written is a grammar as a text, to tell what went wrong with which one.
func written(g api.Grammar) string {
	s, _ := show.Text(g)
	return s
}

// nameOf is a name for a rule: no other number has it.
func nameOf(i int) string { return string(rune('A'+i%26)) + strings.Repeat("_", i/26) }

// rulesOf is a text of so many rules, whose names are A, B, C and so on.
func rulesOf(rules int, body func(i int) string) string {
	var s strings.Builder
	for i := range rules {
		s.WriteString(nameOf(i) + " <- " + body(i) + ";\n")
	}
	return s.String()
}

// graphed is a grammar whose rules call each other at their own places as a table says, and the others behind a byte.
func graphed(t *testing.T, rules int, does func(i, k int) bool) api.Grammar {
	t.Helper()
	return grammarAs(t, rulesOf(rules, func(i int) string {
		var at, behind []string
		// From the last one on, so that what is told can not be in the order in which it stands.
		for k := rules - 1; k >= 0; k-- {
			if does(i, k) {
				at = append(at, []string{"", "!", "", "&"}[(i+k)%4]+nameOf(k))
			} else {
				behind = append(behind, nameOf(k))
			}
		}
		return strings.Join(append(at, `. `+strings.Join(behind, " ")), " / ")
	}))
}

// told is all that the chapter's words tell of a right grammar.
type told struct {
	sorts []sort.Sort
	with  [][]int // of each rule its part, whether it goes left or not
	order []int
}

// goes says whether a rule goes left, by its sort.
func (x told) goes(i int) bool { return x.sorts[i] != sort.None }

// free says whether none does.
func (x told) free() bool {
	return !slices.ContainsFunc(x.sorts, func(s sort.Sort) bool { return s != sort.None })
}

// tell tells that of so many rules, by who calls whom at its own place.
func tell(rules int, does func(i, k int) bool) told {
	var x told
	to := closed(rules, does)
	for i := range rules {
		part, self, other := []int(nil), does(i, i), false
		for k := range rules {
			if k == i || to[i][k] && to[k][i] {
				part = append(part, k)
				other = other || k != i
			}
		}
		x.with = append(x.with, part)
		switch {
		case self && other:
			x.sorts = append(x.sorts, sort.Both)
		case other:
			x.sorts = append(x.sorts, sort.Indirect)
		case self:
			x.sorts = append(x.sorts, sort.Direct)
		default:
			x.sorts = append(x.sorts, sort.None)
		}
	}
	for next := x.next(does); next != nil; next = x.next(does) {
		x.order = append(x.order, next...)
	}
	return x
}

// closed says of each rule whom it goes to: by one rule more and one rule more.
func closed(rules int, does func(i, k int) bool) [][]bool {
	to := make([][]bool, rules)
	for i := range to {
		for k := range rules {
			to[i] = append(to[i], does(i, k))
		}
	}
	for by := range rules {
		for i := range rules {
			for k := range rules {
				to[i][k] = to[i][k] || to[i][by] && to[by][k]
			}
		}
	}
	return to
}

// next is the part to put next: the first one by its least rule that calls none of another part that is not put.
func (x told) next(does func(i, k int) bool) []int {
	for i, part := range x.with {
		if part[0] != i || slices.Contains(x.order, i) {
			continue
		}
		waits := false
		for _, a := range part {
			for b := range x.with {
				waits = waits || does(a, b) && !slices.Contains(x.order, b) && !slices.Contains(part, b)
			}
		}
		if !waits {
			return part
		}
	}
	return nil
}

// holdsAs holds all that is told of a right grammar against who calls whom in it at its own place.
func holdsAs(t *testing.T, g api.Grammar, does func(i, k int) bool) told {
	t.Helper()
	x := tell(len(g.Rules), does)
	if l := sort.All(g); !slices.Equal(l, x.sorts) {
		t.Fatal("all: ", l, x.sorts, written(g))
	}
	for i := range g.Rules {
		if s := sort.Of(g, i); s != x.sorts[i] {
			t.Fatal("of: ", i, s, x.sorts[i], written(g))
		}
		var want []int
		if x.goes(i) {
			want = x.with[i]
		}
		if l := sort.With(g, i); !slices.Equal(l, want) {
			t.Fatal("with: ", i, l, want, written(g))
		}
	}
	if is := sort.Free(g); is != x.free() {
		t.Fatal("free: ", is, written(g))
	}
	if l := sort.Order(g); !slices.Equal(l, x.order) {
		t.Fatal("order: ", l, x.order, written(g))
	}
	return x
}

// holds holds all that is told of a right grammar against its graph.
func holds(t *testing.T, g api.Grammar) told {
	t.Helper()
	graph := left.Graph(g)
	return holdsAs(t, g, func(i, k int) bool { return slices.Contains(graph[i], k) })
}

// follows holds what follows of each right grammar, and nothing but that.
func follows(t *testing.T, g api.Grammar) {
	t.Helper()
	all, order, goes := sort.All(g), sort.Order(g), false
	if len(all) != len(g.Rules) || len(order) != len(g.Rules) {
		t.Fatal("not of each rule: ", all, order, written(g))
	}
	for i := range g.Rules {
		is := left.Goes(g, i)
		goes = goes || is
		if all[i] < sort.None || all[i] > sort.Both || is != (all[i] != sort.None) {
			t.Fatal("sort: ", i, all[i], written(g))
		}
		with := sort.With(g, i)
		if !slices.Contains(order, i) || slices.Contains(with, i) != is {
			t.Fatal("a rule: ", i, with, order, written(g))
		}
		for _, k := range with {
			if all[k] == sort.None || !slices.Equal(sort.With(g, k), with) {
				t.Fatal("of one part: ", i, k, written(g))
			}
		}
	}
	if sort.Free(g) == goes {
		t.Fatal("free: ", goes, written(g))
	}
	behind(t, g, order)
}

// behind holds that each rule stands behind all that it calls at its own place, but those of its part.
func behind(t *testing.T, g api.Grammar, order []int) {
	t.Helper()
	for i, row := range left.Graph(g) {
		with := sort.With(g, i)
		for _, k := range row {
			if !slices.Contains(with, k) && slices.Index(order, k) >= slices.Index(order, i) {
				t.Fatal("behind: ", i, k, order, written(g))
			}
		}
	}
}

// TestExample: P14.1, P14.2: the chapter's.
func TestExample(t *testing.T) {
	g := grammarAs(t, `A <- A "a" / B; B <- C; C <- B "c" / D; D <- "d" D;`)
	if l := sort.All(g); !slices.Equal(l, []sort.Sort{sort.Direct, sort.Indirect, sort.Indirect, sort.None}) {
		t.Error(l)
	}
	for i, want := range [][]int{{0}, {1, 2}, {1, 2}, nil} {
		if l := sort.With(g, i); !slices.Equal(l, want) {
			t.Error(i, l)
		}
	}
	if l := sort.Order(g); !slices.Equal(l, []int{3, 1, 2, 0}) {
		t.Error(l)
	}
	if sort.Free(g) {
		t.Error("free")
	}
	holds(t, g)
	follows(t, g)
}

// TestGrammars: P14.1, P14.2: sorts, parts and orders that are written down here.
func TestGrammars(t *testing.T) {
	const n, d, i, b = sort.None, sort.Direct, sort.Indirect, sort.Both
	for _, c := range []struct {
		text  string
		sorts []sort.Sort
		with  [][]int
		order []int
	}{
		{`A <- ();`, []sort.Sort{n}, [][]int{nil}, []int{0}},
		{`A <- A;`, []sort.Sort{d}, [][]int{{0}}, []int{0}},
		{`A <- A:3 "+" A:4 / "n";`, []sort.Sort{d}, [][]int{{0}}, []int{0}},
		{`A <- "a" A;`, []sort.Sort{n}, [][]int{nil}, []int{0}},
		// At its own place, behind what may match nothing, and where it is only looked at.
		{`A <- "a"? A;`, []sort.Sort{d}, [][]int{{0}}, []int{0}},
		{`A <- "a"+ A;`, []sort.Sort{n}, [][]int{nil}, []int{0}},
		{`A <- !A .;`, []sort.Sort{d}, [][]int{{0}}, []int{0}},
		{`A <- &(B "x") .; B <- "b" / A;`, []sort.Sort{i, i}, [][]int{{0, 1}, {0, 1}}, []int{0, 1}},
		{`A <- B A; B <- "b"*;`, []sort.Sort{d, n}, [][]int{{0}, nil}, []int{1, 0}},
		{`A <- B A; B <- "b";`, []sort.Sort{n, n}, [][]int{nil, nil}, []int{1, 0}},
		{`A <- B "a" / "x"; B <- A "b";`, []sort.Sort{i, i}, [][]int{{0, 1}, {0, 1}}, []int{0, 1}},
		// One of a part calls itself, the other one does not; both do.
		{`A <- A / B; B <- A;`, []sort.Sort{b, i}, [][]int{{0, 1}, {0, 1}}, []int{0, 1}},
		{`A <- B; B <- A / B;`, []sort.Sort{i, b}, [][]int{{0, 1}, {0, 1}}, []int{0, 1}},
		{`A <- A / B; B <- A / B;`, []sort.Sort{b, b}, [][]int{{0, 1}, {0, 1}}, []int{0, 1}},
		// Behind a byte it calls itself as well, but not at its own place.
		{`A <- B "a" A; B <- A "b" B;`, []sort.Sort{i, i}, [][]int{{0, 1}, {0, 1}}, []int{0, 1}},
		// Who goes to rules that go left does not go left by that; nor those that these go to.
		{`A <- B; B <- B / C; C <- "c" B;`, []sort.Sort{n, d, n}, [][]int{nil, {1}, nil}, []int{2, 1, 0}},
		{`A <- B; B <- C; C <- B / D; D <- ();`, []sort.Sort{n, i, i, n}, [][]int{nil, {1, 2}, {1, 2}, nil}, []int{3, 1, 2, 0}},
		{`A <- A / B; B <- B / C; C <- C;`, []sort.Sort{d, d, d}, [][]int{{0}, {1}, {2}}, []int{2, 1, 0}},
		// A ring of three, of which one calls itself, told in another order than it goes.
		{`A <- C; B <- A / B; C <- B;`, []sort.Sort{i, b, i}, [][]int{{0, 1, 2}, {0, 1, 2}, {0, 1, 2}}, []int{0, 1, 2}},
		// Two rings that share a rule are one part; two that lead from one to the other are two.
		{`A <- B / C; B <- A; C <- A;`, []sort.Sort{i, i, i}, [][]int{{0, 1, 2}, {0, 1, 2}, {0, 1, 2}}, []int{0, 1, 2}},
		{`A <- C; B <- D / A; C <- A; D <- B;`, []sort.Sort{i, i, i, i}, [][]int{{0, 2}, {1, 3}, {0, 2}, {1, 3}}, []int{0, 2, 1, 3}},
		{`A <- C / B; B <- D; C <- A; D <- B;`, []sort.Sort{i, i, i, i}, [][]int{{0, 2}, {1, 3}, {0, 2}, {1, 3}}, []int{1, 3, 0, 2}},
		// Of those that wait for none the least is next, whoever calls it.
		{`A <- (); B <- (); C <- ();`, []sort.Sort{n, n, n}, [][]int{nil, nil, nil}, []int{0, 1, 2}},
		{`A <- C; B <- (); C <- ();`, []sort.Sort{n, n, n}, [][]int{nil, nil, nil}, []int{1, 2, 0}},
		{`A <- D; B <- E; C <- E; D <- (); E <- ();`, []sort.Sort{n, n, n, n, n}, [][]int{nil, nil, nil, nil, nil}, []int{3, 0, 4, 1, 2}},
		{`A <- E; B <- (); C <- (); D <- (); E <- A;`, []sort.Sort{i, n, n, n, i}, [][]int{{0, 4}, nil, nil, nil, {0, 4}}, []int{0, 4, 1, 2, 3}},
		// A part waits for whom any rule of it calls; not for those called behind a byte.
		{`A <- B; B <- A / D; C <- (); D <- "d" A;`, []sort.Sort{i, i, n, n}, [][]int{{0, 1}, {0, 1}, nil, nil}, []int{2, 3, 0, 1}},
	} {
		g := grammarAs(t, c.text)
		if l := sort.All(g); !slices.Equal(l, c.sorts) {
			t.Error(c.text, l)
		}
		for rule := range g.Rules {
			if s := sort.Of(g, rule); s != c.sorts[rule] {
				t.Error(c.text, rule, s)
			}
			if l := sort.With(g, rule); !slices.Equal(l, c.with[rule]) {
				t.Error(c.text, rule, l)
			}
		}
		if l := sort.Order(g); !slices.Equal(l, c.order) {
			t.Error(c.text, l)
		}
		if is := sort.Free(g); is != (slices.Max(c.sorts) == n) {
			t.Error(c.text, is)
		}
		holds(t, g)
		follows(t, g)
	}
}

// TestString: P14.3: the names of the sorts, and of numbers that are none.
func TestString(t *testing.T) {
	sorts := []sort.Sort{sort.None, sort.Direct, sort.Indirect, sort.Both}
	for n, want := range []string{"none", "direct", "indirect", "both"} {
		if sorts[n] != sort.Sort(n) || sorts[n].String() != want {
			t.Error(n, int(sorts[n]), sorts[n].String())
		}
	}
	for _, s := range []sort.Sort{-1, -2, -3, -4, 4, 5, 6, 7, 8, 64, 255, 256, 257, 1 << 16, 1 << 32, 1<<32 + 1, -1 << 32, math.MinInt, math.MinInt + 1, math.MaxInt} {
		if got := s.String(); got != "?" {
			t.Error(int(s), got)
		}
	}
}

// TestAllGraphs: P14.1, P14.2, P14.4: all ways in which up to three rules may call each other, and many of four.
func TestAllGraphs(t *testing.T) {
	for rules := 1; rules <= 4; rules++ {
		step := 1
		if rules == 4 {
			step = 67
		}
		for bits := 0; bits < 1<<(rules*rules); bits += step {
			does := func(i, k int) bool { return bits>>(i*rules+k)&1 == 1 }
			g := graphed(t, rules, does)
			holdsAs(t, g, does)
			follows(t, g)
		}
	}
}

// TestManyGraphs: P14.1, P14.2, P14.4: graphs of many rules without a plan, thin ones and thick ones.
func TestManyGraphs(t *testing.T) {
	roll := dice()
	var met [4]int
	parts, free := 0, 0
	for n := range 200 {
		rules := 5 + n%28
		thin := 2 + roll(rules)
		rank, table := make([]int, rules), make([][]bool, rules)
		for i := range rank {
			rank[i] = roll(1 + rules/2)
		}
		// All call down the ranks, or, in most graphs, within one: else nearly all would be of one part, or none would go left.
		for i := range table {
			for k := range rules {
				table[i] = append(table[i], rank[i] > rank[k] && roll(thin) == 0 || rank[i] == rank[k] && n%5 > 0 && roll(3) == 0)
			}
		}
		does := func(i, k int) bool { return table[i][k] }
		g := graphed(t, rules, does)
		x := holdsAs(t, g, does)
		follows(t, g)
		for i, s := range x.sorts {
			met[s]++
			if s > sort.Direct && len(x.with[i]) < rules/2 && slices.Index(x.order, i) > 0 {
				parts++
			}
		}
		if x.free() {
			free++
		}
	}
	if slices.Min(met[:]) < 100 || parts < 100 || free < 20 {
		t.Error("few graphs that tell: ", met, parts, free)
	}
}

// random is a body without a plan, of a height at most, in a grammar of so many rules.
func random(roll func(int) int, high, rules int) string {
	if high == 1 || roll(5) == 0 {
		call := nameOf(roll(rules)) + []string{"", ":1", ":99"}[roll(3)]
		return []string{call, call, call, `()`, `.`, `"t"`, `[^a]`}[roll(7)]
	}
	one := "(" + random(roll, high-1, rules) + ")"
	if roll(2) == 0 {
		return []string{one + "*", one + "+", one + "?", "!" + one, "&" + one}[roll(5)]
	}
	for by := []string{" ", " / "}[roll(2)]; ; {
		one += by + "(" + random(roll, high-1, rules) + ")"
		if roll(2) == 0 {
			return one
		}
	}
}

// TestManyGrammars: P14.1, P14.2, P14.4: grammars without a plan, of all Kinds of nodes.
func TestManyGrammars(t *testing.T) {
	roll := dice()
	var met [4]int
	free := 0
	for n := range 800 {
		rules := 1 + n%16
		g := grammarAs(t, rulesOf(rules, func(int) string { return random(roll, 1+roll(4), rules) }))
		x := holds(t, g)
		follows(t, g)
		for _, s := range x.sorts {
			met[s]++
		}
		if x.free() {
			free++
		}
	}
	if slices.Min(met[:]) < 50 || free < 50 {
		t.Error("few grammars that tell: ", met, free)
	}
}

// TestLimits: P14.1, P14.2, P14.4: as many rules as there may be, in rows and rings; bodies as high and as wide as they may be, and as many nodes.
func TestLimits(t *testing.T) {
	for what, c := range map[string]struct {
		does func(i, k int) bool
		sort sort.Sort
		with int
	}{
		"none":         {func(i, k int) bool { return false }, sort.None, 0},
		"itself":       {func(i, k int) bool { return i == k }, sort.Direct, 1},
		"all":          {func(i, k int) bool { return true }, sort.Both, 32},
		"all but":      {func(i, k int) bool { return i != k }, sort.Indirect, 32},
		"a ring":       {func(i, k int) bool { return k == (i+1)%32 }, sort.Indirect, 32},
		"a ring back":  {func(i, k int) bool { return i == (k+1)%32 }, sort.Indirect, 32},
		"a ring by 13": {func(i, k int) bool { return k == (i+13)%32 }, sort.Indirect, 32},
		"rings by 12":  {func(i, k int) bool { return k == (i+12)%32 }, sort.Indirect, 8},
		"both":         {func(i, k int) bool { return i == k || k == (i+12)%32 }, sort.Both, 8},
		"a row":        {func(i, k int) bool { return k == i+1 }, sort.None, 0},
		"all above":    {func(i, k int) bool { return k > i }, sort.None, 0},
		"all below":    {func(i, k int) bool { return k < i }, sort.None, 0},
		"up to itself": {func(i, k int) bool { return k <= i }, sort.Direct, 1},
		"pairs":        {func(i, k int) bool { return i/2 == k/2 && i != k || k == i+2 }, sort.Indirect, 2},
	} {
		g := graphed(t, api.MaxRules, c.does)
		x := holdsAs(t, g, c.does)
		for i, s := range x.sorts {
			if l := sort.With(g, i); s != c.sort || len(l) != c.with {
				t.Error(what, i, s, l)
			}
		}
		follows(t, g)
		none(t, what, g, append(odd(), 32, 33, 63, 64)...)
	}
	high := strings.Repeat("(", 7) + "B" + strings.Repeat("?)+", 7)
	g := grammarAs(t, `A <- () `+high+`; B <- A / B;`)
	if x := holds(t, g); gram.Height(g, 0) != api.MaxHeight || !slices.Equal(x.sorts, []sort.Sort{sort.Indirect, sort.Both}) {
		t.Error(gram.Height(g, 0), x.sorts)
	}
	g = grammarAs(t, `A <- `+strings.Repeat("() ", 63)+`A; B <- A / "b";`)
	if x := holds(t, g); !slices.Equal(x.sorts, []sort.Sort{sort.Direct, sort.None}) {
		t.Error(x.sorts)
	}
	// Each rule calls the next one alone, at its own place once, for it takes a byte; the last one calls the first one, behind what may match nothing.
	g = grammarAs(t, rulesOf(32, func(i int) string {
		if i == 31 {
			return strings.Repeat("() ", 62) + "A"
		}
		return strings.Repeat(nameOf(i+1)+" ", 62) + nameOf(i+1)
	}))
	if x := holds(t, g); len(g.Nodes) != api.MaxNodes || len(x.with[0]) != 32 || x.sorts[31] != sort.Indirect {
		t.Error(len(g.Nodes), x.sorts)
	}
	g.Nodes[api.MaxNodes-1].Rule = 31
	if x := holds(t, g); x.goes(30) || x.sorts[31] != sort.Direct || x.order[0] != 31 || x.order[31] != 0 {
		t.Error(x.sorts, x.order)
	}
}

// odd are numbers that no rule has.
func odd() []int { return []int{-1, -2, math.MinInt, math.MaxInt, 1 << 11, 1 << 32} }

// none holds that nothing is told of some numbers.
func none(t *testing.T, what string, g api.Grammar, numbers ...int) {
	t.Helper()
	for _, n := range numbers {
		if s, l := sort.Of(g, n), sort.With(g, n); s != sort.None || l != nil {
			t.Error(what, n, s, l)
		}
	}
}

// nothing holds that nothing is told of a grammar that is not right.
func nothing(t *testing.T, what string, g api.Grammar) {
	t.Helper()
	if gram.Right(g) {
		t.Error("right: ", what)
	}
	none(t, what, g, append(odd(), 0, 1, 2, 3, 31, 32)...)
	if l := sort.All(g); l != nil {
		t.Error("all: ", what, l)
	}
	if l := sort.Order(g); l != nil {
		t.Error("order: ", what, l)
	}
	if sort.Free(g) {
		t.Error("free: ", what)
	}
}

// TestNoSuch: P14.1: rules that there are not, of a grammar in which all there are go left, and of one in which none does.
func TestNoSuch(t *testing.T) {
	for _, s := range []string{`A <- A / B; B <- A / B;`, `A <- "a" / B; B <- "b" / .;`} {
		g := grammarAs(t, s)
		// 2 to 5 are nodes, but no rules.
		none(t, s, g, append(odd(), 2, 3, 4, 5, 6, 31, 32, 33, 64)...)
		holds(t, g)
	}
}

// TestOthers: P14.1, P14.2: grammars that are not right, though rules of them would go left, or none would.
func TestOthers(t *testing.T) {
	nothing(t, "empty", api.Grammar{})
	nothing(t, "no nodes", api.Grammar{Rules: []api.Rule{{Name: "A"}}})
	nothing(t, "no rules", api.Grammar{Nodes: []api.Node{{Kind: api.Call}}})
	for what, change := range map[string]func(g *api.Grammar){
		"two of a name":   func(g *api.Grammar) { g.Rules[1].Name = "A" },
		"no name":         func(g *api.Grammar) { g.Rules[1].Name = "" },
		"a body below":    func(g *api.Grammar) { g.Rules[0].Body = -1 },
		"a body behind":   func(g *api.Grammar) { g.Rules[1].Body = math.MaxInt },
		"one body of two": func(g *api.Grammar) { g.Rules[1].Body = 0 },
		"a rule less":     func(g *api.Grammar) { g.Rules = g.Rules[:1] },
		"a node less":     func(g *api.Grammar) { g.Nodes = g.Nodes[:5] },
		"a node more":     func(g *api.Grammar) { g.Nodes = append(g.Nodes, api.Node{Kind: api.Empty}) },
		"its own kid":     func(g *api.Grammar) { g.Nodes[0].Kids[0] = 0 },
		"a kid twice":     func(g *api.Grammar) { g.Nodes[0].Kids[1] = 1 },
		"a kid of none":   func(g *api.Grammar) { g.Nodes[0].Kids[1] = math.MaxInt },
		"a kid below":     func(g *api.Grammar) { g.Nodes[0].Kids[1] = -1 },
		"no kids":         func(g *api.Grammar) { g.Nodes[0].Kids = nil },
		"a rule behind":   func(g *api.Grammar) { g.Nodes[2].Rule = 2 },
		"a rule below":    func(g *api.Grammar) { g.Nodes[2].Rule = math.MinInt },
		"a level":         func(g *api.Grammar) { g.Nodes[2].Level = 100 },
		"a text too much": func(g *api.Grammar) { g.Nodes[2].Text = "t" },
		"an empty text":   func(g *api.Grammar) { g.Nodes[4] = api.Node{Kind: api.Text} },
		"no Kind":         func(g *api.Grammar) { g.Nodes[4].Kind = 0 },
		"a Kind behind":   func(g *api.Grammar) { g.Nodes[4].Kind = 13 },
	} {
		for _, s := range []string{`A <- B / A; B <- A / B;`, `A <- . / B; B <- . / "b";`} {
			g := grammarAs(t, s)
			holds(t, g)
			change(&g)
			nothing(t, what, g)
		}
	}
	tooMany(t)
}

// tooMany: grammars with one thing more than there may be.
func tooMany(t *testing.T) {
	t.Helper()
	for _, last := range []api.Node{{Kind: api.Any}, {Kind: api.Call, Rule: 31}} {
		g := graphed(t, api.MaxRules, func(i, k int) bool { return last.Kind == api.Call && i == k })
		g.Rules = append(g.Rules, api.Rule{Name: "last", Body: len(g.Nodes)})
		g.Nodes = append(g.Nodes, last)
		nothing(t, "33 rules", g)
		// 32 rules of 64 nodes; with one kid more of the last one there are too many.
		g = grammarAs(t, rulesOf(32, func(int) string { return strings.Repeat(". ", 62) + "." }))
		g.Nodes[1] = api.Node{Kind: last.Kind}
		holds(t, g)
		body := &g.Nodes[g.Rules[31].Body]
		body.Kids = append(body.Kids, len(g.Nodes))
		g.Nodes = append(g.Nodes, api.Node{Kind: api.Any})
		if len(g.Nodes) != api.MaxNodes+1 {
			t.Error(len(g.Nodes))
		}
		nothing(t, "2049 nodes", g)
		for kids := api.MaxKids; kids <= api.MaxKids+1; kids++ {
			wide := api.Grammar{Rules: []api.Rule{{Name: "A"}}, Nodes: []api.Node{{Kind: api.Alt}}}
			for n := 1; n <= kids; n++ {
				wide.Nodes[0].Kids = append(wide.Nodes[0].Kids, n)
				wide.Nodes = append(wide.Nodes, api.Node{Kind: last.Kind})
			}
			if kids == api.MaxKids {
				holds(t, wide)
			} else {
				nothing(t, "65 kids", wide)
			}
		}
		for height := api.MaxHeight; height <= api.MaxHeight+1; height++ {
			high := api.Grammar{Rules: []api.Rule{{Name: "A"}}}
			for n := 1; n < height; n++ {
				high.Nodes = append(high.Nodes, api.Node{Kind: api.Opt, Kids: []int{n}})
			}
			high.Nodes = append(high.Nodes, api.Node{Kind: last.Kind})
			if height == api.MaxHeight {
				holds(t, high)
			} else {
				nothing(t, "too high", high)
			}
		}
	}
}

// alike holds that a row that is told is new memory, up to its capacity, and told alike each time.
func alike[T comparable](t *testing.T, what string, tell func() []T) {
	t.Helper()
	l, other := tell(), tell()
	kept := slices.Clone(l)
	clear(l[:cap(l)])
	if len(kept) == 0 || !slices.Equal(other, kept) || !slices.Equal(tell(), kept) {
		t.Error("not alike: ", what, other, kept)
	}
}

// TestNothingChanged: R3, R4: a grammar is as it was, even behind its rows' ends; what is told is new, and alike each time.
func TestNothingChanged(t *testing.T) {
	const s = `A <- C / A; B <- D "b" / B; C <- A; D <- E / B; E <- (); F <- B F / F;`
	g, want := grammarAs(t, s), grammarAs(t, s)
	g.Rules = append(g.Rules, api.Rule{Name: "Z", Body: 7})[:len(g.Rules)]
	many, first := len(g.Nodes), len(g.Nodes[0].Kids)
	g.Nodes = append(g.Nodes, api.Node{Kind: api.Any, Level: 7})[:many]
	g.Nodes[0].Kids = append(g.Nodes[0].Kids, 77)[:first]
	for range 2 {
		alike(t, "all", func() []sort.Sort { return sort.All(g) })
		alike(t, "order", func() []int { return sort.Order(g) })
		for _, i := range []int{0, 1, 2, 3, 5} {
			alike(t, "with", func() []int { return sort.With(g, i) })
		}
		holds(t, g)
	}
	if !reflect.DeepEqual(g, want) || g.Rules[:7][6] != (api.Rule{Name: "Z", Body: 7}) ||
		g.Nodes[:many+1][many].Level != 7 || g.Nodes[0].Kids[:first+1][first] != 77 {
		t.Error("changed: ", written(g))
	}
	// What was told of a grammar is not kept: changed, it is asked anew.
	before := sort.All(g)
	g.Nodes[1].Rule = 4
	holds(t, g)
	if l := sort.All(g); slices.Equal(l, before) || l[0] != sort.Direct || l[2] != sort.None {
		t.Error("kept: ", l, written(g))
	}
}
