package gram_test

import (
	"math"
	"reflect"
	"slices"
	"strings"
	"testing"
	"unsafe"

	"seedling/api"
	"seedling/gram"
)

// part is a node of a body, and its kids as they hang on it, without numbers.
type part struct {
	kind  api.Kind
	class api.Class
	text  string
	rule  int
	level int
	kids  []part
}

// of is a part of a Kind, and kids.
func of(kind api.Kind, kids ...part) part { return part{kind: kind, kids: kids} }

// class, text and call are parts that have something.
func class(c api.Class) part { return part{kind: api.Set, class: c} }
func text(s string) part     { return part{kind: api.Text, text: s} }
func call(rule int, at ...int) part {
	p := part{kind: api.Call, rule: rule}
	for _, level := range at {
		p.level = level
	}
	return p
}

// size is how many parts a part has, it and those of its kids.
func (p part) size() int {
	n := 1
	for _, kid := range p.kids {
		n += kid.size()
	}
	return n
}

// height says what the chapter's words do.
func (p part) height() int {
	h := 0
	for _, kid := range p.kids {
		h = max(h, kid.height())
	}
	return h + 1
}

// lay lays a part's nodes behind a grammar's last one; the parts, one for each node, behind the others.
func (p part) lay(g *api.Grammar, all *[]part) int {
	n := len(g.Nodes)
	g.Nodes = append(g.Nodes, api.Node{Kind: p.kind, Class: p.class, Text: p.text, Rule: p.rule, Level: p.level})
	*all = append(*all, p)
	for _, kid := range p.kids {
		k := kid.lay(g, all)
		g.Nodes[n].Kids = append(g.Nodes[n].Kids, k)
	}
	return n
}

// laid is the grammar of some bodies, whose rules are A, B, C and so on; the part of each node, and whose it is.
func laid(bodies ...part) (g api.Grammar, all []part, owners []int) {
	for i, body := range bodies {
		g.Rules = append(g.Rules, api.Rule{Name: nameOf(i), Body: body.lay(&g, &all)})
		for len(owners) < len(all) {
			owners = append(owners, i)
		}
	}
	return g, all, owners
}

// just is the grammar of some bodies alone.
func just(bodies ...part) api.Grammar {
	g, _, _ := laid(bodies...)
	return g
}

// nameOf is a name for a rule: no other number has it.
func nameOf(i int) string {
	return string([]byte{byte('A' + i%26)}) + strings.Repeat("_", i/26)
}

// dice answers numbers below n without a plan, the same ones each time.
func dice() func(n int) int {
	x := uint64(6)
	return func(n int) int {
		x = x*6364136223846793005 + 1442695040888963407
		return int(x>>33) % n
	}
}

// grown is a part without a plan, of a height and of so many rules.
func grown(roll func(int) int, height, rules int) part {
	kinds := []api.Kind{api.Empty, api.Any, api.Set, api.Text, api.Call, api.Seq, api.Alt, api.Star, api.Plus, api.Opt, api.Not, api.And}
	if height < 2 {
		kinds = kinds[:5]
	}
	p := of(kinds[roll(len(kinds))])
	switch p.kind {
	case api.Set:
		p.class[roll(4)] = 1 << roll(64)
	case api.Text:
		p.text = strings.Repeat("t", 1+roll(api.MaxWord))
	case api.Call:
		p.rule, p.level = roll(rules), roll(api.MaxLevel+1)
	case api.Seq, api.Alt:
		for range 2 + roll(3) {
			p.kids = append(p.kids, grown(roll, height-1, rules))
		}
	case api.Star, api.Plus, api.Opt, api.Not, api.And:
		p.kids = []part{grown(roll, height-1, rules)}
	}
	return p
}

// bodies are rows of bodies, of right grammars all: plain ones, and some without a plan.
func bodies() [][]part {
	a := text("a")
	l := [][]part{
		{of(api.Empty)},
		{of(api.Any)},
		{class(api.Class{1, 0, 0, 1 << 63})},
		{call(0)},
		{call(1, 99), call(0, 1)},
		{of(api.Alt, of(api.Seq, a, call(0)), of(api.Empty))},
		{of(api.Star, of(api.Plus, of(api.Opt, of(api.Not, of(api.And, a)))))},
		{a, of(api.Seq, a, of(api.Alt, a, a, a), a), of(api.Not, call(1)), a},
		{chain(api.MaxHeight), a, chain(api.MaxHeight)},
		{of(api.Seq, slices.Repeat([]part{a}, api.MaxKids)...)},
		{of(api.Alt, of(api.Seq, slices.Repeat([]part{a}, api.MaxKids)...), of(api.Star, a))},
		slices.Repeat([]part{a}, api.MaxRules),
	}
	roll := dice()
	for range 300 {
		rules := 1 + roll(5)
		var row []part
		for range rules {
			row = append(row, grown(roll, 1+roll(5), rules))
		}
		l = append(l, row)
	}
	return l
}

// chain is a part of a height, one in the other.
func chain(height int) part {
	p := text("a")
	for range height - 1 {
		p = of(api.Star, p)
	}
	return p
}

// full is a part with so many nodes in all, three at least, that is not higher than 3.
func full(nodes int) part {
	p := of(api.Seq)
	for left := nodes - 1; left > 0; {
		// The last node is left over for a kid of its own: a Seq has two at least.
		n := min(left-1, api.MaxKids)
		if n < 3 {
			n = 1
			p.kids = append(p.kids, text("a"))
		} else {
			p.kids = append(p.kids, of(api.Seq, slices.Repeat([]part{text("a")}, n-1)...))
		}
		left -= n
	}
	return p
}

// own is a grammar that shares no row with another one, and has the same nil ones.
func own(g api.Grammar) api.Grammar {
	g.Rules, g.Nodes = slices.Clone(g.Rules), slices.Clone(g.Nodes)
	for n := range g.Nodes {
		g.Nodes[n].Kids = slices.Clone(g.Nodes[n].Kids)
	}
	return g
}

// odd are numbers that are no node and no rule of any grammar.
func odd() []int {
	return []int{math.MinInt, math.MinInt + 1, math.MinInt32, -1000, -2, -1, api.MaxNodes, 1 << 40, math.MaxInt - 1, math.MaxInt}
}

// walked are the numbers and nodes that Walk goes through.
func walked(g api.Grammar, n int) (numbers []int, nodes []api.Node) {
	for at, x := range gram.Walk(g, n) {
		numbers, nodes = append(numbers, at), append(nodes, x)
	}
	return numbers, nodes
}

// checkNone holds a node that is none, or of a grammar that is not right, against what is told of it.
func checkNone(t *testing.T, g api.Grammar, n int) {
	t.Helper()
	numbers, _ := walked(g, n)
	if s, h, o := gram.Size(g, n), gram.Height(g, n), gram.Owner(g, n); s != 0 || h != 0 || o != -1 || len(numbers) != 0 {
		t.Fatal("node", n, "size", s, "height", h, "owner", o, "walk", numbers)
	}
}

// checkWrong holds a grammar that is not right against what is told of it.
func checkWrong(t *testing.T, g api.Grammar) {
	t.Helper()
	before := own(g)
	if gram.Right(g) {
		t.Fatalf("right: %v", g)
	}
	for _, n := range append(odd(), 0, 1, 2, len(g.Nodes)-1, len(g.Nodes)) {
		checkNone(t, g, n)
	}
	if !reflect.DeepEqual(before, g) {
		t.Fatalf("changed: %v", g)
	}
}

// TestExample: the chapter's.
func TestExample(t *testing.T) {
	g := api.Grammar{
		Rules: []api.Rule{{Name: "A", Body: 0}},
		Nodes: []api.Node{{Kind: api.Alt, Kids: []int{1, 4}}, {Kind: api.Seq, Kids: []int{2, 3}}, {Kind: api.Text, Text: "a"}, {Kind: api.Call}, {Kind: api.Empty}},
	}
	if !gram.Right(g) || gram.Size(g, 0) != 5 || gram.Height(g, 0) != 3 {
		t.Error(gram.Right(g), gram.Size(g, 0), gram.Height(g, 0))
	}
	if gram.Size(g, 1) != 3 || gram.Height(g, 1) != 2 || gram.Size(g, 4) != 1 || gram.Height(g, 4) != 1 {
		t.Error(gram.Size(g, 1), gram.Height(g, 1), gram.Size(g, 4), gram.Height(g, 4))
	}
	numbers, nodes := walked(g, 1)
	if !slices.Equal(numbers, []int{1, 2, 3}) || nodes[1].Text != "a" || nodes[2].Kind != api.Call {
		t.Error(numbers, nodes)
	}
	if gram.Owner(g, 4) != 0 || gram.Rule(g, "A") != 0 || gram.Rule(g, "B") != -1 {
		t.Error(gram.Owner(g, 4), gram.Rule(g, "A"), gram.Rule(g, "B"))
	}
}

// isName says what the chapter's words do.
func isName(s string) bool {
	const letters = "abcdefghijklmnopqrstuvwxyzABCDEFGHIJKLMNOPQRSTUVWXYZ_"
	if len(s) == 0 || len(s) > 32 {
		return false
	}
	rest := strings.Trim(s, letters+"0123456789")
	return rest == "" && strings.Contains(letters, s[:1])
}

// TestName: P6.1: all texts of one and two bytes, bytes in a third place, and long ones.
func TestName(t *testing.T) {
	l := []string{"", "A", "_", "a0", "_9", "0a", "A_b_7", "é", "aé", "a b", "a:1", "a\n", "\xff"}
	for b := range 256 {
		l = append(l, string([]byte{byte(b)}), string([]byte{'a', '1', byte(b)}), string([]byte{'_', byte(b), 'Z'}))
		for c := range 256 {
			l = append(l, string([]byte{byte(b), byte(c)}))
		}
	}
	for _, n := range []int{30, 31, 32, 33, 34, 64, 255, 256, 257, 1 << 20} {
		l = append(l, strings.Repeat("a", n), strings.Repeat("0", n), "_"+strings.Repeat("0", n-1), strings.Repeat("Z", n-1)+"-", "-"+strings.Repeat("Z", n-1))
	}
	for _, s := range l {
		if is := gram.Name(s); is != isName(s) {
			t.Errorf("%.40q: %v", s, is)
		}
	}
}

// isNode says what the chapter's table does.
func isNode(x api.Node, rules int) bool {
	bare := api.Node{Kind: x.Kind}
	switch x.Kind {
	case 1, 2:
	case 3:
		bare.Class = x.Class
		if x.Class == [4]uint64{} {
			return false
		}
	case 4:
		bare.Text = x.Text
		if x.Text == "" || len(x.Text) > 64 {
			return false
		}
	case 5:
		bare.Rule, bare.Level = x.Rule, x.Level
		if x.Rule < 0 || x.Rule >= rules || x.Level < 0 || x.Level > 99 {
			return false
		}
	case 6, 7:
		bare.Kids = x.Kids
		if len(x.Kids) < 2 || len(x.Kids) > 64 {
			return false
		}
	case 8, 9, 10, 11, 12:
		bare.Kids = x.Kids
		if len(x.Kids) != 1 {
			return false
		}
	default:
		return false
	}
	if len(x.Kids) == 0 {
		x.Kids = nil
	}
	return reflect.DeepEqual(x, bare)
}

// TestNode: P6.1: each Kind, and some that are none, with each of some parts together.
func TestNode(t *testing.T) {
	kinds := []api.Kind{math.MinInt, -5, -1, 0, 1, 2, 3, 4, 5, 6, 7, 8, 9, 10, 11, 12, 13, 14, 257, 1 << 32, math.MaxInt}
	classes := []api.Class{{}, {1}, {0, 0, 0, 1 << 63}}
	texts := []string{"", "a", "\x00", strings.Repeat("a", 64), strings.Repeat("a", 65), strings.Repeat("a", 999)}
	calls := []int{math.MinInt, -1, 0, 1, 31, 32, math.MaxInt}
	levels := []int{math.MinInt, -1, 0, 1, 99, 100, math.MaxInt}
	kids := [][]int{nil, {}, {0}, {-7}, {3, 3}, {1, 2}, {9, 1, 4}, make([]int, 64), make([]int, 65)}
	count := []int{math.MinInt, -1, 0, 1, 2, 32, 33, math.MaxInt}
	rights := 0
	for _, kind := range kinds {
		for _, c := range classes {
			for _, s := range texts {
				for i, rule := range calls {
					for _, level := range levels {
						for _, k := range kids {
							x := api.Node{Kind: kind, Class: c, Text: s, Rule: rule, Level: level, Kids: k}
							// Only of a Call it matters how many rules there are: of others one count is tried, each in turn.
							rows := count[i%len(count) : i%len(count)+1]
							if kind == api.Call {
								rows = count
							}
							for _, rules := range rows {
								is := gram.Node(x, rules)
								if is != isNode(x, rules) {
									t.Fatalf("%v of %d rules: %v", x, rules, is)
								}
								if is {
									rights++
								}
							}
						}
					}
				}
			}
		}
	}
	if rights == 0 {
		t.Error("none right")
	}
}

// TestNodeKids: P6.1: a node's own part: which numbers its kids have is no matter of the node alone.
func TestNodeKids(t *testing.T) {
	for n := range 70 {
		k := make([]int, n)
		for i := range k {
			k[i] = 100 - 7*i
		}
		several, single := gram.Node(api.Node{Kind: api.Seq, Kids: k}, 0), gram.Node(api.Node{Kind: api.Not, Kids: k}, 0)
		if several != (n >= 2 && n <= 64) || single != (n == 1) || gram.Node(api.Node{Kind: api.Alt, Kids: k}, 0) != several {
			t.Error(n, several, single)
		}
		if gram.Node(api.Node{Kind: api.Any, Kids: k}, 0) != (n == 0) {
			t.Error("kids of Any", n)
		}
	}
	x := api.Node{Kind: api.Seq, Kids: []int{5, 3}}
	if gram.Node(x, 1); x.Kids[0] != 5 || x.Kids[1] != 3 {
		t.Error("changed", x)
	}
}

// TestMeasures: P6.1, P6.2, P6.4: right grammars, and each of their nodes.
func TestMeasures(t *testing.T) {
	for i, row := range bodies() {
		g, parts, owners := laid(row...)
		before := own(g)
		if !gram.Right(g) {
			t.Fatalf("%d: not right: %v", i, g)
		}
		for n, p := range parts {
			if s, h, o := gram.Size(g, n), gram.Height(g, n), gram.Owner(g, n); s != p.size() || h != p.height() || o != owners[n] {
				t.Fatal(i, n, s, h, o, "want", p.size(), p.height(), owners[n])
			}
			numbers, nodes := walked(g, n)
			for k, at := range numbers {
				if at != n+k {
					t.Fatal(i, n, numbers)
				}
			}
			if !reflect.DeepEqual(nodes, before.Nodes[n:n+p.size()]) {
				t.Fatal(i, n, nodes)
			}
		}
		for _, n := range append(odd(), len(parts), len(parts)+1) {
			checkNone(t, g, n)
		}
		if !reflect.DeepEqual(before, g) {
			t.Fatal(i, "changed", g)
		}
	}
}

// TestOneOwner: P6.4: each node is of just one rule: those of the bodies are all, one behind the other.
func TestOneOwner(t *testing.T) {
	for i, row := range bodies() {
		g := just(row...)
		next := 0
		for r, rule := range g.Rules {
			numbers, _ := walked(g, rule.Body)
			for _, n := range numbers {
				if n != next || gram.Owner(g, n) != r {
					t.Fatal(i, r, n, next, gram.Owner(g, n))
				}
				next++
			}
		}
		if next != len(g.Nodes) {
			t.Fatal(i, next, len(g.Nodes))
		}
	}
}

// TestNoOtherNumbers: P6.1, P6.4: a right grammar with another number for a kid or a body is right no more.
func TestNoOtherNumbers(t *testing.T) {
	for i, row := range bodies() {
		g := just(row...)
		if len(g.Nodes) > 40 {
			continue
		}
		numbers := odd()
		for n := range len(g.Nodes) + 2 {
			numbers = append(numbers, n)
		}
		for _, k := range numbers {
			for r := range g.Rules {
				x := own(g)
				x.Rules[r].Body = k
				if is := gram.Right(x); is != (k == g.Rules[r].Body) {
					t.Fatal(i, "body", r, k, is)
				}
			}
			for n, was := range g.Nodes {
				for at := range was.Kids {
					x := own(g)
					x.Nodes[n].Kids[at] = k
					if is := gram.Right(x); is != (k == was.Kids[at]) {
						t.Fatal(i, "kid", n, at, k, is)
					}
				}
			}
		}
	}
}

// lie says by the chapter's words whether nodes from n on lie in preorder: where they end, or -1.
func lie(g api.Grammar, n int) int {
	if n >= len(g.Nodes) {
		return -1
	}
	next := n + 1
	for _, kid := range g.Nodes[n].Kids {
		if kid != next {
			return -1
		}
		if next = lie(g, kid); next < 0 {
			return -1
		}
	}
	return next
}

// lies says whether all rules' bodies do, up to the last node.
func lies(g api.Grammar) bool {
	next := 0
	for _, r := range g.Rules {
		if r.Body != next {
			return false
		}
		if next = lie(g, next); next < 0 {
			return false
		}
	}
	return next == len(g.Nodes)
}

// TestAllSmall: P6.1, P6.2: all grammars of one or two rules and at most four nodes, whatever numbers their kids and bodies have.
func TestAllSmall(t *testing.T) {
	nodes := []api.Node{{Kind: api.Empty}}
	for k := -1; k <= 4; k++ {
		nodes = append(nodes, api.Node{Kind: api.Star, Kids: []int{k}})
	}
	for k := 1; k <= 3; k++ {
		for m := 1; m <= 4; m++ {
			nodes = append(nodes, api.Node{Kind: api.Seq, Kids: []int{k, m}})
		}
	}
	rows := [][]api.Rule{nil}
	for b := -1; b <= 3; b++ {
		rows = append(rows, []api.Rule{{Name: "A", Body: b}})
		if b >= 0 {
			rows = append(rows, []api.Rule{{Name: "A"}, {Name: "B", Body: b}})
		}
	}
	rights := 0
	for size := range 5 {
		all := 1
		for range size {
			all *= len(nodes)
		}
		for pick := range all {
			var l []api.Node
			for rest := pick; len(l) < size; rest /= len(nodes) {
				l = append(l, nodes[rest%len(nodes)])
			}
			for _, rules := range rows {
				g := api.Grammar{Rules: rules, Nodes: l}
				want := len(rules) > 0 && lies(g)
				if is := gram.Right(g); is != want {
					t.Fatal(g, is)
				}
				if want {
					rights++
				} else if pick%97 == 0 {
					checkWrong(t, g)
				}
			}
		}
	}
	// Bodies of Empty, Star and Seq with n nodes are 1, 1, 2, 4; pairs of them with n nodes in all 1, 2, 5 from 2 on.
	if rights != 1+1+2+4+1+2+5 {
		t.Error("right ones:", rights)
	}
}

// TestRules: P6.1: how many rules, and with which names.
func TestRules(t *testing.T) {
	a := text("a")
	for n := range 70 {
		g := just(slices.Repeat([]part{a}, n)...)
		if is := gram.Right(g); is != (n >= 1 && n <= api.MaxRules) {
			t.Error(n, is)
		}
		if n < 1 || n > api.MaxRules {
			checkWrong(t, g)
		}
	}
	for _, s := range []string{"", "0", "a-b", "é", " A", "A ", strings.Repeat("a", 33), strings.Repeat("a", 32), "_", "Z9"} {
		for at := range 3 {
			g := just(a, a, a)
			g.Rules[at].Name = s
			if is := gram.Right(g); is != isName(s) {
				t.Errorf("%q: %v", s, is)
			}
			if !isName(s) {
				checkWrong(t, g)
			}
		}
	}
	for k := range 4 {
		for m := range 4 {
			g := just(a, a, a, a)
			g.Rules[k].Name = g.Rules[m].Name
			if is := gram.Right(g); is != (k == m) {
				t.Error("names", k, m, is)
			}
		}
	}
	g := just(a, a)
	g.Rules[1].Name = "a" // another one than A
	if !gram.Right(g) {
		t.Error("great and small letters are one")
	}
}

// TestLimits: P6.1: how many nodes, how many kids, how high.
func TestLimits(t *testing.T) {
	for _, n := range []int{3, 4, 64, 65, 66, 1000, api.MaxNodes - 1, api.MaxNodes, api.MaxNodes + 1, api.MaxNodes + 2, 3000} {
		g := just(full(n))
		if len(g.Nodes) != n {
			t.Fatal(n, len(g.Nodes))
		}
		if is := gram.Right(g); is != (n <= api.MaxNodes) {
			t.Error(n, is)
		}
		if n > api.MaxNodes {
			checkWrong(t, g)
		} else if gram.Size(g, 0) != n || gram.Owner(g, n-1) != 0 {
			t.Error(n, gram.Size(g, 0), gram.Owner(g, n-1))
		}
	}
	for k := range 70 {
		g := just(of(api.Alt, slices.Repeat([]part{text("a")}, k)...))
		if is := gram.Right(g); is != (k >= 2 && k <= api.MaxKids) {
			t.Error(k, is)
		}
	}
	for h := 1; h <= 20; h++ {
		for at := range 3 {
			row := []part{text("a"), text("a"), text("a")}
			row[at] = chain(h)
			g := just(row...)
			if is := gram.Right(g); is != (h <= api.MaxHeight) {
				t.Error(h, at, is)
			}
			row[at] = of(api.Seq, text("a"), chain(h-1), text("a"))
			if h > 2 && gram.Right(just(row...)) != (h <= api.MaxHeight) {
				t.Error("beside others", h, at)
			}
		}
	}
}

// TestRightNodes: P6.1: one node that is not right is enough, wherever; a Call's rule is held against how many there are.
func TestRightNodes(t *testing.T) {
	for at, wrong := range []api.Node{
		{}, {Kind: 13}, {Kind: -1}, {Kind: api.Empty, Level: 1}, {Kind: api.Any, Rule: 1}, {Kind: api.Set}, {Kind: api.Text},
		{Kind: api.Call, Rule: 3}, {Kind: api.Call, Rule: -1}, {Kind: api.Call, Level: 100}, {Kind: api.Seq}, {Kind: api.Star},
		{Kind: api.Text, Text: "a", Class: api.Class{1}}, {Kind: api.Text, Text: strings.Repeat("a", 65)},
	} {
		for n := range 5 {
			g := just(text("a"), of(api.Seq, text("b"), text("c")), text("d"))
			if n == 1 {
				continue // the Seq
			}
			g.Nodes[n] = wrong
			if gram.Right(g) {
				t.Error(at, n)
			}
			checkWrong(t, g)
		}
	}
	for rules := 1; rules <= 4; rules++ {
		for rule := -1; rule <= 5; rule++ {
			row := slices.Repeat([]part{text("a")}, rules)
			row[rules-1] = call(rule)
			if is := gram.Right(just(row...)); is != (rule >= 0 && rule < rules) {
				t.Error(rules, rule, is)
			}
		}
	}
}

// TestWrongOrder: P6.1: nodes behind the last rule's body, ahead of the first one's, of two rules, of two nodes, in rings.
func TestWrongOrder(t *testing.T) {
	leaf := api.Node{Kind: api.Text, Text: "a"}
	seq := func(kids ...int) api.Node { return api.Node{Kind: api.Seq, Kids: kids} }
	star := func(kid int) api.Node { return api.Node{Kind: api.Star, Kids: []int{kid}} }
	one := []api.Rule{{Name: "A"}}
	for _, g := range []api.Grammar{
		{},
		{Rules: one},
		{Nodes: []api.Node{leaf}},
		{Rules: one, Nodes: []api.Node{leaf, leaf}},
		{Rules: []api.Rule{{Name: "A", Body: 1}}, Nodes: []api.Node{leaf, leaf}},
		{Rules: []api.Rule{{Name: "A"}, {Name: "B"}}, Nodes: []api.Node{leaf}},
		{Rules: []api.Rule{{Name: "A"}, {Name: "B"}}, Nodes: []api.Node{leaf, leaf}},
		{Rules: []api.Rule{{Name: "A"}, {Name: "B", Body: 1}}, Nodes: []api.Node{leaf}},
		{Rules: []api.Rule{{Name: "A", Body: 1}, {Name: "B", Body: 0}}, Nodes: []api.Node{leaf, leaf}},
		{Rules: []api.Rule{{Name: "A"}, {Name: "B", Body: 2}}, Nodes: []api.Node{leaf, leaf, leaf}},
		{Rules: []api.Rule{{Name: "A"}, {Name: "B", Body: 1}}, Nodes: []api.Node{star(1), leaf}},
		{Rules: one, Nodes: []api.Node{star(0)}},
		{Rules: one, Nodes: []api.Node{star(1), star(0)}},
		{Rules: one, Nodes: []api.Node{star(1), star(1)}},
		{Rules: one, Nodes: []api.Node{star(1)}},
		{Rules: one, Nodes: []api.Node{seq(1, 1), leaf}},
		{Rules: one, Nodes: []api.Node{seq(2, 1), leaf, leaf}},
		{Rules: one, Nodes: []api.Node{seq(1, 2), leaf}},
		{Rules: one, Nodes: []api.Node{seq(1, 3), leaf, leaf, leaf}},
		{Rules: one, Nodes: []api.Node{seq(1, 2), star(2), leaf}},
		{Rules: one, Nodes: []api.Node{seq(1, 3), seq(2, 3), leaf, leaf}},
		{Rules: one, Nodes: []api.Node{seq(math.MinInt, math.MaxInt), leaf, leaf}},
	} {
		checkWrong(t, g)
	}
}

// TestFarTooMuch: P6.1, R1: what is far too long, too high or a ring is no grammar, and is told soon.
func TestFarTooMuch(t *testing.T) {
	l := make([]api.Node, 1<<17)
	for n := range l {
		l[n] = api.Node{Kind: api.Star, Kids: []int{n + 1}}
	}
	l[len(l)-1] = api.Node{Kind: api.Any}
	one := []api.Rule{{Name: "A"}}
	checkWrong(t, api.Grammar{Rules: one, Nodes: l})
	high := slices.Clone(l[:api.MaxNodes])
	high[len(high)-1] = api.Node{Kind: api.Any}
	checkWrong(t, api.Grammar{Rules: one, Nodes: high})
	wide := api.Node{Kind: api.Seq, Kids: make([]int, 1<<20)}
	for _, kind := range []api.Kind{api.Seq, api.Star, api.Empty, 0} {
		wide.Kind = kind
		checkWrong(t, api.Grammar{Rules: one, Nodes: []api.Node{wide, {Kind: api.Any}}})
		if gram.Node(wide, 1) {
			t.Error("kids of", kind)
		}
	}
	many := make([]api.Rule, 1<<20)
	for i := range many {
		many[i] = api.Rule{Name: nameOf(i % 800), Body: i}
	}
	checkWrong(t, api.Grammar{Rules: many, Nodes: []api.Node{{Kind: api.Any}}})
}

// TestRule: P6.2: the first one of a name, of any grammar.
func TestRule(t *testing.T) {
	names := []string{"B", "A", "", "A", "0", "B", "a", strings.Repeat("x", 40), "A\x00"}
	var g api.Grammar
	for i, s := range names {
		g.Rules = append(g.Rules, api.Rule{Name: s, Body: -i})
	}
	for _, s := range append(names, "b", "AA", " A", "x", "A\x00\x00") {
		if i, want := gram.Rule(g, s), slices.Index(names, s); i != want {
			t.Errorf("%q: %d, want %d", s, i, want)
		}
	}
	for _, g := range []api.Grammar{{}, {Rules: []api.Rule{}}, {Nodes: []api.Node{{Kind: api.Any}}}} {
		if i, k := gram.Rule(g, "A"), gram.Rule(g, ""); i != -1 || k != -1 {
			t.Error(i, k)
		}
	}
	right := just(text("a"), text("b"), text("c"))
	for i, r := range right.Rules {
		if k := gram.Rule(right, r.Name); k != i {
			t.Error(i, k)
		}
	}
}

// TestWalk: P6.2: where the going stops, and once more.
func TestWalk(t *testing.T) {
	g := just(text("a"), of(api.Seq, text("b"), of(api.Star, text("c")), text("d")))
	for stop := 1; stop <= 6; stop++ {
		var numbers []int
		walk := gram.Walk(g, 1)
		for range 2 {
			numbers = nil
			for n := range walk {
				numbers = append(numbers, n)
				if len(numbers) == stop {
					break
				}
			}
			if want := []int{1, 2, 3, 4, 5}; !slices.Equal(numbers, want[:min(stop, 5)]) {
				t.Error(stop, numbers)
			}
		}
	}
	pairs := 0
	for n := range gram.Walk(g, 1) {
		for k := range gram.Walk(g, n) {
			pairs++
			if k < n {
				t.Error(n, k)
			}
		}
	}
	if pairs != 5+1+2+1+1 {
		t.Error(pairs)
	}
}

// TestWalkOwn: R3: the grammar isn't kept, and what is handed out is new memory.
func TestWalkOwn(t *testing.T) {
	g := just(of(api.Seq, text("b"), of(api.Star, text("c")), text("d")))
	want := own(g)
	walk := gram.Walk(g, 0)
	for range 2 {
		l := []api.Node(nil)
		for _, x := range walk {
			l = append(l, api.Node{Kind: x.Kind, Text: x.Text, Kids: slices.Clone(x.Kids)})
			for i := range x.Kids {
				x.Kids[i] = -9
			}
			g.Nodes[2].Kids[0] = 7
			g.Nodes[1].Text = "z"
		}
		if !reflect.DeepEqual(l, want.Nodes) {
			t.Error(l)
		}
	}
	g = own(want)
	for _, x := range gram.Walk(g, 0) {
		for i := range x.Kids {
			x.Kids[i] = -9
		}
	}
	if !reflect.DeepEqual(g, want) {
		t.Error("the grammar is changed", g)
	}
}

// grammars are some that are right, and some that are not.
func grammars() []api.Grammar {
	l := []api.Grammar{
		{},
		{Rules: []api.Rule{{}}},
		{Rules: []api.Rule{{Name: "0", Body: -1}, {Name: "0", Body: -1}}},
		{Nodes: []api.Node{{}}},
		{Nodes: []api.Node{{Kind: 99, Class: api.Class{1, 2, 3, 4}, Text: "t", Rule: -3, Level: -4, Kids: []int{0, -1, 99}}, {Kids: []int{0}}}},
		{Rules: make([]api.Rule, 100), Nodes: make([]api.Node, 5000)},
	}
	for i, row := range bodies() {
		if i < 40 {
			l = append(l, just(row...))
		}
	}
	return l
}

// changes are grammars that each are another one than g, in one part.
func changes(g api.Grammar) []api.Grammar {
	var l []api.Grammar
	with := func(change func(*api.Grammar)) {
		x := own(g)
		change(&x)
		l = append(l, x)
	}
	with(func(x *api.Grammar) { x.Rules = append(x.Rules, api.Rule{}) })
	with(func(x *api.Grammar) { x.Nodes = append(x.Nodes, api.Node{}) })
	for i := range min(len(g.Rules), 20) {
		with(func(x *api.Grammar) { x.Rules = slices.Delete(x.Rules, i, i+1) })
		with(func(x *api.Grammar) { x.Rules[i].Name += "x" })
		with(func(x *api.Grammar) { x.Rules[i].Name = "\x00" })
		with(func(x *api.Grammar) { x.Rules[i].Body++ })
	}
	for n := range min(len(g.Nodes), 20) {
		with(func(x *api.Grammar) { x.Nodes = x.Nodes[:n] })
		with(func(x *api.Grammar) { x.Nodes[n].Kind++ })
		with(func(x *api.Grammar) { x.Nodes[n].Class[n%4] ^= 1 << n })
		with(func(x *api.Grammar) { x.Nodes[n].Text += "x" })
		with(func(x *api.Grammar) { x.Nodes[n].Rule-- })
		with(func(x *api.Grammar) { x.Nodes[n].Level-- })
		with(func(x *api.Grammar) { x.Nodes[n].Kids = append(x.Nodes[n].Kids, 0) })
		for k := range g.Nodes[n].Kids {
			with(func(x *api.Grammar) { x.Nodes[n].Kids[k]-- })
			with(func(x *api.Grammar) { x.Nodes[n].Kids = slices.Delete(x.Nodes[n].Kids, k, k+1) })
		}
	}
	return l
}

// TestSame: P6.3: of any grammars, part by part.
func TestSame(t *testing.T) {
	for i, g := range grammars() {
		if x := own(g); !gram.Same(g, x) || !gram.Same(g, g) {
			t.Error(i, "not the same")
		}
		for k, x := range changes(g) {
			if gram.Same(g, x) || gram.Same(x, g) {
				t.Error(i, k, "the same", x)
			}
		}
	}
}

// TestSameEmpty: P6.3, R6: rows without entries are the same.
func TestSameEmpty(t *testing.T) {
	full := api.Grammar{Rules: []api.Rule{{Name: "A"}}, Nodes: []api.Node{{Kind: api.Any, Kids: []int{}}}}
	none := api.Grammar{Rules: []api.Rule{{Name: "A"}}, Nodes: []api.Node{{Kind: api.Any}}}
	if !gram.Same(full, none) || !gram.Same(none, full) || !gram.Right(full) || !gram.Right(none) {
		t.Error("kids")
	}
	void := api.Grammar{Rules: []api.Rule{}, Nodes: []api.Node{}}
	if !gram.Same(void, api.Grammar{}) || !gram.Same(api.Grammar{}, void) || !gram.Same(void, void) {
		t.Error("rules and nodes")
	}
	if gram.Same(full, void) || gram.Same(void, full) || gram.Same(api.Grammar{}, none) {
		t.Error("none and some")
	}
}

// TestSameOrder: P6.3: rows are held against each other place by place.
func TestSameOrder(t *testing.T) {
	a := api.Grammar{Rules: []api.Rule{{Name: "A"}, {Name: "B"}}, Nodes: []api.Node{{Kind: 1, Kids: []int{1, 2}}, {Kind: 2}}}
	b := own(a)
	slices.Reverse(b.Rules)
	c := own(a)
	slices.Reverse(c.Nodes)
	d := own(a)
	slices.Reverse(d.Nodes[0].Kids)
	for i, x := range []api.Grammar{b, c, d} {
		if gram.Same(a, x) || gram.Same(x, a) {
			t.Error(i)
		}
	}
}

// TestCopy: P6.3: the same, of any grammar, and the grammar is as it was.
func TestCopy(t *testing.T) {
	for i, g := range grammars() {
		before := own(g)
		c := gram.Copy(g)
		if !gram.Same(g, c) || gram.Right(g) != gram.Right(c) || !reflect.DeepEqual(g, before) {
			t.Error(i, c)
		}
		if len(c.Rules) != len(g.Rules) || len(c.Nodes) != len(g.Nodes) {
			t.Error(i, len(c.Rules), len(c.Nodes))
		}
	}
	if c := gram.Copy(api.Grammar{}); len(c.Rules) != 0 || len(c.Nodes) != 0 {
		t.Error(c)
	}
}

// spoil changes each part of a grammar.
func spoil(g api.Grammar) {
	for i := range g.Rules {
		g.Rules[i] = api.Rule{Name: "?", Body: -99}
	}
	for n := range g.Nodes {
		for k := range g.Nodes[n].Kids {
			g.Nodes[n].Kids[k] = -99
		}
		// Behind a row's end there may be room that two rows share.
		_ = append(g.Nodes[n].Kids, -99)
		g.Nodes[n] = api.Node{Kind: -99}
	}
	_, _ = append(g.Rules, api.Rule{Body: -99}), append(g.Nodes, api.Node{Kind: -99})
}

// TestCopyShares: P6.3: nothing: neither a row, nor a row's room, nor the bytes of a text.
func TestCopyShares(t *testing.T) {
	for i, g := range grammars() {
		want := own(g)
		first, second := gram.Copy(g), gram.Copy(g)
		spoil(first)
		if !reflect.DeepEqual(g, want) || !gram.Same(second, want) {
			t.Error(i, "the grammar goes with its copy")
		}
		spoil(g)
		if !gram.Same(second, want) {
			t.Error(i, "the copy goes with its grammar")
		}
	}
	g := just(of(api.Seq, text(strings.Repeat("a", 5)), text("b")))
	g.Rules[0].Name = strings.Repeat("N", 3)
	c := gram.Copy(g)
	if unsafe.StringData(c.Rules[0].Name) == unsafe.StringData(g.Rules[0].Name) || unsafe.StringData(c.Nodes[1].Text) == unsafe.StringData(g.Nodes[1].Text) {
		t.Error("bytes of texts")
	}
}

// TestCopyRoom: P6.3: rows with room behind their end share none of it with a copy.
func TestCopyRoom(t *testing.T) {
	kids := make([]int, 2, 8)
	kids[0], kids[1] = 1, 2
	nodes := append(make([]api.Node, 0, 8), api.Node{Kind: api.Seq, Kids: kids}, api.Node{Kind: api.Any}, api.Node{Kind: api.Any})
	g := api.Grammar{Rules: append(make([]api.Rule, 0, 8), api.Rule{Name: "A"}), Nodes: nodes}
	c := gram.Copy(g)
	_ = append(c.Nodes[0].Kids, 5)
	_ = append(c.Nodes, api.Node{Kind: 5})
	_ = append(c.Rules, api.Rule{Name: "C"})
	if kids[:3][2] != 0 || g.Nodes[:4][3].Kind != 0 || g.Rules[:2][1].Name != "" {
		t.Error("room is shared")
	}
	if !gram.Right(g) || !gram.Right(c) {
		t.Error("not right")
	}
}

// TestAlike: R4: told once more, all is told alike.
func TestAlike(t *testing.T) {
	for i, row := range bodies()[:40] {
		g := just(row...)
		for n := range g.Nodes {
			a, b := gram.Size(g, n), gram.Height(g, n)
			for range 3 {
				if gram.Size(g, n) != a || gram.Height(g, n) != b || !gram.Right(g) {
					t.Fatal(i, n)
				}
			}
		}
	}
}
