package show_test

import (
	"fmt"
	"math"
	"slices"
	"strings"
	"testing"
	"unsafe"

	"seedling/api"
	"seedling/gram"
	"seedling/read"
	"seedling/show"
)

// part is a node of a body, and its kids as they hang on it, without numbers.
type part struct {
	api.Node
	kids []part
}

// of is a part of a Kind, and kids.
func of(k api.Kind, kids ...part) part { return part{Node: api.Node{Kind: k}, kids: kids} }

// set, text and call are parts that have something.
func set(runs ...string) part {
	p := of(api.Set)
	for _, r := range runs {
		for b := int(r[0]); b <= int(r[len(r)-1]); b++ {
			p.Class[b/64] |= 1 << (b % 64)
		}
	}
	return p
}
func text(s string) part { return part{Node: api.Node{Kind: api.Text, Text: s}} }
func call(rule, level int) part {
	return part{Node: api.Node{Kind: api.Call, Rule: rule, Level: level}}
}

// lay lays a part's nodes behind a grammar's last one.
func (p part) lay(g *api.Grammar) int {
	n := len(g.Nodes)
	g.Nodes = append(g.Nodes, p.Node)
	for _, kid := range p.kids {
		k := kid.lay(g)
		g.Nodes[n].Kids = append(g.Nodes[n].Kids, k)
	}
	return n
}

// nameOf is a name for a rule: no other number has it.
func nameOf(i int) string { return string(rune('A'+i%26)) + strings.Repeat("_", i/26) }

// laid is the grammar of some bodies, whose rules are A, B, C and so on.
func laid(bodies ...part) api.Grammar {
	var g api.Grammar
	for i, body := range bodies {
		g.Rules = append(g.Rules, api.Rule{Name: nameOf(i), Body: body.lay(&g)})
	}
	return g
}

// byteAs is a byte as the chapters 4 and 9 write it where the marked ones can not stand.
func byteAs(b byte, marked string) string {
	switch {
	case b == 10:
		return `\n`
	case b == 13:
		return `\r`
	case b == 9:
		return `\t`
	case strings.IndexByte(marked, b) >= 0:
		return `\` + string(rune(b))
	case b < 32 || b > 126:
		return fmt.Sprintf(`\x%02x`, b)
	}
	return string(rune(b))
}

// setAs is a class as the chapter writes it, its runs looked for byte by byte.
func setAs(c api.Class) string {
	in := func(b int) bool { return b < 256 && c[b/64]>>(b%64)&1 == 1 }
	s := "["
	for b := 0; b < 256; b++ {
		if !in(b) {
			continue
		}
		from := b
		for in(b + 1) {
			b++
		}
		s += byteAs(byte(from), `\]-`)
		if b > from+1 {
			s += "-"
		}
		if b > from {
			s += byteAs(byte(b), `\]-`)
		}
	}
	return s + "]"
}

// own is how tight a Kind binds, by the chapter.
func own(k api.Kind) int {
	for i, l := range [][]api.Kind{{api.Alt}, {api.Seq}, {api.Not, api.And}} {
		if slices.Contains(l, k) {
			return i
		}
	}
	return 3
}

// written is a part at a level of tightness, as the chapter writes it; names are those of the rules.
func (p part) written(at int, names []string) string {
	if own(p.Kind) < at {
		return "(" + p.written(0, names) + ")"
	}
	kids := func(at int) []string {
		var l []string
		for _, kid := range p.kids {
			l = append(l, kid.written(at, names))
		}
		return l
	}
	switch p.Kind {
	case api.Empty:
		return "()"
	case api.Any:
		return "."
	case api.Set:
		return setAs(p.Class)
	case api.Text:
		s := ""
		for _, b := range []byte(p.Text) {
			s += byteAs(b, `\"`)
		}
		return `"` + s + `"`
	case api.Call:
		if p.Level == 0 {
			return names[p.Rule]
		}
		return fmt.Sprintf("%s:%d", names[p.Rule], p.Level)
	case api.Seq:
		return strings.Join(kids(2), " ")
	case api.Alt:
		return strings.Join(kids(1), " / ")
	case api.Not, api.And:
		return map[api.Kind]string{api.Not: "!", api.And: "&"}[p.Kind] + kids(2)[0]
	}
	return kids(3)[0] + map[api.Kind]string{api.Star: "*", api.Plus: "+", api.Opt: "?"}[p.Kind]
}

// at is the part that hangs in a grammar at a node.
func at(g api.Grammar, n int) part {
	p := part{Node: g.Nodes[n]}
	p.Kids = nil
	for _, kid := range g.Nodes[n].Kids {
		p.kids = append(p.kids, at(g, kid))
	}
	return p
}

// names are those of a grammar's rules.
func names(g api.Grammar) []string {
	var l []string
	for _, r := range g.Rules {
		l = append(l, r.Name)
	}
	return l
}

// tells holds what a call told against a text.
func tells(t *testing.T, what string, got string, e api.Errno, want string) {
	t.Helper()
	if e != api.OK || got != want {
		t.Fatalf("%s: %.400q, %d, want %.400q", what, got, e, want)
	}
}

// refuses holds what a call told against an error.
func refuses(t *testing.T, what string, got string, e, want api.Errno) {
	t.Helper()
	if e != want || got != "" {
		t.Errorf("%s: %.400q, %d, want %d", what, got, e, want)
	}
}

// holds holds all that is told of a right grammar against the chapter's words; its text, or none, if it is too long.
func holds(t *testing.T, g api.Grammar) string {
	t.Helper()
	if !gram.Right(g) {
		t.Fatalf("not right: %v", g)
	}
	l := names(g)
	for n := range g.Nodes {
		s, e := show.Node(g, n)
		tells(t, "node", s, e, at(g, n).written(0, l))
	}
	all := ""
	for i, r := range g.Rules {
		s, e := show.Rule(g, i)
		want := r.Name + " <- " + at(g, r.Body).written(0, l) + ";\n"
		tells(t, "rule", s, e, want)
		all += want
	}
	s, e := show.Text(g)
	if len(all) > 1<<14 {
		refuses(t, "text", s, e, api.ErrLong)
		return ""
	}
	tells(t, "text", s, e, all)
	return s
}

// comesBack holds a right grammar against what is read of its text, and that against its own text.
func comesBack(t *testing.T, g api.Grammar, s string) {
	t.Helper()
	back, d := read.Text(s)
	if d != (api.Diag{}) {
		t.Fatalf("%.400q: %v", s, d)
	}
	if d := read.Limits(back); d != (api.Diag{}) {
		t.Fatalf("%.400q: above a limit: %v", s, d)
	}
	want, called := gram.Copy(g), make([]string, len(g.Nodes))
	for n, x := range g.Nodes {
		if x.Kind == api.Call {
			want.Nodes[n].Rule, called[n] = 0, g.Rules[x.Rule].Name
		}
	}
	if !gram.Same(back.Grammar, want) || !slices.Equal(back.Names, called) {
		t.Fatalf("%.400q: %v, want %v", s, back, want)
	}
	for n, name := range back.Names {
		if name != "" {
			back.Grammar.Nodes[n].Rule = gram.Rule(back.Grammar, name)
		}
	}
	again, e := show.Text(back.Grammar)
	tells(t, "once more", again, e, s)
}

// leaves are parts without kids, those first that are one of each Kind, and unlike all.
func leaves() []part {
	return []part{
		of(api.Empty), of(api.Any), set("b"), text("a"), call(0, 0),
		call(0, 1), call(0, 99), call(1, 0), call(1, 10), set("a"), set("ab"), set("a", "-"), set("-"), set("]"), set("\\"), set("^"), set("az"),
		set("\x00\xff"), set(" ~"), set("\n"), set("n"), set("0", "9"), set("(", ")"), set("\"", "#"),
		text("."), text("()"), text("b"), text("\""), text("\\"), text("\\n"), text("\n"), text("n"), text("A"), text("A:1"), text("[b]"), text("a b"), text("a / b"), text("# r"), text("\x00\xff\x7f\x1f"), text("-]"), text("\xc3\xa9"),
	}
}

// singles are the Kinds with one kid.
func singles() []api.Kind { return []api.Kind{api.Star, api.Plus, api.Opt, api.Not, api.And} }

// rowsOf are all rows of so many parts at least, with so many nodes together; bodies are those of each number of nodes that is less.
func rowsOf(bodies [][]part, least, size int) [][]part {
	if size == 0 && least <= 0 {
		return [][]part{nil}
	}
	var l [][]part
	for n := 1; n <= size && n < len(bodies); n++ {
		for _, rest := range rowsOf(bodies, least-1, size-n) {
			for _, p := range bodies[n] {
				l = append(l, append([]part{p}, rest...))
			}
		}
	}
	return l
}

// allBodies are those of up to so many nodes, of some leaves.
func allBodies(leaves []part, most int) []part {
	bodies := [][]part{nil, leaves}
	for size := 2; size <= most; size++ {
		var l []part
		for _, kid := range bodies[size-1] {
			for _, k := range singles() {
				l = append(l, of(k, kid))
			}
		}
		for _, kids := range rowsOf(bodies, 2, size-1) {
			l = append(l, of(api.Seq, kids...), of(api.Alt, kids...))
		}
		bodies = append(bodies, l)
	}
	return slices.Concat(bodies...)
}

// dice answers numbers below n without a plan, the same ones each time.
func dice() func(n int) int {
	x := uint64(9)
	return func(n int) int {
		x = x*6364136223846793005 + 1442695040888963407
		return int(x>>33) % n
	}
}

// random is a part without a plan, of a height at most, in a grammar of so many rules.
func random(roll func(int) int, high, rules int) part {
	if high == 1 || roll(4) == 0 {
		return randomLeaf(roll, rules)
	}
	k := api.Kind(6 + roll(7))
	if k != api.Seq && k != api.Alt {
		return of(k, random(roll, high-1, rules))
	}
	p := of(k)
	for range 2 + roll(3) {
		p.kids = append(p.kids, random(roll, high-1, rules))
	}
	return p
}

// randomLeaf is a part without kids.
func randomLeaf(roll func(int) int, rules int) part {
	p := of(api.Kind(1 + roll(5)))
	switch p.Kind {
	case api.Set:
		for range 1 + roll(4) {
			from := roll(256)
			for b := from; b < min(256, from+1+roll(5)); b++ {
				p.Class[b/64] |= 1 << (b % 64)
			}
		}
	case api.Text:
		var l []byte
		for range 1 + roll(api.MaxWord) {
			l = append(l, byte(roll(256)))
		}
		p.Text = string(l)
	case api.Call:
		p.Rule, p.Level = roll(rules), roll(3)*roll(50)
	}
	return p
}

// randomGrammar is one without a plan.
func randomGrammar(roll func(int) int) api.Grammar {
	rules := 1 + roll(6)
	var l []part
	for range rules {
		l = append(l, random(roll, 1+roll(6), rules))
	}
	return laid(l...)
}

// chain is a part of a height: predicates, one in the other.
func chain(height int) part {
	p := text("a")
	for range height - 1 {
		p = of(api.Not, p)
	}
	return p
}

// bracketed is a part of a height, with as many brackets as may be.
func bracketed(height int) part {
	p := of(api.Any)
	for i := range height - 1 {
		p = of([]api.Kind{api.Seq, api.Alt}[i%2], p, p.leftmost())
	}
	return p
}

// leftmost is the part that is gone to by first kids alone.
func (p part) leftmost() part {
	for len(p.kids) > 0 {
		p = p.kids[0]
	}
	return p
}

// edges are grammars at the limits, and of a text that is not too long.
func edges() []api.Grammar {
	long := laid(slices.Repeat([]part{of(api.Seq, call(31, 99), call(0, 0))}, 32)...)
	for i := range long.Rules {
		long.Rules[i].Name = strings.Repeat("n", 30) + fmt.Sprintf("%02d", i)
	}
	// 32 rules of 64 nodes are 2048.
	full := laid(slices.Repeat([]part{of(api.Seq, slices.Repeat([]part{of(api.Any)}, 63)...)}, 32)...)
	return []api.Grammar{
		long, full,
		laid(slices.Repeat([]part{of(api.Empty)}, 32)...),
		laid(chain(16)), laid(bracketed(16)), laid(of(api.Any), bracketed(16), chain(16)),
		laid(of(api.Seq, slices.Repeat([]part{of(api.Any)}, 64)...)),
		laid(of(api.Alt, slices.Repeat([]part{call(0, 99)}, 64)...)),
		laid(text(strings.Repeat("t", 64))), laid(text(strings.Repeat("\x00", 64))),
		laid(set("\x00\xff")), laid(part{Node: api.Node{Kind: api.Set, Class: api.Class{0x5555555555555555, 0x5555555555555555, 0x5555555555555555, 0x5555555555555555}}}),
	}
}

// TestExample: the chapter's.
func TestExample(t *testing.T) {
	g := api.Grammar{
		Rules: []api.Rule{{Name: "A"}, {Name: "B", Body: 7}},
		Nodes: []api.Node{
			{Kind: api.Seq, Kids: []int{1, 6}},
			{Kind: api.Star, Kids: []int{2}},
			{Kind: api.Alt, Kids: []int{3, 5}},
			{Kind: api.Not, Kids: []int{4}},
			{Kind: api.Text, Text: "a"},
			{Kind: api.Call, Rule: 1, Level: 2},
			{Kind: api.Empty},
			{Kind: api.Any},
		},
	}
	s, e := show.Text(g)
	tells(t, "text", s, e, "A <- (!\"a\" / B:2)* ();\nB <- .;\n")
	for i, want := range []string{"A <- (!\"a\" / B:2)* ();\n", "B <- .;\n"} {
		s, e := show.Rule(g, i)
		tells(t, "rule", s, e, want)
	}
	for n, want := range []string{`(!"a" / B:2)* ()`, `(!"a" / B:2)*`, `!"a" / B:2`, `!"a"`, `"a"`, "B:2", "()", "."} {
		s, e := show.Node(g, n)
		tells(t, "node", s, e, want)
	}
}

// TestKinds: P9.1: what each Kind is, and what a class, a text, a call is at its edges.
func TestKinds(t *testing.T) {
	for want, p := range map[string]part{
		"()":                     of(api.Empty),
		".":                      of(api.Any),
		"[a]":                    set("a"),
		"[ab]":                   set("ab"),
		"[a-c]":                  set("ac"),
		"[acd]":                  set("cd", "a"),
		"[0-9A-Z_a-z]":           set("az", "_", "AZ", "09"),
		`[\]]`:                   set("]"),
		`[\-]`:                   set("-"),
		`[+-\-]`:                 set("+-"),
		`[\--/]`:                 set("-/"),
		`[\\-^]`:                 set("\\^"),
		`[\\\]]`:                 set("\\]"),
		`["^]`:                   set("\"", "^"),
		`[\t\n]`:                 set("\t\n"),
		`[\r]`:                   set("\r"),
		`[\x00]`:                 set("\x00"),
		`[\xfe\xff]`:             set("\xfe\xff"),
		`[\x00\xff]`:             set("\x00", "\xff"),
		`[\x00-\xff]`:            set("\x00\xff"),
		`[\x1f-\x7f]`:            set("\x1f\x7f"),
		`"a"`:                    text("a"),
		`"ab c"`:                 text("ab c"),
		`"\"\\"`:                 text("\"\\"),
		`"-]["`:                  text("-]["),
		`"\n\r\t\x00\x7f\xff"`:   text("\n\r\t\x00\x7f\xff"),
		"B":                      call(1, 0),
		"A:1":                    call(0, 1),
		"B:9":                    call(1, 9),
		"B:10":                   call(1, 10),
		"A:99":                   call(0, 99),
		"A B":                    of(api.Seq, call(0, 0), call(1, 0)),
		"A B:1 . ()":             of(api.Seq, call(0, 0), call(1, 1), of(api.Any), of(api.Empty)),
		"A / B":                  of(api.Alt, call(0, 0), call(1, 0)),
		"A:3 / B / . / ()":       of(api.Alt, call(0, 3), call(1, 0), of(api.Any), of(api.Empty)),
		".*":                     of(api.Star, of(api.Any)),
		".+":                     of(api.Plus, of(api.Any)),
		".?":                     of(api.Opt, of(api.Any)),
		"!.":                     of(api.Not, of(api.Any)),
		"&.":                     of(api.And, of(api.Any)),
		"()*+?":                  of(api.Opt, of(api.Plus, of(api.Star, of(api.Empty)))),
		"!&!A":                   of(api.Not, of(api.And, of(api.Not, call(0, 0)))),
		"!((&A)* / B)":           of(api.Not, of(api.Alt, of(api.Star, of(api.And, call(0, 0))), call(1, 0))),
		"(A / B) (A B) !A A* ()": of(api.Seq, of(api.Alt, call(0, 0), call(1, 0)), of(api.Seq, call(0, 0), call(1, 0)), of(api.Not, call(0, 0)), of(api.Star, call(0, 0)), of(api.Empty)),
	} {
		g := laid(p, of(api.Any))
		s, e := show.Node(g, 0)
		tells(t, "node", s, e, want)
		s, e = show.Rule(g, 0)
		tells(t, "rule", s, e, "A <- "+want+";\n")
		s, e = show.Text(g)
		tells(t, "text", s, e, "A <- "+want+";\nB <- .;\n")
	}
}

// TestTightness: P9.1: each Kind below each other one: which of them stand in brackets.
func TestTightness(t *testing.T) {
	a, b := call(0, 0), call(1, 0)
	kids := []part{of(api.Alt, a, b), of(api.Seq, a, b), of(api.Not, a), of(api.And, a), of(api.Star, a), of(api.Plus, a), of(api.Opt, a), of(api.Empty), of(api.Any), set("c"), text("c"), a}
	plain := []string{"A / B", "A B", "!A", "&A", "A*", "A+", "A?", "()", ".", "[c]", `"c"`, "A"}
	for _, c := range []struct {
		under    func(part) part
		brackets int // how many of the kids, from the first one on, stand in them
		ahead    string
		behind   string
	}{
		{func(p part) part { return p }, 0, "", ""},
		{func(p part) part { return of(api.Alt, p, a) }, 1, "", " / A"},
		{func(p part) part { return of(api.Alt, a, p) }, 1, "A / ", ""},
		{func(p part) part { return of(api.Alt, a, p, b) }, 1, "A / ", " / B"},
		{func(p part) part { return of(api.Seq, p, a) }, 2, "", " A"},
		{func(p part) part { return of(api.Seq, a, p) }, 2, "A ", ""},
		{func(p part) part { return of(api.Seq, a, p, b) }, 2, "A ", " B"},
		{func(p part) part { return of(api.Not, p) }, 2, "!", ""},
		{func(p part) part { return of(api.And, p) }, 2, "&", ""},
		{func(p part) part { return of(api.Star, p) }, 4, "", "*"},
		{func(p part) part { return of(api.Plus, p) }, 4, "", "+"},
		{func(p part) part { return of(api.Opt, p) }, 4, "", "?"},
	} {
		for i, kid := range kids {
			want := plain[i]
			if i < c.brackets {
				want = "(" + want + ")"
			}
			g := laid(c.under(kid), of(api.Any))
			s, e := show.Node(g, 0)
			tells(t, "node", s, e, c.ahead+want+c.behind)
			comesBack(t, g, holds(t, g))
		}
	}
}

// TestNodeStandsLoose: P9.1: a node that stands in brackets in its rule is told without them.
func TestNodeStandsLoose(t *testing.T) {
	g := laid(of(api.Star, of(api.Alt, of(api.Seq, of(api.Not, call(0, 1)), of(api.Any)), of(api.Plus, of(api.And, call(0, 0))))))
	for n, want := range []string{"(!A:1 . / (&A)+)*", "!A:1 . / (&A)+", "!A:1 .", "!A:1", "A:1", ".", "(&A)+", "&A", "A"} {
		s, e := show.Node(g, n)
		tells(t, "node", s, e, want)
	}
}

// TestBytes: P9.1: each byte in a text, and each class of one run.
func TestBytes(t *testing.T) {
	for from := range 256 {
		g := laid(text(string([]byte{byte(from), 'x', byte(from)})))
		comesBack(t, g, holds(t, g))
		for to := from; to < 256; to++ {
			g := laid(set(string([]byte{byte(from), byte(to)})))
			if s, e := show.Node(g, 0); e != api.OK || s != setAs(g.Nodes[0].Class) {
				t.Fatal(from, to, s, e)
			}
			if to < from+4 || to > 250 {
				comesBack(t, g, holds(t, g))
			}
		}
	}
}

// TestRuns: P9.1: classes of several runs, in order.
func TestRuns(t *testing.T) {
	roll := dice()
	for range 3000 {
		p := of(api.Set)
		for i := range p.Class {
			for range roll(3) {
				p.Class[i] ^= 1<<roll(64) - 1<<roll(64)
			}
		}
		if p.Class == (api.Class{}) {
			continue
		}
		g := laid(p)
		comesBack(t, g, holds(t, g))
	}
}

// TestLevels: P9.1: each level.
func TestLevels(t *testing.T) {
	for level := range api.MaxLevel + 1 {
		want := "A"
		if level > 0 {
			want = fmt.Sprint("A:", level)
		}
		g := laid(call(0, level))
		s, e := show.Text(g)
		tells(t, "text", s, e, "A <- "+want+";\n")
		comesBack(t, g, s)
	}
}

// TestNames: P9.1: a call is written by its rule's name, whatever that is, and rules in order, not by their names.
func TestNames(t *testing.T) {
	g := laid(call(2, 0), call(0, 7), of(api.Seq, call(1, 0), call(2, 1), call(0, 0)))
	for i, name := range []string{"z_9", "_", "Aa"} {
		g.Rules[i].Name = name
	}
	s, e := show.Text(g)
	tells(t, "text", s, e, "z_9 <- Aa;\n_ <- z_9:7;\nAa <- _ Aa:1 z_9;\n")
	comesBack(t, g, s)
}

// TestAllBodies: P9.1, P9.2: each body of up to five nodes.
func TestAllBodies(t *testing.T) {
	for _, p := range allBodies(leaves()[:5], 5) {
		g := laid(p)
		comesBack(t, g, holds(t, g))
	}
}

// TestManyRules: P9.1, P9.2: grammars of several rules, and higher bodies.
func TestManyRules(t *testing.T) {
	roll := dice()
	count := 0
	for range 3000 {
		g := randomGrammar(roll)
		if s := holds(t, g); s != "" {
			comesBack(t, g, s)
			count++
		}
	}
	if count < 2000 {
		t.Error("few texts: ", count)
	}
}

// TestEdges: P9.2: grammars at the limits are read as nothing above them.
func TestEdges(t *testing.T) {
	for _, g := range edges() {
		comesBack(t, g, holds(t, g))
	}
}

// TestUnlike: P9.2: unlike grammars are written unlike: bodies, the parting of a body into rules, and names.
func TestUnlike(t *testing.T) {
	met := map[string]api.Grammar{}
	meet := func(g api.Grammar) {
		t.Helper()
		s, e := show.Text(g)
		if other, is := met[s]; is || e != api.OK {
			t.Fatalf("%q, %d: %v and %v", s, e, g, other)
		}
		met[s] = g
	}
	for _, p := range allBodies(leaves()[:5], 4) {
		meet(laid(p))
	}
	for _, p := range allBodies(leaves(), 2) {
		g := laid(of(api.Any), p)
		meet(g)
		for _, q := range leaves()[:5] {
			meet(laid(of(api.Any), p, q))
		}
		g = gram.Copy(g)
		g.Rules[1].Name = "b"
		meet(g)
		g = gram.Copy(g)
		g.Rules[0].Name, g.Rules[1].Name = "b", "A"
		meet(g)
	}
}

// ofLength is a grammar whose text has so many bytes: four rules of texts, that are cut till it is right.
func ofLength(t *testing.T, want int) api.Grammar {
	t.Helper()
	row := of(api.Seq, slices.Repeat([]part{text(strings.Repeat("t", 64))}, 64)...)
	g := laid(row, row, row, row)
	length := 0
	for i := range g.Rules {
		length += len(at(g, g.Rules[i].Body).written(0, names(g))) + len("A <- ;\n")
	}
	for n, x := range g.Nodes {
		cut := min(length-want, len(x.Text)-1)
		if x.Kind == api.Text && cut > 0 {
			g.Nodes[n].Text = x.Text[cut:]
			length -= cut
		}
	}
	if length != want {
		t.Fatal(length, want)
	}
	return g
}

// TestLong: P9.1: a grammar's text of 2^14 bytes is told, of one more it is not; nodes and rules are told however long.
func TestLong(t *testing.T) {
	for _, n := range []int{1<<14 - 1, 1 << 14} {
		g := ofLength(t, n)
		s := holds(t, g)
		if len(s) != n {
			t.Error(len(s), n)
		}
		comesBack(t, g, s)
	}
	for _, n := range []int{1<<14 + 1, 1<<14 + 2, 17000} {
		if s := holds(t, ofLength(t, n)); s != "" {
			t.Error(n, len(s))
		}
	}
	// A byte of a text may be four of the grammar's.
	wide := of(api.Seq, slices.Repeat([]part{text(strings.Repeat("\x00", 64))}, 64)...)
	for _, g := range []api.Grammar{laid(wide), laid(of(api.Any), wide), laid(of(api.Any), of(api.Star, wide), of(api.Any))} {
		if s := holds(t, g); s != "" {
			t.Error(len(s))
		}
		node, _ := show.Node(g, len(g.Rules)-1)
		rule, _ := show.Rule(g, min(1, len(g.Rules)-1))
		if len(g.Rules) < 3 && len(node) <= 1<<14 || len(rule) <= 1<<14 {
			t.Error(len(node), len(rule))
		}
	}
	// Likewise names, that are written as often as they are called.
	g := laid(slices.Repeat([]part{of(api.Seq, slices.Repeat([]part{call(0, 0)}, 63)...)}, 32)...)
	if s := holds(t, g); s == "" {
		t.Error("not told")
	}
	g.Rules[0].Name = strings.Repeat("n", 32)
	if s := holds(t, g); s != "" {
		t.Error(len(s))
	}
}

// broken are grammars that are not right, each by one change of a right one.
func broken() []api.Grammar {
	var l []api.Grammar
	base := laid(of(api.Alt, of(api.Seq, text("a"), call(1, 99)), of(api.Empty)), of(api.Star, set("a")))
	change := func(f func(g *api.Grammar)) {
		g := gram.Copy(base)
		f(&g)
		if !gram.Right(g) {
			l = append(l, g)
		}
	}
	for _, n := range []int{math.MinInt, -1, 0, 1, 2, 5, 6, 7, 13, 100, math.MaxInt} {
		for i := range base.Nodes {
			change(func(g *api.Grammar) { g.Nodes[i].Kids = []int{n} })
			change(func(g *api.Grammar) { g.Nodes[i].Kids = append(g.Nodes[i].Kids, n) })
			change(func(g *api.Grammar) { g.Nodes[i].Kind = api.Kind(n) })
			change(func(g *api.Grammar) { g.Nodes[i].Rule = n })
			change(func(g *api.Grammar) { g.Nodes[i].Level = n })
		}
		change(func(g *api.Grammar) { g.Rules[0].Body = n })
		change(func(g *api.Grammar) { g.Rules[1].Body = n })
	}
	for i := range base.Nodes {
		change(func(g *api.Grammar) { g.Nodes[i].Text = "" })
		change(func(g *api.Grammar) { g.Nodes[i].Text = strings.Repeat("a", 65) })
		change(func(g *api.Grammar) { g.Nodes[i].Class = api.Class{} })
		change(func(g *api.Grammar) { g.Nodes[i].Class = api.Class{1} })
	}
	change(func(g *api.Grammar) { *g = api.Grammar{} })
	change(func(g *api.Grammar) { g.Rules = nil })
	change(func(g *api.Grammar) { g.Nodes = nil })
	change(func(g *api.Grammar) { g.Nodes = g.Nodes[:6] })
	change(func(g *api.Grammar) { g.Nodes = append(g.Nodes, api.Node{Kind: api.Any}) })
	change(func(g *api.Grammar) { g.Rules[1].Name = "A" })
	change(func(g *api.Grammar) { g.Rules[1].Name = "" })
	change(func(g *api.Grammar) { g.Rules[1].Name = "1" })
	change(func(g *api.Grammar) { g.Rules[1].Name = strings.Repeat("n", 33) })
	return append(l,
		laid(chain(17)), laid(bracketed(17)),
		laid(slices.Repeat([]part{of(api.Any)}, 33)...),
		laid(append(slices.Repeat([]part{of(api.Seq, slices.Repeat([]part{of(api.Any)}, 63)...)}, 31), of(api.Seq, slices.Repeat([]part{of(api.Any)}, 64)...))...),
		laid(of(api.Seq, slices.Repeat([]part{of(api.Any)}, 65)...)),
		laid(of(api.Alt, of(api.Any))), laid(of(api.Seq)), laid(of(api.Not)),
	)
}

// TestShape: P9.1: of a grammar that is not right nothing is told, whatever else is wrong; R1: nothing panics.
func TestShape(t *testing.T) {
	for _, g := range broken() {
		s, e := show.Text(g)
		refuses(t, "text", s, e, api.ErrShape)
		for _, n := range []int{math.MinInt, -1, 0, 1, 6, 7, 1 << 11, math.MaxInt} {
			s, e = show.Node(g, n)
			refuses(t, "node", s, e, api.ErrShape)
			s, e = show.Rule(g, n)
			refuses(t, "rule", s, e, api.ErrShape)
		}
	}
	// ErrShape is named ahead of ErrLong.
	g := ofLength(t, 17000)
	g.Nodes[1].Level = 1
	s, e := show.Text(g)
	refuses(t, "text", s, e, api.ErrShape)
}

// TestRange: P9.1: of a node, a rule that is not there nothing is told.
func TestRange(t *testing.T) {
	for _, g := range append(edges(), laid(of(api.Star, of(api.Any)), of(api.Any), of(api.Any))) {
		for _, n := range []int{math.MinInt, -1, 0, math.MaxInt - 1} {
			if n >= 0 {
				n += len(g.Nodes)
			}
			s, e := show.Node(g, n)
			refuses(t, "node", s, e, api.ErrRange)
		}
		for _, i := range []int{math.MinInt, -1, len(g.Rules), len(g.Rules) + 1, math.MaxInt} {
			s, e := show.Rule(g, i)
			refuses(t, "rule", s, e, api.ErrRange)
		}
		// The last ones are there.
		if _, e := show.Node(g, len(g.Nodes)-1); e != api.OK {
			t.Error(e)
		}
		if _, e := show.Rule(g, len(g.Rules)-1); e != api.OK {
			t.Error(e)
		}
	}
}

// TestNothingChanged: R3, R4: no grammar is changed, right or not; of one the same is told each time.
func TestNothingChanged(t *testing.T) {
	roll := dice()
	l := append(broken(), edges()...)
	for range 100 {
		l = append(l, randomGrammar(roll))
	}
	for _, g := range l {
		was := gram.Copy(g)
		for _, ask := range []func() (string, api.Errno){
			func() (string, api.Errno) { return show.Text(g) },
			func() (string, api.Errno) { return show.Node(g, 0) },
			func() (string, api.Errno) { return show.Rule(g, 0) },
		} {
			first, e := ask()
			again, other := ask()
			if first != again || e != other || !gram.Same(g, was) {
				t.Fatalf("%.400q, %.400q", first, again)
			}
		}
	}
}

// TestNewMemory: R3: a text shares nothing with the grammar, be it but the name of a rule.
func TestNewMemory(t *testing.T) {
	name := strings.Repeat("name_", 6)
	g := laid(call(0, 0), text("text"))
	g.Rules[0].Name = name
	s, e := show.Node(g, 0)
	tells(t, "node", s, e, name)
	if unsafe.StringData(s) == unsafe.StringData(name) {
		t.Error("a name of the grammar")
	}
	all, _ := show.Text(g)
	want := strings.Clone(all)
	g.Rules[0].Name, g.Nodes[0].Level, g.Nodes[1].Text = "C", 1, "x"
	if all != want || s != name {
		t.Errorf("%q, %q", all, s)
	}
	again, e := show.Text(g)
	tells(t, "text", again, e, "C <- C:1;\nB <- \"x\";\n")
}
