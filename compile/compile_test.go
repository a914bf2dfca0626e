package compile_test

import (
	"math"
	"reflect"
	"slices"
	"strings"
	"testing"
	"unsafe"

	"seedling/api"
	"seedling/compile"
	"seedling/gram"
	"seedling/names"
	"seedling/read"
	"seedling/show"
	"seedling/well"
)

// rep is a text, so many times.
func rep(s string, n int) string { return strings.Repeat(s, n) }

// part is a node of a body, and its kids as they hang on it, without numbers.
type part struct {
	api.Node
	kids []part
}

// of is a part of a Kind, and kids.
func of(k api.Kind, kids ...part) part { return part{Node: api.Node{Kind: k}, kids: kids} }

// set, text and call are parts that have something.
func set(bytes ...byte) part {
	p := of(api.Set)
	for _, b := range bytes {
		p.Class[b/64] |= 1 << (b % 64)
	}
	return p
}
func text(s string) part { return part{Node: api.Node{Kind: api.Text, Text: s}} }
func call(rule, level int) part {
	return part{Node: api.Node{Kind: api.Call, Rule: rule, Level: level}}
}

// lay lays a part's nodes behind a grammar's last one.
func (p part) lay(g *api.Grammar) int {
	n := len(g.Nodes)
	g.Nodes = append(g.Nodes, p.Node)
	for _, kid := range p.kids {
		k := kid.lay(g)
		g.Nodes[n].Kids = append(g.Nodes[n].Kids, k)
	}
	return n
}

// nameOf is a name for a rule: no other number has it.
func nameOf(i int) string { return string(rune('A'+i%26)) + rep("_", i/26) }

// laid is the grammar of some bodies, whose rules are A, B, C and so on.
func laid(bodies ...part) api.Grammar {
	var g api.Grammar
	for i, body := range bodies {
		g.Rules = append(g.Rules, api.Rule{Name: nameOf(i), Body: body.lay(&g)})
	}
	return g
}

// dice answers numbers below n without a plan, the same ones each time.
func dice() func(n int) int {
	x := uint64(16)
	return func(n int) int {
		x = x*6364136223846793005 + 1442695040888963407
		return int(x>>33) % n
	}
}

// random is a part without a plan, of a height at most, in a grammar of so many rules.
func random(roll func(int) int, high, rules int) part {
	if high == 1 || roll(4) == 0 {
		if roll(3) > 0 {
			return call(roll(rules), roll(100)*roll(2))
		}
		letters := []string{"a", "-]", "\n\\", "\"", "\x00\xff"}
		return []part{of(api.Empty), of(api.Any), set(byte(roll(256)), byte(roll(256)), '-'), text(letters[roll(5)])}[roll(4)]
	}
	k := api.Kind(6 + roll(7))
	if k != api.Seq && k != api.Alt {
		return of(k, random(roll, high-1, rules))
	}
	p := of(k)
	for range 2 + roll(3) {
		p.kids = append(p.kids, random(roll, high-1, rules))
	}
	return p
}

// randomGrammar is one without a plan, of up to so many rules.
func randomGrammar(roll func(int) int, most int) api.Grammar {
	rules := 1 + roll(most)
	var l []part
	for range rules {
		l = append(l, random(roll, 1+roll(5), rules))
	}
	return laid(l...)
}

// may says of each node whether it may match nothing, by those of which that is known; until no more are.
func may(g api.Grammar) []bool {
	in := make([]bool, len(g.Nodes))
	for more := true; more; {
		more = false
		for n, x := range g.Nodes {
			can := 0
			for _, kid := range x.Kids {
				if in[kid] {
					can++
				}
			}
			is := false
			switch x.Kind {
			case api.Empty, api.Star, api.Opt, api.Not, api.And:
				is = true
			case api.Seq:
				is = can == len(x.Kids)
			case api.Alt, api.Plus:
				is = can > 0
			case api.Call:
				is = in[g.Rules[x.Rule].Body]
			}
			more = more || is != in[n]
			in[n] = is
		}
	}
	return in
}

// idle is the first node that repeats what may match nothing, or -1.
func idle(g api.Grammar) int {
	in := may(g)
	return slices.IndexFunc(g.Nodes, func(x api.Node) bool {
		return (x.Kind == api.Star || x.Kind == api.Plus) && in[x.Kids[0]]
	})
}

// sameGrammar says whether two grammars are, by nothing of the program.
func sameGrammar(a, b api.Grammar) bool {
	same := slices.Equal(a.Rules, b.Rules) && len(a.Nodes) == len(b.Nodes)
	for n := 0; same && n < len(a.Nodes); n++ {
		x, y := a.Nodes[n], b.Nodes[n]
		same = slices.Equal(x.Kids, y.Kids)
		x.Kids, y.Kids = nil, nil
		same = same && reflect.DeepEqual(x, y)
	}
	return same
}

// wanted is what a text is made by the chapter's words, step by step.
func wanted(s string) (compile.Made, api.Diag) {
	tree, d := read.Text(s)
	if d.Err != api.OK {
		return compile.Made{}, d
	}
	if d := read.Limits(tree); d.Err != api.OK {
		return compile.Made{}, d
	}
	g, d := names.Resolve(tree)
	if d.Err != api.OK {
		return compile.Made{}, d
	}
	if n := idle(g); n >= 0 {
		return compile.Made{}, api.Diag{Err: api.ErrEmpty, At: tree.Nodes[n]}
	}
	return compile.Made{Grammar: g, Rules: tree.Rules, Nodes: tree.Nodes}, api.Diag{}
}

// none says whether a Made is a zero one.
func none(x compile.Made) bool {
	return x.Grammar.Rules == nil && x.Grammar.Nodes == nil && x.Rules == nil && x.Nodes == nil
}

// same says whether two Mades are.
func same(x, y compile.Made) bool {
	return sameGrammar(x.Grammar, y.Grammar) && slices.Equal(x.Rules, y.Rules) && slices.Equal(x.Nodes, y.Nodes)
}

// holds holds all that is told of a text against the chapter's words, and answers its diag.
func holds(t *testing.T, s string) api.Diag {
	t.Helper()
	want, diag := wanted(s)
	x, d := compile.Text(s)
	if d != diag || !same(x, want) || d.Err != api.OK && !none(x) {
		t.Fatalf("%q: %v, %v, want %v, %v", s, x, d, want, diag)
	}
	if d := compile.Diag(s); d != diag {
		t.Fatalf("%q: %v, want %v", s, d, diag)
	}
	tidied, d := compile.Tidy(s)
	if diag.Err != api.OK {
		if tidied != "" || d != diag {
			t.Fatalf("%q: %q, %v, want %v", s, tidied, d, diag)
		}
		return diag
	}
	written, e := show.Text(want.Grammar)
	if tidied != written || d != (api.Diag{Err: e}) {
		t.Fatalf("%q: %q, %v, want %q, %v", s, tidied, d, written, e)
	}
	follows(t, x, tidied)
	return diag
}

// follows holds what follows of what is made, and of its text, if it is not too long.
func follows(t *testing.T, x compile.Made, tidied string) {
	t.Helper()
	if !gram.Right(x.Grammar) || !well.Well(x.Grammar) || idle(x.Grammar) >= 0 {
		t.Fatal("not well: ", x, tidied)
	}
	if n, e := compile.Check(x.Grammar); n != 0 || e != api.OK {
		t.Fatal("check: ", n, e, tidied)
	}
	if len(x.Rules) != len(x.Grammar.Rules) || len(x.Nodes) != len(x.Grammar.Nodes) {
		t.Fatal("places: ", x, tidied)
	}
	if tidied == "" {
		return
	}
	again, d := compile.Text(tidied)
	if d != (api.Diag{}) || !sameGrammar(again.Grammar, x.Grammar) {
		t.Fatal("not the same grammar: ", d, again, x)
	}
	if twice, d := compile.Tidy(tidied); d != (api.Diag{}) || twice != tidied {
		t.Fatalf("tidied to another one: %v, %q, %q", d, twice, tidied)
	}
}

// TestExamples: the chapter's, and those of DOC.md.
func TestExamples(t *testing.T) {
	for s, want := range map[string]api.Diag{
		`A <- ("a"?)+;`:    {Err: api.ErrEmpty, At: 11},
		`A <- "a" A;`:      {},
		`A <- A*; A <- B;`: {Err: api.ErrTwice, At: 9},
		`A <- A "a" / "b"`: {Err: api.ErrSyntax, At: 16},
	} {
		if d := holds(t, s); d != want {
			t.Error(s, d)
		}
	}
	x, _ := compile.Text(`A <- "a" A;`)
	want := compile.Made{
		Grammar: laid(of(api.Seq, text("a"), call(0, 0))),
		Rules:   []int{0}, Nodes: []int{5, 5, 9},
	}
	if !same(x, want) {
		t.Error(x)
	}
	if s, d := compile.Tidy(`A<-((A:0 "a"))/(("b"));`); s != "A <- A \"a\" / \"b\";\n" || d != (api.Diag{}) {
		t.Error(s, d)
	}
}

// TestMade: P16.1: grammars and places that are written down here.
func TestMade(t *testing.T) {
	for _, c := range []struct {
		text         string
		grammar      api.Grammar
		rules, nodes []int
	}{
		{`A<-();`, laid(of(api.Empty)), []int{0}, []int{3}},
		{" # first\n A <- . # any\n ;", laid(of(api.Any)), []int{10}, []int{15}},
		// Rules that go left, at once, through others, or through each other, are not wrong.
		{`A <- A;`, laid(call(0, 0)), []int{0}, []int{5}},
		{`A <- A "a" / "b";`, laid(of(api.Alt, of(api.Seq, call(0, 0), text("a")), text("b"))), []int{0}, []int{5, 5, 5, 7, 13}},
		{
			`A <- B "a" / "x"; B <- A:2 "b";`,
			laid(of(api.Alt, of(api.Seq, call(1, 0), text("a")), text("x")), of(api.Seq, call(0, 2), text("b"))),
			[]int{0, 18}, []int{5, 5, 5, 7, 13, 23, 23, 27},
		},
		{`A <- "a"? A / ();`, laid(of(api.Alt, of(api.Seq, of(api.Opt, text("a")), call(0, 0)), of(api.Empty))), []int{0}, []int{8, 8, 8, 5, 10, 14}},
		// Calls have the number of the rule of their name, be it ahead or behind; levels are kept.
		{
			`A <- C:3 B; B <- [b-d]+; C <- !A:99 &B:007 .*;`,
			laid(
				of(api.Seq, call(2, 3), call(1, 0)), of(api.Plus, set('b', 'c', 'd')),
				of(api.Seq, of(api.Not, call(0, 99)), of(api.And, call(1, 7)), of(api.Star, of(api.Any))),
			),
			[]int{0, 12, 25}, []int{5, 5, 9, 22, 17, 30, 30, 31, 36, 37, 44, 43},
		},
		{`A <- (("a"+)+)*;`, laid(of(api.Star, of(api.Plus, of(api.Plus, text("a"))))), []int{0}, []int{14, 12, 10, 7}},
	} {
		if d := holds(t, c.text); d != (api.Diag{}) {
			t.Error(c.text, d)
		}
		x, _ := compile.Text(c.text)
		if want := (compile.Made{Grammar: c.grammar, Rules: c.rules, Nodes: c.nodes}); !same(x, want) {
			t.Error(c.text, x, want)
		}
	}
}

// TestDiags: P16.1, P16.2: what is wrong with texts, written down here.
func TestDiags(t *testing.T) {
	for s, want := range map[string]api.Diag{
		// What read.Text tells.
		``:                        {Err: api.ErrSyntax},
		` `:                       {Err: api.ErrSyntax, At: 1},
		`# A <- .;`:               {Err: api.ErrSyntax, At: 9},
		`A`:                       {Err: api.ErrSyntax, At: 1},
		`A <-`:                    {Err: api.ErrSyntax, At: 4},
		`A <- ;`:                  {Err: api.ErrSyntax, At: 5},
		`A:1 <- .;`:               {Err: api.ErrSyntax},
		`A <- .; B`:               {Err: api.ErrSyntax, At: 9},
		`A <- ~;`:                 {Err: api.ErrSyntax, At: 5},
		`A <- "\q";`:              {Err: api.ErrSyntax, At: 5},
		`A <- (.;`:                {Err: api.ErrSyntax, At: 7},
		"A <- .;\x00":             {Err: api.ErrSyntax, At: 7},
		rep(" ", 1<<14) + "A":     {Err: api.ErrLong},
		"A <- " + rep("(", 501):   {Err: api.ErrLong, At: 505},
		"A <- .;" + rep(" ", 999): {},
		// What is more than may be.
		`A <- "";`:                    {Err: api.ErrLong, At: 5},
		`A <- [];`:                    {Err: api.ErrLong, At: 5},
		`A <- . A:100;`:               {Err: api.ErrLong, At: 7},
		`A <- .; ` + rep("n", 33):     {Err: api.ErrSyntax, At: 41},
		rep("n", 33) + ` <- .;`:       {Err: api.ErrLong},
		"A <- " + rep("!", 16) + ".;": {Err: api.ErrLong},
		// What names tell.
		`A <- B;`:                         {Err: api.ErrNone, At: 5},
		`A <- . a;`:                       {Err: api.ErrNone, At: 7},
		`A <- .; A <- .;`:                 {Err: api.ErrTwice, At: 8},
		`A <- .; B <- .; B <- .; A <- .;`: {Err: api.ErrTwice, At: 16},
		`A <- B C; B <- D;`:               {Err: api.ErrNone, At: 7},
		// What would never end: the sign's place, of the first node, not the first sign.
		`A <- ()*;`:                             {Err: api.ErrEmpty, At: 7},
		`A <- ()  +;`:                           {Err: api.ErrEmpty, At: 9},
		`A <- (("a"*)+)*;`:                      {Err: api.ErrEmpty, At: 14},
		`A <- (("a"*)+)?;`:                      {Err: api.ErrEmpty, At: 12},
		`A <- (. ()* .)* ()*;`:                  {Err: api.ErrEmpty, At: 10},
		`A <- ((()*) / .)*;`:                    {Err: api.ErrEmpty, At: 16},
		`A <- .; B <- .* ()+;`:                  {Err: api.ErrEmpty, At: 18},
		`A <- B*; B <- C; C <- D / .; D <- !.;`: {Err: api.ErrEmpty, At: 6},
		`A <- A*;`:                              {Err: api.ErrEmpty, At: 6},
		`A <- A+;`:                              {},
		`A <- A+ / ();`:                         {Err: api.ErrEmpty, At: 6},
		`A <- ("a"?)?;`:                         {},
	} {
		if d := holds(t, s); d != want {
			t.Errorf("%q: %v, want %v", s, d, want)
		}
	}
}

// TestOrder: P16.1: the step that is first tells, be the place of what a later one would tell ahead of its own.
func TestOrder(t *testing.T) {
	// What each step would tell, in order; and what stands behind each of these texts is at their length.
	faults := []struct {
		text string
		e    api.Errno
	}{
		{`X <- .`, api.ErrSyntax}, {`X <- "";`, api.ErrLong}, {`A <- .;`, api.ErrTwice}, {`X <- Y;`, api.ErrNone}, {`X <- ()*;`, api.ErrEmpty},
	}
	for first, x := range faults {
		for _, y := range faults[first+1:] {
			head := `A <- .; ` + strings.ReplaceAll(y.text, "X", "Z") + " "
			d := holds(t, head+x.text)
			if d.Err != x.e || d.At < len(head) {
				t.Error(head+x.text, d)
			}
			if x.e == api.ErrSyntax {
				continue
			}
			s := `A <- .; ` + x.text + strings.ReplaceAll(y.text, "X", "Z")
			if d := holds(t, s); d.Err != x.e || d.At >= 8+len(x.text) {
				t.Error(s, d)
			}
		}
	}
}

// TestTidy: P16.2: texts and what they are tidied to, written down here.
func TestTidy(t *testing.T) {
	for s, want := range map[string]string{
		`A<-();`:                    "A <- ();\n",
		"# x\nA # y\n<-\t.\r\n;# z": "A <- .;\n",
		`A<-B/C;B<-"b";C<-"c"B;`:    "A <- B / C;\nB <- \"b\";\nC <- \"c\" B;\n",
		`A<-(("a")(("b")/"c"))*;`:   "A <- (\"a\" (\"b\" / \"c\"))*;\n",
		`A<-("a""b")"c";`:           "A <- (\"a\" \"b\") \"c\";\n",
		`A<-("a"/"b")/"c";`:         "A <- (\"a\" / \"b\") / \"c\";\n",
		`A<-("a""b")/"c";`:          "A <- \"a\" \"b\" / \"c\";\n",
		`A<-!(!((&.)));`:            "A <- !!&.;\n",
		`A<-(!.)?(.+)?;`:            "A <- (!.)? .+?;\n",
		`A<-A:0"a"/A:1"b"/A:012/.;`: "A <- A \"a\" / A:1 \"b\" / A:12 / .;\n",
		`A<-"\x41\x0a\x22\]\-";`:    "A <- \"A\\n\\\"]-\";\n",
		`A<-[\x61b-db-zA\-\x00"];`:  "A <- [\\x00\"\\-Aa-z];\n",
		`A<-[a-ac-ad-e];`:           "A <- [ade];\n",
		`_1<-._2:7;_2<-_1;`:         "_1 <- . _2:7;\n_2 <- _1;\n",
		"A <- A \"a\" / \"b\";\n":   "A <- A \"a\" / \"b\";\n",
	} {
		if tidied, d := compile.Tidy(s); tidied != want || d != (api.Diag{}) {
			t.Errorf("%q: %q, %v", s, tidied, d)
		}
		holds(t, s)
	}
}

// pairs is a text of n rules, each an Alt of 63 Texts, so many bytes long; tidied it has two more for each slash, and four for each rule.
func pairs(n, bytes int) string {
	var b strings.Builder
	for i := range n {
		b.WriteString(nameOf(i) + "<-" + rep(`"`+rep("t", bytes)+`"/`, 62) + `"t";`)
	}
	return b.String()
}

// TestTidyLong: P16.2: a text that may be, of a grammar whose own text is too long.
func TestTidyLong(t *testing.T) {
	s := pairs(32, 4)
	if len(s) > api.MaxGrammar {
		t.Fatal(len(s))
	}
	if d := holds(t, s); d != (api.Diag{}) {
		t.Error(d)
	}
	x, _ := compile.Text(s)
	if n, e := compile.Check(x.Grammar); len(x.Nodes) != api.MaxNodes || n != 0 || e != api.OK {
		t.Error(len(x.Nodes), n, e)
	}
	if tidied, d := compile.Tidy(s); tidied != "" || d != (api.Diag{Err: api.ErrLong}) {
		t.Error(len(tidied), d)
	}
	// The last rule has so many bytes more that the grammar's text is just as long as it may be, and one more.
	head := pairs(28, 4)
	short, _ := compile.Tidy(head + `last<-"t";`)
	for extra, e := range map[int]api.Errno{0: api.OK, 1: api.ErrLong} {
		left := api.MaxGrammar - len(short) + extra
		// With the blank ahead of it a Text of 61 bytes is 64.
		last := `last<-"` + rep("t", 1+left%64) + `"` + rep(`"`+rep("t", 61)+`"`, left/64) + `;`
		tidied, d := compile.Tidy(head + last)
		if d != (api.Diag{Err: e}) || len(tidied) != map[api.Errno]int{api.OK: api.MaxGrammar}[e] {
			t.Error(extra, len(tidied), d)
		}
		holds(t, head+last)
	}
	// Too long itself, though its grammar's text would not be: the text's own error.
	s = "A <- .;" + rep(" ", api.MaxGrammar-7)
	if tidied, d := compile.Tidy(s); tidied != "A <- .;\n" || d != (api.Diag{}) {
		t.Error(len(tidied), d)
	}
	if tidied, d := compile.Tidy(s + " "); tidied != "" || d != (api.Diag{Err: api.ErrLong}) {
		t.Error(len(tidied), d)
	}
}

// TestSmallTexts: P16.1, P16.2, P16.4: all bodies of up to four signs of a few, of one rule alone and ahead of another one.
func TestSmallTexts(t *testing.T) {
	signs := []string{"A", "B ", `"a"`, "(", ")", "*", "+", "/", "!", "?"}
	told := map[api.Errno]int{}
	var all func(body string, left int)
	all = func(body string, left int) {
		told[holds(t, "A<-"+body+";").Err]++
		told[holds(t, "A<-"+body+";B<-B/();").Err]++
		if left == 0 {
			return
		}
		for _, sign := range signs {
			all(body+sign, left-1)
		}
	}
	all("", 4)
	for _, e := range []api.Errno{api.OK, api.ErrSyntax, api.ErrNone, api.ErrEmpty} {
		if told[e] < 100 {
			t.Error(e, told[e])
		}
	}
}

// TestManyGrammars: P16.1 to P16.4, of grammars without a plan, and their texts; P3: well ones come of their texts.
func TestManyGrammars(t *testing.T) {
	roll := dice()
	wells := 0
	for i := range 1500 {
		g := randomGrammar(roll, 1+i%32)
		if i%3 == 0 {
			g, _ = well.Mend(g)
		}
		at, e := compile.Check(g)
		n := idle(g)
		if e == api.OK && (at != 0 || n >= 0) || e != api.OK && (e != api.ErrEmpty || at != n) {
			t.Fatal(at, e, n)
		}
		s, long := show.Text(g)
		if long != api.OK {
			continue
		}
		d := holds(t, s)
		if d.Err != e {
			t.Fatal(d, e, s)
		}
		if e == api.ErrEmpty {
			tree, _ := read.Text(s)
			if d.At != tree.Nodes[n] || s[d.At] != '*' && s[d.At] != '+' {
				t.Fatal(d, n, s)
			}
			continue
		}
		wells++
		if x, _ := compile.Text(s); !sameGrammar(x.Grammar, g) {
			t.Fatal("another one: ", s)
		}
		if tidied, _ := compile.Tidy(s); tidied != s {
			t.Fatal("tidied: ", s, tidied)
		}
	}
	if wells < 300 {
		t.Error("few are well: ", wells)
	}
}

// TestSpoiled: P16.1, P16.2: texts of which a few bytes are lost, doubled or changed.
func TestSpoiled(t *testing.T) {
	roll := dice()
	signs := "AB<-;/()*+?!&.\"[]:1 #\n\\\x00\xff"
	told := map[api.Errno]int{}
	for range 6000 {
		s, _ := show.Text(randomGrammar(roll, 3))
		for range 1 + roll(2) {
			at, b := roll(len(s)+1), signs[roll(len(signs))]
			next := min(at+roll(2), len(s))
			s = s[:at] + string([]byte{b}[:roll(2)]) + s[next:]
		}
		s += rep(s, roll(20)/19)
		told[holds(t, s).Err]++
	}
	for _, e := range []api.Errno{api.OK, api.ErrSyntax, api.ErrLong, api.ErrTwice, api.ErrNone, api.ErrEmpty} {
		if told[e] == 0 {
			t.Error(e, told)
		}
	}
}

// TestLimits: P16.1, P16.2: as much as there may be, and one more.
func TestLimits(t *testing.T) {
	rules := func(n int) string {
		var b strings.Builder
		for i := range n {
			b.WriteString(nameOf(i) + "<-.;")
		}
		return b.String()
	}
	// Rules of 64 nodes each.
	nodes := ""
	for i := range 32 {
		nodes += nameOf(i) + "<-" + rep(".", 63) + ";"
	}
	for s, want := range map[string]api.Diag{
		rules(32):                                {},
		rules(33):                                {Err: api.ErrLong, At: len(rules(32))},
		nodes:                                    {},
		nodes[:len(nodes)-2] + ".*;":             {Err: api.ErrLong, At: len(nodes) - 2},
		rep("n", 32) + "<-" + rep("n", 32) + ";": {},
		"A<-" + rep("n", 33) + ";":               {Err: api.ErrLong, At: 3},
		"A<-A:99;":                               {},
		"A<-A:100;":                              {Err: api.ErrLong, At: 3},
		`A<-"` + rep("t", 64) + `";`:             {},
		`A<-"` + rep("t", 65) + `";`:             {Err: api.ErrLong, At: 3},
		"A<-" + rep(".", 64) + ";":               {},
		"A<-" + rep(".", 65) + ";":               {Err: api.ErrLong, At: 3},
		"A<-" + rep("!", 15) + ".;":              {},
		"A<-." + rep("?", 16) + ";":              {Err: api.ErrLong},
		"A<-" + rep("(", 500) + "." + rep(")", 500) + ";": {},
		"A<-" + rep("(", 501) + "." + rep(")", 501) + ";": {Err: api.ErrLong, At: 503},
		"A<-.;" + rep(" ", 1<<14-5):                       {},
		"A<-.;" + rep(" ", 1<<14-4):                       {Err: api.ErrLong},
		rep("!", 1<<14):                                   {Err: api.ErrSyntax},
		"A<-" + rep("!", 1<<14-3):                         {Err: api.ErrSyntax, At: 1 << 14},
		"A<-." + rep("*", 1<<14-5) + ";":                  {Err: api.ErrLong},
	} {
		if d := holds(t, s); d != want {
			t.Errorf("%.40q: %v, want %v", s, d, want)
		}
	}
}

// TestCheck: P16.3: grammars that are right, with idle nodes and without.
func TestCheck(t *testing.T) {
	for _, c := range []struct {
		grammar api.Grammar
		at      int
		e       api.Errno
	}{
		{laid(of(api.Empty)), 0, api.OK},
		{laid(call(0, 0)), 0, api.OK},
		{laid(of(api.Star, of(api.Any))), 0, api.OK},
		{laid(of(api.Opt, of(api.Empty))), 0, api.OK},
		{laid(of(api.Star, of(api.Empty))), 0, api.ErrEmpty},
		{laid(of(api.Plus, of(api.Star, of(api.Any)))), 0, api.ErrEmpty},
		{laid(of(api.Plus, of(api.Plus, of(api.Any)))), 0, api.OK},
		{laid(of(api.Any), of(api.Not, of(api.Plus, of(api.Empty)))), 2, api.ErrEmpty},
		{laid(of(api.Seq, of(api.Star, call(1, 3)), of(api.Plus, call(2, 0))), of(api.Any), of(api.Empty)), 3, api.ErrEmpty},
		{laid(of(api.Seq, of(api.Star, call(1, 3)), of(api.Plus, call(2, 0))), of(api.Empty), of(api.Empty)), 1, api.ErrEmpty},
	} {
		if n, e := compile.Check(c.grammar); n != c.at || e != c.e {
			t.Error(n, e, c)
		}
	}
	// The last node but one, of as many as there may be.
	body := of(api.Seq, slices.Repeat([]part{of(api.Any)}, 63)...)
	l := slices.Repeat([]part{body}, api.MaxRules)
	l[31].kids = append(slices.Clone(body.kids[:61]), of(api.Star, of(api.Empty)))
	if n, e := compile.Check(laid(l...)); n != api.MaxNodes-2 || e != api.ErrEmpty {
		t.Error(n, e)
	}
}

// TestShape: P16.3: grammars that are not right, though some of their nodes would be idle.
func TestShape(t *testing.T) {
	star := of(api.Star, of(api.Empty))
	tower := of(api.Any)
	for range api.MaxHeight {
		tower = of(api.Not, tower)
	}
	wrong := map[string]api.Grammar{
		"empty":           {},
		"no nodes":        {Rules: []api.Rule{{Name: "A"}}},
		"no rules":        {Nodes: laid(star).Nodes},
		"33 rules":        laid(slices.Repeat([]part{star}, 33)...),
		"too high":        laid(star, tower),
		"65 kids":         laid(of(api.Seq, slices.Repeat([]part{star}, 65)...)),
		"an empty text":   laid(star, text("")),
		"a long text":     laid(star, text(rep("t", 65))),
		"an empty class":  laid(star, set()),
		"a level":         laid(star, call(0, 100)),
		"too many nodes":  laid(slices.Repeat([]part{of(api.Seq, slices.Repeat([]part{of(api.Any)}, 64)...)}, 32)...),
		"no such rule":    laid(star, call(2, 0)),
		"a rule below":    laid(star, call(math.MinInt, 0)),
		"a level below":   laid(star, call(0, math.MinInt)),
		"no Kind":         laid(of(0), star),
		"a Kind too much": laid(of(13), star),
	}
	for what, change := range map[string]func(g *api.Grammar){
		"two of a name":   func(g *api.Grammar) { g.Rules[1].Name = "A" },
		"no name":         func(g *api.Grammar) { g.Rules[1].Name = "" },
		"a name too long": func(g *api.Grammar) { g.Rules[1].Name = rep("B", 33) },
		"a body below":    func(g *api.Grammar) { g.Rules[0].Body = math.MinInt },
		"a body behind":   func(g *api.Grammar) { g.Rules[1].Body = math.MaxInt },
		"a node less":     func(g *api.Grammar) { g.Nodes = g.Nodes[:3] },
		"a node more":     func(g *api.Grammar) { g.Nodes = append(g.Nodes, api.Node{Kind: api.Empty}) },
		"its own kid":     func(g *api.Grammar) { g.Nodes[0].Kids[0] = 0 },
		"a kid of none":   func(g *api.Grammar) { g.Nodes[0].Kids[0] = math.MaxInt },
		"a kid below":     func(g *api.Grammar) { g.Nodes[2].Kids[0] = -1 },
		"no kids":         func(g *api.Grammar) { g.Nodes[2].Kids = nil },
		"a text too much": func(g *api.Grammar) { g.Nodes[3].Text = "t" },
	} {
		g := laid(star, star)
		if n, e := compile.Check(g); n != 0 || e != api.ErrEmpty {
			t.Error(n, e)
		}
		change(&g)
		wrong[what] = g
	}
	for what, g := range wrong {
		if n, e := compile.Check(g); n != 0 || e != api.ErrShape {
			t.Error(what, n, e)
		}
	}
}

// TestNothingChanged: R3, R4: a grammar that is checked is as it was, even behind its rows' ends; what is told is alike each time, and not kept.
func TestNothingChanged(t *testing.T) {
	grammar := func() api.Grammar {
		return laid(of(api.Seq, of(api.Plus, call(1, 3)), text("a")), of(api.Star, set('x')))
	}
	g := grammar()
	g.Rules = append(g.Rules, api.Rule{Name: "Z", Body: 7})[:2]
	many := len(g.Nodes)
	g.Nodes = append(g.Nodes, api.Node{Kind: api.Star, Level: 7})[:many]
	for range 2 {
		if n, e := compile.Check(g); n != 1 || e != api.ErrEmpty {
			t.Error(n, e)
		}
	}
	if !reflect.DeepEqual(g, grammar()) || g.Rules[:3][2] != (api.Rule{Name: "Z", Body: 7}) || g.Nodes[:many+1][many].Level != 7 {
		t.Error("changed: ", g)
	}
	g.Nodes[1].Kind = api.Opt
	if n, e := compile.Check(g); n != 0 || e != api.OK {
		t.Error("kept: ", n, e)
	}
	// A text that is none, ahead of one that is, leaves nothing behind.
	for range 2 {
		for _, s := range []string{`A <- ()*;`, `A <- "a" A;`, `A <- B;`, `A <- .`, ``, `A <- "";`, `B <- "b" / B:2;`} {
			holds(t, s)
		}
	}
}

// TestNewMemory: R3: what is made shares nothing with its text, nor with what was made ahead of it, and no two of its rows one with the other.
func TestNewMemory(t *testing.T) {
	s := `A <- B "text" / [x]? A:3; B <- (!"a" .)+ "a";`
	x, _ := compile.Text(s)
	y, _ := compile.Text(s)
	kept, _ := compile.Text(strings.Clone(s))
	if !reflect.DeepEqual(x, y) {
		t.Error("not alike: ", x, y)
	}
	in := func(part string) bool {
		first, at := uintptr(unsafe.Pointer(unsafe.StringData(s))), uintptr(unsafe.Pointer(unsafe.StringData(part)))
		return part != "" && first <= at && at < first+uintptr(len(s))
	}
	for _, r := range x.Grammar.Rules {
		if in(r.Name) {
			t.Error("of the text: ", r.Name)
		}
	}
	for n := range x.Grammar.Nodes {
		if in(x.Grammar.Nodes[n].Text) {
			t.Error("of the text: ", n)
		}
		row := x.Grammar.Nodes[n].Kids
		clear(row[:cap(row)])
		if !reflect.DeepEqual(x.Nodes, y.Nodes) || !reflect.DeepEqual(x.Rules, y.Rules) {
			t.Error("shared by rows: ", n)
		}
	}
	clear(x.Rules[:cap(x.Rules)])
	if !slices.Equal(x.Nodes, y.Nodes) {
		t.Error("places shared")
	}
	clear(x.Nodes[:cap(x.Nodes)])
	clear(x.Grammar.Rules[:cap(x.Grammar.Rules)])
	clear(x.Grammar.Nodes[:cap(x.Grammar.Nodes)])
	if !reflect.DeepEqual(y, kept) {
		t.Error("shared: ", y, kept)
	}
	// A text that is tidy already comes back as another one.
	tidy, _ := compile.Tidy(s)
	again, _ := compile.Tidy(tidy)
	if tidy != again || unsafe.StringData(tidy) == unsafe.StringData(again) {
		t.Error("the same memory")
	}
}
