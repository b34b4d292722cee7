package front_test

import (
	"fmt"
	"math/rand"
	"slices"
	"strconv"
	"strings"
)

// grower makes right trees by chance.
type grower struct {
	r      *rand.Rand
	t      *tree
	fn     *fnOf
	seen   []*pair // the variables that are seen
	number int     // of names so far
}

func (g *grower) fresh(letter string) string {
	g.number++
	return letter + strconv.Itoa(g.number)
}

// kind: a type; a record's name alone too, if it may be one.
func (g *grower) kind(target bool) string {
	bases := []string{"int", "int", "int"}
	for _, r := range g.t.records() {
		bases = append(bases, "*"+r.name, "*"+r.name)
		if target {
			bases = append(bases, r.name)
		}
	}
	k := pick(g.r, bases...)
	for g.r.Intn(4) == 0 {
		k = "*" + k
	}
	return k
}

func (g *grower) pairs(letter string, most int) []*pair {
	var l []*pair
	for range g.r.Intn(most + 1) {
		p := &pair{kind: g.kind(false)}
		if letter != "" {
			p.name = g.fresh(letter)
		}
		l = append(l, p)
	}
	return l
}

// anyTree: a right one, whose functions keep the bounds.
func anyTree(r *rand.Rand) *tree {
	g := &grower{r: r, t: &tree{}}
	for range r.Intn(4) {
		g.t.all = append(g.t.all, &recordOf{name: g.fresh("r")})
	}
	for _, d := range g.t.records() {
		d.fields = g.pairs("f", 3)
		if r.Intn(2) == 0 {
			d.fields = append(d.fields, &pair{name: "next", kind: "*" + d.name}, &pair{name: "v", kind: "int"})
		}
	}
	for range r.Intn(4) {
		g.t.all = append(g.t.all, &globalOf{pair{name: g.fresh("g"), kind: g.kind(false)}})
	}
	for i := range 1 + r.Intn(4) {
		f := &fnOf{name: g.fresh("h"), params: g.pairs("a", 3), results: g.pairs("", 2)}
		for _, p := range f.params {
			if i == 0 || r.Intn(2) == 0 {
				p.kind = "int"
			}
		}
		if len(f.results) == 0 && r.Intn(2) == 0 {
			f.results = []*pair{{kind: "int"}}
		}
		g.t.all = append(g.t.all, f)
	}
	for _, f := range g.t.fns() {
		g.fn = f
		for {
			g.seen = slices.Clone(f.params)
			f.body = g.block(2+r.Intn(6), 3)
			if w := (&writer{}); len(f.body) > 0 {
				w.fn(f)
			}
			if f.tokens <= 400 {
				break
			}
		}
	}
	// The first function stays the first, whatever stands between.
	var heads []any
	for _, d := range g.t.all {
		at := r.Intn(len(heads) + 1)
		if _, is := d.(*fnOf); is {
			at = len(heads)
		}
		heads = slices.Insert(heads, at, d)
	}
	for range r.Intn(3) {
		at := r.Intn(len(heads))
		if _, is := heads[at].(*fnOf); !is {
			d := heads[at]
			heads = append(slices.Delete(heads, at, at+1), d)
		}
	}
	g.t.all = heads
	return g.t
}

func (g *grower) block(many, deep int) []*stmt {
	seen := len(g.seen)
	var l []*stmt
	for range many {
		l = append(l, g.stmt(deep)...)
	}
	g.seen = g.seen[:seen]
	return l
}

func (g *grower) variable(kind string, value *expr) *stmt {
	s := &stmt{op: "var", word: g.fresh("x"), kind: kind, sub: []*expr{value}}
	g.seen = append(g.seen, &pair{name: s.word, kind: kind})
	return s
}

// places: names of variables and globals of a type (of any, if it is empty).
func (g *grower) places(kind string, globals bool) []*pair {
	var l []*pair
	for _, v := range g.seen {
		if kind == "" || v.kind == kind {
			l = append(l, v)
		}
	}
	for _, x := range g.t.globals() {
		if globals && (kind == "" || x.kind == kind) {
			l = append(l, &x.pair)
		}
	}
	return l
}

func (g *grower) stmt(deep int) []*stmt {
	r := g.r
	switch r.Intn(18) {
	case 0, 1, 2, 3:
		k := g.kind(false)
		return []*stmt{g.variable(k, g.expr(k, 3))}
	case 4, 5, 6:
		k := pick(r, "int", "int", g.kind(false))
		return []*stmt{{op: "print", sub: []*expr{g.expr(k, 3)}}}
	case 7:
		if r.Intn(3) == 0 {
			return []*stmt{g.giveBack()}
		}
	case 8:
		if deep > 0 {
			s := &stmt{op: "if", sub: []*expr{g.expr(pick(r, "int", "int", g.kind(false)), 2)}, then: g.block(r.Intn(3), deep-1)}
			if r.Intn(2) == 0 {
				s.hasOther, s.other = true, g.block(r.Intn(3), deep-1)
			}
			return []*stmt{s}
		}
	case 9:
		if deep > 0 {
			return g.loop(deep)
		}
	case 10, 11:
		if c := g.call("", 2); c != nil {
			return []*stmt{g.callStmt(c)}
		}
	case 12, 13:
		if l := g.places("", true); len(l) > 0 {
			p := pick(r, l...)
			return []*stmt{{op: "name", word: p.name, sub: []*expr{g.expr(p.kind, 3)}}}
		}
	case 14, 15:
		if f := g.fieldOf("", 2); f != nil {
			k := g.kindOfField(f)
			return []*stmt{{op: ".", word: f.word, sub: []*expr{f.sub[0], g.expr(k, 2)}}}
		}
	default:
		k := g.kind(false)
		return []*stmt{{op: "*", sub: []*expr{g.expr("*"+k, 2), g.expr(k, 2)}}}
	}
	return nil
}

func (g *grower) giveBack() *stmt {
	s := &stmt{op: "return"}
	for _, x := range g.fn.results {
		s.sub = append(s.sub, g.expr(x.kind, 2))
	}
	return s
}

// loop: for the most part one that counts down.
func (g *grower) loop(deep int) []*stmt {
	if g.r.Intn(5) == 0 {
		return []*stmt{{op: "while", sub: []*expr{g.expr(g.kind(false), 2)}, then: g.block(g.r.Intn(3), deep-1)}}
	}
	v := g.variable("int", num(1+g.r.Intn(3)))
	body := g.block(g.r.Intn(3), deep-1)
	down := &stmt{op: "name", word: v.word, sub: []*expr{{op: "+", sub: []*expr{{op: "name", word: v.word}, num(-1)}}}}
	at := g.r.Intn(len(body) + 1)
	return []*stmt{v, {op: "while", sub: []*expr{{op: "name", word: v.word}}, then: slices.Insert(body, at, down)}}
}

func num(n int) *expr { return &expr{op: "number", word: strconv.Itoa(n)} }

// callStmt: a call as a statement, or several names that are set to it.
func (g *grower) callStmt(c *expr) *stmt {
	f := (&asker{t: g.t}).called(c.word)
	s := &stmt{op: "several", sub: []*expr{c}}
	for _, x := range f.results {
		if l := g.places(x.kind, true); len(l) > 0 {
			s.names = append(s.names, pick(g.r, l...).name)
		}
	}
	if len(s.names) < 2 || len(s.names) < len(f.results) {
		return &stmt{op: "call", sub: s.sub}
	}
	return s
}

// call: of a function whose one result has that type; of any function, if there is none.
func (g *grower) call(kind string, deep int) *expr {
	var l []*fnOf
	for _, f := range g.t.fns() {
		if kind == "" || len(f.results) == 1 && f.results[0].kind == kind {
			l = append(l, f)
		}
	}
	if len(l) == 0 {
		return nil
	}
	f := pick(g.r, l...)
	c := &expr{op: "call", word: f.name}
	for _, p := range f.params {
		c.sub = append(c.sub, g.expr(p.kind, deep-1))
	}
	return c
}

// fieldOf: a field of that type (of any, if it is empty).
func (g *grower) fieldOf(kind string, deep int) *expr {
	var l []*expr
	for _, r := range g.t.records() {
		for _, f := range r.fields {
			if kind == "" || f.kind == kind {
				l = append(l, &expr{op: ".", word: f.name, sub: []*expr{{word: r.name}}})
			}
		}
	}
	if len(l) == 0 {
		return nil
	}
	e := pick(g.r, l...)
	e.sub[0] = g.expr("*"+e.sub[0].word, deep-1)
	return e
}

// kindOfField: names of fields are their own, but for the two that many have.
func (g *grower) kindOfField(e *expr) string {
	for _, r := range g.t.records() {
		for _, f := range r.fields {
			if f.name == e.word && f.name != "next" {
				return f.kind
			}
		}
	}
	a := &asker{t: g.t}
	a.seen = []map[string]string{{}}
	for _, v := range g.seen {
		a.seen[0][v.name] = v.kind
	}
	return a.expr(e.sub[0])
}

// expr: of a type; where it may be no deeper, something short.
func (g *grower) expr(kind string, deep int) *expr {
	if deep <= 0 {
		return g.short(kind)
	}
	r := g.r
	switch r.Intn(12) {
	case 0, 1:
		if e := g.call(kind, deep); e != nil {
			return e
		}
	case 2, 3:
		if e := g.fieldOf(kind, deep); e != nil {
			return e
		}
	case 4:
		if strings.Count(kind, "*") < 3 {
			return &expr{op: "*", sub: []*expr{g.expr("*"+kind, deep-1)}}
		}
	case 5, 6, 7, 8:
		if kind == "int" {
			of := "int"
			op := pick(r, "+", "+", "<", "==")
			if op == "==" {
				of = pick(r, "int", g.kind(false))
			}
			return &expr{op: op, sub: []*expr{g.expr(of, deep-1), g.expr(of, deep-1)}}
		}
	}
	return g.short(kind)
}

func (g *grower) short(kind string) *expr {
	r := g.r
	if l := g.places(kind, true); len(l) > 0 && r.Intn(4) > 0 {
		return &expr{op: "name", word: pick(r, l...).name}
	}
	if kind == "int" {
		return num(pick(r, 0, 1, 2, -1, 3, 7, 100, -100, 1<<63-1, -1<<63))
	}
	if l := g.places(kind[1:], false); len(l) > 0 && r.Intn(2) == 0 {
		return &expr{op: "&", word: pick(r, l...).name}
	}
	if r.Intn(8) == 0 {
		return &expr{op: "null", word: kind}
	}
	return &expr{op: "new", word: kind[1:]}
}

// anyArgs: as many ints as the first function takes.
func anyArgs(r *rand.Rand, t *tree) []int {
	var l []int
	for range t.fns()[0].params {
		l = append(l, pick(r, 0, 1, 2, 3, -1, 1<<63-1, -1<<63, r.Int()))
	}
	return l
}

// exprsOf: all expressions of a tree.
func exprsOf(t *tree) []*expr {
	var l []*expr
	var walk func([]*expr)
	walk = func(es []*expr) {
		for _, e := range es {
			l = append(l, e)
			walk(e.sub)
		}
	}
	for _, s := range stmtsOf(t) {
		walk(s.sub)
	}
	return l
}

func stmtsOf(t *tree) []*stmt {
	var l []*stmt
	var walk func([]*stmt)
	walk = func(ss []*stmt) {
		for _, s := range ss {
			l = append(l, s)
			walk(s.then)
			walk(s.other)
		}
	}
	for _, f := range t.fns() {
		walk(f.body)
	}
	return l
}

func pairsOf(t *tree) []*pair {
	var l []*pair
	for _, r := range t.records() {
		l = append(l, r.fields...)
	}
	for _, g := range t.globals() {
		l = append(l, &g.pair)
	}
	for _, f := range t.fns() {
		l = append(l, f.params...)
		l = append(l, f.results...)
	}
	return l
}

// names: all names that a tree has, and some that it has not.
func namesOf(t *tree) []string {
	l := []string{"nosuch", "next", "v"}
	for _, r := range t.records() {
		l = append(l, r.name)
	}
	for _, f := range t.fns() {
		l = append(l, f.name, f.name)
	}
	for _, p := range pairsOf(t) {
		if p.name != "" {
			l = append(l, p.name, p.name)
		}
	}
	for _, s := range stmtsOf(t) {
		if s.op == "var" {
			l = append(l, s.word, s.word, s.word)
		}
	}
	return l
}

// spoil changes one thing of a tree, which may leave it right.
func spoil(r *rand.Rand, t *tree) {
	names := namesOf(t)
	kinds := []string{"int", "*int", "**int", "*nosuch"}
	for _, d := range t.records() {
		kinds = append(kinds, "*"+d.name, "**"+d.name)
	}
	es, ss, ps := exprsOf(t), stmtsOf(t), pairsOf(t)
	switch r.Intn(14) {
	case 0, 1, 2:
		if len(es) > 0 {
			e := pick(r, es...)
			switch e.op {
			case "name", "&", ".", "call":
				e.word = pick(r, names...)
			case "new", "null":
				e.word = pick(r, kinds...)
			case "number":
				*e = expr{op: "name", word: pick(r, names...)}
			default:
				e.sub[r.Intn(len(e.sub))] = &expr{op: "name", word: pick(r, names...)}
			}
		}
	case 3, 4:
		if len(es) > 0 {
			a, b := pick(r, es...), pick(r, es...)
			if !within(a, b) && !within(b, a) && a.op != "call" && b.op != "call" {
				*a, *b = *b, *a
			}
		}
	case 5:
		if len(es) > 0 {
			if e := pick(r, es...); e.op == "call" {
				if at := r.Intn(len(e.sub) + 1); at < len(e.sub) && r.Intn(2) == 0 {
					e.sub = slices.Delete(slices.Clone(e.sub), at, at+1)
				} else {
					e.sub = slices.Insert(slices.Clone(e.sub), at, &expr{op: "name", word: pick(r, names...)})
				}
			} else {
				was := *e
				*e = expr{op: pick(r, "*", "."), word: "v", sub: []*expr{&was}}
			}
		}
	case 6, 7, 8:
		if len(ss) > 0 {
			spoilStmt(r, pick(r, ss...), names, kinds)
		}
	case 9:
		if len(ps) > 0 {
			pick(r, ps...).kind = pick(r, kinds...)
		}
	case 10:
		if p := pick(r, append(ps, &pair{})...); p.name != "" {
			p.name = pick(r, names...)
		}
	case 11:
		switch d := pick(r, t.all...).(type) {
		case *recordOf:
			d.name = pick(r, names...)
		case *fnOf:
			d.name = pick(r, names...)
		}
	case 12:
		a, b := r.Intn(len(t.all)), r.Intn(len(t.all))
		t.all[a], t.all[b] = t.all[b], t.all[a]
	default:
		if len(ss) > 1 {
			a, b := pick(r, ss...), pick(r, ss...)
			if len(a.then)+len(a.other)+len(b.then)+len(b.other) == 0 && a.op != "while" && b.op != "while" {
				*a, *b = *b, *a
			}
		}
	}
}

func spoilStmt(r *rand.Rand, s *stmt, names, kinds []string) {
	switch s.op {
	case "var":
		if r.Intn(2) == 0 {
			s.word = pick(r, names...)
		} else {
			s.kind = pick(r, kinds...)
		}
	case "return":
		if at := r.Intn(len(s.sub) + 1); at < len(s.sub) && r.Intn(2) == 0 {
			s.sub = slices.Delete(slices.Clone(s.sub), at, at+1)
		} else {
			s.sub = slices.Insert(slices.Clone(s.sub), at, &expr{op: "name", word: pick(r, names...)})
		}
	case "several":
		if at := r.Intn(len(s.names)); len(s.names) > 2 && r.Intn(2) == 0 {
			s.names = slices.Delete(slices.Clone(s.names), at, at+1)
		} else {
			s.names[at] = pick(r, names...)
		}
	case "name", ".":
		s.word = pick(r, names...)
	case "call":
		if r.Intn(2) == 0 {
			s.op, s.names = "several", []string{pick(r, names...), pick(r, names...)}
		}
	}
}

func within(a, b *expr) bool {
	return a == b || slices.ContainsFunc(b.sub, func(e *expr) bool { return within(a, e) })
}

// show: a source with the numbers of its lines, for what a test tells.
func show(src string) string {
	var b strings.Builder
	for i, l := range strings.Split(src, "\n") {
		fmt.Fprintf(&b, "%d %s  ", i+1, l)
	}
	return b.String()
}
