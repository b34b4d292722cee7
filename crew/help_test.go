package crew_test

import (
	"fmt"
	"math"
	"math/big"
	"math/rand"
	"slices"
	"strconv"
	"strings"
	"sync"
	"testing"
	"time"

	"fugue/api"
	"fugue/crew"
	"fugue/text"
	"fugue/whole"
)

const none = api.None

// edges: numbers of a script at the ends of the numbers and about few workers' number.
var edges = []int{math.MinInt, math.MinInt + 1, math.MinInt + 2, math.MinInt + 5, -1 << 32, -1<<32 + 1, -13, -7, -6, -5, -4, -3, -2, -1, 0, 1, 2, 3, 4, 5, 6, 7, 12, 1 << 32, 1<<32 + 1, math.MaxInt - 3, math.MaxInt - 1, math.MaxInt}

// crews: numbers of workers.
var crews = []int{1, 2, 3, 4, 5, 7, 8, 13, 63, 64}

// anyScript: small numbers for the most part, now and then one of the edges.
func anyScript(r *rand.Rand, most int) []int {
	l := make([]int, r.Intn(most+1))
	for i := range l {
		l[i] = r.Intn(21) - 8
		if r.Intn(6) == 0 {
			l[i] = edges[r.Intn(len(edges))]
		}
	}
	return l
}

// times: so many of the same number, and others behind them.
func times(many, k int, behind ...int) []int {
	return append(slices.Repeat([]int{k}, many), behind...)
}

func plainMod(k, n int) int {
	return int(new(big.Int).Mod(big.NewInt(int64(k)), big.NewInt(int64(n))).Int64())
}

// calling: functions without anything but calls, each of those of its list.
func calling(lists ...[]int) api.Program {
	var p api.Program
	for _, l := range lists {
		var f api.Func
		for _, g := range l {
			f.Code = append(f.Code, api.Instr{Op: api.Call, N: g})
		}
		f.Code = append(f.Code, api.Instr{Op: api.Return})
		p.Funcs = append(p.Funcs, f)
	}
	return p
}

// leaves: so many functions that call nobody.
func leaves(many int) api.Program { return calling(make([][]int, many)...) }

// fn: a function as text, its lines parted by semicolons.
func fn(params, results, vars int, lines string) string {
	return fmt.Sprintf("func params %d results %d vars %d\n", params, results, vars) + strings.ReplaceAll(lines, ";", "\n") + "\n"
}

// of: the program of these functions, with two globals.
func of(t *testing.T, funcs ...string) api.Program {
	t.Helper()
	lines := "globals 2\n" + strings.Join(funcs, "")
	p, e, line := text.Parse(lines)
	if e != api.OK {
		t.Fatalf("no program: error %d at line %d of\n%s", e, line, lines)
	}
	return p
}

func sum(heap []int, result ...[]int) api.Summary { return api.Summary{Heap: heap, Result: result} }

// one: of a function with one parameter and one result.
func one(heap, result int) api.Summary { return sum([]int{heap}, []int{result}) }

func alikeSum(a, b api.Summary) bool {
	return slices.Equal(a.Heap, b.Heap) && slices.EqualFunc(a.Result, b.Result, slices.Equal)
}

func alikeSums(a, b []api.Summary) bool { return slices.EqualFunc(a, b, alikeSum) }

// least: the summaries that whole.Solve tells.
func least(t *testing.T, p api.Program) []api.Summary {
	t.Helper()
	r, e := whole.Solve(p)
	if e != api.OK {
		t.Fatalf("no program: error %d", e)
	}
	return r.Sums
}

// kinds: as the chapter names them.
func kinds() []string {
	return []string{api.Pop: "Pop", api.Steal: "Steal", api.Look: "Look", api.Pass: "Pass", api.Publish: "Publish", api.Lower: "Lower", api.Finish: "Finish", api.Exit: "Exit", api.Idle: "Idle"}
}

// tell: events as the chapter's examples write them: worker Kind task, Other, N and Changed where they are not zero.
func tell(events []api.Event) string {
	var l []string
	for _, e := range events {
		s := fmt.Sprintf("%d %s %d", e.Worker, kinds()[e.Kind], e.Task)
		if e.Other != 0 {
			s += fmt.Sprintf(" Other %d", e.Other)
		}
		if e.N != 0 {
			s += fmt.Sprintf(" N %d", e.N)
		}
		if e.Changed {
			s += " Changed"
		}
		l = append(l, s)
	}
	return strings.Join(l, "; ")
}

// read: tell turned round; Other 0 and N 0 may be named too.
func read(t *testing.T, told string) []api.Event {
	t.Helper()
	var l []api.Event
	number := func(s string) int {
		n, err := strconv.Atoi(s)
		if err != nil {
			t.Fatalf("no number: %q", s)
		}
		return n
	}
	for s := range strings.SplitSeq(told, ";") {
		w := strings.Fields(s)
		e := api.Event{Worker: number(w[0]), Kind: slices.Index(kinds(), w[1]), Task: number(w[2])}
		if e.Kind < 1 {
			t.Fatalf("no kind: %q", s)
		}
		for w = w[3:]; len(w) > 0; w = w[1:] {
			switch w[0] {
			case "Other":
				e.Other, w = number(w[1]), w[1:]
			case "N":
				e.N, w = number(w[1]), w[1:]
			case "Changed":
				e.Changed = true
			default:
				t.Fatalf("no event: %q", s)
			}
		}
		l = append(l, e)
	}
	return l
}

// does: these are the events under the script.
func does(t *testing.T, what string, p api.Program, workers int, script []int, want string) {
	t.Helper()
	l, h, e := crew.Scripted(p, workers, script...)
	if e != api.OK || !slices.Equal(h, read(t, want)) {
		t.Errorf("P14.1: %s, %d workers, script %v: error %d, events\n%s\nwant\n%s", what, workers, script, e, tell(h), want)
	}
	if !alikeSums(l, least(t, p)) {
		t.Errorf("P14.1: %s, %d workers, script %v: %v, want %v", what, workers, script, l, least(t, p))
	}
}

// within: it must end.
func within(t *testing.T, do func()) {
	t.Helper()
	over := make(chan bool)
	go func() {
		defer close(over)
		do()
	}()
	select {
	case <-over:
	case <-time.After(4 * time.Minute):
		t.Fatal("W5: it waits for ever")
	}
}

// together: so many goroutines, begun at one time; all must end.
func together(t *testing.T, many int, do func(g int)) {
	t.Helper()
	within(t, func() {
		var all sync.WaitGroup
		start := make(chan bool)
		for g := range many {
			all.Go(func() {
				<-start
				do(g)
			})
		}
		close(start)
		all.Wait()
	})
}

// some: so many of the numbers below n.
func some(r *rand.Rand, many, n int) []int {
	var l []int
	for range many {
		l = append(l, r.Intn(n))
	}
	return l
}

func ret(args ...int) api.Instr { return api.Instr{Op: api.Return, Args: args} }

func call(n int, args, rets []int) api.Instr {
	return api.Instr{Op: api.Call, N: n, Args: args, Rets: rets}
}

// anyInstr: one that has edges, most often, and may stand in a function of the program, whose heads are there; it calls those that a function names.
func anyInstr(r *rand.Rand, p api.Program, f api.Func, length int, callee func() int) api.Instr {
	v := func() int { return r.Intn(f.Vars) }
	ops := []int{api.Copy, api.Copy, api.Addr, api.Addr, api.New, api.Load, api.Load, api.Store, api.Set, api.Call, api.Call, api.Call, api.Return, api.If, api.Add, api.Get}
	op := ops[r.Intn(len(ops))]
	switch op {
	case api.Copy, api.Addr:
		return api.Instr{Op: op, R: v(), S: v()}
	case api.New:
		return api.Instr{Op: op, R: v(), N: 1 + r.Intn(api.MaxFields)}
	case api.Load, api.Store:
		return api.Instr{Op: op, R: v(), S: v(), N: r.Intn(api.MaxFields)}
	case api.Set:
		return api.Instr{Op: op, S: v(), N: r.Intn(p.Globals)}
	case api.Get:
		return api.Instr{Op: op, R: v(), N: r.Intn(p.Globals)}
	case api.Call:
		n := callee()
		g := p.Funcs[n]
		return call(n, some(r, g.Params, f.Vars), some(r, g.Results, f.Vars))
	case api.If:
		return api.Instr{Op: op, S: v(), N: r.Intn(length)}
	case api.Add:
		return api.Instr{Op: op, R: v(), S: v(), T: v()}
	}
	return ret(some(r, f.Results, f.Vars)...)
}

// anyProgram: of at most so many functions, each with at most so much code. Who calls whom: anybody; those above alone, so that no ring is there; or those near by, so that there are small rings.
func anyProgram(r *rand.Rand, funcs, code int) api.Program {
	p := api.Program{Globals: 1 + r.Intn(api.MaxGlobals)}
	n := 1 + r.Intn(funcs)
	for range n {
		vars := 1 + r.Intn(6)
		p.Funcs = append(p.Funcs, api.Func{Params: r.Intn(min(vars, 3) + 1), Results: r.Intn(3), Vars: vars})
	}
	as, way := r.Perm(n), r.Intn(3)
	for i, f := range p.Funcs {
		callee := func() int {
			switch way {
			case 0:
				return r.Intn(n)
			case 1:
				return as[min(n-1, slices.Index(as, i)+r.Intn(3))]
			}
			return as[min(n-1, slices.Index(as, i)/3*3+r.Intn(5))]
		}
		length := 1 + r.Intn(code)
		for range length - 1 {
			p.Funcs[i].Code = append(p.Funcs[i].Code, anyInstr(r, p, f, length, callee))
		}
		p.Funcs[i].Code = append(p.Funcs[i].Code, ret(some(r, f.Results, f.Vars)...))
	}
	return p
}
