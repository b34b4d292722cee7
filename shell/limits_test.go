package shell_test

import (
	"fmt"
	"math/rand"
	"runtime/debug"
	"slices"
	"strconv"
	"strings"
	"testing"

	"fugue/api"
	"fugue/shell"
)

// linked: a program of as many functions as there may be, each of which hands what it is given on to the next one; the last is that one.
func linked(last string) string {
	var b strings.Builder
	b.WriteString("globals 1\n")
	for n := range api.MaxFuncs - 1 {
		b.WriteString(fn(1, 1, 2, fmt.Sprintf("v1 = f%d(v0);return v1", n+1)))
	}
	return b.String() + last
}

// perFunction: a line for each function, in rising order, with its number in the place of %d.
func perFunction(line string) []string {
	var l []string
	for n := range api.MaxFuncs {
		l = append(l, strings.ReplaceAll(line, "%d", strconv.Itoa(n)))
	}
	return l
}

// The longest chain that may be, that becomes a ring and a chain again, in a stack too small for a call each.
func TestTheLongestChain(t *testing.T) {
	defer debug.SetMaxStack(debug.SetMaxStack(1 << 20))
	keeps, stores, ring := linked(fn(1, 1, 1, "return v0")), linked(fn(1, 1, 1, "g0 = v0;return v0")), linked(fn(1, 1, 2, "v1 = f0(v0);return v1"))
	parts := []string{program(keeps), "sums\n", "heap\n", "run 200000 5\n", "run 65536 5\n", change(keeps), change(stores), "sums\n", "run 200000 nil\n", change(ring), "sums\n", "run 70000 1\n", "show\n", change(stores), "bytes\n"}
	sums := func(of string) string { return lines(perFunction("%d: " + of)...) }
	solved := perFunction("solved %d")
	slices.Reverse(solved)
	once := "solved " + strings.Join(perFunction("%d"), " ")
	want := []string{"ok 65535\n", sums("-,0"), "none\n", "done 131069 5\n", "fuel 65536\n", "ok 65535\n", "ok 65535\n" + lines(solved...), sums("0,0"), "done 131070 nil\n",
		"ok 65535\n" + once + "\n", sums("-,-"), "fuel 70000\n", printed(read(t, ring)), "ok 65535\n" + lines(solved...)}
	got, all := shell.Run(strings.Join(parts, "")), strings.Join(want, "")
	if len(got) < len(all) || got[:len(all)] != all {
		t.Fatalf("P24.2: the longest chain: %s", unlike(got, all))
	}
	if bytes := got[len(all):]; !strings.HasPrefix(bytes, "66756775650101ffff") || strings.Count(bytes, "\n") != 1 {
		t.Errorf("P24.2: the longest chain's bytes: %s", cut(bytes))
	}
	answers(t, "P24.2: a function too many", program(stores+nothing)+"sums\n", "error 20 0\nerror 1\n")
}

func TestTheLongestChainAnalyzed(t *testing.T) {
	defer debug.SetMaxStack(debug.SetMaxStack(1 << 20))
	got := strings.Split(shell.Run(program(linked(fn(1, 1, 2, "v1 = &v0;g0 = v1;return v0")))+"heap\nanalyze 3 1 -1 2\nwhy 65534 var 0\ninline 0 0 65533 0\nheap\ninline 65533 0\n"), "\n")
	if len(got) < 7 || got[0] != "ok 65535" || got[1] != "65534 var 0" || !strings.HasPrefix(got[2], "steps ") || !strings.HasPrefix(got[3], "666701ffff01") || len(got[3]) != 2*(5+api.MaxFuncs*(5+2+1)) {
		t.Fatalf("P24.2: the longest chain: %s", cut(strings.Join(got, "\n")))
	}
	if end := got[len(got)-5:]; end[0] != "f65534: var 0 -> heap (-1) code 0" || end[1] != "error 160" || end[2] != "65534 var 0" || end[3] != "error 160" {
		t.Errorf("P24.2: the longest chain ends with %q", end)
	}
}

// As many locations as there may be, and one more: by text, by bytes and by a change.
func TestLocations(t *testing.T) {
	full := func(more int) string {
		var b strings.Builder
		b.WriteString("globals 0\n")
		for range (api.MaxLocs - 1) / api.MaxVars {
			b.WriteString("func params 0 results 0 vars 255\nreturn\n")
		}
		return b.String() + fn(0, 0, (api.MaxLocs-1)%api.MaxVars+more, "return")
	}
	answers(t, "P24.2: as many locations as there may be", program(full(0))+"heap\n", "ok 4113\nnone\n")
	answers(t, "P24.2: a location too many", program(full(1))+"heap\n", "error 21 0\nerror 1\n")
	answers(t, "P24.2: a change to a location too many", program(full(0))+change(full(1))+change(full(-1))+change(full(0))+"heap\n", "ok 4113\nerror 21 0\nok 4113\nsolved 4112\nok 4113\nsolved 4112\nnone\n")
	got := shell.Run(program(full(0)) + "bytes\n")
	_, word, _ := strings.Cut(strings.TrimSuffix(got, "\n"), "\n")
	at := 9 + 5*4112
	if len(word) != 2*(9+4113*7) {
		t.Fatalf("P24.2: bytes of as many locations as there may be: %d digits", len(word))
	}
	answers(t, "P24.2: bytes of as many locations as there may be", "load "+word+"\nheap\n", "ok 4113\nnone\n")
	more := word[:2*at+4] + fmt.Sprintf("%02x", (api.MaxLocs-1)%api.MaxVars+1) + word[2*at+6:]
	answers(t, "P24.2: bytes of a location too many", "load "+more+"\nheap\n", fmt.Sprintf("error 21 %d\nerror 1\n", at))
}

// What inline would make of a program beyond the limits is no plan.
func TestInlineBeyondTheLimits(t *testing.T) {
	wide := of(0, fn(0, 0, 127, "f1();f1();return"), fn(0, 0, 128, "return"))
	answers(t, "P24.2: as many variables as there may be, and more", program(wide)+"inline 0 0 0 1\ninline 0 0\ninline 0 130\nrun 1\n", "ok 2\nerror 160\nok 2\nerror 160\nfuel 1\n")
}

func TestManyLines(t *testing.T) {
	const many = 200000
	answers(t, "P24.2: many lines without a program", strings.Repeat("show\n", many), strings.Repeat("error 1\n", many))
	answers(t, "P24.2: many lines without form", strings.Repeat("Show\n", many), strings.Repeat("error 240\n", many))
	answers(t, "P24.2: many lines without words", strings.Repeat(" \n", many)+"x", "error 240\n")
	answers(t, "P24.2: many lines", program(keeps)+strings.Repeat("heap\n", many), "ok 1\n"+strings.Repeat("none\n", many))
	answers(t, "P24.2: many texts", strings.Repeat(program(keeps), many/10), strings.Repeat("ok 1\n", many/10))
	answers(t, "P24.2: many texts, the last without end", strings.Repeat("program\nend\n", many)+"program\n"+strings.Repeat("x\n", many), strings.Repeat("error 25 1\n", many)+"error 240\n")
	answers(t, "P24.2: a text of many lines", "program\n"+strings.Repeat("\n# show\n", many)+keeps+strings.Repeat(" \n", many)+"end\nsums", "ok 1\n0: -,0\n")
}

func TestLongLines(t *testing.T) {
	const many = 300000
	answers(t, "P24.2: long lines", program(keeps)+"run 5"+strings.Repeat(" nil", many)+"\ninline"+strings.Repeat(" 0 0", many)+"\ninline 0"+strings.Repeat(" 0 0", many)+"\nload "+strings.Repeat("0", many)+"\nload 0"+strings.Repeat("0", many)+"\nsums"+strings.Repeat(" ", many)+"\n"+strings.Repeat("\t", many)+"heap\n"+strings.Repeat("x", many)+"\n"+strings.Repeat("9 ", many)+"\nanalyze 1"+strings.Repeat(" -9", many)+"\n",
		"ok 1\nerror 1\nerror 160\nerror 240\nerror 10 0\nerror 240\n0: -,0\nnone\nerror 240\nerror 240\nsteps 6\n66670101000101010000090000\n")
	if e := shell.Check("run 5 " + strings.Repeat("9", many)); e != api.ErrLine {
		t.Errorf("P24.1: a word of many digits: %d", e)
	}
}

// Any bytes at all, most of which are those of lines.
func TestAnyBytes(t *testing.T) {
	words := []string{"program", "change", "load", "show", "end", "heap", "sums", "run", "inline", "why", "analyze", "var", "new", "nil", "0", "1", "-3", "66", "globals 0", "func params 0 results 0 vars 1", "return", "v0 = null", " ", " ", " ", "\n", "\n", "\n", "\n", "\t", "\r", "#", "\x00", "\xff", "é", "program\nglobals 0\nfunc params 1 results 1 vars 1\nreturn v0\nend\n"}
	for seed := range 20000 {
		r := rand.New(rand.NewSource(int64(seed)))
		var b strings.Builder
		for range r.Intn(30) {
			b.WriteString(words[r.Intn(len(words))])
		}
		script := b.String()
		if want, got := plainRun(script), shell.Run(script); got != want {
			t.Fatalf("P24.2: Run of %q:\n%s", script, unlike(got, want))
		}
		if !strings.Contains(script, "\n") {
			agrees(t, script)
		}
	}
}
