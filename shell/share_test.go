package shell_test

import (
	"math/rand"
	"slices"
	"strings"
	"sync"
	"testing"

	"fugue/shell"
)

// each: what each part of a script (whole lines, no text cut) tells. So long as a part comes, the answers so far stay as they were.
func each(t *testing.T, parts []string) []string {
	t.Helper()
	var script, told string
	var l []string
	for _, part := range parts {
		script += part
		next := shell.Run(script)
		more, is := strings.CutPrefix(next, told)
		if !is {
			t.Fatalf("P24.3: the answers of a script's beginning are no beginning of its answers: Run of\n%s\n%s", cut(script), unlike(next, told))
		}
		if told != "" && !strings.HasSuffix(told, "\n") {
			t.Fatalf("P24.2: the answers end without a byte 10: Run of\n%s\n%s", cut(script), cut(told))
		}
		l, told = append(l, more), next
	}
	return l
}

func TestBeginnings(t *testing.T) {
	for seed := range 150 {
		r := rand.New(rand.NewSource(int64(1000 + seed)))
		parts := anyScript(r, 1+r.Intn(20))
		if r.Intn(3) == 0 {
			parts = append(parts, pick(r, "change", "program\nglobals 0\nshow", "heap", "change\nsums\n", "x"))
		}
		for n, told := range each(t, parts) {
			if strings.Trim(parts[n], blanks) != "" && told == "" {
				t.Fatalf("P24.2: seed %d: nothing is told of\n%s", seed, parts[n])
			}
		}
	}
}

const blanks = " \t\n"

// only: does a line ask, and do nothing else?
func only(part string) bool {
	word, _, _ := strings.Cut(strings.Trim(part, blanks), " ")
	return slices.Contains([]string{"", "show", "bytes", "analyze", "heap", "sums", "run", "why"}, word) || strings.Count(part, "\n") == 1 && shell.Check(strings.TrimSuffix(part, "\n")) != 0
}

// What only asks changes no other answer, whatever is asked and however often.
func TestAskingChangesNothing(t *testing.T) {
	some := 0
	for seed := range 100 {
		r := rand.New(rand.NewSource(int64(2000 + seed)))
		parts := anyScript(r, 1+r.Intn(15))
		told := each(t, parts)
		var without, toldWithout, with, toldWith []string
		asked := strings.Join(asking[:12], "\n") + "\nwhy 0 var 0\nwhy 0 new 0\nx\nprogram x\n"
		for n, part := range parts {
			if !only(part) {
				without, toldWithout = append(without, part), append(toldWithout, told[n])
				some++
			}
			with, toldWith = append(with, asked, part), append(toldWith, told[n])
		}
		if got := each(t, without); !slices.Equal(got, toldWithout) {
			t.Fatalf("P24.2: seed %d: without what only asks of\n%s\nit answers\n%q\nwant\n%q", seed, strings.Join(parts, ""), got, toldWithout)
		}
		got := each(t, with)
		for n := range parts {
			if got[2*n+1] != toldWith[n] {
				t.Fatalf("P24.2: seed %d: behind more that is asked of\n%s\nthe part %d is answered\n%s\nwant\n%s", seed, strings.Join(parts, ""), n, got[2*n+1], toldWith[n])
			}
		}
	}
	if some < 100 {
		t.Errorf("only %d lines did more than ask", some)
	}
}

// A script's answers hang on it alone: not on what was run before, nor on what runs at the same time.
func TestTheSameScriptTwice(t *testing.T) {
	var scripts, want []string
	for seed := range 60 {
		r := rand.New(rand.NewSource(int64(3000 + seed)))
		scripts = append(scripts, strings.Join(anyScript(r, 12), ""))
		want = append(want, shell.Run(scripts[seed]))
	}
	for n, s := range scripts {
		if got := shell.Run(s); got != want[n] {
			t.Fatalf("P24.3: the second time: Run of\n%s\n%s", cut(s), unlike(got, want[n]))
		}
		answers(t, "P24.3: nothing is left of another script", "show\n", "error 1\n")
	}
	var all sync.WaitGroup
	for n, s := range scripts {
		for range 3 {
			all.Go(func() {
				if got := shell.Run(s); got != want[n] {
					t.Errorf("P24.3: beside others: Run of\n%s\n%s", cut(s), unlike(got, want[n]))
				}
			})
		}
	}
	all.Wait()
}

// What is behind a text that is cut is no beginning of the answers: so the promise is of scripts that cut none.
func TestACutText(t *testing.T) {
	answers(t, "P24.2: a text that is cut", "sums\nprogram\n"+keeps+"e", "error 1\nerror 240\n")
	answers(t, "P24.2: a text that is whole", "sums\nprogram\n"+keeps+"end", "error 1\nok 1\n")
}

// A program that was taken is the session's own: a line that is refused behind it leaves all of it as it was.
func TestRefusedLinesChangeNothing(t *testing.T) {
	refused := []string{"x\n", "load 66\n", "load 6\n", "program\nend\n", "change\nend\n", "change\n" + of(9, nothing) + "end\n", "program\n" + of(0, "") + "end\n", "inline 9 9\n", "inline 0\n", "analyze 0\n", "analyze 65 1\n", "run 5 1 2 3 4 5 6 7 8 9\n", "why 9 var 9\n", "change x\n", "end\n"}
	const all = "show\nbytes\nheap\nsums\nrun 9 1 2\nanalyze 2 1 0 1\nwhy 0 new 1\nwhy 2 new 1\n"
	first := program(several)
	want, _ := strings.CutPrefix(shell.Run(first+all), "ok 3\n")
	if !strings.Contains(want, "0 new 1\n2 new 1\n") || strings.Contains(want, "error") {
		t.Fatalf("the test's own program: %s", want)
	}
	for _, l := range refused {
		told := each(t, []string{first, l, all, l, l + change(several), all})
		if told[2] != want || told[5] != want || !strings.HasPrefix(told[1], "error ") || told[1] != told[3] || told[4] != told[1]+"ok 3\n" {
			t.Errorf("P24.2: behind\n%s\nthe answers are\n%q\nwant\n%q", l, told, want)
		}
	}
}
