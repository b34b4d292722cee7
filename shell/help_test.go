package shell_test

import (
	"fmt"
	"strings"
	"testing"

	"fugue/api"
	"fugue/shell"
	"fugue/text"
)

// cut: the beginning of what is long tells enough.
func cut(s string) string {
	if len(s) > 3000 {
		return s[:3000] + ".."
	}
	return s
}

// unlike: where two texts begin to differ, in words.
func unlike(got, want string) string {
	n := 0
	for n < min(len(got), len(want)) && got[n] == want[n] {
		n++
	}
	from := max(0, n-200)
	return fmt.Sprintf("it answers\n%s\nwant\n%s\n(from the byte %d on)", cut(got[from:]), cut(want[from:]), from)
}

// answers: the script has these answers.
func answers(t *testing.T, what, script, want string) {
	t.Helper()
	if got := shell.Run(script); got != want {
		t.Fatalf("%s: Run of\n%s\n%s", what, cut(script), unlike(got, want))
	}
}

// plays: the lines of a text that begin with > are a script (a blank behind the > is none of the line), all others its answers, behind the line by which they are told. So the script's beginnings have just the answers up to there.
func plays(t *testing.T, what, transcript string) {
	t.Helper()
	var script, want strings.Builder
	told := false
	for _, l := range strings.Split(strings.Trim(transcript, "\t\n"), "\n") {
		l = strings.TrimLeft(l, "\t")
		line, asks := strings.CutPrefix(l, ">")
		if asks && told {
			answers(t, what, script.String(), want.String())
		}
		if told = !asks; asks {
			script.WriteString(strings.TrimPrefix(line, " ") + "\n")
		} else {
			want.WriteString(l + "\n")
		}
	}
	answers(t, what, script.String(), want.String())
}

// program: the lines by which it becomes the session's.
func program(t string) string { return "program\n" + t + "end\n" }

func change(t string) string { return "change\n" + t + "end\n" }

// lines: a line each.
func lines(l ...string) string { return strings.Join(l, "\n") + "\n" }

// fn: a function as text, its lines parted by semicolons.
func fn(params, results, vars int, code string) string {
	return fmt.Sprintf("func params %d results %d vars %d\n%s\n", params, results, vars, strings.ReplaceAll(code, ";", "\n"))
}

// of: a program's text.
func of(globals int, funcs ...string) string {
	return fmt.Sprintf("globals %d\n%s", globals, strings.Join(funcs, ""))
}

// read: the program that a text is.
func read(t *testing.T, s string) api.Program {
	t.Helper()
	p, e, at := text.Parse(s)
	if e != api.OK {
		t.Fatalf("the test's own text: error %d at %d of\n%s", e, at, cut(s))
	}
	return p
}

// printed: a right program's text.
func printed(p api.Program) string {
	s, _ := text.Print(p)
	return s
}
