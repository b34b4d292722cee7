package shell_test

import (
	"math/rand"
	"strings"
	"testing"

	"fugue/api"
	"fugue/shell"
)

// agrees: Check says what the patterns say.
func agrees(t *testing.T, line string) bool {
	t.Helper()
	want := api.ErrLine
	if plainCheck(line) {
		want = api.OK
	}
	if e := shell.Check(line); e != want {
		t.Fatalf("P24.1: Check(%q): %d, want %d", line, e, want)
	}
	return want == api.OK
}

// All lines of up to four words, and all lines of a row's word and up to three words more, of each kind.
func TestAllShortLines(t *testing.T) {
	words := []string{"program", "change", "load", "show", "bytes", "analyze", "heap", "sums", "run", "inline", "why", "end", "var", "new", "nil", "0", "5", "12", "00", "-1", "-0", "ff", "fff", "1000000000", "-9223372036854775809", "Run", "x"}
	right := 0
	var grow func(line string, more int)
	grow = func(line string, more int) {
		if agrees(t, line) {
			right++
		}
		if more == 0 {
			return
		}
		for _, w := range words {
			grow(strings.TrimPrefix(line+" "+w, " "), more-1)
		}
	}
	grow("", 4)
	if right < 200 {
		t.Errorf("only %d lines had their form", right)
	}
}

// All lines of a row's word and up to four bytes behind it.
func TestAllShortEnds(t *testing.T) {
	right := 0
	var grow func(line string, more int)
	grow = func(line string, more int) {
		if agrees(t, line) {
			right++
		}
		for i := 0; more > 0 && i < 11; i++ {
			grow(line+"0129af- \tn\r"[i:i+1], more-1)
		}
	}
	for _, w := range []string{"show", "load", "analyze", "run", "inline", "why", "analyze 1", "run 1", "run 1 ", "inline 0", "why 0 var", "why 0 new ", "analyze 1 92233720368547758", "run 3 -92233720368547758", "run 12345", "load 0"} {
		grow(w, 4)
	}
	if right < 5000 {
		t.Errorf("only %d lines had their form", right)
	}
}

// Right lines with a byte changed, one more or one less.
func TestSpoiltLines(t *testing.T) {
	r := rand.New(rand.NewSource(1))
	right, wrong := 0, 0
	for range 60000 {
		line := []byte(pick(r, "load 0f10", "analyze 12 -5 77", "run 123456789 nil -1 9223372036854775807", "inline 10 2 3 444", "why 123 var 45", "why 1 new 999999999", "program", "change", "sums", " heap\t", "analyze 1 -9223372036854775808"))
		for range 1 + r.Intn(2) {
			at := r.Intn(len(line))
			switch b := byte(pick(r, '0', '1', '8', '9', ' ', ' ', '\t', '-', '+', 'n', 'a', 'A', '\r', 0, 0xa0, 255)); r.Intn(3) {
			case 0:
				line[at] = b
			case 1:
				line = append(line[:at], line[at+1:]...)
			default:
				line = append(line[:at], append([]byte{b}, line[at:]...)...)
			}
			if len(line) == 0 {
				break
			}
		}
		if agrees(t, string(line)) {
			right++
		} else {
			wrong++
		}
	}
	if right < 5000 || wrong < 5000 {
		t.Errorf("only %d lines had their form, %d had not", right, wrong)
	}
}

// Scripts by chance against the chapter's words done plainly.
func TestAnyScript(t *testing.T) {
	kinds := map[string]int{}
	for seed := range 1000 {
		r := rand.New(rand.NewSource(int64(seed)))
		script := strings.Join(anyScript(r, 1+r.Intn(40)), "")
		if r.Intn(4) == 0 {
			script = strings.TrimSuffix(script, "\n")
		}
		if r.Intn(8) == 0 {
			script += "program\nglobals 0\nshow\nheap"
		}
		want := plainRun(script)
		if got := shell.Run(script); got != want {
			t.Fatalf("P24.2: seed %d: Run of\n%s\n%s", seed, script, unlike(got, want))
		}
		for l := range strings.SplitSeq(want, "\n") {
			word, rest, _ := strings.Cut(l, " ")
			if word == "error" {
				rest, _, _ = strings.Cut(rest, " ")
				word += " " + rest
			}
			if word == "print" || word == "done" {
				for _, v := range []string{"ptr", "nil"} {
					if strings.HasSuffix(l, v) {
						word += " " + v
					}
				}
			}
			kinds[word]++
		}
	}
	for _, k := range []string{"ok", "error 1", "error 2", "error 240", "error 25", "error 160", "error 180", "error 11", "error 22", "solved", "steps", "none", "print", "print nil", "print ptr", "done", "done nil", "done ptr", "fuel", "nils", "fields", "globals", "0:", "1:", "f0:", "f1:"} {
		if kinds[k] < 10 {
			t.Errorf("only %d answers begin with %s", kinds[k], k)
		}
	}
	if kinds["dangle"] > 0 {
		t.Errorf("W3: runs end by Dangle")
	}
}
