package shell_test

import (
	"strings"
	"testing"

	"fugue/api"
	"fugue/shell"
)

// escapes: a program whose function gives back the address of its first variable.
const escapes = "globals 0\nfunc params 0 results 1 vars 2\nv1 = &v0\nreturn v1\n"

func TestTheFirstExample(t *testing.T) {
	plays(t, "P24.2: the first example", `
		> program
		> globals 0
		> func params 0 results 1 vars 2
		> v1 = &v0
		> return v1
		> end
		ok 1
		> heap
		0 var 0
		> sums
		0:
		> run 10
		done 2 ptr
		> run 1
		fuel 1
		> run 10 5
		error 1
		> why 0 var 1
		error 180
		> bytes
		66756775650100010000010202000501000f0101
		> analyze 1
		steps 5
		6667010100000102000001`)
	told := shell.Run(program(escapes) + "why 0 var 0\n")
	if !strings.HasPrefix(told, "ok 1\nf0: ") || !strings.HasSuffix(told, "\nf0: var 0 -> result 0 (-1) code 0\n") {
		t.Errorf("P24.2: a witness: %q", told)
	}
	told = shell.Run(program(escapes) + "analyze 3 -1 7\n")
	if !strings.HasPrefix(told, "ok 1\nsteps ") || !strings.HasSuffix(told, "\n6667010100000102000001\n") || strings.Count(told, "\n") != 3 {
		t.Errorf("P24.2: an analysis: %q", told)
	}
}

func TestTheSecondExample(t *testing.T) {
	plays(t, "P24.2: the second example", `
		> show
		error 1
		> Show
		error 240
		> run
		error 240
		> run -1
		error 240
		> analyze
		error 240
		> why 0 var
		error 240
		> inline 0
		error 240
		> load 6
		error 240
		> load
		error 240
		> load 6G
		error 240
		> load 66
		error 11 1`)
}

func TestTheThirdExample(t *testing.T) {
	plays(t, "P24.2: the third example", `
		> program
		> globals 0
		> func params 1 results 0 vars 1
		> return
		> end
		ok 1
		> program
		> globals
		> end
		error 25 1
		> show
		globals 0
		func params 1 results 0 vars 1
		  return`)
	answers(t, "P24.2: a text that has no end", "program\n", "error 240\n")
}

// The examples of DOC.md, as the lines tell them.
func TestTheExamplesOfTheWhole(t *testing.T) {
	plays(t, "P24.2: the least program", `
		> load 66756775650100010000000001000f00
		ok 1
		> show
		globals 0
		func params 0 results 0 vars 0
		  return
		> heap
		none
		> sums
		0:
		> analyze 1
		steps 5
		66670101000000000000
		> bytes
		66756775650100010000000001000f00`)
	if e := shell.Check("load 66756775650100010000000001000f00"); e != api.OK {
		t.Errorf("P24.1: the least program's bytes: %d", e)
	}
	f0 := fn(0, 0, 1, "return")
	for _, c := range []struct{ f1, sums, heap string }{
		{fn(1, 1, 1, "return v0"), "1: -,0", "none"},
		{fn(1, 1, 2, "v1 = v0.0;return v1"), "1: -,1", "none"},
		{fn(1, 1, 1, "g0 = v0;return v0"), "1: 0,0", "none"},
		{fn(1, 1, 2, "v1 = &v0;return v1"), "1: 0,0", "1 var 0"},
		{fn(0, 1, 3, "v0 = new 1;v1 = v0;v2 = &v1;return v2"), "1:", "1 var 1\n1 new 0"},
		{fn(1, 0, 2, "v1 = new 1;v0.0 = v1;return"), "1: -", "1 new 0"},
		{fn(1, 0, 6, "v1 = v0.0;v2 = v1.0;v3 = v2.0;v4 = v3.0;v5 = v4.0;g0 = v5;return"), "1: 3", "none"},
		{fn(1, 1, 2, "v1 = v0.0;v1 = f1(v1);return v1"), "1: -,1", "none"},
		{fn(1, 0, 1, "f1(v0);return"), "1: -", "none"},
	} {
		answers(t, "P24.2: an example of the whole", program(of(1, f0, c.f1))+"sums\nheap\n", "ok 2\n0:\n"+c.sums+"\n"+c.heap+"\n")
	}
	plays(t, "P24.2: the second example of the whole", `
		> program
		> globals 0
		> func params 0 results 0 vars 2
		> v0 = f1()
		> v1 = v0.0
		> return
		> func params 0 results 1 vars 2
		> v0 = int 5
		> v1 = &v0
		> return v1
		> end
		ok 2
		> heap
		1 var 0
		> run 6
		done 6
		> run 5
		fuel 5
		> analyze 0
		error 2 0
		> analyze 65
		error 2 0`)
	plays(t, "P24.2: the ninth example of the whole", `
		> program
		> globals 0
		> func params 0 results 0 vars 2
		> v0 = int 3
		> v1 = f1(v0)
		> print v1
		> return
		> func params 1 results 1 vars 2
		> v1 = v0 + v0
		> return v1
		> end
		ok 2
		> inline 0 1
		ok 2
		> show
		globals 0
		func params 0 results 0 vars 4
		  v0 = int 3
		  v2 = v0
		  v3 = null
		  v3 = v2 + v2
		  v1 = v3
		  jump 6
		  print v1
		  return
		func params 1 results 1 vars 2
		  v1 = v0 + v0
		  return v1
		> run 100
		print 6
		done 8`)
}
