package shell_test

import (
	"fmt"
	"strings"
	"testing"
)

// The functions of the program that is changed here: f0 calls f1, f1 calls f2, f3 is called by nobody.
var (
	calls1  = fn(0, 0, 2, "v1 = f1(v0);return")
	calls2  = fn(1, 1, 2, "v1 = f2(v0);return v1")
	gives   = fn(1, 1, 1, "return v0")
	nothing = fn(0, 0, 0, "return")
	before  = []string{calls1, calls2, gives, nothing}
)

func TestChange(t *testing.T) {
	stores := fn(1, 1, 1, "g0 = v0;return v0")
	sums := "0:\n1: -,0\n2: -,0\n3:\n"
	for _, c := range []struct{ what, funcs, want, sums string }{
		{"nothing", calls1 + calls2 + gives + nothing, "ok 4\n", sums},
		{"blanks and comments alone", "#\n" + strings.ReplaceAll(calls1+calls2, " ", "\t ") + gives + " # \n\n" + nothing, "ok 4\n", sums},
		{"one, its summary stays", calls1 + calls2 + fn(1, 1, 2, "v1 = v0;return v1") + nothing, "ok 4\nsolved 2\n", sums},
		{"one, its summary and its caller's become others", calls1 + calls2 + stores + nothing, "ok 4\nsolved 2\nsolved 1\nsolved 0\n", "0:\n1: 0,0\n2: 0,0\n3:\n"},
		{"one, its caller's summary becomes another one by nothing of its own", calls1 + calls2 + fn(1, 1, 2, "v1 = v0.0;return v1") + nothing, "ok 4\nsolved 2\nsolved 1\nsolved 0\n", "0:\n1: -,1\n2: -,1\n3:\n"},
		{"one that nobody calls", calls1 + calls2 + gives + fn(0, 0, 1, "return"), "ok 4\nsolved 3\n", sums},
		{"the first", fn(0, 0, 2, "return") + calls2 + gives + nothing, "ok 4\nsolved 0\n", sums},
		{"the first, which calls nobody then, and the last: lower numbers of components first", fn(0, 0, 2, "return") + calls2 + gives + fn(0, 0, 1, "return"), "ok 4\nsolved 0\nsolved 3\n", sums},
		{"one in the middle, its summary stays", calls1 + fn(1, 1, 3, "v2 = f2(v0);return v2") + gives + nothing, "ok 4\nsolved 1\n", sums},
		{"two become a ring, their summaries stay", calls1 + calls2 + fn(1, 1, 1, "v0 = f1(v0);return v0") + nothing, "ok 4\nsolved 1 2\n", sums},
		{"two become a ring, their summaries become others", calls1 + calls2 + fn(1, 1, 2, "v1 = f1(v0);return v1") + nothing, "ok 4\nsolved 1 2\nsolved 0\n", "0:\n1: -,-\n2: -,-\n3:\n"},
		{"all become a ring", calls1 + calls2 + fn(1, 1, 1, "f3();return v0") + fn(0, 0, 0, "f0();return"), "ok 4\nsolved 0 1 2 3\n", sums},
		{"all", fn(1, 0, 1, "return") + stores + stores + fn(0, 1, 1, "return v0"), "ok 4\nsolved 0\nsolved 1\nsolved 2\nsolved 3\n", "0: -\n1: 0,0\n2: 0,0\n3:\n"},
		{"a head, and who calls it", calls1 + fn(1, 1, 3, "v1, v2 = f2(v0);return v2") + fn(1, 2, 1, "return v0, v0") + nothing, "ok 4\nsolved 2\nsolved 1\n", "0:\n1: -,0\n2: -,0,0\n3:\n"},
		{"one more", calls1 + calls2 + gives + nothing + stores, "ok 5\nsolved 4\n", sums + "4: 0,0\n"},
		{"two more, the first calls the second", calls1 + calls2 + gives + nothing + fn(1, 0, 1, "v0 = f5(v0);return") + gives, "ok 6\nsolved 5\nsolved 4\n", sums + "4: -\n5: -,0\n"},
		{"two more, which are a ring, and an old one that calls it", calls1 + calls2 + gives + fn(0, 0, 0, "f4();return") + fn(0, 0, 0, "f5();return") + fn(0, 0, 0, "f4();return"), "ok 6\nsolved 4 5\nsolved 3\n", sums + "4:\n5:\n"},
		{"one more, and one of the old", calls1 + calls2 + fn(1, 1, 1, "v0 = f4(v0);return v0") + nothing + gives, "ok 5\nsolved 4\nsolved 2\n", sums + "4: -,0\n"},
	} {
		first := program(of(1, before...))
		answers(t, "P24.2: change: "+c.what, first+change("globals 1\n"+c.funcs)+"sums\n", "ok 4\n"+c.want+c.sums)
		again, _, _ := strings.Cut(c.want, "\n")
		answers(t, "P24.2: change: "+c.what+", twice", first+change("globals 1\n"+c.funcs)+change("globals 1\n"+c.funcs)+"sums\n", "ok 4\n"+c.want+again+"\n"+c.sums)
	}
}

// Of texts that are no change of the program nothing is changed.
func TestChangesThatAreNone(t *testing.T) {
	was := of(1, before...)
	show := printed(read(t, was))
	for _, c := range [][2]string{
		{of(0, before...), "error 1"}, {of(2, before...), "error 1"}, {of(16, before...), "error 1"}, {of(0, nothing), "error 1"}, {of(2, append(before[:4:4], nothing)...), "error 1"},
		{of(1, before[:3]...), "error 1"}, {of(1, nothing), "error 1"}, {of(1, gives, gives, gives), "error 1"},
		{of(17, before...), "error 18 0"}, {of(1), "error 25 2"}, {"", "error 25 1"}, {of(1, before[1:]...), "error 15 0"}, {of(1, calls1, calls2), "error 14 0"}, {was + "x\n", "error 25 12"},
	} {
		answers(t, "P24.2: a change that is none", program(was)+change(c[0])+"show\nsums\n"+change(was), "ok 4\n"+c[1]+"\n"+show+"0:\n1: -,0\n2: -,0\n3:\nok 4\n")
	}
}

// instructions: any two of which are not just the same, though for some operations only one field is another one.
var instructions = []string{
	"v0 = int 0", "v1 = int 0", "v0 = int 1", "v0 = int -1", "v0 = int 9223372036854775807", "v0 = null", "v1 = null",
	"v0 = v0", "v1 = v0", "v0 = v1", "v0 = &v0", "v1 = &v0", "v0 = &v1",
	"v0 = v0 + v0", "v1 = v0 + v0", "v0 = v1 + v0", "v0 = v0 + v1", "v0 = v0 < v0", "v1 = v0 < v0", "v0 = v1 < v0", "v0 = v0 < v1", "v0 = v0 == v0", "v1 = v0 == v0", "v0 = v1 == v0", "v0 = v0 == v1",
	"v0 = new 1", "v1 = new 1", "v0 = new 2", "v0 = v0.0", "v1 = v0.0", "v0 = v1.0", "v0 = v0.1", "v0.0 = v0", "v1.0 = v0", "v0.0 = v1", "v0.1 = v0",
	"v0 = g0", "v1 = g0", "v0 = g1", "g0 = v0", "g0 = v1", "g1 = v0", "print v0", "print v1", "jump 0", "jump 1", "if v0 jump 0", "if v1 jump 0", "if v0 jump 1",
	"v0 = f1(v0, v0)", "v1 = f1(v0, v0)", "v0 = f1(v1, v0)", "v0 = f1(v0, v1)", "v0 = f1(v1, v1)", "v0 = f2(v0, v0)",
	"return", "f3()", "f4()", "v0, v1 = f5()", "v1, v0 = f5()", "v0, v0 = f5()",
}

// A function is changed if any part of it is another one, and only then.
func TestEachField(t *testing.T) {
	others := fn(2, 1, 2, "return v0") + fn(2, 1, 2, "return v0") + fn(0, 0, 0, "return") + fn(0, 0, 0, "return") + fn(0, 2, 1, "return v0, v0")
	for i, x := range instructions {
		for j, y := range instructions {
			want := "ok 6\nok 6\n"
			if i != j {
				want += "solved 0\n"
			}
			from, to := "globals 2\n"+fn(0, 0, 2, x+";return")+others, "globals 2\n"+fn(0, 0, 2, y+";return")+others
			answers(t, "P24.2: change of an instruction", program(from)+change(to), want)
		}
	}
	heads := []string{fn(0, 0, 3, "jump 0"), fn(0, 0, 4, "jump 0"), fn(1, 0, 3, "jump 0"), fn(2, 0, 3, "jump 0"), fn(0, 1, 3, "jump 0"), fn(1, 1, 3, "jump 0"), fn(0, 2, 3, "jump 0"),
		fn(0, 0, 3, "jump 0;jump 0"), fn(0, 0, 3, "jump 1;jump 0"), fn(0, 0, 3, "jump 0;jump 1"), fn(0, 0, 3, "jump 0;jump 0;jump 0")}
	for i, x := range heads {
		for j, y := range heads {
			for at := range 3 {
				one, two := []string{nothing, nothing, nothing}, []string{nothing, nothing, nothing}
				one[at], two[at] = x, y
				want := "ok 3\nok 3\n"
				if i != j {
					want += fmt.Sprintf("solved %d\n", at)
				}
				answers(t, "P24.2: change of a head or of how many instructions there are", program(of(0, one...))+change(of(0, two...)), want)
			}
		}
	}
}

// A change goes from what the program is: behind load, inline and other changes too.
func TestChangesOneBehindTheOther(t *testing.T) {
	plays(t, "P24.2: changes", `
		> load 66756775650100010000000001000f00
		ok 1
		> change
		> globals 0
		> func params 0 results 0 vars 1
		> return
		> func params 0 results 1 vars 2
		> v1 = &v0
		> return v1
		> end
		ok 2
		solved 0
		solved 1
		> heap
		1 var 0
		> change
		> globals 0
		> func params 0 results 0 vars 1
		> v0 = f1()
		> return
		> func params 0 results 1 vars 2
		> v1 = null
		> return v1
		> end
		ok 2
		solved 1
		solved 0
		> heap
		none
		> inline 0 0
		ok 2
		> show
		globals 0
		func params 0 results 0 vars 3
		  v1 = null
		  v2 = null
		  v2 = null
		  v0 = v2
		  jump 5
		  return
		func params 0 results 1 vars 2
		  v1 = null
		  return v1
		> change
		> globals 0
		> func params 0 results 0 vars 3
		> v1 = null
		> v2 = null
		> v2 = null
		> v0 = v2
		> jump 5
		> return
		> func params 0 results 1 vars 2
		> v1 = new 3
		> return v1
		> end
		ok 2
		solved 1
		> heap
		1 new 0
		> change
		> globals 0
		> func params 0 results 0 vars 1
		> v0 = f1()
		> return
		> func params 0 results 1 vars 2
		> v1 = new 3
		> return v1
		> end
		ok 2
		solved 0
		> why 1 new 0
		f1: result 0 -> result 0 (0) root
		f1: var 1 -> result 0 (0) code 1
		f1: new 0 -> result 0 (-1) code 0
		> analyze 0
		error 2 0
		> run 9
		done 4`)
}
