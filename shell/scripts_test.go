package shell_test

import (
	"strings"
	"testing"
)

// hex1: the bytes of a program of one function that returns.
const hex1 = "66756775650100010000000001000f00"

// asking: a line of each row that asks, and of the one that inlines.
var asking = []string{"show", "bytes", "analyze 1", "analyze 2 1 0", "analyze 0", "analyze 65", "heap", "sums", "run 5", "run 5 1", "run 5 nil 2", "run 0", "inline", "inline 0 0", "inline 7 7", "why 0 var 0", "why 0 new 0", "why 9 var 9"}

func TestNoLines(t *testing.T) {
	for _, s := range []string{"", "\n", "\n\n\n", " ", "\t", " \n\t\n \t ", "\n ", " \n"} {
		answers(t, "P24.2: no line with a word", s, "")
		answers(t, "P24.2: lines without words about another one", s+"\nshow\n"+s, "error 1\n")
		answers(t, "P24.2: lines without words about others", program(keeps)+s+"\nsums\n"+s+"\n\nheap\n"+s, "ok 1\n0: -,0\nnone\n")
	}
}

// A last line counts whether its byte 10 stands there or not; behind the byte 10 no line is left.
func TestLastLine(t *testing.T) {
	for _, c := range [][2]string{
		{"heap", "none\n"}, {"sums", "0: -,0\n"}, {"sums ", "0: -,0\n"}, {"show", "globals 0\nfunc params 1 results 1 vars 1\n  return v0\n"}, {"run 3 7", "done 1 7\n"},
		{"run 3", "error 1\n"}, {"inline", "ok 1\n"}, {"inline 0", "error 240\n"}, {"load " + hex1, "ok 1\n"}, {"load 6", "error 240\n"}, {"why 0 var 0", "error 180\n"}, {"x", "error 240\n"}, {" ", ""},
		{strings.TrimSuffix(program(keeps), "\n"), "ok 1\n"}, {strings.TrimSuffix(change(keeps), "\n"), "ok 1\n"},
		{"program", "error 240\n"}, {"change", "error 240\n"}, {"program\n" + keeps + "show", "error 240\n"}, {"program\nend", "error 25 1\n"},
	} {
		for _, behind := range []string{"", "\n", "\n\n", "\n \n\t"} {
			answers(t, "P24.2: a last line", program(keeps)+c[0]+behind, "ok 1\n"+c[1])
		}
	}
}

func TestWithoutProgram(t *testing.T) {
	for _, l := range append([]string{"change\nend", "change\n" + keeps + "end", "change\nglobals\nend", "change\nshow\nprogram\n end\t"}, asking...) {
		answers(t, "P24.2: without a program", l, "error 1\n")
		answers(t, "P24.2: without a program", l+"\n"+l+"\n", "error 1\nerror 1\n")
		answers(t, "P24.2: a text that is wrong makes none", program("globals\n")+l, "error 25 1\nerror 1\n")
		answers(t, "P24.2: a program that is wrong makes none", program("globals 0\nfunc params 0 results 0 vars 0\n")+l, "error 19 0\nerror 1\n")
		answers(t, "P24.2: bytes that are wrong make none", "load 66\n"+l, "error 11 1\nerror 1\n")
		answers(t, "P24.2: a change makes none", change(keeps)+l, "error 1\nerror 1\n")
		answers(t, "P24.2: behind it comes one", l+"\n"+program(keeps)+"sums\n", "error 1\nok 1\n0: -,0\n")
		answers(t, "P24.2: behind it comes one", l+"\nload "+hex1+"\nsums\n", "error 1\nok 1\n0:\n")
	}
}

// A line that has not its form is told so ahead of all else, with a program and without.
func TestFormComesFirst(t *testing.T) {
	for _, l := range []string{"show 1", "analyze", "analyze 0 nil", "inline 7", "why 9 vars 9", "run 1 x", "load 6", "change x", "program x", "end"} {
		answers(t, "P24.2: no form, no program", l+"\nheap\n", "error 240\nerror 1\n")
		answers(t, "P24.2: no form", program(keeps)+l+"\nsums\n", "ok 1\nerror 240\n0: -,0\n")
	}
	for _, l := range []string{"program x", "change x", "Program", "CHANGE", "program end", "program\r"} {
		answers(t, "P24.2: no text begins", l+"\nheap\nend\n"+program(keeps)+"heap\n", "error 240\nerror 1\nerror 240\nok 1\nnone\n")
	}
}

// Words may be parted by any blanks, and stand among them.
func TestBlanks(t *testing.T) {
	script := program(keeps) + "run 3 -5\nanalyze 1 0\nwhy 0 var 0\ninline 0 0\nload " + hex1 + "\nheap\n" + change("globals 0\nfunc params 0 results 0 vars 0\nreturn\n")
	want := "ok 1\ndone 1 -5\nsteps 6\n66670101000101010000090000\nerror 180\nerror 160\nok 1\nnone\nok 1\n"
	for _, blank := range []string{" ", "\t", "  ", " \t ", "\t\t"} {
		wide := blank + strings.ReplaceAll(strings.ReplaceAll(script, " ", blank), "\n", blank+"\n"+blank)
		answers(t, "P24.2: blanks", wide, want)
	}
}
