package shell_test

import (
	"strconv"
	"strings"
	"testing"

	"fugue/api"
)

// beginnings: the lines by which a text begins.
var beginnings = []string{"program", " program\t", "change", "\tchange "}

func TestTextWithoutEnd(t *testing.T) {
	for _, begins := range beginnings {
		for _, text := range []string{"", "\n", "\n\n", "\n" + keeps, "\n" + keeps + "show\n", "\nglobals\nheap\nprogram\n", "\n" + keeps + "program\nchange\nload 66\nrun 1\nnonsense",
			"\nend x", "\nend end\n", "\nend\r\n", "\nEnd\n", "\nEND\n", "\nen d\n", "\nend#\n", "\nend # no more\n", "\n#end\n", "\n# end\n", "\nend\x00\n", "\n\vend\n", "\nends\n", "\nxend\n", "\nend\u00a0"} {
			answers(t, "P24.2: a text without end", begins+text, "error 240\n")
			answers(t, "P24.2: a text without end, and a program", program(keeps)+begins+text, "ok 1\nerror 240\n")
		}
	}
}

// The first line whose one word is end is the text's end, whatever blanks stand about it.
func TestEnd(t *testing.T) {
	for _, end := range []string{"end", " end", "end ", "\tend", "end\t", " \t end \t "} {
		answers(t, "P24.2: an end", "program\n"+keeps+end+"\nsums\n"+end+"\n", "ok 1\n0: -,0\nerror 240\n")
		answers(t, "P24.2: an end", "program\n"+keeps+end, "ok 1\n")
		answers(t, "P24.2: an end of a change", program(keeps)+"change\n"+keeps+end+"\nsums\n", "ok 1\nok 1\n0: -,0\n")
	}
	for _, other := range []string{"end x", "x end", "end end", "End", "ends", "end\r", "end # end"} {
		answers(t, "P24.2: no end, but a line of the text", "program\n"+keeps+other+"\nend\nheap\n", "error 25 4\nerror 1\n")
	}
	answers(t, "P24.2: a comment is a line of the text", program("# end\n"+keeps+"  # end\n")+"heap\n", "ok 1\nnone\n")
}

// What stands in a text is a line of it alone, and is told with its number there.
func TestRowsInAText(t *testing.T) {
	rows := append([]string{"program", "change", "load " + hex1, "load 6", "Show", "error 240", "ok 1"}, asking...)
	first, rest, _ := strings.Cut(keeps, "\n")
	for _, l := range rows {
		for _, c := range []struct{ ahead, behind, want string }{
			{"", keeps, "error 25 1\n"}, {first + "\n", rest, "error 25 2\n"}, {keeps, "", "error 25 4\n"}, {"\n\n" + keeps + "#\n", "\n", "error 25 7\n"},
		} {
			text := c.ahead + l + "\n" + c.behind
			answers(t, "P24.2: a row within a text", program(text), c.want)
			answers(t, "P24.2: a row within a text, and behind it", program(text)+"bytes\nshow\n", c.want+"error 1\nerror 1\n")
			answers(t, "P24.2: a row within a change", program(keeps)+change(text)+"sums\n", "ok 1\n"+c.want+"0: -,0\n")
			answers(t, "P24.2: a row within a text, behind a #", program(c.ahead+"# "+l+"\n"+c.behind)+"sums\n", "ok 1\n0: -,0\n")
		}
	}
	answers(t, "P24.2: a text within a text ends with the first end", "program\n"+keeps+program(keeps)+"end\nheap\n", "error 25 4\nerror 240\nerror 1\n")
}

// The text's lines are handed on as they stand, so that the line's number is that of the text.
func TestLinesOfATextAreCounted(t *testing.T) {
	for _, c := range [][2]string{
		{"", "25 1"}, {"\n", "25 2"}, {" \n\t\n", "25 3"}, {"globals 0\n", "25 2"}, {"globals 0\n\n\n", "25 4"}, {"globals\n", "25 1"}, {"\n\nglobals 01\n", "25 3"},
		{keeps + "v0 = v\n", "25 4"}, {keeps + "\n\n # x\n v0 = = v0\n", "25 7"}, {keeps + "return v0\r\n", "25 4"}, {keeps + "\x00\n", "25 4"}, {keeps + "é\n", "25 4"},
		{keeps, ""}, {"\n\n" + keeps + "\n\n", ""}, {"#\n" + keeps + "#\xff\n", ""},
	} {
		want := "ok 1\n"
		if c[1] != "" {
			want = "error " + c[1] + "\n"
		}
		answers(t, "P24.2: a text", program(c[0]), want)
		answers(t, "P24.2: a text of a change", program(keeps)+change(c[0]), "ok 1\n"+want)
	}
}

// refused: texts that code.Check refuses, each with its error.
var refused = []struct {
	code, globals, head string
	error               api.Errno
}{
	{"print v0", "0", "0 0 1", api.ErrEnd}, {"", "0", "0 0 1", api.ErrEnd}, {"v1 = null\nreturn", "0", "0 0 1", api.ErrVar}, {"v0 = v255\nreturn", "0", "0 0 255", api.ErrVar},
	{"f1()\nreturn", "0", "0 0 1", api.ErrFunc}, {"f0(v0)\nreturn", "0", "0 0 1", api.ErrArity}, {"return v0", "0", "0 0 1", api.ErrArity}, {"return", "0", "0 1 1", api.ErrArity},
	{"jump 1", "0", "0 0 1", api.ErrJump}, {"if v0 jump 2\nreturn", "0", "0 0 1", api.ErrJump}, {"v0 = new 0\nreturn", "0", "0 0 1", api.ErrField}, {"v0 = new 9\nreturn", "0", "0 0 1", api.ErrField}, {"v0 = v0.8\nreturn", "0", "0 0 1", api.ErrField},
	{"v0 = g0\nreturn", "0", "0 0 1", api.ErrGlobal}, {"g16 = v0\nreturn", "16", "0 0 1", api.ErrGlobal}, {"return", "17", "0 0 1", api.ErrGlobal},
	{"return", "0", "2 0 1", api.ErrHead}, {"return", "0", "9 0 9", api.ErrHead}, {"return", "0", "0 5 1", api.ErrHead}, {"return", "0", "0 0 256", api.ErrHead}, {strings.Repeat("v0 = null\n", api.MaxCode) + "return", "0", "0 0 1", api.ErrHead},
}

func TestTextsThatAreRefused(t *testing.T) {
	for _, c := range refused {
		n := strings.Fields(c.head)
		text := "globals " + c.globals + "\nfunc params " + n[0] + " results " + n[1] + " vars " + n[2] + "\n" + c.code + "\n"
		want := "error " + strconv.Itoa(int(c.error)) + " 0\n"
		answers(t, "P24.2: a text that is refused", program(text)+"heap\n", want+"error 1\n")
		answers(t, "P24.2: a text that is refused, nothing changes", program(keeps)+program(text)+"sums\n", "ok 1\n"+want+"0: -,0\n")
		answers(t, "P24.2: a change that is refused, nothing changes", program(keeps)+change(text)+"sums\n", "ok 1\n"+want+"0: -,0\n")
	}
}

// A text that is wrong is told so ahead of what its globals and functions are.
func TestWrongTextsOfChangesComeFirst(t *testing.T) {
	two := program(of(0, fn(0, 0, 0, "return"), fn(0, 0, 0, "return")))
	answers(t, "P24.2: other globals, and wrong", two+change("globals 5\nfunc params 0 results 0 vars 0\nreturn v0\n"), "ok 2\nerror 15 0\n")
	answers(t, "P24.2: fewer functions, and wrong", two+change("globals 0\nfunc params 0 results 0 vars 0\nx\n"), "ok 2\nerror 25 3\n")
	answers(t, "P24.2: other globals, and right", two+change(of(5, fn(0, 0, 0, "return"), fn(0, 0, 0, "return"))), "ok 2\nerror 1\n")
	answers(t, "P24.2: fewer functions, and right", two+change(of(0, fn(0, 0, 0, "return"))), "ok 2\nerror 1\n")
}

// A program takes the place of the one that was there, with other globals and functions too.
func TestProgramBehindProgram(t *testing.T) {
	plays(t, "P24.2: program and load behind one another", `
		> program
		> globals 0
		> func params 0 results 1 vars 2
		> v1 = &v0
		> return v1
		> func params 1 results 0 vars 1
		> return
		> end
		ok 2
		> sums
		0:
		1: -
		> heap
		0 var 0
		> load 66756775650100010000000001000f00
		ok 1
		> sums
		0:
		> heap
		none
		> program
		> globals 2
		> func params 2 results 0 vars 2
		> g1 = v1
		> return
		> end
		ok 1
		> sums
		0: - 0
		> bytes
		66756775650102010002000202000a01010f00
		> load 66756775650100010000010202000501000f0101
		ok 1
		> run 5
		done 2 ptr
		> load 66756775650102010002000202000a01010f00
		ok 1
		> run 5 1 2
		done 2`)
}

// Each error of the decoder is told with its offset, and nothing changes.
func TestBytesThatAreRefused(t *testing.T) {
	for _, c := range [][2]string{
		{"00", "10 0"}, {"67", "10 0"}, {"667567756500", "10 0"}, {"66756775650200", "10 0"}, {"66", "11 1"}, {"667567756501", "11 6"}, {"6675677565010001", "11 8"}, {"66756775650100010000000001000f", "11 15"},
		{"667567756501110100", "18 6"}, {"667567756501000000", "20 7"}, {"6675677565010001000900090100", "20 9"}, {"6675677565010001000000000000", "19 9"}, {"667567756501000100000000010000", "12 14"}, {"667567756501000100000000010012", "12 14"}, {"66756775650100010000000001000e", "19 14"},
		{"66756775650100010000000001000f01", "15 15"}, {"66756775650100010000000001000d0100", "16 15"}, {"6675677565010001000000010200060000", "17 16"}, {"66756775650100010000000102000201", "13 15"}, {"6675677565010001000000010200090000", "18 16"}, {"66756775650100010000000102000b0100", "14 15"}, {hex1 + "00", "22 16"},
	} {
		answers(t, "P24.2: bytes that are refused", "load "+c[0]+"\nheap\n", "error "+c[1]+"\nerror 1\n")
		answers(t, "P24.2: bytes that are refused, nothing changes", program(keeps)+"load "+c[0]+"\nsums\n", "ok 1\nerror "+c[1]+"\n0: -,0\n")
	}
}
