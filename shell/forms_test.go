package shell_test

import (
	"strings"
	"testing"

	"fugue/api"
	"fugue/shell"
)

// formed: these lines have their form, and so they have it with blanks ahead, between and behind; with a byte 10 they have it nowhere.
func formed(t *testing.T, what string, l ...string) {
	t.Helper()
	for _, line := range l {
		for _, wide := range []string{line, " " + line, line + "\t", "\t \t" + strings.ReplaceAll(line, " ", "\t  ") + "  "} {
			if e := shell.Check(wide); e != api.OK {
				t.Errorf("P24.1: %s: Check(%q): %d, want OK", what, cut(wide), e)
			}
		}
		for at := range len(line) + 1 {
			if e := shell.Check(line[:at] + "\n" + line[at:]); e != api.ErrLine {
				t.Errorf("P24.1: %s: Check(%q) with a byte 10 at %d: %d, want %d", what, cut(line), at, e, api.ErrLine)
			}
		}
	}
}

// unformed: they have not their form, with blanks neither; in a script they are told so, whether there is a program or not.
func unformed(t *testing.T, what string, l ...string) {
	t.Helper()
	for _, line := range l {
		for _, wide := range []string{line, " " + line + " ", strings.ReplaceAll(line, " ", " \t")} {
			if e := shell.Check(wide); e != api.ErrLine {
				t.Errorf("P24.1: %s: Check(%q): %d, want %d", what, cut(wide), e, api.ErrLine)
			}
			if !strings.Contains(line, "\n") {
				answers(t, "P24.2: "+what, wide+"\n", "error 240\n")
				answers(t, "P24.2: "+what, program(keeps)+wide+"\nsums", "ok 1\nerror 240\n0: -,0\n")
			}
		}
	}
}

// keeps: a program of one function that gives back what it is given.
const keeps = "globals 0\nfunc params 1 results 1 vars 1\nreturn v0\n"

// oneWord: the rows that are one word.
var oneWord = []string{"program", "change", "show", "bytes", "heap", "sums"}

func TestOneWord(t *testing.T) {
	formed(t, "one word", oneWord...)
	for _, w := range oneWord {
		unformed(t, "a word more", w+" "+w, w+" 0", w+" nil", w+" end", w+" 00", w+" #")
	}
}

func TestOtherWords(t *testing.T) {
	unformed(t, "no row's word", "end", "end end", "0", "-1", "nil", "globals 0", "var", "new", "f0", "none", "ok 1", "error 240", "done 2", "#", "# show", "quit", "help", "steps 5", "..", "=", "show;", "show#", "loads 00", "runs 1", "sum", "byte", "hea", "whys 0 var 0")
	for _, w := range append([]string{"load 00", "analyze 1", "run 1", "inline", "inline 0 0", "why 0 var 0", "why 0 new 0"}, oneWord...) {
		word, rest, _ := strings.Cut(w, " ")
		if rest != "" {
			rest = " " + rest
		}
		for at := range len(word) {
			unformed(t, "a capital letter", word[:at]+strings.ToUpper(word[at:at+1])+word[at+1:]+rest)
		}
		unformed(t, "another word ahead", "x "+w, "0 "+w, w[:1]+" "+w)
		unformed(t, "a row's word cut, and grown", word[:len(word)-1]+rest, word+"s"+rest, "x"+w)
	}
	unformed(t, "a capital letter behind", "why 0 Var 0", "why 0 VAR 0", "why 0 New 0", "run 1 Nil", "run 1 NIL")
}

func TestLineWithoutWords(t *testing.T) {
	formed(t, "no words", "", " ", "\t", " \t \t  ")
	for _, l := range []string{"\n", " \n", "\n\n", "show\n", "\nshow", "load 00\n", "load\n00", "run 1\n2", "inline\n", "x\n"} {
		unformed(t, "a byte 10", l)
	}
}

// Bytes that are no blanks, alone, ahead, behind, and in the place of a blank.
func TestOtherBytes(t *testing.T) {
	for b := range 256 {
		if s := string([]byte{byte(b)}); !strings.Contains(" \t\n", s) {
			unformed(t, "a byte that is no blank", s, s+s)
			for _, w := range []string{"show", "inline", "run 1", "run 1 2", "analyze 1 2"} {
				if b < '0' || b > '9' { // run 12 has its form
					unformed(t, "a byte that is no blank", w+s, s+w, w+" "+s, s+" "+w, strings.ReplaceAll("run 1 2", " ", s))
				}
			}
		}
	}
	unformed(t, "characters of several bytes", "show\u00a0", "\u2003show", "run\u20281", "run ١", "run 1 １", "\ufeffshow", "show\x85", "показать")
}

// numbers: words that are numbers, and such that are none.
var (
	numbers   = []string{"0", "1", "9", "10", "90", "100", "12345678", "123456789", "999999999", "100000000"}
	noNumbers = []string{"00", "01", "007", "000000000", "0123456789", "1000000000", "9999999999", "0000000001", "-1", "-0", "+1", "+0", "1.", "1.0", ".5", "1e3", "0x1", "0b1", "1_0", "x", "1x", "x1", "nil", "1,2", "½", "-", "+", "''", "9223372036854775807"}
	ints      = append([]string{"-1", "-9", "-10", "-123456789", "1000000000", "-1000000000", "9223372036854775806", "9223372036854775807", "-9223372036854775807", "-9223372036854775808"}, numbers...)
	noInts    = []string{"00", "01", "-0", "-00", "-01", "--1", "- 1x", "+0", "+1", "-", "+", "9223372036854775808", "-9223372036854775809", "9999999999999999999", "18446744073709551615", "18446744073709551616", "99999999999999999999", "100000000000000000000", "-100000000000000000000", "00000000000000000001", "-00000000000000000001", "1.", "1e3", "0x1", "1_0", "1x", "-x", "Nil", "nul", "null", "nill", "ptr", "1-", "1-1"}
)

func TestNumbers(t *testing.T) {
	for _, row := range []string{"analyze %", "run %", "run % nil", "analyze % 5", "inline % 0", "inline 0 %", "inline 0 0 1 %", "why % var 0", "why 0 var %", "why % new 0", "why 0 new %"} {
		for _, n := range numbers {
			formed(t, "a number", strings.Replace(row, "%", n, 1))
		}
		for _, n := range noNumbers {
			unformed(t, "no number", strings.Replace(row, "%", n, 1))
		}
	}
}

func TestInts(t *testing.T) {
	for _, row := range []string{"analyze 1 %", "analyze 1 -5 % 5", "run 1 %", "run 1 nil % 5", "run 0 0 %"} {
		for _, n := range ints {
			formed(t, "an int", strings.Replace(row, "%", n, 1))
		}
		for _, n := range noInts {
			unformed(t, "no int", strings.Replace(row, "%", n, 1))
		}
	}
	formed(t, "values", "run 1 nil", "run 1 nil nil", "run 1 nil 0 nil -1", "run 1 1 nil")
	unformed(t, "nil is no pick and no number", "analyze 1 nil", "analyze nil", "run nil", "run nil 1", "inline nil nil", "why nil var 0")
}

func TestHex(t *testing.T) {
	formed(t, "hex", "load 00", "load 0123456789abcdef", "load ff", "load a0", "load 66756775650100010000000001000f00", "load "+strings.Repeat("e9", 5000))
}

func TestNoHex(t *testing.T) {
	unformed(t, "no hex", "load", "load 0", "load 000", "load a", "load 66756775650", "load 00 00", "load 0 0", "load 0x00", "load -1", "load nil", "load "+strings.Repeat("0", 5001))
	for b := range 256 {
		d := string([]byte{byte(b)})
		if strings.Contains("0123456789abcdef \t\n", d) {
			continue
		}
		unformed(t, "no digit of hex", "load 0"+d, "load "+d+"0", "load "+d+d, "load 00"+d+"0")
	}
	unformed(t, "a character of two bytes", "load é", "load éé", "load 0é0")
}

// Of what stands behind a row's word there is too much, too little, or it is of another kind.
func TestHowManyWords(t *testing.T) {
	formed(t, "as many as one likes", "analyze 1", "analyze 1 1", "analyze 1"+strings.Repeat(" -7", 1000), "run 1", "run 1 1", "run 1"+strings.Repeat(" nil", 1000),
		"inline", "inline 0 0", "inline 0 1 2 3", "inline"+strings.Repeat(" 3 4", 1000))
	unformed(t, "too few", "load", "analyze", "run", "inline 0", "inline 0 1 2", "inline"+strings.Repeat(" 3", 1001), "why", "why 0", "why 0 var", "why 0 new", "why var 0", "why new 0", "why 0 0")
	unformed(t, "too many", "load 00 00", "why 0 var 0 0", "why 0 new 0 0", "why 0 var 0 new 0", "why 0 0 var 0")
	unformed(t, "of another kind", "why 0 0 0", "why var 0 0", "why 0 0 var", "why var var var", "why 0 vars 0", "why 0 va 0", "why 0 news 0", "why 0 ne 0", "why 0 heap 0", "why 0 result 0", "why f0 var 0", "why 0 var v0", "why 0: var 0",
		"inline 0,0", "inline f0 0", "inline (0 0)", "inline 0 nil", "run 1 v0", "run 1 ptr", "run 1 true", "analyze one", "analyze 1 one")
}
