package text_test

import (
	"math"
	"strconv"
	"strings"
	"testing"

	"fugue/api"
	"fugue/text"
)

// instrOf: the instruction of a line that can stand in a function.
func instrOf(t *testing.T, line string) api.Instr {
	t.Helper()
	p := parsed(t, line, begin+line+"\nreturn\n")
	if isNone(p) {
		return api.Instr{}
	}
	return p.Funcs[0].Code[0]
}

func TestIntsAtTheEnds(t *testing.T) {
	for s, n := range map[string]int{
		"0": 0, "1": 1, "-1": -1, "10": 10, "-10": -10, "1000000000": 1000000000, "-1000000000": -1000000000,
		"9223372036854775807": math.MaxInt64, "-9223372036854775808": math.MinInt64,
	} {
		want := api.Instr{Op: api.Int, R: 1, N: n}
		if got := instrOf(t, "v1 = int "+s); !sameInstr(got, want) {
			t.Errorf("P2.1 int %s: %+v", s, got)
		}
		if got := text.Instr(want); got != "v1 = int "+s {
			t.Errorf("P2.3 int %s: %q", s, got)
		}
	}
	for _, s := range []string{"9223372036854775808", "-9223372036854775809", "18446744073709551615", "18446744073709551617", "99999999999999999999", strings.Repeat("1", 5000), "-0", "00", "01", "-01", "-00", "0x1", "1e3", "v1", "g1", "null", "a", "1a", "-1a", "--1", "-", "+1", "1_0", "1.0", "1 1", "1-1", ""} {
		refused(t, "int "+s, begin+"return\nv1 = int "+s+"\nreturn\n", api.ErrText, 4)
	}
}

// numbered: lines with one number each, as it is read and as code.Check finds it when the number is too great.
var numbered = []struct {
	ahead, behind string
	tooGreat      api.Errno
}{
	{"v", " = null", api.ErrVar},
	{"v0 = v", "", api.ErrVar},
	{"v0 = v0 + v", "", api.ErrVar},
	{"v0 = &v", "", api.ErrVar},
	{"v0 = new ", "", api.ErrField},
	{"v0 = v0.", "", api.ErrField},
	{"v0.", " = v0", api.ErrField},
	{"v0 = g", "", api.ErrGlobal},
	{"g", " = v0", api.ErrGlobal},
	{"f", "()", api.ErrFunc},
	{"v", " = f1()", api.ErrArity}, // behind it: the call's results
	{"f0(v", ")", api.ErrArity},
	{"print v", "", api.ErrVar},
	{"jump ", "", api.ErrJump},
	{"if v", " jump 0", api.ErrVar},
	{"if v0 jump ", "", api.ErrJump},
	{"return v", "", api.ErrArity},
}

// TestNumbersOfNineDigits: each number of a line may have nine digits (then code.Check finds it too great), none may have ten, or needless zeros.
func TestNumbersOfNineDigits(t *testing.T) {
	for _, c := range numbered {
		for _, n := range []string{"999999999", "100000000"} {
			refused(t, c.ahead+n+c.behind, begin+c.ahead+n+c.behind+"\nreturn\nfunc params 0 results 0 vars 0\nreturn", c.tooGreat, 0)
		}
		for _, n := range []string{"1000000000", "0999999999", "9999999999", "00", "01", "000", "0000000000", "-1", "-0", "", "a", "1a", "a1", "0x1", "18446744073709551616", "4294967296"} {
			refused(t, c.ahead+n+c.behind, begin+"v0 = v0\n"+c.ahead+n+c.behind+"\nreturn\n", api.ErrText, 4)
		}
	}
}

func TestHeadNumbers(t *testing.T) {
	for _, c := range []struct {
		ahead, behind string
		line          int
		tooGreat      api.Errno
	}{
		{"globals ", "\nfunc params 0 results 0 vars 0\nreturn", 1, api.ErrGlobal},
		{"globals 0\nfunc params ", " results 0 vars 0\nreturn", 2, api.ErrHead},
		{"globals 0\nfunc params 0 results ", " vars 0\nreturn", 2, api.ErrHead},
		{"globals 0\nfunc params 0 results 0 vars ", "\nreturn", 2, api.ErrHead},
	} {
		refused(t, "nine digits", c.ahead+"999999999"+c.behind, c.tooGreat, 0)
		for _, n := range []string{"1000000000", "00", "01", "-1", "-0", "v1", "g1", "f1", "", "0 0", "0,0", "=0"} {
			refused(t, n, c.ahead+n+c.behind, api.ErrText, c.line)
		}
	}
}

// TestEqualSigns: == is one sign, where it can be read; two of = are none.
func TestEqualSigns(t *testing.T) {
	same := api.Instr{Op: api.Same, R: 1, S: 2, T: 3}
	for _, s := range []string{"v1=v2==v3", "v1 = v2==v3", "v1=v2 == v3", "v1=v2== v3", "v1=v2 ==v3"} {
		if got := instrOf(t, s); !sameInstr(got, same) {
			t.Errorf("P2.1 %q: %+v", s, got)
		}
	}
	for _, s := range []string{"v1 == v2", "v1==v2", "v1 = v2 = v3", "v1 = v2 = = v3", "v1 == v2 == v3", "v1 = = v2", "v1 = v2 === v3", "v1 === v2", "v1 == v2 = v3", "v1=v2====v3", "g1 == v2", "v1 == f0()", "v1.0 == v2", "v1 == g1", "v1 == int 1", "v1 == null", "v1 == & v2", "v1 == new 1"} {
		refused(t, s, begin+s+"\nreturn\n", api.ErrText, 3)
	}
}

// mustBeApart: may no blank be left out between two tokens? (A - begins a word anew.)
func mustBeApart(left, right string) bool {
	isWord := func(c byte) bool { return c >= 'a' && c <= 'z' || c >= '0' && c <= '9' }
	return isWord(left[len(left)-1]) && isWord(right[0]) || left == "=" && right[0] == '='
}

// laid: tokens with something between each two (where it is empty and a blank must stand, a blank).
func laid(tokens []string, between string) string {
	var b strings.Builder
	for i, token := range tokens {
		if i > 0 && (between != "" || !mustBeApart(tokens[i-1], token)) {
			b.WriteString(between)
		} else if i > 0 {
			b.WriteString(" ")
		}
		b.WriteString(token)
	}
	return b.String()
}

const oddComment = "#all # of \x00\xff\r\v@V0 = v1 \"'é~ -"

// freeLines: a line laid with many blanks and with few, with comments and without.
func freeLines(tokens []string) []string {
	var l []string
	for _, between := range []string{"", " ", "\t", " \t  \t"} {
		for _, ahead := range []string{"", " ", "\t\t "} {
			for _, behind := range []string{"", " ", "\t", "#", oddComment, " \t" + oddComment} {
				l = append(l, ahead+laid(tokens, between)+behind)
			}
		}
	}
	for i := range len(tokens) - 1 { // one blank at one place alone
		l = append(l, laid(tokens[:i+1], "")+" "+laid(tokens[i+1:], ""))
	}
	return l
}

// TestBlanksAndComments: wherever they may stand, and nowhere; the program is the same.
func TestBlanksAndComments(t *testing.T) {
	for _, s := range samples() {
		whole, _, _, _ := around(s.canonical, s.instr)
		want := printed(t, s.tokens, parsed(t, s.tokens, whole))
		for _, line := range freeLines(strings.Fields(s.tokens)) {
			whole, _, _, _ := around(line, s.instr)
			if got := printed(t, line, parsed(t, line, whole)); got != want {
				t.Errorf("P2.1 %q: another program: %q", line, got)
			}
		}
	}
	first := freeLines(strings.Fields("globals 2"))
	for i, head := range freeLines(strings.Fields("func params 1 results 0 vars 1")) {
		p := parsed(t, head, first[i%len(first)]+"\n"+head+"\nreturn")
		if got := printed(t, head, p); got != "globals 2\nfunc params 1 results 0 vars 1\n  return\n" {
			t.Errorf("P2.1 %q: another program: %q", head, got)
		}
	}
}

// TestBlanksWithin: no blank within a token.
func TestBlanksWithin(t *testing.T) {
	for _, s := range samples() {
		tokens := strings.Fields(s.tokens)
		for i, token := range tokens {
			for cut := 1; cut < len(token); cut++ {
				for _, blank := range []string{" ", "\t"} {
					line := strings.Join(tokens[:i], " ") + " " + token[:cut] + blank + token[cut:] + " " + strings.Join(tokens[i+1:], " ")
					whole, number, _, _ := around(line, s.instr)
					refused(t, line, whole, api.ErrText, number)
				}
			}
		}
	}
}

// TestWordsTogether: two words without a blank between are one, but where a - begins the second.
func TestWordsTogether(t *testing.T) {
	for _, s := range []string{"printv1", "jump0", "ifv1 jump 0", "if v1jump 0", "if v1 jump0", "returnv1", "v1 = new1", "v1 = int1", "v1=v2v3", "v1 = nullv1"} {
		refused(t, s, begin+s+"\nreturn\n", api.ErrText, 3)
	}
	for _, s := range []string{"v1=int-17", "v1=int\t-17", "v1 =int -17#-17"} {
		if got := instrOf(t, s); !sameInstr(got, api.Instr{Op: api.Int, R: 1, N: -17}) {
			t.Errorf("P2.1 %q: %+v", s, got)
		}
	}
	for _, s := range []string{"v1 = v2-3", "v1 = int 5-3", "v-1 = v2", "v1 = int -a", "v1 = int - 3", "jump-1", "v1 = int --3", "v1 = int -3-", "-v1 = v2"} {
		refused(t, s, begin+s+"\nreturn\n", api.ErrText, 3)
	}
}

// TestLinesThatCountForNothing: anywhere; they count only as lines.
func TestLinesThatCountForNothing(t *testing.T) {
	nothing := []string{"", " ", "\t \t", "#", "  # x", oddComment}
	l := []string{"globals 0", "func params 0 results 0 vars 2", "v0 = v1", "return"}
	want := lines("globals 0", "func params 0 results 0 vars 2", "  v0 = v1", "  return")
	for _, n := range nothing {
		for at := range len(l) + 1 {
			s := strings.Join(append(append(append([]string{}, l[:at]...), n, n), l[at:]...), "\n")
			if got := printed(t, s, parsed(t, s, s)); got != want {
				t.Errorf("P2.1 %q: another program: %q", s, got)
			}
			refused(t, s, s+"\nv0 = v\n"+n+"\n@", api.ErrText, 7)
		}
		refused(t, "nothing but "+strconv.Quote(n), n, api.ErrText, 1)
		refused(t, "nothing but "+strconv.Quote(n), n+"\n"+n+"\n", api.ErrText, 3)
	}
}

// TestLastLine: with a line feed and without one.
func TestLastLine(t *testing.T) {
	s := "globals 0\nfunc params 0 results 0 vars 1\nv0 = v0\nreturn"
	for _, end := range []string{"", "\n", "\n\n", " ", "#", "#\n", "\n#", "\n "} {
		if got := printed(t, end, parsed(t, end, s+end)); got != "globals 0\nfunc params 0 results 0 vars 1\n  v0 = v0\n  return\n" {
			t.Errorf("P2.1 with %q behind: another program: %q", end, got)
		}
	}
	refused(t, "wrong last line", s+"\nreturn v", api.ErrText, 5)
	refused(t, "wrong last line", s+"\nreturn v\n", api.ErrText, 5)
}

// TestLongLists: as many as one likes, if code.Check lets them pass or not.
func TestLongLists(t *testing.T) {
	vars := "v0" + strings.Repeat(",v1", 99999)
	list := make([]int, 100000)
	for i := range list[1:] {
		list[i+1] = 1
	}
	spaced := strings.ReplaceAll(vars, ",", ", ")
	for s, i := range map[string]api.Instr{
		"return " + spaced:               {Op: api.Return, Args: list},
		"f3(" + spaced + ")":             {Op: api.Call, N: 3, Args: list},
		spaced + " = f3()":               {Op: api.Call, N: 3, Rets: list},
		spaced + " = f3(" + spaced + ")": {Op: api.Call, N: 3, Rets: list, Args: list},
	} {
		if got := text.Instr(i); got != s {
			t.Errorf("P2.3: a long list of operation %d is written otherwise", i.Op)
		}
	}
	refused(t, "long return", begin+"return "+vars, api.ErrArity, 0)
	refused(t, "long call", begin+vars+" = f0("+vars+")\nreturn", api.ErrArity, 0)
	refused(t, "long return with a comma behind", begin+"return "+vars+",", api.ErrText, 3)
}
