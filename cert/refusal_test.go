package cert

import (
	"errors"
	"strings"
	"testing"

	"fugue/api"
	"fugue/whole"
)

// What is refused tells why, and how far the bytes were read.
func TestRefusals(t *testing.T) {
	f := api.Func{Params: 1, Vars: 1, Code: []api.Instr{{Op: api.Set}, {Op: api.Return}}}
	p := api.Program{Globals: 1, Funcs: []api.Func{f, {Code: []api.Instr{{Op: api.Return}}}}}
	r, e := whole.Solve(p)
	if e != api.OK {
		t.Fatal(e)
	}
	for _, c := range []struct {
		b   string
		at  int
		why string
	}{
		{"", 0, "end here"}, {"c", 0, "end here"}, {"xe", 2, "mark"}, {"cx\x01\x00\x00\x00\x00\x00", 2, "mark"}, {"ce", 2, "end here"}, {"ce\x01\x00\x00", 2, "end here"},
		{"ce\x01\x00\x00\x00", 6, "number of passes"}, {"ce\x01\x00\x00\x00\x00", 6, "number of passes"}, {"ce\x00\x00\x00\x00\x00\x00", 6, "number of passes"},
		{"ce\x01\x00\x00\x00\x02\x00", 8, "no function"}, {"ce\x02\x00\x00\x00\x00\x00\xff\xff", 10, "no function"},
		{"ce\x01\x00\x00\x00\x01\x00", 8, "changes nothing"}, {"ce\x02\x00\x00\x00\x00\x00\x00\x00", 10, "changes nothing"},
		{"ce\x00\x00\x00\x00", 6, "would change"}, {"ce\x05\x00\x00\x00\x00\x00\x00\x00\x00\x00\x00\x00\x00\x00", 0, "more passes"},
	} {
		err := judged(p, r, []byte(c.b))
		var no *refusal
		if !errors.As(err, &no) || no.at != c.at || !strings.Contains(err.Error(), c.why) {
			t.Errorf("%q: %v, want at %d: %s", c.b, err, c.at, c.why)
		}
	}
	right := []byte("ce\x01\x00\x00\x00\x00\x00")
	if err := judged(p, r, right); err != nil {
		t.Errorf("a right certificate: %v", err)
	}
	if err := judged(p, api.Result{}, right); err == nil || err.Error() != "no certificate, at the byte 8: another result" {
		t.Errorf("another result: %v", err)
	}
}
