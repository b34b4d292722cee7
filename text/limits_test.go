package text_test

import (
	"fmt"
	"strings"
	"testing"

	"fugue/api"
)

// chain: so many functions, each of which calls the next.
func chain(n int) string {
	var b strings.Builder
	b.WriteString("globals 0\n")
	for i := range n {
		b.WriteString("func params 1 results 1 vars 2\n")
		if i < n-1 {
			fmt.Fprintf(&b, "  v1 = f%d(v0)\n", i+1)
		}
		b.WriteString("  return v1\n")
	}
	return b.String()
}

// TestManyFunctions: as many as there may be, and one more.
func TestManyFunctions(t *testing.T) {
	most := chain(api.MaxFuncs)
	if got := printed(t, "chain", parsed(t, "chain", most)); got != most {
		t.Errorf("P2.2: the longest chain is written otherwise")
	}
	refused(t, "a function too many", chain(api.MaxFuncs+1), api.ErrHead, 0)
	refused(t, "a wrong line behind all", most+"v0 = v", api.ErrText, 3*api.MaxFuncs+1)
}

// TestMuchCode: as many instructions as a function may have, and one more.
func TestMuchCode(t *testing.T) {
	head := "globals 0\nfunc params 0 results 0 vars 1\n"
	most := head + strings.Repeat("  v0 = new 8\n", api.MaxCode-1) + "  return\n"
	if got := printed(t, "much code", parsed(t, "much code", most)); got != most {
		t.Errorf("P2.2: the longest function is written otherwise")
	}
	refused(t, "an instruction too many", most+"return", api.ErrHead, 0)
}

// TestManyLocations: 256 functions of 4095 News and one variable each are one location too many; with one New less all is well.
func TestManyLocations(t *testing.T) {
	one := "func params 0 results 0 vars 1\n" + strings.Repeat("v0=new 1\n", api.MaxCode-1) + "return\n"
	many := "globals 0\n" + strings.Repeat(one, 256)
	refused(t, "a location too many", many, api.ErrTooLarge, 0)
	parsed(t, "the most locations", strings.Replace(many, "v0=new 1", "v0=null", 1))
}
