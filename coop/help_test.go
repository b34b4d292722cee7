package coop_test

import (
	"math"
	"math/big"
	"math/rand"
	"slices"
	"sync"
	"testing"
	"time"

	"fugue/coop"
)

// edges: numbers of a script at the ends of the numbers and about few bodies' number.
var edges = []int{math.MinInt, math.MinInt + 1, math.MinInt + 2, math.MinInt + 5, -1 << 32, -1<<32 + 1, -13, -7, -6, -5, -4, -3, -2, -1, 0, 1, 2, 3, 4, 5, 6, 7, 12, 1 << 32, 1<<32 + 1, math.MaxInt - 3, math.MaxInt - 1, math.MaxInt}

func never() bool { return false }

func always() bool { return true }

// ends: a body that ends behind so many steps; of 0: one without a Step.
func ends(n int) coop.Body {
	if n == 0 {
		return coop.Body{}
	}
	return coop.Body{Step: func() bool { n--; return n > 0 }}
}

// allEnd: bodies that end behind so many steps each.
func allEnd(counts ...int) []coop.Body {
	var l []coop.Body
	for _, n := range counts {
		l = append(l, ends(n))
	}
	return l
}

// runs: who is picked, and whether all have ended.
func runs(t *testing.T, what string, bodies []coop.Body, script []int, want []int, all bool) {
	t.Helper()
	within(t, func() {
		if l, is := coop.Run(bodies, script...); is != all || !slices.Equal(l, want) {
			t.Errorf("P13.1: %s, script %v: %v, %v, want %v, %v", what, script, l, is, want, all)
		}
	})
}

// within: it must end.
func within(t *testing.T, do func()) {
	t.Helper()
	over := make(chan bool)
	go func() {
		defer close(over)
		do()
	}()
	select {
	case <-over:
	case <-time.After(2 * time.Minute):
		t.Fatal("P13.1: Run waits for ever")
	}
}

// together: so many goroutines, begun at one time; all must end.
func together(t *testing.T, many int, do func(g int)) {
	t.Helper()
	within(t, func() {
		var all sync.WaitGroup
		start := make(chan bool)
		for g := range many {
			all.Go(func() {
				<-start
				do(g)
			})
		}
		close(start)
		all.Wait()
	})
}

func plainMod(k, n int) int {
	return int(new(big.Int).Mod(big.NewInt(int64(k)), big.NewInt(int64(n))).Int64())
}

// anyScript: small numbers for the most part, now and then one of the edges.
func anyScript(r *rand.Rand, most int) []int {
	l := make([]int, r.Intn(most+1))
	for i := range l {
		l[i] = r.Intn(21) - 8
		if r.Intn(6) == 0 {
			l[i] = edges[r.Intn(len(edges))]
		}
	}
	return l
}

// times: so many of the same number, and others behind them.
func times(many, k int, behind ...int) []int {
	return append(slices.Repeat([]int{k}, many), behind...)
}
