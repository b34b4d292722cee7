package table_test

import (
	"fmt"
	"math"
	"math/rand"
	"slices"
	"strings"
	"testing"

	"fugue/api"
	"fugue/table"
)

func pub(key int, value string) api.Op { return api.Op{Kind: api.TPublish, Key: key, Value: value} }

func look(key int) api.Op { return api.Op{Kind: api.TLookup, Key: key} }

var snap = api.Op{Kind: api.TSnapshot}

// unknown: kinds of no call.
var unknown = []int{0, -1, 4, 5, 9, -3, 1 << 32, 1<<32 + 1, math.MinInt, math.MaxInt}

// edges: keys, and picks, at the ends of the numbers and about the stripes' number.
var edges = []int{math.MinInt, math.MinInt + 1, math.MinInt + 7, -1 << 32, -17, -16, -9, -8, -7, -1, 0, 1, 7, 8, 9, 15, 16, 1 << 32, math.MaxInt - 7, math.MaxInt - 1, math.MaxInt}

func publishes(t *testing.T, x *table.Table, key int, value string, want bool) {
	t.Helper()
	if is := x.Publish(key, value); is != want {
		t.Errorf("P11.1: Publish(%d, %q): %v, want %v", key, value, is, want)
	}
}

func looks(t *testing.T, x *table.Table, key int, want string) {
	t.Helper()
	if v, ok := x.Lookup(key); v != want || !ok {
		t.Errorf("P11.1: Lookup(%d): %q, %v, want %q, true", key, v, ok, want)
	}
}

func looksNone(t *testing.T, x *table.Table, key int) {
	t.Helper()
	if v, ok := x.Lookup(key); v != "" || ok {
		t.Errorf("P11.1: Lookup(%d): %q, %v, want nothing, false", key, v, ok)
	}
}

func snaps(t *testing.T, x *table.Table, keys []int, values []string) {
	t.Helper()
	if k, v := x.Snapshot(); !slices.Equal(k, keys) || !slices.Equal(v, values) {
		t.Errorf("P11.1: Snapshot: %v %q, want %v %q", k, v, keys, values)
	}
}

func alikeReply(a, b api.Reply) bool {
	return a.Ok == b.Ok && a.Value == b.Value && slices.Equal(a.Keys, b.Keys) && slices.Equal(a.Values, b.Values)
}

func alikeMoment(a, b api.Moment) bool {
	return a.Client == b.Client && a.Begin == b.Begin && a.Op == b.Op && alikeReply(a.Reply, b.Reply)
}

func alike(a, b []api.Moment) bool { return slices.EqualFunc(a, b, alikeMoment) }

// told: a moment as text; what its kind does not use is not told.
func told(m api.Moment) string {
	switch {
	case m.Begin && m.Op.Kind == api.TPublish:
		return fmt.Sprintf("%d+publish %d %s", m.Client, m.Op.Key, m.Op.Value)
	case m.Begin && m.Op.Kind == api.TLookup:
		return fmt.Sprintf("%d+lookup %d", m.Client, m.Op.Key)
	case m.Begin:
		return fmt.Sprintf("%d+snapshot", m.Client)
	case m.Op.Kind == api.TPublish && m.Reply.Ok:
		return fmt.Sprintf("%d-new", m.Client)
	case m.Op.Kind == api.TPublish:
		return fmt.Sprintf("%d-old", m.Client)
	case m.Op.Kind == api.TLookup && m.Reply.Ok:
		return fmt.Sprintf("%d-is %s", m.Client, m.Reply.Value)
	case m.Op.Kind == api.TLookup:
		return fmt.Sprintf("%d-none", m.Client)
	}
	return fmt.Sprintf("%d-all %v %v", m.Client, m.Reply.Keys, m.Reply.Values)
}

func tell(h []api.Moment) string {
	var l []string
	for _, m := range h {
		l = append(l, told(m))
	}
	return strings.Join(l, ", ")
}

// plays: the history that is wanted, as text; and field by field it is the plain one's.
func plays(t *testing.T, what string, clients [][]api.Op, script []int, want string) {
	t.Helper()
	h := table.Play(clients, script...)
	if tell(h) != want {
		t.Errorf("P11.3: %s:\n%s, want\n%s", what, tell(h), want)
	}
	if p := plainPlay(clients, script); !alike(h, p) {
		t.Errorf("P11.3: %s:\n%+v, want\n%+v", what, h, p)
	}
}

// playsNone: no moments.
func playsNone(t *testing.T, what string, clients [][]api.Op, script ...int) {
	t.Helper()
	if h := table.Play(clients, script...); len(h) != 0 {
		t.Errorf("P11.3: %s: %+v, want no moments", what, h)
	}
}

// times: so many of the same number, and others behind them.
func times(many, k int, behind ...int) []int {
	return append(slices.Repeat([]int{k}, many), behind...)
}

// anyOp: of few keys, so that calls meet; now and then of no known kind, or with what its kind does not use.
func anyOp(r *rand.Rand) api.Op {
	op := api.Op{Kind: 1 + r.Intn(3), Key: r.Intn(6) * (1 + r.Intn(3))}
	if r.Intn(8) == 0 {
		op.Key = edges[r.Intn(len(edges))]
	}
	if op.Kind == api.TPublish || r.Intn(8) == 0 {
		op.Value = []string{"", "a", "b", "cc", "\x00\xff"}[r.Intn(5)]
	}
	if op.Kind == api.TSnapshot && r.Intn(8) > 0 {
		op.Key = 0
	}
	if r.Intn(10) == 0 {
		op.Kind = unknown[r.Intn(len(unknown))]
	}
	return op
}

func anyClients(r *rand.Rand, many, calls int) [][]api.Op {
	var l [][]api.Op
	for range many {
		var ops []api.Op
		for range r.Intn(calls + 1) {
			ops = append(ops, anyOp(r))
		}
		l = append(l, ops)
	}
	return l
}

// anyScript: of few numbers, or of any.
func anyScript(r *rand.Rand, most int) []int {
	var l []int
	for range r.Intn(most + 1) {
		k := r.Intn(9) - 4
		switch r.Intn(5) {
		case 0:
			k = int(r.Uint64())
		case 1:
			k = edges[r.Intn(len(edges))]
		}
		l = append(l, k)
	}
	return l
}
