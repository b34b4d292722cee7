package hist_test

import (
	"slices"
	"strconv"
	"strings"
	"testing"
	"time"

	"fugue/api"
	"fugue/hist"
)

func pub(key int, value string) api.Op { return api.Op{Kind: api.TPublish, Key: key, Value: value} }

func look(key int) api.Op { return api.Op{Kind: api.TLookup, Key: key} }

var (
	snap = api.Op{Kind: api.TSnapshot}
	yes  = api.Reply{Ok: true}
	no   = api.Reply{}
)

func got(value string) api.Reply { return api.Reply{Ok: true, Value: value} }

func keys(l ...int) api.Reply {
	return api.Reply{Ok: true, Keys: l, Values: make([]string, len(l))}
}

func begin(client int, op api.Op) api.Moment {
	return api.Moment{Client: client, Begin: true, Op: op}
}

func end(client int, op api.Op, r api.Reply) api.Moment {
	return api.Moment{Client: client, Op: op, Reply: r}
}

func number(t *testing.T, s string) int {
	t.Helper()
	n, err := strconv.Atoi(s)
	if err != nil {
		t.Fatalf("the test's own text: %v", err)
	}
	return n
}

// opOf: p1=a a Publish, l1 a Lookup, s a Snapshot.
func opOf(t *testing.T, s string) api.Op {
	t.Helper()
	switch s[0] {
	case 'p':
		key, value, _ := strings.Cut(s[1:], "=")
		return pub(number(t, key), value)
	case 'l':
		return look(number(t, s[1:]))
	}
	return snap
}

// replyOf: no; ok; ok=a of a Lookup; all:1=a,2=b of a Snapshot.
func replyOf(t *testing.T, s string) api.Reply {
	t.Helper()
	if told, is := strings.CutPrefix(s, "all:"); is {
		r := yes
		for x := range strings.SplitSeq(told, ",") {
			if key, value, is := strings.Cut(x, "="); is {
				r.Keys, r.Values = append(r.Keys, number(t, key)), append(r.Values, value)
			}
		}
		return r
	}
	ok, value, _ := strings.Cut(s, "=")
	return api.Reply{Ok: ok == "ok", Value: value}
}

// of: a history of a text, as 0+p1=a 1+l1 1-no 0-ok: a client's number, then + and what it calls, or - and the answer.
func of(t *testing.T, text string) []api.Moment {
	t.Helper()
	var h []api.Moment
	in := map[int]api.Op{}
	for _, s := range strings.Fields(text) {
		at := 1 + strings.IndexAny(s[1:], "+-")
		c := number(t, s[:at])
		if s[at] == '+' {
			in[c] = opOf(t, s[at+1:])
			h = append(h, begin(c, in[c]))
		} else {
			h = append(h, end(c, in[c], replyOf(t, s[at+1:])))
		}
	}
	return h
}

func isHistory(t *testing.T, what string, h []api.Moment) {
	t.Helper()
	if e := hist.Check(h); e != api.OK {
		t.Errorf("P23.1: %s: error %d, want none: %+v", what, e, h)
	}
	if _, _, e := hist.Order(h); e != api.OK {
		t.Errorf("P23.2: %s: error %d, want none: %+v", what, e, h)
	}
}

func isNone(t *testing.T, what string, h []api.Moment) {
	t.Helper()
	if e := hist.Check(h); e != api.ErrHistory {
		t.Errorf("P23.1: %s: error %d, want ErrHistory: %+v", what, e, h)
	}
	if l, is, e := hist.Order(h); len(l) != 0 || is || e != api.ErrHistory {
		t.Errorf("P23.2: %s: %v, %v, error %d, want none, false, ErrHistory: %+v", what, l, is, e, h)
	}
}

// ordered: the order, by the places of the beginnings.
func ordered(t *testing.T, what string, h []api.Moment, want ...int) {
	t.Helper()
	isHistory(t, what, h)
	if l, is, _ := hist.Order(h); !is || !slices.Equal(l, want) {
		t.Errorf("P23.2: %s: %v, %v, want %v, true: %+v", what, l, is, want, h)
	}
}

func notOrdered(t *testing.T, what string, h []api.Moment) {
	t.Helper()
	isHistory(t, what, h)
	if l, is, _ := hist.Order(h); len(l) != 0 || is {
		t.Errorf("P23.2: %s: %v, %v, want none, false: %+v", what, l, is, h)
	}
}

// row: a history as a text, and the order that is wanted: none, where it is nil.
type row struct {
	what, text string
	want       []int
}

func holds(t *testing.T, rows []row) {
	t.Helper()
	for _, r := range rows {
		if h := of(t, r.text); r.want == nil {
			notOrdered(t, r.what, h)
		} else {
			ordered(t, r.what, h, r.want...)
		}
	}
}

// soon: what would try orders would not be done in a minute, nor in a year.
func soon(t *testing.T, do func()) {
	t.Helper()
	over := make(chan bool)
	go func() {
		do()
		close(over)
	}()
	select {
	case <-over:
	case <-time.After(time.Minute):
		t.Fatal("P23.3: it does not end soon")
	}
}
