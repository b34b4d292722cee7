package hist

import (
	"slices"

	"fugue/api"
)

const mostCalls = 64

// call: one of a history, with the places of its moments.
type call struct {
	begin, end int
	op         api.Op
	reply      api.Reply
}

// callsOf: the calls of a history, in the order of their beginnings; false, if it is none.
func callsOf(h []api.Moment) ([]call, bool) {
	if len(h) > 2*mostCalls {
		return nil, false
	}
	var l []call
	in := map[int]int{} // by client: the number of the call that it is in
	for at, m := range h {
		i, is := in[m.Client]
		switch {
		case m.Begin && !is && rightOp(m.Op) && isZero(m.Reply):
			in[m.Client] = len(l)
			l = append(l, call{begin: at, op: m.Op})
		case !m.Begin && is && m.Op == l[i].op && rightReply(m.Op.Kind, m.Reply):
			l[i].end, l[i].reply = at, m.Reply
			delete(in, m.Client)
		default:
			return nil, false
		}
	}
	return l, len(in) == 0
}

// makes: is it the Publish that gives its key a value?
func (c call) makes() bool {
	return c.op.Kind == api.TPublish && c.reply.Ok
}

// finds: does its answer say that the key had a value?
func (c call) finds(key int) bool {
	if c.op.Kind == api.TSnapshot {
		_, is := slices.BinarySearch(c.reply.Keys, key)
		return is
	}
	return c.op.Key == key && c.reply.Ok == (c.op.Kind == api.TLookup)
}

// misses: does its answer say that the key had none?
func (c call) misses(key int) bool {
	asks := c.op.Kind == api.TSnapshot || c.op.Key == key
	return asks && !c.finds(key)
}

// precedes: must it stand ahead of the other one? That two Publishes of one key are Ok needs no rule of its own: each misses what the other makes, so each must stand ahead of the other.
func (c call) precedes(d call) bool {
	isOver := c.end < d.begin
	isFound := c.makes() && d.finds(c.op.Key)
	isMissed := d.makes() && c.misses(d.op.Key)
	return isOver || isFound || isMissed
}
