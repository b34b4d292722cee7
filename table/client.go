package table

import "fugue/api"

// Where a client is.
const (
	outside  = iota // in no call
	inside          // in a call that has not taken effect
	answered        // in one that has
)

const noStripe = -1

// client: one of a play.
type client struct {
	calls []api.Op // the one that it is in, or its next one, and all behind that
	state int
	locks int // how many stripes its Snapshot has locked
	reply api.Reply
}

func (c *client) ended() bool { return len(c.calls) == 0 }

// needs: the stripe that must not be locked by anyone, if its next step is to be done.
func (c *client) needs() int {
	if c.state != inside {
		return noStripe
	}
	if c.calls[0].Kind != api.TSnapshot {
		return stripeOf(c.calls[0].Key)
	}
	if c.locks < api.Stripes {
		return c.locks
	}
	return noStripe
}

func (c *client) answer(r api.Reply) {
	c.state, c.locks, c.reply = answered, 0, r
}

func (c *client) leave() {
	c.state, c.calls = outside, fromKnown(c.calls[1:])
}

// fromKnown: the calls from the first one on that is made: those ahead of it are no steps, so a client that has no others has ended.
func fromKnown(calls []api.Op) []api.Op {
	for len(calls) > 0 && !known(calls[0].Kind) {
		calls = calls[1:]
	}
	return calls
}

func known(kind int) bool {
	return kind == api.TPublish || kind == api.TLookup || kind == api.TSnapshot
}
