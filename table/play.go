package table

import "fugue/api"

// maxClients: a longer list is not played.
const maxClients = 64

// Play: clients, each with its calls, step by step as a script says: the history.
func Play(clients [][]api.Op, script ...int) []api.Moment {
	if len(clients) > maxClients {
		return nil
	}
	p := newPlay(clients)
	able := p.able(make([]int, 0, len(clients)))
	for turn := 0; len(able) > 0; turn++ {
		p.step(p.pick(able, script, turn))
		able = p.able(able[:0])
	}
	return p.moments
}

// play: a table that clients call step by step. Who waits for a lock is known from locked: the table's own locks are never held between two steps.
type play struct {
	table   *Table
	locked  [api.Stripes]bool
	clients []client
	last    int // who was picked last; -1: nobody yet
	moments []api.Moment
}

func newPlay(clients [][]api.Op) *play {
	p := &play{table: New(), clients: make([]client, len(clients)), last: -1}
	for i, calls := range clients {
		p.clients[i].calls = fromKnown(calls)
	}
	return p
}

// able: who can go on, rising, laid into a list without elements.
func (p *play) able(l []int) []int {
	for i := range p.clients {
		if p.canGoOn(&p.clients[i]) {
			l = append(l, i)
		}
	}
	return l
}

func (p *play) canGoOn(c *client) bool {
	if c.ended() {
		return false
	}
	at := c.needs()
	return at == noStripe || !p.locked[at]
}

// pick: by the script's number for this turn, behind its end by going round.
func (p *play) pick(able, script []int, turn int) int {
	if turn < len(script) {
		p.last = able[mod(script[turn], len(able))]
	} else {
		p.last = behind(p.last, able)
	}
	return p.last
}

// behind: the first one above the last, or else the lowest.
func behind(last int, able []int) int {
	for _, i := range able {
		if i > last {
			return i
		}
	}
	return able[0]
}

// step: of a client that can go on.
func (p *play) step(i int) {
	c := &p.clients[i]
	op := c.calls[0]
	switch c.state {
	case outside:
		p.moments = append(p.moments, api.Moment{Client: i, Begin: true, Op: op})
		c.state = inside
	case inside:
		p.act(c, op)
	case answered:
		p.moments = append(p.moments, api.Moment{Client: i, Op: op, Reply: c.reply})
		c.leave()
	}
}

// act: a step on the way to the call's effect, or the effect itself.
func (p *play) act(c *client, op api.Op) {
	switch op.Kind {
	case api.TPublish:
		c.answer(api.Reply{Ok: p.table.Publish(op.Key, op.Value)})
	case api.TLookup:
		value, ok := p.table.Lookup(op.Key)
		c.answer(api.Reply{Ok: ok, Value: value})
	case api.TSnapshot:
		p.snapshot(c)
	}
}

// snapshot: one more stripe is locked, or, if all are, they are read and unlocked.
func (p *play) snapshot(c *client) {
	if c.locks < api.Stripes {
		p.locked[c.locks] = true
		c.locks++
		return
	}
	keys, values := p.table.Snapshot()
	p.locked = [api.Stripes]bool{}
	c.answer(api.Reply{Ok: true, Keys: keys, Values: values})
}
