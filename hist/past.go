package hist

import (
	"iter"

	"fugue/api"
)

// past: the calls of a history, in the order of their beginnings.
type past struct {
	calls []call
	made  map[int]call // by key: the Publish that gave it its value
}

func pastOf(l []call) past {
	p := past{l, map[int]call{}}
	for _, c := range l {
		if c.makes() {
			p.made[c.op.Key] = c
		}
	}
	return p
}

// order: the least order that there is, the calls named by the places of their beginnings: again and again the least call that nothing that is left must stand ahead of.
func (p past) order() ([]int, bool) {
	if !p.possible() {
		return nil, false
	}
	waits := p.waits()
	order := make([]int, 0, len(p.calls))
	for left := firsts(len(p.calls)); left != 0; {
		i := leastFree(left, waits)
		if i == noCall {
			return nil, false
		}
		left = left.without(i)
		order = append(order, p.calls[i].begin)
	}
	return order, true
}

// possible: is each value that an answer tells the one that was published?
func (p past) possible() bool {
	for _, c := range p.calls {
		if !p.canTell(c) {
			return false
		}
	}
	return true
}

// canTell: could it find what it tells? A Publish that is Ok is among what was made; one that is not says that there is a value, but not which.
func (p past) canTell(c call) bool {
	switch c.op.Kind {
	case api.TPublish:
		_, is := p.made[c.op.Key]
		return is
	case api.TLookup:
		return !c.reply.Ok || p.has(c.op.Key, c.reply.Value)
	}
	for i, key := range c.reply.Keys {
		if !p.has(key, c.reply.Values[i]) {
			return false
		}
	}
	return true
}

func (p past) has(key int, value string) bool {
	c, is := p.made[key]
	return is && c.op.Value == value
}

// ahead: the calls that must stand ahead of the call i.
func (p past) ahead(i int) iter.Seq[int] {
	return func(yield func(int) bool) {
		for j, c := range p.calls {
			if j != i && c.precedes(p.calls[i]) && !yield(j) {
				return
			}
		}
	}
}

// waits: by call those that must stand ahead of it.
func (p past) waits() []set {
	l := make([]set, len(p.calls))
	for i := range l {
		for j := range p.ahead(i) {
			l[i] = l[i].with(j)
		}
	}
	return l
}
