package crew

import (
	"fugue/api"
	"fugue/coop"
)

// noTask: what is told in the place of a task's number.
const noTask = -1

// play: the workers go on one step at a time, as the script says; what they did.
func play(k *known, script []int) []api.Event {
	var told []api.Event
	var bodies []coop.Body
	for i := range k.deques {
		a := &actor{worker: worker{known: k, number: i}, told: &told}
		bodies = append(bodies, coop.Body{Step: a.step, Ready: a.ready})
	}
	coop.Run(bodies, script...)
	return told
}

// actor: a worker that goes on one step at a time, and tells each.
type actor struct {
	worker
	progress
	place int          // in its round: how far on the deque is in which it looks for a task next; 0: its own
	told  *[]api.Event // by all actors, in the order of the steps
}

// progress: how far an actor is with its task.
type progress struct {
	looks     []int // components that are not looked up
	member    int   // whose pass is next
	changed   bool  // did a summary change in this round?
	quiet     bool  // is a round over in which none did?
	published bool
	lowers    []int // components whose counters have not been lowered
}

// ready: a note is there as long as a task stands in a deque.
func (a *actor) ready() bool {
	return a.task != nil || a.left.Load() == 0 || len(a.notes) > 0
}

func (a *actor) tell(e api.Event) {
	e.Worker = a.number
	*a.told = append(*a.told, e)
}

// step: false, if it was the last.
func (a *actor) step() bool {
	switch {
	case a.task != nil:
		a.goOn()
	case a.left.Load() == 0:
		a.tell(api.Event{Kind: api.Exit, Task: noTask})
		return false
	case a.place == 0:
		a.popOwn()
	default:
		a.stealNext()
	}
	return true
}

func (a *actor) popOwn() {
	c, is := a.deques[a.number].Pop()
	if !is {
		a.tell(api.Event{Kind: api.Idle, Task: noTask})
		a.moveOn()
		return
	}
	a.tell(api.Event{Kind: api.Pop, Task: c})
	a.got(c)
}

func (a *actor) stealNext() {
	from := (a.number + a.place) % len(a.deques)
	c, is := a.deques[from].Steal()
	if !is {
		a.tell(api.Event{Kind: api.Steal, Task: noTask, Other: from})
		a.moveOn()
		return
	}
	a.tell(api.Event{Kind: api.Steal, Task: c, Other: from})
	a.got(c)
}

func (a *actor) moveOn() { a.place = (a.place + 1) % len(a.deques) }

// got: a task, which stands in no deque any more: so its note goes too.
func (a *actor) got(component int) {
	<-a.notes
	a.place = 0
	a.begin(component)
	a.progress = progress{looks: a.graph.Callees(component), lowers: a.graph.Callers(component)}
}

// goOn: the next step of its task.
func (a *actor) goOn() {
	switch {
	case len(a.looks) > 0:
		a.lookNext()
	case !a.quiet:
		a.passNext()
	case !a.published:
		a.published = true
		a.tell(api.Event{Kind: api.Publish, Task: a.task.component, Changed: a.publish()})
	case len(a.lowers) > 0:
		a.lowerNext()
	default:
		a.tell(api.Event{Kind: api.Finish, Task: a.task.component})
		a.finish()
	}
}

func (a *actor) lookNext() {
	c := a.looks[0]
	a.looks = a.looks[1:]
	a.tell(api.Event{Kind: api.Look, Task: a.task.component, Other: c, Changed: a.look(c)})
}

func (a *actor) passNext() {
	t := a.task
	changed, _ := t.pass(a.member)
	a.tell(api.Event{Kind: api.Pass, Task: t.component, Other: t.members[a.member], Changed: changed})
	a.changed = a.changed || changed
	a.member++
	if a.member == len(t.members) {
		a.quiet = !a.changed
		a.member, a.changed = 0, false
	}
}

func (a *actor) lowerNext() {
	d := a.lowers[0]
	a.lowers = a.lowers[1:]
	n := a.lower(d)
	a.tell(api.Event{Kind: api.Lower, Task: a.task.component, Other: d, N: n, Changed: n == 0})
}
