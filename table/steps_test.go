package table_test

import (
	"fmt"
	"testing"

	"fugue/api"
	"fugue/table"
)

// A Publish or a Lookup of each stripe, begun when a Snapshot has done so many steps, then picked as often as it can go on: it can just if its stripe is not locked yet.
func TestAStripeThatIsLocked(t *testing.T) {
	for key := -8; key < 16; key++ {
		stripe := plainMod(key, api.Stripes)
		for locks := range api.Stripes + 1 {
			script := times(1+locks, 0, times(30, 1)...) // begin and lock; then client 1, or who else can go on
			seen := "[] []"
			if stripe >= locks {
				seen = fmt.Sprintf("[%d] [a]", key)
			}
			begun := fmt.Sprintf("0+snapshot, 1+publish %d a, ", key)
			plays(t, "Publish", [][]api.Op{{snap}, {pub(key, "a")}}, script, begun+"1-new, 0-all "+seen)
			waits := stripe < locks
			h := table.Play([][]api.Op{{snap}, {look(key)}, {pub(64, "")}}, times(1+locks, 0, 1, 1, 1, 1)...)
			if ended := len(h) > 2 && !h[2].Begin && h[2].Client == 1; ended == waits {
				t.Errorf("P11.3: a Lookup of %d behind %d locks: %s", key, locks, tell(h))
			}
		}
	}
}

// A Snapshot is eleven steps: it begins, locks eight stripes, reads, ends.
func TestTheStepsOfASnapshot(t *testing.T) {
	clients := [][]api.Op{{snap}, {look(7)}}
	for steps := 1; steps <= 11; steps++ {
		h := table.Play(clients, times(steps, 0, 1, 1, 1)...)
		want := "0+snapshot, 1+lookup 7, 1-none, 0-all [] []"
		switch steps {
		case 9: // all are locked: client 0 reads, with the second pick; then 1 takes effect, then the round
			want = "0+snapshot, 1+lookup 7, 0-all [] [], 1-none"
		case 11:
			want = "0+snapshot, 0-all [] [], 1+lookup 7, 1-none"
		}
		if tell(h) != want {
			t.Errorf("P11.3: behind %d steps of a Snapshot: %s, want %s", steps, tell(h), want)
		}
	}
}

// The locks are gone when it has read, ahead of its end; what was published behind the reading is not told.
func TestUnlockedByReading(t *testing.T) {
	for key := range api.Stripes {
		begun := fmt.Sprintf("1+publish %d a, 0+snapshot, ", key)
		plays(t, "ahead of the reading it waits", [][]api.Op{{snap}, {pub(key, "a")}}, append([]int{1}, times(9, 0, 1, 1, 1)...), begun+"1-new, 0-all [] []")
		plays(t, "behind the reading it is able", [][]api.Op{{snap}, {pub(key, "a")}}, append([]int{1}, times(10, 0, 1, 1, 0)...), begun+"1-new, 0-all [] []")
		plays(t, "ahead of the locks it is told", [][]api.Op{{snap}, {pub(key, "a")}}, append([]int{1, 1}, times(11, 0)...), begun+fmt.Sprintf("0-all [%d] [a], 1-new", key))
	}
}

// Of two Snapshots the second waits at the first stripe until the first has read; then it has all of them for itself.
func TestTwoSnapshots(t *testing.T) {
	two := [][]api.Op{{snap}, {snap}}
	plays(t, "in the round", two, nil, "0+snapshot, 1+snapshot, 0-all [] [], 1-all [] []")
	plays(t, "the second one first", two, []int{0, 1, 1}, "0+snapshot, 1+snapshot, 1-all [] [], 0-all [] []")
	plays(t, "the first one always", two, times(40, 0), "0+snapshot, 0-all [] [], 1+snapshot, 1-all [] []")
	plays(t, "the last one always", two, times(40, -1), "1+snapshot, 1-all [] [], 0+snapshot, 0-all [] []")
	three := [][]api.Op{{snap}, {snap}, {pub(7, "a")}}
	// 0 begins and locks the stripe 0; 1 begins and waits; 2 publishes, since the stripe 7 is free: both tell it.
	plays(t, "one that waits holds no stripe", three, []int{0, 0, 1, 1, 1}, "0+snapshot, 1+snapshot, 2+publish 7 a, 2-new, 0-all [7] [a], 1-all [7] [a]")
	// 0 has locked all, 1 and 2 wait; 0 reads; 1 locks the stripe 0 alone, and 2 publishes.
	plays(t, "between the two", three, append(times(9, 0, 1, 1), 0, 1, 2, 2), "0+snapshot, 1+snapshot, 2+publish 7 a, 2-new, 0-all [] [], 1-all [7] [a]")
	// the same, but 1 locks all of them and reads first; the round goes on behind it.
	plays(t, "behind the two", three, append(times(9, 0, 1, 1, 0), times(9, 1)...), "0+snapshot, 1+snapshot, 2+publish 7 a, 0-all [] [], 1-all [] [], 2-new")
}

// Who waits is passed over in the round, and has its turn when it can go on again.
func TestTheRoundPassesOverWhoWaits(t *testing.T) {
	clients := [][]api.Op{{pub(0, "a")}, {snap}, {look(0)}, {look(7)}}
	// 1 begins and locks 0; then 2, 3, 0 begin in the round: 0 and 2 wait, 3 does not; when 1 has read, 2 is next.
	plays(t, "behind a lock", clients, []int{1, 1}, "1+snapshot, 2+lookup 0, 3+lookup 7, 0+publish 0 a, 3-none, 1-all [] [], 2-none, 0-new")
}

// A Snapshot's locks hang on nobody else's calls: a second Snapshot of the same client begins with none.
func TestSnapshotsOneBehindTheOther(t *testing.T) {
	clients := [][]api.Op{{snap, snap}, {pub(0, "a"), pub(7, "b")}}
	for n := range 25 {
		for m := range 12 {
			script := times(n, 0, times(m, 1, times(30, 0)...)...)
			if h := table.Play(clients, script...); len(h) != 8 || !alike(h, plainPlay(clients, script)) {
				t.Errorf("P11.3: the script %v: %s", script, tell(h))
			}
		}
	}
}
