package cells_test

import (
	"runtime"
	"slices"
	"sync"
	"testing"

	"fugue/api"
	"fugue/cells"
)

const mark = -77 // stands in spare room

// overwrite lays the mark into a list and into its spare room.
func overwrite(l []int) {
	l = l[:cap(l)]
	for i := range l {
		l[i] = mark
	}
}

func TestLiveIsNewMemory(t *testing.T) {
	m := five(t)
	was := told(m, 5)
	first, second := m.Live(), m.Live()
	overwrite(first)
	if !slices.Equal(second, []int{1, 2, 4, 5}) {
		t.Errorf("P3.9 two answers of Live share memory: %v", second)
	}
	if !slices.Equal(told(m, 5), was) {
		t.Errorf("P3.9 Live's answer shares memory with the memory itself")
	}
	kept := m.Live()
	drops(t, m, api.OK, 2, 5)
	makes(t, m, 1, true, 6)
	if !slices.Equal(kept, []int{1, 2, 4, 5}) {
		t.Errorf("P3.9 an answer of Live changed later: %v", kept)
	}
	overwrite(kept)
	lives(t, m, 1, 4, 6)
}

func TestDropLeavesItsArgumentAlone(t *testing.T) {
	for _, c := range []struct {
		drop []int
		want api.Errno
	}{{[]int{5, 1, 4}, api.OK}, {[]int{5, 1, 3}, api.ErrDangle}, {[]int{5, 1, 5}, api.ErrDangle}, {[]int{5, 1, 9}, api.ErrArg}} {
		m := five(t)
		whole := append(slices.Clone(c.drop), mark, mark)
		drops(t, m, c.want, whole[:3]...)
		if !slices.Equal(whole[:3], c.drop) || whole[3] != mark || whole[4] != mark {
			t.Errorf("P3.9 Drop(%v) has changed what was handed in: %v", c.drop, whole)
		}
		was := told(m, 5)
		overwrite(whole)
		if !slices.Equal(told(m, 5), was) {
			t.Errorf("P3.9 Drop(%v) keeps what was handed in", c.drop)
		}
		pop(t, m)
		if c.want == api.OK {
			lives(t, m, 2)
		} else {
			lives(t, m, 2, 4)
		}
	}
}

func TestMemoriesKnowNothingOfOneAnother(t *testing.T) {
	m, n := cells.New(2), cells.New(2)
	push(t, m)
	is(t, "P3.9 Pop of the other memory", n.Pop(), api.ErrFrame)
	makes(t, m, 1, true, 1)
	makes(t, m, 1, true, 2)
	loadsNone(t, n, ptr(1), 0, api.ErrArg)
	drops(t, n, api.ErrArg, 1)
	push(t, n)
	makes(t, n, 2, false, 1)
	stores(t, n, ptr(1), 0, num(5), api.OK)
	sets(t, n, 0, ptr(1), api.OK)
	sets(t, n, 1, ptr(2), api.ErrArg)
	loads(t, m, ptr(1), 0, null)
	global(t, m, 0, null)
	pop(t, n)
	lives(t, n)
	lives(t, m, 1, 2)
}

// Of two memories that are used at one time the detector of races finds nothing, and each is as if it were alone.
func TestMemoriesAtOneTime(t *testing.T) {
	var all sync.WaitGroup
	for range 4 {
		all.Go(func() {
			m := cells.New(1)
			for n := range 500 {
				push(t, m)
				makes(t, m, 2, n%2 == 0, n+1)
				stores(t, m, ptr(n+1), 1, num(n), api.OK)
				sets(t, m, 0, ptr(n+1), api.OK)
				loads(t, m, ptr(n+1), 1, num(n))
				pop(t, m)
			}
			if len(m.Live()) != 250 {
				t.Errorf("P3.9 Live: %d cells, want 250", len(m.Live()))
			}
		})
	}
	all.Wait()
}

// inUse: how many bytes the program holds.
func inUse() int {
	var s runtime.MemStats
	runtime.GC()
	runtime.ReadMemStats(&s)
	return int(s.HeapAlloc)
}

// A frame that stays while its cells come and go does not grow: of what was dropped nothing is kept.
func TestNothingIsKeptOfWhatIsDropped(t *testing.T) {
	m := cells.New(0)
	push(t, m)
	makes(t, m, 1, false, 1)
	was := inUse()
	for n := 2; n < 500000; n++ {
		m.Make(api.MaxFields, n%4 == 0)
		m.Drop(n)
	}
	if grown := inUse() - was; grown > 1<<20 {
		t.Errorf("P3.8 a memory with one cell has grown by %d bytes", grown)
	}
	lives(t, m, 1)
	pop(t, m)
	lives(t, m)
}

// Nor does a memory grow because frames come and go.
func TestNothingIsKeptOfFramesThatAreGone(t *testing.T) {
	m := cells.New(0)
	push(t, m)
	was := inUse()
	for range 250000 {
		m.Push()
		m.Make(api.MaxFields, false)
		m.Make(1, false)
		m.Pop()
	}
	if grown := inUse() - was; grown > 1<<20 {
		t.Errorf("P3.2 a memory without cells has grown by %d bytes", grown)
	}
	lives(t, m)
}

// A call costs what it has to do with, not what is there besides: else this would take hours.
func TestManyCellsBesides(t *testing.T) {
	m := cells.New(0)
	const many = 200000
	push(t, m)
	for n := range many {
		m.Make(1, n%2 == 0)
	}
	for n := range many {
		push(t, m)
		m.Make(1, false)
		if n%2 == 0 {
			m.Drop(many + n + 1)
		}
		pop(t, m)
	}
	if l := m.Live(); len(l) != many || l[many-1] != many {
		t.Errorf("P3.7 Live: %d cells, want %d", len(l), many)
	}
	pop(t, m)
	if l := m.Live(); len(l) != many/2 {
		t.Errorf("P3.7 Live: %d cells, want %d", len(l), many/2)
	}
}
