package run

import "fugue/api"

// operations: what each operation does, by its number.
type operations [api.Same + 1]func(*Machine, *line)

func newOperations() operations {
	return operations{
		api.Int:    (*Machine).setInt,
		api.Null:   (*Machine).setNil,
		api.Copy:   (*Machine).copyValue,
		api.Add:    (*Machine).add,
		api.Less:   (*Machine).less,
		api.Same:   (*Machine).same,
		api.Addr:   (*Machine).takeAddress,
		api.New:    (*Machine).makeCell,
		api.Load:   (*Machine).load,
		api.Store:  (*Machine).store,
		api.Get:    (*Machine).getGlobal,
		api.Set:    (*Machine).setGlobal,
		api.Print:  (*Machine).print,
		api.Jump:   (*Machine).jump,
		api.If:     (*Machine).jumpIf,
		api.Call:   (*Machine).call,
		api.Return: (*Machine).giveBack,
	}
}

func (m *Machine) setInt(i *line) {
	m.write(i.R, number(i.N))
}

func (m *Machine) setNil(i *line) {
	m.write(i.R, api.Value{})
}

func (m *Machine) copyValue(i *line) {
	m.write(i.R, m.read(i.S))
}

func (m *Machine) add(i *line) {
	m.write(i.R, number(intOf(m.read(i.S))+intOf(m.read(i.T))))
}

func (m *Machine) less(i *line) {
	m.write(i.R, truth(intOf(m.read(i.S)) < intOf(m.read(i.T))))
}

func (m *Machine) same(i *line) {
	m.write(i.R, truth(m.read(i.S) == m.read(i.T)))
}

func (m *Machine) takeAddress(i *line) {
	m.write(i.R, m.youngest().variable(i.S))
}

func (m *Machine) makeCell(i *line) {
	n, _ := m.memory.Make(i.N, i.heap)
	m.write(i.R, pointer(n))
}

func (m *Machine) load(i *line) {
	x, e := m.memory.Load(m.read(i.S), i.N)
	if e != api.OK {
		m.end = endBy(e)
		return
	}
	m.write(i.R, x)
}

func (m *Machine) store(i *line) {
	if e := m.memory.Store(m.read(i.R), i.N, m.read(i.S)); e != api.OK {
		m.end = endBy(e)
	}
}

func (m *Machine) getGlobal(i *line) {
	x, _ := m.memory.Global(i.N)
	m.write(i.R, x)
}

func (m *Machine) setGlobal(i *line) {
	m.memory.SetGlobal(i.N, m.read(i.S))
}

func (m *Machine) print(i *line) {
	m.prints = append(m.prints, told(m.read(i.S)))
}

func (m *Machine) jump(i *line) {
	m.youngest().place = i.N
}

func (m *Machine) jumpIf(i *line) {
	if x := m.read(i.S); x != (api.Value{}) && x != number(0) {
		m.jump(i)
	}
}

func (m *Machine) call(i *line) {
	m.begin(i.N, m.readAll(i.Args))
}

func (m *Machine) giveBack(i *line) {
	results := m.readAll(i.Args)
	m.finish()
	if len(m.frames) == 0 {
		m.done(results)
		return
	}
	for j, v := range m.last().Rets {
		m.write(v, results[j])
	}
}

// done: the run is over with these results.
func (m *Machine) done(results []api.Value) {
	for _, x := range results {
		m.results = append(m.results, told(x))
	}
	m.end = api.Done
}

// endBy: how a run ends whose memory answers a Load or a Store so.
func endBy(e api.Errno) int {
	switch e {
	case api.ErrDangle:
		return api.Dangle
	case api.ErrNoField:
		return api.Fields
	}
	return api.Nils
}
