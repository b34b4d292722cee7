package engine

import (
	"fugue/api"
	"fugue/code"
	"fugue/crew"
	"fugue/sums"
	"fugue/whole"
)

// job: the way from one program's bytes to its result's bytes. Each step finds here what those ahead of it have left.
type job struct {
	given   []byte
	workers int
	script  []int

	program api.Program
	offset  int // of the first violation
	sums    []api.Summary
	steps   int // of all workers
	result  api.Result
	told    []byte
}

// step: a part of the way, or the error at which it is over.
type step func() api.Errno

func (j *job) scripted() []step {
	return []step{j.count, j.decode, j.solveAsScripted, j.place, j.encode}
}

func (j *job) free() []step {
	return []step{j.count, j.decode, j.solveFreely, j.place, j.encode}
}

// done: the steps one behind the other, until one tells an error.
func done(steps []step) api.Errno {
	for _, do := range steps {
		if e := do(); e != api.OK {
			return e
		}
	}
	return api.OK
}

// count: the crew asks it too, but only of a program: a wrong number of workers counts ahead of wrong bytes.
func (j *job) count() api.Errno {
	if j.workers < 1 || j.workers > api.MaxWorkers {
		return api.ErrWorkers
	}
	return api.OK
}

func (j *job) decode() (e api.Errno) {
	j.program, e, j.offset = code.Decode(j.given)
	return e
}

func (j *job) solveAsScripted() api.Errno {
	l, events, e := crew.Scripted(j.program, j.workers, j.script...)
	j.sums, j.steps = l, len(events)
	return e
}

func (j *job) solveFreely() (e api.Errno) {
	j.sums, e = crew.Free(j.program, j.workers)
	return e
}

func (j *job) place() (e api.Errno) {
	j.result, e = whole.Place(j.program, j.sums)
	return e
}

func (j *job) encode() (e api.Errno) {
	j.told, e = sums.EncodeResult(j.program, j.result)
	return e
}
