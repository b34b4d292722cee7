package sums

import (
	"bytes"

	"fugue/api"
)

// refusal is what a reader throws where the bytes are not as they must be.
type refusal struct {
	err api.Errno
}

// must gives up, however deep inside, unless something holds.
func must(holds bool) {
	if !holds {
		panic(refusal{api.ErrSummary})
	}
}

// caught tells what reading throws; if it comes to its end, that is nothing.
func caught(reading func()) (e api.Errno) {
	defer func() {
		if thrown := recover(); thrown != nil {
			// Nothing else is thrown here; if it were, it must not pass for an answer.
			e = thrown.(refusal).err
		}
	}()
	reading()
	return api.OK
}

// reader takes things from the beginning of the bytes that are left. What is made of them grows as they come, so that few bytes cannot ask for much memory.
type reader struct {
	left []byte
}

// take: the next bytes, which are not to be written to nor kept.
func (r *reader) take(many int) []byte {
	must(many <= len(r.left))
	b := r.left[:many]
	r.left = r.left[many:]
	return b
}

func (r *reader) expect(b []byte) { must(bytes.Equal(r.take(len(b)), b)) }

func (r *reader) end() { must(len(r.left) == 0) }

func (r *reader) number() int {
	n := int(r.take(1)[0])
	must(mayBe(n))
	return n
}

func (r *reader) numbers(many int) []int {
	l := make([]int, many)
	for i := range l {
		l[i] = r.number()
	}
	return l
}

func (r *reader) summary(f api.Func) api.Summary {
	s := api.Summary{Heap: make([]int, f.Params), Result: make([][]int, f.Params)}
	for i := range s.Heap {
		s.Heap[i] = r.number()
		s.Result[i] = r.numbers(f.Results)
	}
	return s
}

func (r *reader) summaries(fs []api.Func) []api.Summary {
	var l []api.Summary
	for _, f := range fs {
		l = append(l, r.summary(f))
	}
	r.end()
	return l
}

func (r *reader) bits(many int) []bool {
	packed := r.take((many + 7) / 8)
	l := make([]bool, many)
	for i := range l {
		l[i] = packed[i/8]>>(i%8)&1 == 1
	}
	// What stands above the last bit would be lost, and with it that no two bytes are one result.
	must(many%8 == 0 || packed[many/8]>>(many%8) == 0)
	return l
}

// code: a bool for each instruction, from bits of the News.
func (r *reader) code(f api.Func) []bool {
	bits := r.bits(news(f))
	l := make([]bool, len(f.Code))
	for at, in := range f.Code {
		if in.Op == api.New {
			l[at] = bits[0]
			bits = bits[1:]
		}
	}
	return l
}

func (r *reader) result(p api.Program) api.Result {
	r.expect(layOpening(nil, p))
	var out api.Result
	for _, f := range p.Funcs {
		r.expect(layHead(nil, f))
		out.Sums = append(out.Sums, r.summary(f))
		out.Vars = append(out.Vars, r.bits(f.Vars))
		out.Code = append(out.Code, r.code(f))
	}
	r.end()
	return out
}
