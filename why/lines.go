package why

import (
	"strconv"

	"fugue/api"
)

// lines: how steps are told.
type lines struct {
	p    api.Program
	news map[int][]int // by function, as they are asked for: the places of its News
}

func newLines(p api.Program) lines { return lines{p, map[int][]int{}} }

// may: can the step be told?
func (l lines) may(s api.Step) bool {
	if !below(s.Func, len(l.p.Funcs)) {
		return false
	}
	f := l.p.Funcs[s.Func]
	locations := firstResult + f.Results + f.Vars + len(l.newsOf(s.Func))
	return below(s.Dst, locations) && below(s.Src, locations) &&
		s.Derefs >= address && s.Derefs <= api.MaxDeref &&
		s.Rule >= byRoot && s.Rule <= byEscape && below(s.At, len(f.Code))
}

func (l lines) newsOf(f int) []int {
	places, is := l.news[f]
	if is {
		return places
	}
	for at, x := range l.p.Funcs[f].Code {
		if x.Op == api.New {
			places = append(places, at)
		}
	}
	l.news[f] = places
	return places
}

// of: the line of a step that may be told.
func (l lines) of(s api.Step) string {
	return "f" + strconv.Itoa(s.Func) + ": " + l.name(s.Func, s.Src) + " -> " + l.name(s.Func, s.Dst) + " (" + strconv.Itoa(s.Derefs) + ") " + ruleName(s) + "\n"
}

// name: how a function's location is told.
func (l lines) name(n, location int) string {
	f := l.p.Funcs[n]
	if location == heap {
		return "heap"
	}
	location -= firstResult
	if location < f.Results {
		return "result " + strconv.Itoa(location)
	}
	location -= f.Results
	if location < f.Vars {
		return "var " + strconv.Itoa(location)
	}
	return "new " + strconv.Itoa(l.newsOf(n)[location-f.Vars])
}

func ruleName(s api.Step) string {
	switch s.Rule {
	case byRoot:
		return "root"
	case byCode:
		return "code " + strconv.Itoa(s.At)
	case byEscape:
		return "escapes"
	}
	return "call " + strconv.Itoa(s.At)
}
