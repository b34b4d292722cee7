package cache_test

import (
	"bytes"
	"slices"
	"testing"

	"fugue/api"
	"fugue/cache"
	"fugue/code"
	"fugue/text"
)

const (
	handsOn = "v1 = f1(v0);return v1"
	back    = "return v0"
)

func chapter(t *testing.T) api.Program {
	t.Helper()
	return with(t, 0, fn(1, 1, 2, handsOn), fn(1, 1, 1, back))
}

// keys: a new cache that has solved a program has just these keys, told as programs with 16 globals.
func keys(t *testing.T, what string, p api.Program, want ...[]string) {
	t.Helper()
	c := cache.New()
	if _, _, e := c.Solve(p); e != api.OK {
		t.Fatalf("P21.1: %s: error %d", what, e)
	}
	var got, wanted []string
	for _, x := range items(t, c) {
		q, e, at := code.Decode([]byte(x.key))
		if e != api.OK {
			t.Fatalf("P21.1: %s: a key that is no program: error %d at %d", what, e, at)
		}
		s, _ := text.Print(q)
		got = append(got, s)
	}
	for _, funcs := range want {
		s, _ := text.Print(with(t, 16, funcs...))
		wanted = append(wanted, s)
	}
	slices.Sort(got)
	slices.Sort(wanted)
	if !slices.Equal(got, wanted) {
		t.Errorf("P21.1: %s: the closed programs are\n%s\nwant\n%s", what, cut(brief(got)), cut(brief(wanted)))
	}
}

func TestFirstExample(t *testing.T) {
	keys(t, "the chapter's", chapter(t), []string{fn(1, 1, 1, back)}, []string{fn(1, 1, 2, handsOn), fn(1, 1, 2, "v1 = v0;return v1")})
}

func TestSecondExample(t *testing.T) {
	c := cache.New()
	solves(t, "new", c, chapter(t), 4)
	solves(t, "once more", c, chapter(t), 0)
	twice := with(t, 0, fn(1, 1, 2, handsOn), fn(1, 1, 1, back), fn(1, 1, 1, back))
	solves(t, "f1 twice", c, twice, 0)
	solves(t, "f1 twice, in a new one", cache.New(), twice, 4)
}

func TestThirdExample(t *testing.T) {
	c := cache.New()
	solves(t, "new", c, chapter(t), 4)
	solves(t, "loaded", loaded(t, c.Bytes()), chapter(t), 0)
	for _, b := range [][]byte{nil, {}, {0x66, 0x67, 2, 0}, {0x66, 0x67, 2, 0xff}} {
		if c, e := cache.Load(b); c != nil || e != api.ErrCache {
			t.Errorf("P21.3: Load of %v: %v, error %d, want nil and ErrCache", b, c != nil, e)
		}
	}
	empty := loaded(t, []byte{0x66, 0x67, 2})
	if b := cache.New().Bytes(); !bytes.Equal(b, []byte{0x66, 0x67, 2}) {
		t.Errorf("P21.3: Bytes of a new cache: %v", b)
	}
	solves(t, "one that was loaded without entries", empty, chapter(t), 4)
}

func TestFourthExample(t *testing.T) {
	c := cache.New()
	solves(t, "new", c, chapter(t), 4)
	honest := items(t, c)
	for i := range honest {
		for _, lie := range []item{
			{honest[i].key, turned(honest[i].result, len(honest[i].result)-2, 1), honest[i].certificate},
			{honest[i].key, honest[i].result, turned(honest[i].certificate, 6, 2)},
		} {
			l := slices.Clone(honest)
			l[i] = lie
			c := loaded(t, bytesOf(l...))
			solves(t, "with a lie", c, chapter(t), 2)
			if !slices.Equal(items(t, c), honest) {
				t.Errorf("P21.1: the entry is not right from then on")
			}
			solves(t, "behind a lie", c, chapter(t), 0)
		}
	}
}
