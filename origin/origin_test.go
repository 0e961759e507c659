package origin_test

import (
	"slices"
	"testing"

	"leat/api"
	"leat/origin"
)

// vec makes a vector of its first numbers.
func vec(l ...uint64) (v api.Vector) {
	copy(v[:], l)
	return v
}

// ev makes an event that knew so much; its own region's number goes by seq.
func ev(origin int, seq uint64, mark int64, deps ...uint64) api.Event {
	e := api.Event{Origin: origin, Seq: seq, Deps: vec(deps...), Kind: api.EvNode, Amount: mark}
	e.Deps[origin-1] = seq - 1
	return e
}

func TestExample(t *testing.T) {
	l := origin.New()
	a, b := ev(1, 1, 0), ev(2, 1, 0, 1)
	if l.Len() != 0 || l.Known() != vec() || len(l.Since(vec(), 9)) != 0 {
		t.Error("P16.1: a new one")
	}
	if e, e2 := l.Add(a), l.Add(b); e != api.OK || e2 != api.OK {
		t.Error("P16.1: ", e, e2)
	}
	if got := l.Since(vec(), 1); !slices.Equal(got, []api.Event{a}) {
		t.Errorf("P16.2: %v", got)
	}
	if got := l.Since(vec(1), 9); !slices.Equal(got, []api.Event{b}) {
		t.Errorf("P16.2: %v", got)
	}
}

func TestAdd(t *testing.T) {
	l := origin.New()
	bad := ev(1, 1, 0)
	bad.Deps[0] = 1
	for i, c := range []struct {
		e    api.Event
		want api.Errno
	}{
		{bad, api.ErrArg}, {api.Event{}, api.ErrArg}, {ev(1, 1, -1), api.ErrArg}, {ev(1, 3, -1), api.ErrArg}, {api.Event{Origin: 9, Seq: 1, Kind: api.EvLeave}, api.ErrArg},
		{ev(1, 2, 0), api.ErrOrder}, {ev(1, 1, 0, 0, 1), api.ErrOrder}, {ev(1, 1, 7), api.OK}, {ev(1, 1, 7), api.ErrAgain}, {ev(1, 1, 8), api.ErrAgain}, {bad, api.ErrArg},
		{ev(1, 3, 0), api.ErrOrder}, {ev(2, 1, 0, 2), api.ErrOrder}, {ev(2, 1, 5, 1), api.OK}, {ev(1, 2, 6, 0, 1), api.OK}, {ev(1, 1, -1), api.ErrArg}, {ev(1, 1, 9, 0, 8), api.ErrAgain},
	} {
		n, known := l.Len(), l.Known()
		if e := l.Add(c.e); e != c.want {
			t.Errorf("P16.1: Add %d: %d, not %d", i, e, c.want)
		}
		if c.want == api.OK {
			n++
			known[c.e.Origin-1]++
		}
		if l.Len() != n || l.Known() != known {
			t.Errorf("P16.1: behind Add %d: %d, %v", i, l.Len(), l.Known())
		}
	}
	for _, c := range []struct {
		i    int
		seq  uint64
		want api.Event
		ok   bool
	}{{1, 1, ev(1, 1, 7), true}, {1, 2, ev(1, 2, 6, 0, 1), true}, {2, 1, ev(2, 1, 5, 1), true}, {1, 3, api.Event{}, false}, {1, 0, api.Event{}, false}, {2, 2, api.Event{}, false}, {3, 1, api.Event{}, false}, {0, 1, api.Event{}, false}, {7, 1, api.Event{}, false}, {-1, 1, api.Event{}, false}, {1, 1<<64 - 1, api.Event{}, false}} {
		if e, ok := l.Get(c.i, c.seq); e != c.want || ok != c.ok {
			t.Errorf("P16.1: Get of %d, %d: %v, %v", c.i, c.seq, e, ok)
		}
	}
	var none *origin.Log
	e, ok := none.Get(1, 1)
	if none.Add(bad) != api.ErrNil || ok || e != (api.Event{}) || none.Known() != vec() || none.Len() != 0 || len(none.Since(vec(), 9)) != 0 || none.Prune(vec(9)) != 0 {
		t.Error("P16.2: of no log")
	}
}

// some is a log, and its events in the order of their adding.
func some(t *testing.T) (*origin.Log, []api.Event) {
	t.Helper()
	l := origin.New()
	all := []api.Event{ev(3, 1, 1), ev(1, 1, 2), ev(3, 2, 3), ev(2, 1, 4, 1), ev(1, 2, 5), ev(3, 3, 6), ev(6, 1, 7, 2, 1, 3), ev(1, 3, 8), ev(2, 2, 9, 3)}
	for _, e := range all {
		if err := l.Add(e); err != api.OK {
			t.Fatal("P16.1: ", err)
		}
	}
	return l, all
}

// unknown is what of events v does not know, most at most.
func unknown(l []api.Event, v api.Vector, most int) []api.Event {
	var out []api.Event
	for _, e := range l {
		if e.Seq > v[e.Origin-1] && len(out) < most {
			out = append(out, e)
		}
	}
	return out
}

func TestSinceAndPrune(t *testing.T) {
	vs := []api.Vector{vec(), vec(1), vec(2, 1, 1), vec(0, 0, 3), vec(3, 2, 3, 0, 0, 1), vec(1<<64-1, 0, 2), vec(9, 9, 9, 9, 9, 9), vec(0, 5), vec(0, 0, 0, 0, 0, 1)}
	for _, p := range vs {
		l, all := some(t)
		rest := unknown(all, p, 99)
		if n := l.Prune(p); n != len(all)-len(rest) || l.Len() != len(rest) || l.Known() != vec(3, 2, 3, 0, 0, 1) {
			t.Errorf("P16.2: Prune of %v: %d, %d are held", p, n, l.Len())
		}
		for _, e := range all {
			got, ok := l.Get(e.Origin, e.Seq)
			if held := slices.Contains(rest, e); ok != held || held && got != e || !held && got != (api.Event{}) {
				t.Errorf("P16.1: Get behind Prune of %v: %v, %v", p, got, ok)
			}
		}
		for _, v := range vs {
			for _, most := range []int{-1 << 63, -1, 0, 1, 2, 3, 8, 9, 10, 1<<63 - 1} {
				if got, want := l.Since(v, most), unknown(rest, v, most); !slices.Equal(got, want) {
					t.Errorf("P16.2: behind Prune of %v, Since of %v, %d: %v, not %v", p, v, most, got, want)
				}
			}
		}
		for _, e := range all {
			if err := l.Add(e); err != api.ErrAgain {
				t.Errorf("P16.1: Add of what was pruned: %d", err)
			}
		}
		if n := l.Prune(p); n != 0 {
			t.Errorf("P16.2: Prune again: %d", n)
		}
		more := ev(1, 4, 10)
		if err := l.Add(more); err != api.OK {
			t.Errorf("P16.1: Add behind Prune of %v: %d", p, err)
		}
		if got, want := l.Since(vec(), 99), append(rest, more); !slices.Equal(got, want) {
			t.Errorf("P16.2: behind Prune of %v, with one more: %v", p, got)
		}
	}
}

func TestSinceCanBeAdded(t *testing.T) {
	_, all := some(t)
	for n := range all {
		knows := origin.New()
		for _, e := range all[:n] {
			knows.Add(e)
		}
		whole, _ := some(t)
		whole.Prune(vec(0, 0, min(knows.Known()[2], 1)))
		for most := 1; most < 4; most++ {
			other := origin.New()
			for _, e := range all[:n] {
				other.Add(e)
			}
			for {
				l := whole.Since(other.Known(), most)
				if len(l) == 0 {
					break
				}
				for _, e := range l {
					if err := other.Add(e); err != api.OK {
						t.Fatalf("P16.3: %v: %d", e, err)
					}
				}
			}
			if other.Known() != whole.Known() || other.Len() != len(all) {
				t.Errorf("P16.3: %v", other.Known())
			}
		}
	}
}

func TestMemory(t *testing.T) {
	l, all := some(t)
	got := l.Since(vec(), 9)
	clear(got)
	if !slices.Equal(l.Since(vec(), 9), all) {
		t.Error("R3: what was answered is kept")
	}
}
