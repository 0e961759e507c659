package hold_test

import (
	"testing"

	"leat/api"
	"leat/hold"
	"leat/order"
)

// vec makes a vector of its first numbers.
func vec(l ...uint64) (v api.Vector) {
	copy(v[:], l)
	return v
}

// ev makes an event that knew so much; its own region's number goes by seq.
func ev(origin int, seq uint64, mark int64, deps ...uint64) api.Event {
	e := api.Event{Origin: origin, Seq: seq, Deps: vec(deps...), Kind: api.EvNode, Amount: mark}
	e.Deps[origin-1] = seq - 1
	return e
}

func TestExample(t *testing.T) {
	h := hold.New()
	first, second := ev(1, 1, 5), ev(1, 2, 6)
	if h.Len() != 0 {
		t.Error("P15.1: Len of a new one: ", h.Len())
	}
	if e := h.Put(vec(), second); e != api.OK || h.Len() != 1 {
		t.Error("P15.1: ", e, h.Len())
	}
	if e, ok := h.Next(vec()); ok || e != (api.Event{}) {
		t.Errorf("P15.2: %v, %v", e, ok)
	}
	if e := h.Put(vec(), first); e != api.OK || h.Len() != 2 {
		t.Error("P15.1: ", e, h.Len())
	}
	if e, ok := h.Next(vec()); !ok || e != first || h.Len() != 1 {
		t.Errorf("P15.2: %v, %v", e, ok)
	}
	if e, ok := h.Next(vec(1)); !ok || e != second || h.Len() != 0 {
		t.Errorf("P15.2: %v, %v", e, ok)
	}
}

func TestPut(t *testing.T) {
	h := hold.New()
	bad := ev(1, 1, 0)
	bad.Deps[0] = 1
	for i, c := range []struct {
		known api.Vector
		e     api.Event
		want  api.Errno
	}{
		{vec(), bad, api.ErrArg}, {vec(9), bad, api.ErrArg}, {vec(), api.Event{}, api.ErrArg}, {vec(), ev(1, 1, -1), api.ErrArg}, {vec(), api.Event{Origin: 7, Seq: 1, Kind: api.EvLeave}, api.ErrArg},
		{vec(3), ev(1, 3, 0), api.ErrAgain}, {vec(3), ev(1, 1, 0), api.ErrAgain}, {vec(3), ev(1, 4, 0), api.OK}, {vec(3), ev(1, 4, 0), api.ErrAgain}, {vec(3), ev(1, 4, 77), api.ErrAgain},
		{vec(3), ev(2, 4, 0), api.OK}, {vec(3), ev(1, 5, 0), api.OK}, {vec(), ev(6, api.MaxSeq-1, 0), api.OK}, {vec(), ev(1, 1, 0), api.OK},
	} {
		n := h.Len()
		if e := h.Put(c.known, c.e); e != c.want || (c.want == api.OK) != (h.Len() == n+1) || c.want != api.OK && h.Len() != n {
			t.Errorf("P15.1: Put %d: %d, %d wait", i, e, h.Len())
		}
	}
	var none *hold.Hold
	if e, ok := none.Next(vec()); none.Put(vec(), bad) != api.ErrNil || ok || e != (api.Event{}) || none.Len() != 0 {
		t.Error("P15.2: of no hold")
	}
}

func TestFull(t *testing.T) {
	h := hold.New()
	for i := range uint64(api.MaxHold) {
		if e := h.Put(vec(), ev(1+int(i%3), 2+i, 0)); e != api.OK {
			t.Error("P15.1: ", i, e)
		}
	}
	if e := h.Put(vec(), ev(4, 1, 0)); e != api.ErrFull || h.Len() != api.MaxHold {
		t.Error("P15.1: ", e, h.Len())
	}
	if e := h.Put(vec(), ev(1, 2, 0)); e != api.ErrAgain {
		t.Error("P15.1: ", e)
	}
	if e := h.Put(vec(), ev(1, 2, -1)); e != api.ErrArg {
		t.Error("P15.1: ", e)
	}
	if e := h.Put(vec(0, 0, 0, 1), ev(4, 1, 0)); e != api.ErrAgain {
		t.Error("P15.1: ", e)
	}
	if _, ok := h.Next(vec(2)); ok || h.Len() != api.MaxHold-1 {
		t.Error("P15.2: ", ok, h.Len())
	}
	if e := h.Put(vec(), ev(4, 1, 0)); e != api.OK || h.Len() != api.MaxHold {
		t.Error("P15.1: ", e, h.Len())
	}
}

func TestNext(t *testing.T) {
	h := hold.New()
	l := []api.Event{ev(6, 1, 1), ev(3, 2, 2, 1), ev(2, 1, 3), ev(1, 4, 4), ev(1, 3, 5), ev(2, 2, 6, 2), ev(5, 1, 7, 9)}
	for _, e := range l {
		h.Put(vec(), e)
	}
	for i, c := range []struct {
		known api.Vector
		want  api.Event
		ok    bool
		left  int
	}{
		{vec(), ev(2, 1, 3), true, 6},
		{vec(), ev(6, 1, 1), true, 5},
		{vec(), api.Event{}, false, 5},
		{vec(1, 1), api.Event{}, false, 5},
		{vec(1, 1, 1), ev(3, 2, 2, 1), true, 4},
		{vec(2, 1, 2), ev(1, 3, 5), true, 3},
		{vec(4, 1, 2), ev(2, 2, 6, 2), true, 1},
		{vec(9, 2, 2, 0, 1), api.Event{}, false, 0},
	} {
		if e, ok := h.Next(c.known); e != c.want || ok != c.ok || h.Len() != c.left {
			t.Errorf("P15.2: Next %d: %v, %v, %d wait", i, e, ok, h.Len())
		}
	}
	h.Put(vec(), ev(1, 1, 0))
	if e, ok := h.Next(vec(1<<64-1, 1<<64-1)); ok || e != (api.Event{}) || h.Len() != 0 {
		t.Errorf("P15.2: %v, %v", e, ok)
	}
}

// roll is a row of numbers that is the same each time.
func roll(seed *uint32, n int) int {
	*seed = *seed*1664525 + 1013904223
	return int(*seed>>8) % n
}

func TestAnyOrder(t *testing.T) {
	for seed := range uint32(40) {
		r := seed
		var l []api.Event
		var known [api.MaxRegions]api.Vector
		for len(l) < api.MaxHold {
			i := roll(&r, api.MaxRegions)
			for k, v := range known[roll(&r, api.MaxRegions)] {
				known[i][k] = max(known[i][k], v)
			}
			l = append(l, api.Event{Origin: i + 1, Seq: known[i][i] + 1, Deps: known[i], Kind: api.EvNode, Amount: int64(len(l))})
			known[i][i]++
		}
		l = append(l, l...)
		for i := range l {
			j := roll(&r, i+1)
			l[i], l[j] = l[j], l[i]
		}
		h, knows, seen := hold.New(), vec(), 0
		for _, e := range l {
			h.Put(knows, e)
			for e, ok := h.Next(knows); ok; e, ok = h.Next(knows) {
				if !order.Ready(knows, e) {
					t.Fatalf("P15.3: %v comes out too early", e)
				}
				knows[e.Origin-1]++
				seen++
			}
		}
		if seen != api.MaxHold || h.Len() != 0 {
			t.Errorf("P15.3: %d came out, %d wait", seen, h.Len())
		}
	}
}
