package order_test

import (
	"slices"
	"testing"

	"leat/api"
	"leat/order"
)

// vec makes a vector of its first numbers.
func vec(l ...uint64) (v api.Vector) {
	copy(v[:], l)
	return v
}

// ev makes an event that knew so much; its own region's number goes by seq. The Amount tells unlike ones apart.
func ev(origin int, seq uint64, mark int64, deps ...uint64) api.Event {
	e := api.Event{Origin: origin, Seq: seq, Deps: vec(deps...), Kind: api.EvNode, Amount: mark}
	e.Deps[origin-1] = seq - 1
	return e
}

// none are events that may not be.
func none() []api.Event {
	a := ev(1, 1, 0)
	a.Deps[0] = 1
	return []api.Event{a, ev(1, 1, -1), {}, {Origin: 7, Seq: 1, Kind: api.EvLeave}, {Origin: -1, Seq: 1, Kind: api.EvLeave}, {Origin: 1, Seq: 1, Kind: 9}, {Origin: 0, Seq: 1, Kind: api.EvLeave}}
}

func TestReadyAndLate(t *testing.T) {
	for i, c := range []struct {
		known       api.Vector
		e           api.Event
		ready, late bool
	}{
		{vec(), ev(1, 1, 0), true, false},
		{vec(), ev(1, 2, 0), false, false},
		{vec(1), ev(1, 2, 0), true, false},
		{vec(2), ev(1, 2, 0), false, true},
		{vec(1), ev(1, 1, 0), false, true},
		{vec(1<<64 - 1), ev(1, 1, 0), false, true},
		{vec(9), ev(1, 1, 0, 0, 5), false, true},
		{vec(0, 0), ev(2, 1, 0, 1), false, false},
		{vec(1, 0), ev(2, 1, 0, 1), true, false},
		{vec(5, 0), ev(2, 1, 0, 1), true, false},
		{vec(1, 0, 0, 0, 0, 3), ev(2, 1, 0, 1, 0, 0, 0, 0, 4), false, false},
		{vec(1, 0, 0, 0, 0, 4), ev(2, 1, 0, 1, 0, 0, 0, 0, 4), true, false},
		{vec(0, 0, 0, 0, 0, 4), ev(6, 5, 0), true, false},
		{vec(0, 0, 0, 0, 0, 5), ev(6, 5, 0), false, true},
	} {
		if got := order.Ready(c.known, c.e); got != c.ready {
			t.Errorf("P10.1: Ready %d: %v", i, got)
		}
		if got := order.Late(c.known, c.e); got != c.late {
			t.Errorf("P10.1: Late %d: %v", i, got)
		}
	}
	for i, e := range none() {
		if order.Ready(vec(), e) || order.Late(vec(), e) || order.Late(vec(9, 9, 9, 9, 9, 9), e) || order.Ready(vec(1), e) {
			t.Errorf("P10.1: %d, which may not be", i)
		}
	}
}

func TestExample(t *testing.T) {
	a, b := ev(1, 1, 0), ev(2, 1, 0, 1)
	for _, l := range [][]api.Event{{a, b}, {b, a}} {
		if out, left := order.Sort(l); !slices.Equal(out, []api.Event{a, b}) || left != 0 {
			t.Errorf("P10.2: %v, %d", out, left)
		}
	}
}

func TestSort(t *testing.T) {
	a1, a2, b1, b2, c1 := ev(1, 1, 1), ev(1, 2, 2, 0, 1), ev(2, 1, 3), ev(2, 2, 4, 2), ev(3, 1, 5, 1)
	other := ev(1, 1, 9)
	early := ev(1, 1, 8, 0, 1)
	for i, c := range []struct {
		l, out []api.Event
		left   int
	}{
		{nil, nil, 0},
		{none(), nil, len(none())},
		{[]api.Event{c1, b2, a2, b1, a1}, []api.Event{a1, b1, a2, b2, c1}, 0},
		{[]api.Event{b1, a1}, []api.Event{a1, b1}, 0},
		{[]api.Event{a1, a1, b1, a1}, []api.Event{a1, b1}, 2},
		{[]api.Event{a1, other}, []api.Event{a1}, 1},
		{[]api.Event{other, a1}, []api.Event{other}, 1},
		{[]api.Event{early, a1, b1}, []api.Event{a1, b1}, 1},
		{[]api.Event{early, b1}, []api.Event{b1, early}, 0},
		{[]api.Event{a2, b2, c1}, nil, 3},
		{[]api.Event{a2, b1, c1}, []api.Event{b1}, 2},
		{append(none(), c1, a1), []api.Event{a1, c1}, len(none())},
		{[]api.Event{c1, a1, b1}, []api.Event{a1, b1, c1}, 0},
	} {
		was := slices.Clone(c.l)
		if out, left := order.Sort(c.l); !slices.Equal(out, c.out) || left != c.left {
			t.Errorf("P10.2: Sort %d: %v, %d", i, out, left)
		}
		if !slices.Equal(was, c.l) {
			t.Errorf("R3: Sort %d turned what was handed in", i)
		}
	}
}

// next is a row of numbers that is the same each time.
func next(seed *uint32, n int) int {
	*seed = *seed*1664525 + 1013904223
	return int(*seed>>8) % n
}

// history makes n events of regions that hear of each other now and then.
func history(seed uint32, n int) []api.Event {
	var l []api.Event
	var known [api.MaxRegions]api.Vector
	for len(l) < n {
		i := next(&seed, api.MaxRegions)
		for k, v := range known[next(&seed, api.MaxRegions)] {
			known[i][k] = max(known[i][k], v)
		}
		l = append(l, api.Event{Origin: i + 1, Seq: known[i][i] + 1, Deps: known[i], Kind: api.EvNode, Amount: int64(len(l))})
		known[i][i]++
	}
	return l
}

func TestOrderOfTheListSaysNothing(t *testing.T) {
	for seed := range uint32(30) {
		l := history(seed, 80)
		want, left := order.Sort(l)
		if len(want) != len(l) || left != 0 {
			t.Fatalf("P10.3: %d of %d, %d", len(want), len(l), left)
		}
		known := vec()
		for _, e := range want {
			if !order.Ready(known, e) {
				t.Fatalf("P10.3: %v is ahead of what it depends on", e)
			}
			known[e.Origin-1]++
		}
		for range 10 {
			for i := range l {
				j := next(&seed, i+1)
				l[i], l[j] = l[j], l[i]
			}
			if out, left := order.Sort(append(l, l[:7]...)); !slices.Equal(out, want) || left != 7 {
				t.Fatalf("P10.3: another order: %d, %d", len(out), left)
			}
		}
	}
}

func TestLongRow(t *testing.T) {
	var l []api.Event
	for seq := uint64(20000); seq > 0; seq-- {
		l = append(l, ev(2, seq, 0))
	}
	out, left := order.Sort(l)
	if len(out) != len(l) || left != 0 || out[0].Seq != 1 || out[len(out)-1].Seq != 20000 {
		t.Errorf("P10.2: %d, %d", len(out), left)
	}
}
