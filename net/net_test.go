package net_test

import (
	"slices"
	"testing"

	"leat/api"
	"leat/net"
)

// same tells whether two messages are the same.
func same(a, b api.Message) bool {
	return a.Kind == b.Kind && a.From == b.From && a.To == b.To && a.Known == b.Known && a.Node == b.Node && a.Amount == b.Amount && slices.Equal(a.Events, b.Events)
}

// msg makes a message that wants n of rights.
func msg(from, to int, n int64) api.Message {
	return api.Message{Kind: api.MsgAsk, From: from, To: to, Node: 9, Amount: n}
}

// sync makes a message with an event.
func sync() api.Message {
	return api.Message{Kind: api.MsgSync, From: 1, To: 2, Known: api.Vector{1}, Events: []api.Event{{Origin: 1, Seq: 1, Kind: api.EvLeave}}}
}

// way takes all that is under way off a net.
func way(n *net.Net) []int64 {
	var l []int64
	for m, ok := n.Take(0); ok; m, ok = n.Take(0) {
		l = append(l, m.Amount)
	}
	return l
}

func TestExample(t *testing.T) {
	n := net.New()
	m := sync()
	if n.Len() != 0 || n.Put(m) != api.OK || n.Len() != 1 || n.Twice(0) != api.OK || n.Len() != 2 {
		t.Error("P23.1: ", n.Len())
	}
	if got, ok := n.Take(1); !ok || !same(got, m) {
		t.Errorf("P23.1: %v, %v", got, ok)
	}
	if e, e2 := n.Cut(2, 1), n.Put(m); e != api.OK || e2 != api.OK || n.Len() != 1 {
		t.Error("P23.2: ", e, e2, n.Len())
	}
}

func TestPutTakeDropTwice(t *testing.T) {
	n := net.New()
	for x := int64(1); x < 6; x++ {
		if e := n.Put(msg(1, 2, x)); e != api.OK {
			t.Error("P23.1: ", e)
		}
	}
	for _, m := range []api.Message{{}, msg(1, 1, 1), msg(0, 1, 1), msg(1, 7, 1), msg(1, 2, 0)} {
		if e := n.Put(m); e != api.ErrArg || n.Len() != 5 {
			t.Errorf("P23.1: Put of %v: %d", m, e)
		}
	}
	for _, k := range []int{-1, 5, 6, 1 << 40, -1 << 63} {
		if m, ok := n.Take(k); ok || !same(m, api.Message{}) || n.Drop(k) || n.Twice(k) != api.ErrNone || n.Len() != 5 {
			t.Errorf("P23.1: of the number %d: %v, %v", k, m, ok)
		}
	}
	if m, ok := n.Take(2); !ok || !same(m, msg(1, 2, 3)) || n.Len() != 4 {
		t.Errorf("P23.1: %v, %v", m, ok)
	}
	if !n.Drop(2) || n.Len() != 3 {
		t.Error("P23.1: Drop")
	}
	if e := n.Twice(1); e != api.OK || n.Len() != 4 {
		t.Error("P23.2: ", e)
	}
	if got := way(n); !slices.Equal(got, []int64{1, 2, 5, 2}) || n.Len() != 0 {
		t.Errorf("P23.1: %v", got)
	}
}

func TestFull(t *testing.T) {
	n := net.New()
	for x := int64(1); x <= api.MaxNet; x++ {
		if e := n.Put(msg(1, 2, x)); e != api.OK {
			t.Error("P23.1: ", x, e)
		}
	}
	if e, e2 := n.Put(msg(1, 2, 9)), n.Twice(0); e != api.ErrFull || e2 != api.ErrFull || n.Len() != api.MaxNet {
		t.Error("P23.1: ", e, e2)
	}
	if e, e2 := n.Put(api.Message{}), n.Twice(api.MaxNet); e != api.ErrArg || e2 != api.ErrNone {
		t.Error("P23.1: ", e, e2)
	}
	n.Cut(3, 4)
	if e := n.Put(msg(4, 3, 9)); e != api.OK || n.Len() != api.MaxNet {
		t.Error("P23.1: what is cut is lost: ", e)
	}
	n.Take(5)
	if e := n.Twice(0); e != api.OK || n.Len() != api.MaxNet {
		t.Error("P23.2: ", e)
	}
}

func TestCutAndHeal(t *testing.T) {
	n := net.New()
	for _, c := range [][2]int{{1, 1}, {0, 1}, {1, 0}, {7, 1}, {1, 7}, {-1, 2}, {2, 1 << 40}} {
		if e := n.Cut(c[0], c[1]); e != api.ErrRegion {
			t.Errorf("P23.2: Cut of %v: %d", c, e)
		}
	}
	n.Put(msg(2, 5, 99))
	for i := 1; i <= api.MaxRegions; i++ {
		for j := 1; j <= api.MaxRegions; j++ {
			if i == j {
				continue
			}
			if e, e2 := n.Cut(i, j), n.Cut(i, j); e != api.OK || e2 != api.OK {
				t.Error("P23.2: ", e, e2)
			}
			for from := 1; from <= api.MaxRegions; from++ {
				for to := 1; to <= api.MaxRegions; to++ {
					was := n.Len()
					if from == to {
						continue
					}
					if e := n.Put(msg(from, to, 1)); e != api.OK {
						t.Error("P23.1: ", e)
					}
					lost := from == i && to == j || from == j && to == i
					if lost != (n.Len() == was) {
						t.Errorf("P23.2: with %d, %d cut, from %d to %d: %d, %d", i, j, from, to, was, n.Len())
					}
					n.Drop(was)
				}
			}
			n.Heal()
		}
	}
	n.Cut(2, 5)
	if got := way(n); !slices.Equal(got, []int64{99}) {
		t.Errorf("P23.2: what is under way stays: %v", got)
	}
	n.Cut(1, 2)
	n.Cut(3, 2)
	n.Heal()
	n.Put(msg(1, 2, 1))
	n.Put(msg(2, 3, 2))
	if got := way(n); !slices.Equal(got, []int64{1, 2}) {
		t.Errorf("P23.2: Heal: %v", got)
	}
}

func TestNone(t *testing.T) {
	var n *net.Net
	n.Heal()
	m, ok := n.Take(0)
	if n.Put(api.Message{}) != api.ErrNil || ok || !same(m, api.Message{}) || n.Drop(0) || n.Twice(5) != api.ErrNil || n.Cut(1, 1) != api.ErrNil || n.Len() != 0 {
		t.Error("P23.2: of no net")
	}
}

func TestMemory(t *testing.T) {
	n := net.New()
	m := sync()
	n.Put(m)
	m.Events[0] = api.Event{}
	n.Twice(0)
	got, _ := n.Take(0)
	if !same(got, sync()) {
		t.Errorf("P23.3: %v", got)
	}
	got.Events[0] = api.Event{}
	if got, ok := n.Take(0); !ok || !same(got, sync()) {
		t.Errorf("P23.3: %v", got)
	}
}

func TestNoMoreThanWasPut(t *testing.T) {
	n, seed := net.New(), uint32(3)
	roll := func(n int) int {
		seed = seed*1664525 + 1013904223
		return int(seed>>8) % n
	}
	left := map[int64]int{}
	for step := range int64(3000) {
		k := roll(8)
		switch roll(4) {
		case 0, 1:
			if n.Put(msg(1, 2, step+1)) == api.OK {
				left[step+1]++
			}
		case 2:
			if m, ok := n.Take(k); ok {
				left[m.Amount]--
				if left[m.Amount] < 0 || m.From != 1 || m.To != 2 {
					t.Fatalf("P23.3: %v is taken too often", m)
				}
			}
		default:
			if k == 0 {
				was := n.Len()
				if n.Twice(0) == api.OK && n.Len() == was+1 {
					m, _ := n.Take(was)
					n.Put(m)
					left[m.Amount]++
				}
			}
		}
	}
	all := 0
	for _, x := range left {
		all += x
	}
	if all != n.Len() {
		t.Errorf("P23.3: %d are under way, not %d", n.Len(), all)
	}
}
