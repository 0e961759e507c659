package demand_test

import (
	"slices"
	"testing"

	"leat/api"
	"leat/demand"
)

func want(node uint64, x int64) api.Want { return api.Want{Node: node, Amount: x} }

// due holds what is due at a time against wants.
func due(t *testing.T, d *demand.Demand, now uint64, want ...api.Want) {
	t.Helper()
	if got := d.Due(now); !slices.Equal(got, want) {
		t.Errorf("P18.2: Due %d: %v, not %v", now, got, want)
	}
}

func TestExample(t *testing.T) {
	d := demand.New()
	if len(d.List()) != 0 || len(d.Due(1<<63)) != 0 || d.Done(5) {
		t.Error("P18.1: a new one")
	}
	if e := d.Put(5, 3, 10); e != api.OK {
		t.Error("P18.1: ", e)
	}
	due(t, d, 9)
	due(t, d, 10, want(5, 3))
	due(t, d, 10)
	due(t, d, 11, want(5, 3))
	due(t, d, 12)
	due(t, d, 13, want(5, 3))
}

func TestPut(t *testing.T) {
	d := demand.New()
	for i, c := range []struct {
		node uint64
		x    int64
		now  uint64
		e    api.Errno
		list []api.Want
	}{
		{5, 0, 1, api.ErrArg, nil}, {5, -1, 1, api.ErrArg, nil}, {5, api.MaxAmount + 1, 1, api.ErrArg, nil}, {5, -1 << 63, 1, api.ErrArg, nil}, {0, 1, 1, api.ErrArg, nil},
		{5, 1, 1<<62 + 1, api.ErrArg, nil}, {5, 1, 1<<64 - 1, api.ErrArg, nil},
		{5, 2, 1 << 62, api.OK, []api.Want{want(5, 2)}},
		{5, 1, 0, api.OK, []api.Want{want(5, 2)}},
		{5, 2, 0, api.OK, []api.Want{want(5, 2)}},
		{5, 3, 7, api.OK, []api.Want{want(5, 3)}},
		{1<<64 - 1, api.MaxAmount, 0, api.OK, []api.Want{want(5, 3), want(1<<64-1, api.MaxAmount)}},
		{4, 1, 0, api.OK, []api.Want{want(4, 1), want(5, 3), want(1<<64-1, api.MaxAmount)}},
		{5, 9, 1<<62 + 1, api.ErrArg, []api.Want{want(4, 1), want(5, 3), want(1<<64-1, api.MaxAmount)}},
	} {
		if e := d.Put(c.node, c.x, c.now); e != c.e || !slices.Equal(d.List(), c.list) {
			t.Errorf("P18.1: Put %d: %d, %v", i, e, d.List())
		}
	}
	due(t, d, 1<<62-1, want(4, 1), want(1<<64-1, api.MaxAmount))
	due(t, d, 1<<62, want(4, 1), want(5, 3), want(1<<64-1, api.MaxAmount))
}

func TestPutTurnsTheAmountAlone(t *testing.T) {
	d := demand.New()
	d.Put(5, 3, 10)
	due(t, d, 10, want(5, 3))
	due(t, d, 11, want(5, 3))
	d.Put(5, 4, 0)
	due(t, d, 12)
	due(t, d, 13, want(5, 4))
	d.Put(5, 4, 13)
	d.Put(5, 2, 13)
	due(t, d, 16)
	due(t, d, 17, want(5, 4))
}

func TestFull(t *testing.T) {
	d := demand.New()
	for i := range uint64(api.MaxNodes) {
		if e := d.Put(100-i, 1, 0); e != api.OK {
			t.Error("P18.1: ", i, e)
		}
	}
	if e := d.Put(200, 1, 0); e != api.ErrFull || len(d.List()) != api.MaxNodes {
		t.Error("P18.1: ", e)
	}
	if e := d.Put(0, 1, 0); e != api.ErrArg {
		t.Error("P18.1: ", e)
	}
	if e := d.Put(100, 9, 0); e != api.OK {
		t.Error("P18.1: ", e)
	}
	l := d.List()
	if !slices.IsSortedFunc(l, func(a, b api.Want) int { return int(a.Node) - int(b.Node) }) || l[len(l)-1] != want(100, 9) {
		t.Errorf("P18.2: List: %v", l)
	}
	if !slices.Equal(d.Due(0), l) {
		t.Error("P18.2: Due is not by nodes")
	}
	if !d.Done(77) || d.Done(77) || d.Done(200) || len(d.List()) != api.MaxNodes-1 {
		t.Error("P18.2: Done")
	}
	if e := d.Put(200, 1, 0); e != api.OK {
		t.Error("P18.1: ", e)
	}
}

func TestDoneAndAnew(t *testing.T) {
	d := demand.New()
	d.Put(5, 9, 0)
	for now := range uint64(20) {
		d.Due(now)
	}
	if !d.Done(5) || len(d.List()) != 0 || len(d.Due(99)) != 0 {
		t.Error("P18.2: Done")
	}
	d.Put(5, 1, 100)
	due(t, d, 100, want(5, 1))
	due(t, d, 101, want(5, 1))
	due(t, d, 102)
}

func TestTimesApart(t *testing.T) {
	for _, from := range []uint64{0, 3, 1 << 40} {
		d := demand.New()
		d.Put(5, 3, 2)
		now := max(from, 2)
		for _, gap := range []uint64{0, 1, 2, 4, 8, 16, 16, 16, 16} {
			for range gap {
				now++
				if len(d.Due(now-1)) != 0 {
					t.Errorf("P18.3: due at %d", now-1)
				}
			}
			due(t, d, now, want(5, 3))
		}
	}
}

func TestLate(t *testing.T) {
	d := demand.New()
	d.Put(5, 3, 0)
	d.Put(6, 3, 50)
	due(t, d, 40, want(5, 3))
	due(t, d, 40)
	due(t, d, 60, want(5, 3), want(6, 3))
	due(t, d, 61, want(6, 3))
	due(t, d, 62, want(5, 3))
	due(t, d, 1<<62, want(5, 3), want(6, 3))
	due(t, d, 1<<62)
}

func TestNone(t *testing.T) {
	var d *demand.Demand
	if d.Put(0, 1, 0) != api.ErrNil || len(d.Due(9)) != 0 || d.Done(5) || len(d.List()) != 0 {
		t.Error("P18.2: of no demand")
	}
}
