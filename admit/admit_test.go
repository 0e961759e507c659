package admit_test

import (
	"slices"
	"testing"

	"leat/admit"
	"leat/api"
	"leat/ledger"
)

const a = uint64(1<<40 + 1)

// same tells whether two states are the same.
func same(a, b api.State) bool {
	return a.In == b.In && a.Left == b.Left && a.Known == b.Known && slices.Equal(a.Nodes, b.Nodes) && slices.Equal(a.Grants, b.Grants)
}

// do makes and applies what is asked.
func do(t *testing.T, l *ledger.Ledger, i int, k api.Ask) api.Event {
	t.Helper()
	e, err := admit.Make(l, i, k)
	if err != api.OK {
		t.Fatalf("P12.1: Make of %v: %d", k, err)
	}
	if err := l.Apply(e); err != api.OK {
		t.Fatalf("P12.3: Apply of what was made of %v: %d", k, err)
	}
	return e
}

// made is a ledger of two regions with a node of 10 of the region 1, and one of 6 below it of the region 2.
func made(t *testing.T) *ledger.Ledger {
	t.Helper()
	l, _ := ledger.New(2)
	do(t, l, 1, api.Ask{Kind: api.EvNode, Amount: 10})
	do(t, l, 2, api.Ask{Kind: api.EvNode, Node: a, Amount: 6})
	return l
}

func TestExample(t *testing.T) {
	l, _ := ledger.New(2)
	do(t, l, 1, api.Ask{Kind: api.EvNode, Amount: 10})
	e, err := admit.Make(l, 2, api.Ask{Kind: api.EvTake, Node: a, Amount: 4, Req: 1})
	if e != (api.Event{}) || err != api.ErrRights {
		t.Errorf("P12.1: %v, %d", e, err)
	}
	if at, by := admit.Lack(l, 2, a, 4); at != a || by != 4 {
		t.Errorf("P12.2: %d, %d", at, by)
	}
}

func TestMake(t *testing.T) {
	l := made(t)
	b := uint64(2<<40 + 1)
	do(t, l, 1, api.Ask{Kind: api.EvTake, Node: a, Amount: 1, Req: 9})
	for _, c := range []struct {
		i    int
		k    api.Ask
		want api.Event
		e    api.Errno
	}{
		{1, api.Ask{Kind: api.EvNode, Node: a, Amount: 3}, api.Event{Origin: 1, Seq: 3, Kind: api.EvNode, Node: a, Amount: 3}, api.OK},
		{2, api.Ask{Kind: api.EvRaise, Node: a, Amount: 3}, api.Event{Origin: 2, Seq: 2, Kind: api.EvRaise, Node: a, Amount: 3}, api.OK},
		{1, api.Ask{Kind: api.EvTake, Node: a, Amount: 9, Req: 1}, api.Event{Origin: 1, Seq: 3, Kind: api.EvTake, Node: a, Amount: 9, Req: 1}, api.OK},
		{1, api.Ask{Kind: api.EvFree, Req: 2, Of: 9}, api.Event{Origin: 1, Seq: 3, Kind: api.EvFree, Req: 2, Of: 9}, api.OK},
		{1, api.Ask{Kind: api.EvMove, Node: a, Amount: 9, To: 2}, api.Event{Origin: 1, Seq: 3, Kind: api.EvMove, Node: a, Amount: 9, To: 2}, api.OK},
		{2, api.Ask{Kind: api.EvJoin, To: 6}, api.Event{Origin: 2, Seq: 2, Kind: api.EvJoin, To: 6}, api.OK},
		{2, api.Ask{Kind: api.EvLeave}, api.Event{Origin: 2, Seq: 2, Kind: api.EvLeave}, api.OK},
		{6, api.Ask{Kind: api.EvLeave, Req: 1}, api.Event{}, api.ErrArg},
		{0, api.Ask{Kind: api.EvLeave}, api.Event{}, api.ErrRegion},
		{7, api.Ask{Kind: 99}, api.Event{}, api.ErrRegion},
		{-1, api.Ask{}, api.Event{}, api.ErrRegion},
		{1 << 40, api.Ask{}, api.Event{}, api.ErrRegion},
		{3, api.Ask{Kind: api.EvLeave}, api.Event{}, api.ErrRegion},
		{3, api.Ask{Kind: api.EvLeave, Req: 1}, api.Event{}, api.ErrArg},
		{1, api.Ask{}, api.Event{}, api.ErrArg},
		{1, api.Ask{Kind: api.EvTake, Node: a, Amount: 1}, api.Event{}, api.ErrArg},
		{1, api.Ask{Kind: api.EvTake, Node: a, Amount: 1, Req: 9}, api.Event{}, api.ErrAgain},
		{1, api.Ask{Kind: api.EvTake, Node: 5, Amount: 1, Req: 1}, api.Event{}, api.ErrNode},
		{1, api.Ask{Kind: api.EvTake, Node: b, Amount: 1, Req: 1}, api.Event{}, api.ErrRights},
		{1, api.Ask{Kind: api.EvFree, Req: 1, Of: 2}, api.Event{}, api.ErrGrant},
		{1, api.Ask{Kind: api.EvNode, Amount: api.MaxGive + 1}, api.Event{}, api.ErrMany},
	} {
		if c.e == api.OK {
			c.want.Deps = api.Vector{2, 1}
		}
		was := l.State()
		got, e := admit.Make(l, c.i, c.k)
		if got != c.want || e != c.e {
			t.Errorf("P12.1: Make of %v by %d: %v, %d", c.k, c.i, got, e)
		}
		if !same(l.State(), was) {
			t.Errorf("P12.1: Make of %v turned the ledger", c.k)
		}
		if err := l.Check(got); c.e == api.OK && err != api.OK {
			t.Errorf("P12.3: Check of what was made of %v: %d", c.k, err)
		}
	}
	if got, e := admit.Make(nil, 9, api.Ask{Kind: api.EvLeave}); got != (api.Event{}) || e != api.ErrNil {
		t.Errorf("P12.1: of no ledger: %v, %d", got, e)
	}
}

func TestLack(t *testing.T) {
	l := made(t)
	b := uint64(2<<40 + 1)
	do(t, l, 1, api.Ask{Kind: api.EvMove, Node: a, Amount: 4, To: 2})
	for _, c := range []struct {
		i    int
		node uint64
		x    int64
		at   uint64
		by   int64
	}{
		{2, b, 4, 0, 0}, {2, b, 5, a, 1}, {2, b, 6, a, 2}, {2, b, 7, b, 1}, {2, a, 5, a, 1}, {2, a, 4, 0, 0}, {1, b, 1, b, 1}, {1, b, 9, b, 9}, {1, a, 6, 0, 0}, {1, a, 7, a, 1},
		{1, a, 0, 0, 0}, {1, a, -5, 0, 0}, {1, a, -1 << 63, 0, 0}, {3, a, 1<<63 - 1, a, 1<<63 - 1}, {7, a, 2, a, 2}, {0, a, 2, a, 2}, {1, 99, 5, 0, 0}, {1, 0, 5, 0, 0},
	} {
		if at, by := admit.Lack(l, c.i, c.node, c.x); at != c.at || by != c.by {
			t.Errorf("P12.2: Lack of %d, %d, %d: %d, %d", c.i, c.node, c.x, at, by)
		}
	}
	if at, by := admit.Lack(nil, 1, a, 5); at != 0 || by != 0 {
		t.Errorf("P12.2: of no ledger: %d, %d", at, by)
	}
	for i := 1; i <= 2; i++ {
		for _, n := range []uint64{a, b} {
			for x := int64(1); x < 12; x++ {
				_, e := admit.Make(l, i, api.Ask{Kind: api.EvTake, Node: n, Amount: x, Req: 77})
				at, by := admit.Lack(l, i, n, x)
				if (e == api.ErrRights) != (at != 0) || (at != 0) != (by > 0) || e != api.OK && e != api.ErrRights {
					t.Errorf("P12.3: a take of %d at %d by %d: %d; Lack: %d, %d", x, n, i, e, at, by)
				}
			}
		}
	}
}
