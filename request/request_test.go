package request_test

import (
	"slices"
	"testing"

	"leat/api"
	"leat/ledger"
	"leat/request"
)

const a = uint64(1<<40 + 1)

// same tells whether two states are the same.
func same(a, b api.State) bool {
	return a.In == b.In && a.Left == b.Left && a.Known == b.Known && slices.Equal(a.Nodes, b.Nodes) && slices.Equal(a.Grants, b.Grants)
}

func take(n uint64, x int64, req uint64) api.Ask {
	return api.Ask{Kind: api.EvTake, Node: n, Amount: x, Req: req}
}

func free(of, req uint64) api.Ask { return api.Ask{Kind: api.EvFree, Req: req, Of: of} }

func TestAgain(t *testing.T) {
	s := api.State{Grants: []api.Grant{{Origin: 1, Req: 5, Node: a, Amount: 3}, {Origin: 1, Req: 6, Node: a, Amount: 4, By: 8}, {Origin: 2, Req: 7, Node: a, Amount: 3, By: 9}}}
	for _, c := range []struct {
		i     int
		k     api.Ask
		again bool
		e     api.Errno
	}{
		{1, take(a, 3, 5), true, api.OK},
		{1, take(a, 4, 5), true, api.ErrAgain},
		{1, take(a+1, 3, 5), true, api.ErrAgain},
		{1, take(a, 4, 6), true, api.OK},
		{1, take(a, 4, 8), true, api.ErrAgain},
		{1, take(a, 3, 7), false, api.OK},
		{2, take(a, 3, 7), true, api.OK},
		{2, take(a, 3, 5), false, api.OK},
		{3, take(a, 3, 5), false, api.OK},
		{1, take(a, 3, 99), false, api.OK},
		{1, take(a, 3, 0), false, api.OK},
		{1, free(6, 8), true, api.OK},
		{1, free(5, 8), true, api.ErrAgain},
		{1, free(6, 5), true, api.ErrAgain},
		{1, free(5, 5), true, api.ErrAgain},
		{1, free(6, 6), true, api.ErrAgain},
		{1, free(6, 9), false, api.OK},
		{2, free(7, 9), true, api.OK},
		{2, free(6, 8), false, api.OK},
		{1, free(6, 0), false, api.OK},
		{1, free(5, 0), false, api.OK},
		{1, api.Ask{Kind: api.EvNode, Node: a, Amount: 3, Req: 5}, false, api.OK},
		{1, api.Ask{Kind: api.EvRaise, Node: a, Amount: 3, Req: 5}, false, api.OK},
		{1, api.Ask{Kind: api.EvMove, Node: a, Amount: 3, Req: 5}, false, api.OK},
		{1, api.Ask{Node: a, Amount: 3, Req: 5}, false, api.OK},
		{1, api.Ask{Kind: api.EvTake, Node: a, Amount: 3, Req: 5, To: 3, Of: 9}, true, api.OK},
		{1, api.Ask{Kind: api.EvFree, Node: a, Amount: 3, Req: 8, To: 3, Of: 6}, true, api.OK},
	} {
		if again, e := request.Again(s, c.i, c.k); again != c.again || e != c.e {
			t.Errorf("P13.1: Again of %v by %d: %v, %d", c.k, c.i, again, e)
		}
	}
	if again, e := request.Again(api.State{}, 1, take(a, 3, 5)); again || e != api.OK {
		t.Errorf("P13.1: of an empty state: %v, %d", again, e)
	}
}

// fresh is a ledger of two regions with a node of 10 of the region 1.
func fresh(t *testing.T) *ledger.Ledger {
	t.Helper()
	l, _ := ledger.New(2)
	e, err := request.Do(l, 1, api.Ask{Kind: api.EvNode, Amount: 10})
	if want := (api.Event{Origin: 1, Seq: 1, Kind: api.EvNode, Amount: 10}); e != want || err != api.OK {
		t.Fatalf("P13.2: %v, %d", e, err)
	}
	return l
}

func TestExample(t *testing.T) {
	l := fresh(t)
	if e, err := request.Do(l, 1, take(a, 4, 1)); err != api.OK || e.Kind != api.EvTake || e.Seq != 2 {
		t.Errorf("P13.2: %v, %d", e, err)
	}
	if e, err := request.Do(l, 1, take(a, 4, 1)); err != api.OK || e != (api.Event{}) {
		t.Errorf("P13.2: again: %v, %d", e, err)
	}
	if e, err := request.Do(l, 1, take(a, 5, 1)); err != api.ErrAgain || e != (api.Event{}) {
		t.Errorf("P13.2: of another Amount: %v, %d", e, err)
	}
}

func TestDo(t *testing.T) {
	l := fresh(t)
	for n, c := range []struct {
		i    int
		k    api.Ask
		made bool
		e    api.Errno
	}{
		{1, take(a, 4, 1), true, api.OK},
		{1, take(a, 4, 1), false, api.OK},
		{1, take(a, 4, 2), true, api.OK},
		{1, take(a, 4, 3), false, api.ErrRights},
		{1, take(a, 99, 1), false, api.ErrAgain},
		{1, take(a+1, 4, 1), false, api.ErrAgain},
		{1, take(a, -4, 1), false, api.ErrAgain},
		{1, take(a, -4, 3), false, api.ErrArg},
		{1, take(a, 4, 0), false, api.ErrArg},
		{1, free(1, 0), false, api.ErrArg},
		{1, free(1, 1), false, api.ErrAgain},
		{1, free(3, 4), false, api.ErrGrant},
		{2, free(1, 4), false, api.ErrGrant},
		{1, free(1, 4), true, api.OK},
		{1, free(1, 4), false, api.OK},
		{1, free(2, 4), false, api.ErrAgain},
		{1, free(1, 5), false, api.ErrGrant},
		{1, take(a, 4, 4), false, api.ErrAgain},
		{1, take(a, 4, 1), false, api.OK},
		{1, take(a, 6, 3), true, api.OK},
		{1, free(1, 3), false, api.ErrAgain},
		{0, take(a, 4, 1), false, api.ErrRegion},
		{7, take(a, 4, 1), false, api.ErrRegion},
		{2, take(a, 4, 1), false, api.ErrRights},
		{3, take(a, 4, 1), false, api.ErrRegion},
		{1, api.Ask{Kind: 9, Req: 1}, false, api.ErrArg},
		{1, api.Ask{Kind: api.EvJoin, To: 2}, true, api.OK},
		{1, api.Ask{Kind: api.EvJoin, To: 2}, true, api.OK},
		{1, api.Ask{Kind: api.EvLeave}, true, api.OK},
		{1, take(a, 4, 1), false, api.OK},
		{1, free(1, 4), false, api.OK},
		{1, take(a, 5, 1), false, api.ErrAgain},
		{1, take(a, 5, 98), false, api.ErrRegion},
	} {
		was := l.State()
		e, err := request.Do(l, c.i, c.k)
		if err != c.e || (e != api.Event{}) != c.made {
			t.Errorf("P13.2: %d: Do of %v by %d: %v, %d", n, c.k, c.i, e, err)
		}
		if !c.made && !same(was, l.State()) {
			t.Errorf("P13.3: %d: Do of %v turned the ledger", n, c.k)
		}
		if c.made && (l.Known()[c.i-1] != e.Seq || e.Origin != c.i || e.Deps != was.Known || e.Kind != c.k.Kind) {
			t.Errorf("P13.2: %d: Do of %v made %v", n, c.k, e)
		}
	}
	if e, err := request.Do(nil, 9, take(a, 4, 1)); e != (api.Event{}) || err != api.ErrNil {
		t.Errorf("P13.2: of no ledger: %v, %d", e, err)
	}
}

func TestWhateverCameBetween(t *testing.T) {
	l := fresh(t)
	var asks []api.Ask
	for req := uint64(1); req < 40; req += 2 {
		for _, k := range []api.Ask{take(a, int64(req%7+1), req), free(req, req+1)} {
			e, err := request.Do(l, 1, k)
			if err != api.OK || e == (api.Event{}) {
				t.Fatalf("P13.3: %v: %v, %d", k, e, err)
			}
			asks = append(asks, k)
		}
		was := l.State()
		for _, k := range asks {
			if e, err := request.Do(l, 1, k); err != api.OK || e != (api.Event{}) {
				t.Errorf("P13.3: %v again: %v, %d", k, e, err)
			}
		}
		if !same(was, l.State()) {
			t.Error("P13.3: what was asked again turned the ledger")
		}
	}
}
