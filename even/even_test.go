package even_test

import (
	"slices"
	"testing"

	"leat/api"
	"leat/even"
	"leat/ledger"
	"leat/member"
	"leat/query"
)

// state has a node 9 with these rights of the regions, of which the bits of in are in, and those of left left.
func state(in, left int, l ...int64) api.State {
	var s api.State
	for i := range api.MaxRegions {
		s.In[i], s.Left[i] = in>>i&1 == 1, left>>i&1 == 1
	}
	n := api.Node{Id: 9}
	copy(n.R.G[:], l)
	s.Nodes = []api.Node{n}
	return s
}

func move(from, to int, x int64) even.Move { return even.Move{From: from, To: to, Amount: x} }

func TestExample(t *testing.T) {
	s := state(7, 0, 9)
	for i := 1; i <= 3; i++ {
		if got := even.Share(s, 9, i); got != 3 {
			t.Errorf("P31.1: Share of %d: %d", i, got)
		}
	}
	if got := even.Moves(s, 9); !slices.Equal(got, []even.Move{move(1, 2, 3), move(1, 3, 3)}) {
		t.Errorf("P31.1: %v", got)
	}
}

func TestSharesAndMoves(t *testing.T) {
	bad := state(63, 0, 9)
	bad.Nodes[0].R.C[1] = 1
	over := state(3, 0, api.MaxAmount, 1)
	for k, c := range []struct {
		s      api.State
		shares [api.MaxRegions]int64
		moves  []even.Move
	}{
		{state(7, 0, 11), [6]int64{4, 4, 3}, []even.Move{move(1, 2, 4), move(1, 3, 3)}},
		{state(7, 0, 0, 0, 10), [6]int64{4, 3, 3}, []even.Move{move(3, 1, 4), move(3, 2, 3)}},
		{state(7, 0, 4, 3, 3), [6]int64{4, 3, 3}, nil},
		{state(7, 0, 3, 3, 4), [6]int64{4, 3, 3}, []even.Move{move(3, 1, 1)}},
		{state(7, 0, 3, 4, 4), [6]int64{4, 4, 3}, []even.Move{move(3, 1, 1)}},
		{state(63, 0, 12, 0, 1, 12, 0, 5), [6]int64{5, 5, 5, 5, 5, 5}, []even.Move{move(1, 2, 5), move(1, 3, 2), move(4, 3, 2), move(4, 5, 5)}},
		{state(63, 0, 0, 9, 0, 9, 0, 9), [6]int64{5, 5, 5, 4, 4, 4}, []even.Move{move(2, 1, 4), move(4, 1, 1), move(4, 3, 4), move(6, 3, 1), move(6, 5, 4)}},
		{state(0b101010, 0, 99, 0, 0, 7), [6]int64{0, 3, 0, 2, 0, 2}, []even.Move{move(4, 2, 3), move(4, 6, 2)}},
		{state(7, 2, 0, 50, 5), [6]int64{3, 0, 2}, []even.Move{move(3, 1, 3)}},
		{state(1, 0, 5, 5), [6]int64{5}, nil},
		{state(0, 0, 5, 5), [6]int64{}, nil},
		{state(3, 3, 5, 5), [6]int64{}, nil},
		{state(63, 0), [6]int64{}, nil},
		{state(3, 0, api.MaxAmount), [6]int64{api.MaxAmount / 2, api.MaxAmount / 2}, []even.Move{move(1, 2, api.MaxAmount/2)}},
		{bad, [6]int64{}, nil},
		{over, [6]int64{}, nil},
	} {
		for i := -1; i <= api.MaxRegions+1; i++ {
			want := int64(0)
			if i >= 1 && i <= api.MaxRegions {
				want = c.shares[i-1]
			}
			if got := even.Share(c.s, 9, i); got != want {
				t.Errorf("P31.1: %d: Share of %d: %d, not %d", k, i, got, want)
			}
			if got := even.Share(c.s, 8, i); got != 0 {
				t.Errorf("P31.1: %d: Share at no node: %d", k, got)
			}
		}
		if got := even.Moves(c.s, 9); !slices.Equal(got, c.moves) {
			t.Errorf("P31.1: %d: Moves: %v, not %v", k, got, c.moves)
		}
		if got := even.Moves(c.s, 8); len(got) != 0 {
			t.Errorf("P31.1: %d: Moves at no node: %v", k, got)
		}
		if live := member.Live(c.s); len(live) > 0 && len(c.moves) >= len(live) {
			t.Errorf("P31.3: %d: %d moves", k, len(c.moves))
		}
	}
	if even.Share(api.State{}, 9, 1) != 0 || len(even.Moves(api.State{}, 9)) != 0 || len(even.Asks(api.State{}, 1)) != 0 {
		t.Error("P31.1: of an empty state")
	}
}

func TestAsks(t *testing.T) {
	s := state(7, 0, 9)
	s.Nodes = append(s.Nodes, api.Node{Id: 4}, api.Node{Id: 20}, api.Node{Id: 2})
	s.Nodes[1].R.G[1] = 6
	s.Nodes[3].R.G[0], s.Nodes[3].R.G[2] = 2, 7
	ask := func(n uint64, to int, x int64) api.Ask {
		return api.Ask{Kind: api.EvMove, Node: n, To: to, Amount: x}
	}
	for i, want := range map[int][]api.Ask{1: {ask(9, 2, 3), ask(9, 3, 3)}, 2: {ask(4, 1, 2), ask(4, 3, 2)}, 3: {ask(2, 1, 1), ask(2, 2, 3)}, 4: nil, 0: nil, -1: nil, 7: nil} {
		if got := even.Asks(s, i); !slices.Equal(got, want) {
			t.Errorf("P31.2: Asks of %d: %v", i, got)
		}
	}
}

// roll is a row of numbers that is the same each time.
func roll(seed *uint32, n int) int {
	*seed = *seed*1664525 + 1013904223
	return int(*seed>>8) % n
}

// do does what a region is asked in a ledger.
func do(l *ledger.Ledger, i int, a api.Ask) api.Errno {
	v := l.Known()
	return l.Apply(api.Event{Origin: i, Seq: v[i-1] + 1, Deps: v, Kind: a.Kind, Node: a.Node, To: a.To, Amount: a.Amount, Req: a.Req, Of: a.Of})
}

// some is a ledger in which much happened.
func some(seed *uint32) *ledger.Ledger {
	l, _ := ledger.New(roll(seed, 6) + 1)
	for k := range 80 {
		s := l.State()
		n := uint64(0)
		if len(s.Nodes) > 0 {
			n = s.Nodes[roll(seed, len(s.Nodes))].Id
		}
		i, x := roll(seed, 6)+1, int64(roll(seed, 30)+1)
		switch roll(seed, 8) {
		case 0:
			do(l, i, api.Ask{Kind: api.EvNode, Node: n, Amount: 5 * x})
		case 1, 2:
			do(l, i, api.Ask{Kind: api.EvTake, Node: n, Amount: x, Req: uint64(k + 1)})
		case 3:
			do(l, i, api.Ask{Kind: api.EvRaise, Node: n, Amount: x})
		case 4:
			if roll(seed, 20) == 0 {
				do(l, i, api.Ask{Kind: api.EvLeave})
			}
		default:
			do(l, i, api.Ask{Kind: api.EvMove, Node: n, Amount: x, To: roll(seed, 6) + 1})
		}
	}
	return l
}

func TestDone(t *testing.T) {
	moved := 0
	for seed := range uint32(120) {
		r := seed
		l := some(&r)
		s := l.State()
		live := member.Live(s)
		for _, n := range s.Nodes {
			q, _ := query.Of(s, n.Id)
			sum, shares := int64(0), int64(0)
			for _, i := range live {
				sum += q.Local[i-1]
				shares += even.Share(s, n.Id, i)
			}
			if m := even.Moves(s, n.Id); sum != shares || len(live) > 0 && len(m) >= len(live) {
				t.Fatalf("P31.3: shares of %d of %d; %v", shares, sum, m)
			}
		}
		for _, i := range live {
			for _, a := range even.Asks(s, i) {
				moved++
				if e := do(l, i, a); e != api.OK {
					t.Fatalf("P31.3: %v by %d: %d", a, i, e)
				}
			}
		}
		after := l.State()
		for _, n := range after.Nodes {
			q, _ := query.Of(after, n.Id)
			for _, i := range live {
				if q.Local[i-1] != even.Share(s, n.Id, i) || q.Local[i-1] != even.Share(after, n.Id, i) {
					t.Fatalf("P31.3: the region %d has %d, its share is %d", i, q.Local[i-1], even.Share(s, n.Id, i))
				}
			}
			if got := even.Moves(after, n.Id); len(got) != 0 {
				t.Fatalf("P31.3: there is something to move: %v", got)
			}
		}
	}
	if moved < 100 {
		t.Errorf("only %d moves", moved)
	}
}
