package room_test

import (
	"slices"
	"testing"

	"leat/api"
	"leat/ledger"
	"leat/member"
	"leat/query"
	"leat/room"
)

// state has three nodes, 9 below 5 below 2, with rights of the regions, of which 6 is not in, and 5 left.
func state(leaf, middle, root [6]int64) api.State {
	s := api.State{In: [6]bool{true, true, true, true, true}, Left: [6]bool{false, false, false, false, true}}
	s.Nodes = []api.Node{{Id: 5, Parent: 2}, {Id: 9, Parent: 5}, {Id: 2}}
	s.Nodes[0].R.G, s.Nodes[1].R.G, s.Nodes[2].R.G = middle, leaf, root
	return s
}

func gift(from int, n uint64, x int64) room.Gift {
	return room.Gift{From: from, Node: n, Amount: x}
}

// one is a state with a node of 10 of the region 1.
func one() api.State {
	s := api.State{In: [6]bool{true, true}, Nodes: []api.Node{{Id: 9}}}
	s.Nodes[0].R.G[0] = 10
	return s
}

func TestExample(t *testing.T) {
	s := one()
	if room.All(s, 9) != 10 || room.Own(s, 2, 9) != 0 || room.Own(s, 1, 9) != 10 {
		t.Error("P33.1: ", room.All(s, 9), room.Own(s, 2, 9))
	}
	if got, e := room.Gifts(s, 2, 9, 4); !slices.Equal(got, []room.Gift{gift(1, 9, 4)}) || e != api.OK {
		t.Errorf("P33.2: %v, %d", got, e)
	}
	if got, e := room.Gifts(s, 2, 9, 11); len(got) != 0 || e != api.ErrRights {
		t.Errorf("P33.2: %v, %d", got, e)
	}
}

func TestOwnAndAll(t *testing.T) {
	s := state([6]int64{4, 5, 0, 1, 90, 90}, [6]int64{9, 2, 6, 0, 90, 90}, [6]int64{7, 3, 8, 8, 90, 90})
	for node, want := range map[uint64][7]int64{9: {4, 2, 0, 0, 0, 0, 10}, 5: {7, 2, 6, 0, 0, 0, 17}, 2: {7, 3, 8, 8, 0, 0, 26}, 7: {}, 0: {}} {
		for i := -1; i <= 8; i++ {
			x := int64(0)
			if i >= 1 && i <= 6 {
				x = want[i-1]
			}
			if got := room.Own(s, i, node); got != x {
				t.Errorf("P33.1: Own of %d at %d: %d, not %d", i, node, got, x)
			}
		}
		if got := room.All(s, node); got != want[6] {
			t.Errorf("P33.1: All at %d: %d, not %d", node, got, want[6])
		}
	}
	bad := state([6]int64{4, 5}, [6]int64{9, 2}, [6]int64{7, 3})
	bad.Nodes[2].R.C[2] = 1
	if room.Own(bad, 1, 9) != 0 || room.All(bad, 9) != 0 || room.Own(bad, 1, 2) != 0 {
		t.Error("P33.1: where rights may not be")
	}
	none := one()
	none.Left = [6]bool{true, true}
	if room.All(none, 9) != 0 || room.Own(none, 1, 9) != 0 || room.All(api.State{}, 9) != 0 || room.Own(api.State{}, 1, 9) != 0 {
		t.Error("P33.1: of no live region, of an empty state")
	}
	all := one()
	all.Nodes[0].R.G[0] = api.MaxAmount
	if room.All(all, 9) != api.MaxAmount || room.Own(all, 1, 9) != api.MaxAmount {
		t.Error("P33.1: of MaxAmount")
	}
}

func TestGifts(t *testing.T) {
	s := state([6]int64{4, 5, 0, 1, 90, 90}, [6]int64{9, 2, 6, 0, 90, 90}, [6]int64{7, 3, 8, 8, 90, 90})
	for k, c := range []struct {
		i    int
		node uint64
		x    int64
		want []room.Gift
		e    api.Errno
	}{
		{1, 9, 4, nil, api.OK},
		{1, 9, 5, []room.Gift{gift(2, 9, 1)}, api.OK},
		{1, 9, 8, []room.Gift{gift(2, 9, 4), gift(3, 2, 1)}, api.OK},
		{1, 9, 10, []room.Gift{gift(2, 9, 5), gift(4, 9, 1), gift(3, 5, 1), gift(3, 2, 3)}, api.OK},
		{1, 9, 11, nil, api.ErrRights},
		{4, 9, 10, []room.Gift{gift(2, 9, 5), gift(1, 9, 4), gift(1, 5, 9), gift(3, 5, 1), gift(3, 2, 2)}, api.OK},
		{2, 2, 26, []room.Gift{gift(3, 2, 8), gift(4, 2, 8), gift(1, 2, 7)}, api.OK},
		{2, 2, 12, []room.Gift{gift(3, 2, 8), gift(4, 2, 1)}, api.OK},
		{3, 5, 17, []room.Gift{gift(1, 5, 9), gift(2, 5, 2), gift(4, 2, 8), gift(1, 2, 1)}, api.OK},
		{3, 5, 18, nil, api.ErrRights},
		{1, 9, 0, nil, api.ErrArg}, {1, 9, -1, nil, api.ErrArg}, {1, 9, api.MaxAmount + 1, nil, api.ErrArg}, {9, 7, 0, nil, api.ErrArg}, {1, 9, -1 << 63, nil, api.ErrArg},
		{9, 7, 1, nil, api.ErrNode}, {1, 7, api.MaxAmount, nil, api.ErrNode}, {1, 0, 1, nil, api.ErrNode},
		{5, 9, 1, nil, api.ErrRegion}, {6, 9, api.MaxAmount, nil, api.ErrRegion}, {0, 9, 1, nil, api.ErrRegion}, {7, 9, 1, nil, api.ErrRegion}, {-1, 9, 1, nil, api.ErrRegion},
		{1, 9, api.MaxAmount, nil, api.ErrRights},
	} {
		if got, e := room.Gifts(s, c.i, c.node, c.x); !slices.Equal(got, c.want) || e != c.e {
			t.Errorf("P33.2: %d: Gifts of %d, %d, %d: %v, %d; not %v, %d", k, c.i, c.node, c.x, got, e, c.want, c.e)
		}
	}
	if got, e := room.Gifts(api.State{}, 1, 9, 1); len(got) != 0 || e != api.ErrNode {
		t.Errorf("P33.2: of an empty state: %v, %d", got, e)
	}
}

func TestAsks(t *testing.T) {
	l := []room.Gift{gift(2, 9, 5), gift(1, 9, 4), gift(2, 5, 7), gift(2, 9, 5)}
	ask := func(n uint64, x int64, to int) api.Ask {
		return api.Ask{Kind: api.EvMove, Node: n, Amount: x, To: to}
	}
	for from, want := range map[int][]api.Ask{2: {ask(9, 5, 3), ask(5, 7, 3), ask(9, 5, 3)}, 1: {ask(9, 4, 3)}, 3: nil, 0: nil, -1: nil} {
		if got := room.Asks(l, from, 3); !slices.Equal(got, want) {
			t.Errorf("P33.3: Asks of %d: %v", from, got)
		}
	}
	if got := room.Asks(nil, 1, 2); len(got) != 0 {
		t.Errorf("P33.3: of none: %v", got)
	}
}

// roll is a row of numbers that is the same each time.
func roll(seed *uint32, n int) int {
	*seed = *seed*1664525 + 1013904223
	return int(*seed>>8) % n
}

// do does what a region is asked in a ledger.
func do(l *ledger.Ledger, i int, a api.Ask) api.Errno {
	v := l.Known()
	return l.Apply(api.Event{Origin: i, Seq: v[i-1] + 1, Deps: v, Kind: a.Kind, Node: a.Node, To: a.To, Amount: a.Amount, Req: a.Req, Of: a.Of})
}

// some is a ledger in which much happened, always the same by a seed.
func some(seed uint32) *ledger.Ledger {
	l, _ := ledger.New(roll(&seed, 6) + 1)
	for k := range 90 {
		s := l.State()
		n := uint64(0)
		if len(s.Nodes) > 0 {
			n = s.Nodes[roll(&seed, len(s.Nodes))].Id
		}
		i, x := roll(&seed, 6)+1, int64(roll(&seed, 30)+1)
		switch roll(&seed, 8) {
		case 0:
			do(l, i, api.Ask{Kind: api.EvNode, Node: n, Amount: 5 * x})
		case 1, 2:
			do(l, i, api.Ask{Kind: api.EvTake, Node: n, Amount: x, Req: uint64(k + 1)})
		case 3:
			do(l, i, api.Ask{Kind: api.EvRaise, Node: n, Amount: x})
		case 4:
			if roll(&seed, 20) == 0 {
				do(l, i, api.Ask{Kind: api.EvLeave})
			}
		default:
			do(l, i, api.Ask{Kind: api.EvMove, Node: n, Amount: x, To: roll(&seed, 6) + 1})
		}
	}
	return l
}

// fewest tells how many of others have to give at the least, tried one set after the other.
func fewest(has [6]int64, live []int, i int, x int64) int {
	best := 99
	for set := range 64 {
		sum, n := has[i-1], 0
		for _, j := range live {
			if j != i && set>>(j-1)&1 == 1 {
				sum += has[j-1]
				n++
			}
		}
		if sum >= x {
			best = min(best, n)
		}
	}
	return best
}

func TestDone(t *testing.T) {
	given := 0
	for seed := range uint32(60) {
		s := some(seed).State()
		live := member.Live(s)
		for _, n := range s.Nodes {
			all := room.All(s, n.Id)
			for _, i := range live {
				for _, x := range []int64{1, all / 2, all - 1, all, all + 1, 1000} {
					l, e := room.Gifts(s, i, n.Id, x)
					if x < 1 {
						continue
					}
					if (e == api.ErrRights) != (x > all) || e != api.OK && e != api.ErrRights {
						t.Fatalf("P33.4: Gifts of %d, All is %d: %d", x, all, e)
					}
					if e != api.OK {
						continue
					}
					least := 0
					for _, id := range query.Path(s, n.Id) {
						q, _ := query.Of(s, id)
						least += fewest(q.Local, live, i, x)
					}
					if len(l) != least {
						t.Fatalf("P33.4: %d gifts, %d would do", len(l), least)
					}
					given += len(l)
					done := some(seed)
					for _, j := range live {
						for _, a := range room.Asks(l, j, i) {
							if e := do(done, j, a); e != api.OK {
								t.Fatalf("P33.4: %v by %d: %d", a, j, e)
							}
						}
					}
					if own := room.Own(done.State(), i, n.Id); own < x {
						t.Fatalf("P33.4: it has %d, not %d", own, x)
					}
					if e := do(done, i, api.Ask{Kind: api.EvTake, Node: n.Id, Amount: x, Req: 9999}); e != api.OK {
						t.Fatalf("P33.4: a take of %d: %d", x, e)
					}
				}
			}
		}
	}
	if given < 500 {
		t.Errorf("only %d gifts", given)
	}
}
