package member_test

import (
	"slices"
	"testing"

	"leat/api"
	"leat/ledger"
	"leat/member"
	"leat/rights"
)

func TestLive(t *testing.T) {
	for in := range 64 {
		for left := range 64 {
			var s api.State
			var want []int
			for i := range api.MaxRegions {
				s.In[i], s.Left[i] = in>>i&1 == 1, left>>i&1 == 1
				if s.In[i] && !s.Left[i] {
					want = append(want, i+1)
				}
			}
			if got := member.Live(s); !slices.Equal(got, want) {
				t.Errorf("P19.1: Live of %v, %v: %v", s.In, s.Left, got)
			}
		}
	}
}

func move(n uint64, x int64, to int) api.Ask {
	return api.Ask{Kind: api.EvMove, Node: n, Amount: x, To: to}
}

func TestLeave(t *testing.T) {
	leave := api.Ask{Kind: api.EvLeave}
	s := api.State{In: [api.MaxRegions]bool{true, true, true, true}, Left: [api.MaxRegions]bool{false, false, false, true}}
	if got, e := member.Leave(s, 1, 2); !slices.Equal(got, []api.Ask{leave}) || e != api.OK {
		t.Errorf("P19.1: of no node: %v, %d", got, e)
	}
	s.Nodes = []api.Node{{Id: 9}, {Id: 3}, {Id: 7}, {Id: 3}, {Id: 5}, {Id: 6}}
	s.Nodes[0].R.G[0] = 6
	s.Nodes[1].R.G[1] = 5
	s.Nodes[2].R.G[1], s.Nodes[2].R.R[1][0], s.Nodes[2].R.C[0] = 9, 8, 3
	s.Nodes[3].R.G[0] = 2
	s.Nodes[4].R.G[0], s.Nodes[4].R.C[1] = 2, 1
	s.Nodes[5].R.G[0], s.Nodes[5].R.R[1][0], s.Nodes[5].R.R[2][0] = 1, api.MaxAmount, 5
	for _, c := range []struct {
		i, to int
		want  []api.Ask
		e     api.Errno
	}{
		{1, 2, []api.Ask{move(9, 6, 2), move(7, 5, 2), move(3, 2, 2), leave}, api.OK},
		{2, 3, []api.Ask{move(3, 5, 3), move(7, 1, 3), leave}, api.OK},
		{3, 1, []api.Ask{leave}, api.OK},
		{1, 1, nil, api.ErrRegion}, {1, 4, nil, api.ErrRegion}, {4, 1, nil, api.ErrRegion}, {1, 5, nil, api.ErrRegion}, {6, 1, nil, api.ErrRegion}, {5, 5, nil, api.ErrRegion},
		{0, 1, nil, api.ErrRegion}, {1, 0, nil, api.ErrRegion}, {7, 1, nil, api.ErrRegion}, {1, 7, nil, api.ErrRegion}, {-1, 1, nil, api.ErrRegion}, {1, -1 << 63, nil, api.ErrRegion},
	} {
		got, e := member.Leave(s, c.i, c.to)
		if !slices.Equal(got, c.want) || e != c.e {
			t.Errorf("P19.1: Leave of %d to %d: %v, %d", c.i, c.to, got, e)
		}
	}
}

func TestLeaveOfMuch(t *testing.T) {
	s := api.State{In: [api.MaxRegions]bool{true, true}, Nodes: []api.Node{{Id: 9}}}
	s.Nodes[0].R.G[1], s.Nodes[0].R.R[1][0] = api.MaxAmount, api.MaxAmount
	got, e := member.Leave(s, 1, 2)
	if !slices.Equal(got, []api.Ask{move(9, api.MaxAmount, 2), {Kind: api.EvLeave}}) || e != api.OK {
		t.Errorf("P19.1: %v, %d", got, e)
	}
}

func TestExampleAndDone(t *testing.T) {
	l, _ := ledger.New(3)
	do := func(i int, a api.Ask) {
		t.Helper()
		v := l.Known()
		e := api.Event{Origin: i, Seq: v[i-1] + 1, Deps: v, Kind: a.Kind, Node: a.Node, To: a.To, Amount: a.Amount, Req: a.Req, Of: a.Of}
		if err := l.Apply(e); err != api.OK {
			t.Fatalf("P19.2: %v by %d: %d", a, i, err)
		}
	}
	n := uint64(1<<40 + 1)
	do(1, api.Ask{Kind: api.EvNode, Amount: 6})
	got, e := member.Leave(l.State(), 1, 2)
	if !slices.Equal(got, []api.Ask{move(n, 6, 2), {Kind: api.EvLeave}}) || e != api.OK {
		t.Errorf("P19.1: %v, %d", got, e)
	}
	do(2, api.Ask{Kind: api.EvNode, Node: n, Amount: 9})
	do(2, move(2<<40+1, 4, 1))
	do(1, api.Ask{Kind: api.EvTake, Node: 2<<40 + 1, Amount: 1, Req: 1})
	do(1, api.Ask{Kind: api.EvNode, Amount: 0})
	do(1, move(n, 1, 3))
	was := l.State()
	asks, e := member.Leave(was, 1, 3)
	if len(asks) != 3 || e != api.OK {
		t.Errorf("P19.1: %v, %d", asks, e)
	}
	for _, a := range asks {
		do(1, a)
	}
	s := l.State()
	if !slices.Equal(member.Live(s), []int{2, 3}) {
		t.Errorf("P19.2: %v", member.Live(s))
	}
	for k, n := range s.Nodes {
		before := was.Nodes[k].R
		if rights.Local(n.R, 1) != 0 || rights.Local(n.R, 2) != rights.Local(before, 2) || rights.Local(n.R, 3) != rights.Local(before, 3)+rights.Local(before, 1) {
			t.Errorf("P19.2: at %d: %d, %d, %d", n.Id, rights.Local(n.R, 1), rights.Local(n.R, 2), rights.Local(n.R, 3))
		}
	}
}
