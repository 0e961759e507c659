package query_test

import (
	"slices"
	"testing"

	"leat/api"
	"leat/ledger"
	"leat/query"
)

func TestOf(t *testing.T) {
	if q, e := query.Of(api.State{}, 1); q != (api.Quota{}) || e != api.ErrNode {
		t.Errorf("P25.1: of an empty state: %v, %d", q, e)
	}
	s := api.State{Nodes: []api.Node{{Id: 9}, {Id: 3}, {Id: 9}, {Id: 5}, {Id: 0}}}
	r := &s.Nodes[0].R
	r.G, r.C, r.F, r.R[0][5], r.R[1][2] = [6]int64{10, 20, 0, 0, 5}, [6]int64{3, 9}, [6]int64{1, 9}, 4, 2
	s.Nodes[2].R.G[0] = 77
	s.Nodes[3].R.G[0], s.Nodes[3].R.C[1] = 5, 1
	s.Nodes[4].R.G[5] = 6
	for _, c := range []struct {
		node uint64
		want api.Quota
		e    api.Errno
	}{
		{9, api.Quota{Limit: 35, Used: 2, Local: [6]int64{4, 18, 2, 0, 5, 4}}, api.OK},
		{3, api.Quota{}, api.OK},
		{5, api.Quota{}, api.OK},
		{0, api.Quota{Limit: 6, Local: [6]int64{0, 0, 0, 0, 0, 6}}, api.OK},
		{4, api.Quota{}, api.ErrNode},
		{1<<64 - 1, api.Quota{}, api.ErrNode},
	} {
		if q, e := query.Of(s, c.node); q != c.want || e != c.e {
			t.Errorf("P25.1: Of %d: %v, %d", c.node, q, e)
		}
	}
}

func TestOpen(t *testing.T) {
	l := []api.Grant{{Origin: 2, Req: 5}, {Origin: 1, Req: 4, Amount: 8}, {Origin: 1, Req: 3, By: 7}, {Origin: 1, Req: 2}, {Origin: 1, Req: 4, Amount: 8}, {Origin: 9, Req: 1}}
	s := api.State{Grants: slices.Clone(l)}
	for i, want := range map[int][]api.Grant{1: {l[1], l[3], l[4]}, 2: {l[0]}, 3: nil, 0: nil, -1: nil, 9: {l[5]}} {
		got := query.Open(s, i)
		if !slices.Equal(got, want) {
			t.Errorf("P25.1: Open of %d: %v", i, got)
		}
		clear(got)
	}
	if !slices.Equal(s.Grants, l) {
		t.Error("R3: what was answered is what was handed in")
	}
	if len(query.Open(api.State{}, 1)) != 0 {
		t.Error("P25.1: of an empty state")
	}
}

func TestPath(t *testing.T) {
	s := api.State{Nodes: []api.Node{{Id: 4, Parent: 7}, {Id: 7, Parent: 2}, {Id: 2}, {Id: 7, Parent: 9}, {Id: 9, Parent: 99}, {Id: 20, Parent: 20}, {Id: 30, Parent: 31}, {Id: 31, Parent: 30}}}
	turn := make([]uint64, api.MaxNodes)
	turn2 := make([]uint64, api.MaxNodes)
	for k := range turn {
		turn[k], turn2[k] = 20, 30+uint64(k%2)
	}
	for node, want := range map[uint64][]uint64{4: {4, 7, 2}, 7: {7, 2}, 2: {2}, 9: {9}, 99: nil, 0: nil, 20: turn, 30: turn2} {
		if got := query.Path(s, node); !slices.Equal(got, want) {
			t.Errorf("P25.1: Path of %d: %v", node, got)
		}
	}
	var long api.State
	for k := range uint64(40) {
		long.Nodes = append(long.Nodes, api.Node{Id: k + 1, Parent: k})
	}
	if got := query.Path(long, 40); len(got) != api.MaxNodes || got[31] != 9 {
		t.Errorf("P25.1: Path of many: %v", got)
	}
	if got := query.Path(long, 32); len(got) != api.MaxNodes || got[31] != 1 {
		t.Errorf("P25.1: Path of MaxNodes: %v", got)
	}
	zero := api.State{Nodes: []api.Node{{Id: 5}, {Id: 0, Parent: 9}}}
	if got := query.Path(zero, 5); !slices.Equal(got, []uint64{5, 0}) {
		t.Errorf("P25.1: Path above which a node 0 is: %v", got)
	}
}

func TestUsedIsWhatIsOpen(t *testing.T) {
	seed := uint32(4)
	roll := func(n int) int {
		seed = seed*1664525 + 1013904223
		return int(seed>>8) % n
	}
	l, _ := ledger.New(3)
	took := 0
	for step := range 1500 {
		s := l.State()
		n, to, x := uint64(0), roll(3)+1, int64(roll(6)+1)
		if len(s.Nodes) > 0 {
			n = s.Nodes[roll(len(s.Nodes))].Id
		}
		e := api.Event{Origin: roll(3) + 1, Deps: s.Known, Kind: api.EvTake, Node: n, Amount: x, Req: uint64(step + 1)}
		switch roll(6) {
		case 0:
			e = api.Event{Origin: e.Origin, Deps: s.Known, Kind: api.EvNode, Node: n, Amount: 30 * x}
		case 1:
			e = api.Event{Origin: e.Origin, Deps: s.Known, Kind: api.EvFree, Req: e.Req, Of: uint64(roll(step+1) + 1)}
		case 2:
			e = api.Event{Origin: e.Origin, Deps: s.Known, Kind: api.EvMove, Node: n, Amount: x, To: to}
		}
		e.Seq = s.Known[e.Origin-1] + 1
		if l.Apply(e) == api.OK && e.Kind == api.EvTake {
			took++
		}
		if step%20 > 0 {
			continue
		}
		used := map[uint64]int64{}
		for i := 1; i <= 3; i++ {
			for _, g := range query.Open(s, i) {
				for _, n := range query.Path(s, g.Node) {
					used[n] += g.Amount
				}
			}
		}
		for _, n := range s.Nodes {
			if q, e := query.Of(s, n.Id); e != api.OK || q.Used != used[n.Id] {
				t.Fatalf("P25.2: at %d: %v, %d; not %d", n.Id, q, e, used[n.Id])
			}
		}
	}
	if took < 30 {
		t.Errorf("only %d takes went", took)
	}
}
