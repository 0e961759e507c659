package audit_test

import (
	"slices"
	"testing"

	"leat/api"
	"leat/audit"
	"leat/cluster"
)

const n1, n2, n3 = uint64(1<<40 + 1), uint64(2<<40 + 1), uint64(3<<40 + 1)

// node says that a region made its first node.
func node(a *audit.Audit, who int, below uint64, x int64) {
	a.Say(who, api.Ask{Kind: api.EvNode, Node: below, Amount: x}, api.Answer{Made: api.Event{Origin: who, Seq: 1}})
}

func take(a *audit.Audit, who int, n uint64, x int64, req uint64, e api.Errno) {
	a.Say(who, api.Ask{Kind: api.EvTake, Node: n, Amount: x, Req: req}, api.Answer{E: e})
}

func free(a *audit.Audit, who int, of, req uint64, e api.Errno) {
	a.Say(who, api.Ask{Kind: api.EvFree, Of: of, Req: req}, api.Answer{E: e})
}

func raise(a *audit.Audit, n uint64, x int64, e api.Errno) {
	a.Say(1, api.Ask{Kind: api.EvRaise, Node: n, Amount: x}, api.Answer{E: e})
}

// sums holds Sums against a limit and what is used.
func sums(t *testing.T, a *audit.Audit, n uint64, limit, used int64) {
	t.Helper()
	if l, u, e := a.Sums(n); l != limit || u != used || e != api.OK {
		t.Errorf("P26.2: Sums of %d: %d, %d, %d; not %d, %d", n, l, u, e, limit, used)
	}
}

func TestExample(t *testing.T) {
	a := audit.New()
	if len(a.Nodes()) != 0 || !a.Bound() {
		t.Error("P26.1: a new one")
	}
	node(a, 1, 0, 10)
	take(a, 1, n1, 4, 1, api.OK)
	sums(t, a, n1, 10, 4)
	if !a.Bound() {
		t.Error("P26.2: Bound")
	}
}

func TestNone(t *testing.T) {
	var a *audit.Audit
	node(a, 1, 0, 10)
	if l, u, e := a.Sums(n1); l != 0 || u != 0 || e != api.ErrNil || len(a.Nodes()) != 0 || !a.Bound() {
		t.Errorf("P26.2: of no audit: %d, %d, %d", l, u, e)
	}
	a = audit.New()
	for _, n := range []uint64{0, 1, n1} {
		if l, u, e := a.Sums(n); l != 0 || u != 0 || e != api.ErrNode {
			t.Errorf("P26.2: of no node: %d, %d, %d", l, u, e)
		}
	}
}

func TestOtherErrorsSayNothing(t *testing.T) {
	for e := api.ErrArg; e <= api.ErrAgain+1; e++ {
		a := audit.New()
		a.Say(2, api.Ask{Kind: api.EvNode, Amount: 10}, api.Answer{Made: api.Event{Origin: 2, Seq: 1}, E: e})
		if (len(a.Nodes()) == 1) != (e == api.ErrPower) {
			t.Errorf("P26.1: a node with %d: %v", e, a.Nodes())
		}
		node(a, 1, 0, 10)
		take(a, 1, n1, 4, 1, api.OK)
		take(a, 1, n1, 3, 2, e)
		raise(a, n1, 5, e)
		free(a, 1, 1, 3, e)
		if e == api.ErrPower {
			sums(t, a, n1, 15, 0)
		} else {
			sums(t, a, n1, 10, 4)
		}
	}
	a := audit.New()
	node(a, 1, 0, 10)
	take(a, 1, n1, 4, 1, api.OK)
	for k := range 256 {
		if k < int(api.EvNode) || k > int(api.EvFree) {
			a.Say(1, api.Ask{Kind: uint8(k), Node: n1, Amount: 1, To: 2, Req: 1, Of: 1}, api.Answer{Made: api.Event{Origin: 2, Seq: 1}})
		}
	}
	sums(t, a, n1, 10, 4)
	if !slices.Equal(a.Nodes(), []uint64{n1}) {
		t.Errorf("P26.1: %v", a.Nodes())
	}
}

func TestNodes(t *testing.T) {
	a := audit.New()
	for _, c := range []struct {
		origin int
		seq    uint64
	}{{0, 1}, {7, 1}, {-1, 1}, {1, 0}, {1, api.MaxSeq}} {
		a.Say(1, api.Ask{Kind: api.EvNode, Amount: 10}, api.Answer{Made: api.Event{Origin: c.origin, Seq: c.seq}})
	}
	a.Say(1, api.Ask{Kind: api.EvNode, Amount: 10}, api.Answer{E: api.ErrPower})
	if len(a.Nodes()) != 0 {
		t.Errorf("P26.1: %v", a.Nodes())
	}
	node(a, 3, 0, -5)
	node(a, 2, 0, api.MaxAmount+1)
	node(a, 1, n2, api.MaxAmount)
	node(a, 1, n3, 7)
	if !slices.Equal(a.Nodes(), []uint64{n1, n2, n3}) {
		t.Errorf("P26.2: %v", a.Nodes())
	}
	sums(t, a, n1, api.MaxAmount, 0)
	sums(t, a, n2, api.MaxAmount, 0)
	sums(t, a, n3, 0, 0)
	take(a, 1, n1, 5, 1, api.OK)
	sums(t, a, n1, api.MaxAmount, 5)
	sums(t, a, n2, api.MaxAmount, 5)
	sums(t, a, n3, 0, 0)
	clear(a.Nodes())
	if !slices.Equal(a.Nodes(), []uint64{n1, n2, n3}) {
		t.Errorf("R3: %v", a.Nodes())
	}
}

func TestRaises(t *testing.T) {
	a := audit.New()
	raise(a, n1, 5, api.OK)
	raise(a, n1, 6, api.ErrPower)
	node(a, 1, 0, 10)
	node(a, 2, 0, 20)
	raise(a, n1, 7, api.OK)
	raise(a, n1, -9, api.OK)
	raise(a, n2, api.MaxAmount+5, api.OK)
	raise(a, n2, -1<<63, api.ErrPower)
	sums(t, a, n1, 28, 0)
	sums(t, a, n2, 20+api.MaxAmount, 0)
	if _, _, e := a.Sums(n3); e != api.ErrNode {
		t.Error("P26.2: ", e)
	}
}

func TestTakesAndFrees(t *testing.T) {
	a := audit.New()
	node(a, 1, 0, 100)
	node(a, 2, n1, 50)
	node(a, 3, n2, 30)
	take(a, 1, n3, 1, 1, api.OK)
	take(a, 1, n3, 99, 1, api.OK)
	take(a, 1, n1, 99, 1, api.OK)
	take(a, 2, n2, 2, 1, api.OK)
	take(a, 1, n1, 4, 2, api.OK)
	take(a, 1, n1, 8, 3, api.ErrPower)
	sums(t, a, n3, 30, 1)
	sums(t, a, n2, 50, 3)
	sums(t, a, n1, 100, 7)
	free(a, 2, 2, 9, api.OK)
	free(a, 1, 9, 2, api.OK)
	sums(t, a, n1, 100, 7)
	free(a, 1, 1, 9, api.ErrPower)
	sums(t, a, n3, 30, 0)
	sums(t, a, n1, 100, 6)
	free(a, 1, 1, 9, api.OK)
	take(a, 1, n3, 1, 1, api.OK)
	sums(t, a, n1, 100, 6)
	free(a, 1, 77, 78, api.OK)
	take(a, 1, n3, 16, 77, api.OK)
	sums(t, a, n1, 100, 6)
	take(a, 5, n3, -1, 1, api.OK)
	take(a, 5, n3, api.MaxAmount+1, 2, api.OK)
	take(a, 5, n3, 3, 1, api.OK)
	sums(t, a, n3, 30, 0)
	take(a, -7, n3, 3, 0, api.OK)
	sums(t, a, n3, 30, 3)
	take(a, 5, n3, api.MaxAmount, 3, api.OK)
	sums(t, a, n3, 30, 3+api.MaxAmount)
	if a.Bound() {
		t.Error("P26.2: Bound")
	}
}

func TestBound(t *testing.T) {
	a := audit.New()
	node(a, 1, 0, 10)
	node(a, 2, n1, 8)
	take(a, 1, n2, 8, 1, api.OK)
	if !a.Bound() {
		t.Error("P26.2: all that there is")
	}
	take(a, 1, n1, 3, 2, api.OK)
	if a.Bound() {
		t.Error("P26.2: one more at the root")
	}
	free(a, 1, 2, 3, api.OK)
	if !a.Bound() {
		t.Error("P26.2: given back")
	}
	take(a, 1, n2, 1, 4, api.OK)
	if a.Bound() {
		t.Error("P26.2: one more below")
	}
	raise(a, n2, 1, api.ErrPower)
	if !a.Bound() {
		t.Error("P26.2: raised")
	}
	take(a, 1, n3, 1000, 5, api.OK)
	if !a.Bound() {
		t.Error("P26.2: a take at a node that was not said")
	}
	node(a, 3, 0, 5)
	if a.Bound() {
		t.Error("P26.2: a node that is said behind its take")
	}
}

func TestPathsThatTurn(t *testing.T) {
	a := audit.New()
	node(a, 1, n2, 10)
	node(a, 2, n1, 20)
	node(a, 3, n3, 30)
	take(a, 1, n1, 4, 1, api.OK)
	take(a, 1, n3, 5, 2, api.OK)
	sums(t, a, n1, 10, 4)
	sums(t, a, n2, 20, 4)
	sums(t, a, n3, 30, 5)
	a = audit.New()
	id := func(k uint64) uint64 { return 1<<40 + k }
	for k := uint64(1); k <= 40; k++ {
		a.Say(1, api.Ask{Kind: api.EvNode, Node: id(k + 1), Amount: 10}, api.Answer{Made: api.Event{Origin: 1, Seq: k}})
	}
	take(a, 1, id(1), 3, 1, api.OK)
	sums(t, a, id(1), 10, 3)
	sums(t, a, id(33), 10, 3)
	sums(t, a, id(34), 10, 0)
	sums(t, a, id(40), 10, 0)
}

func TestAnswersOfACluster(t *testing.T) {
	for seed := range uint32(15) {
		r := seed
		roll := func(n int) int {
			r = r*1664525 + 1013904223
			return int(r>>8) % n
		}
		c, _ := cluster.New(3)
		a := audit.New()
		took := 0
		for range 500 {
			who := roll(3) + 1
			s, _ := c.State(who)
			n := n1
			if len(s.Nodes) > 0 {
				n = s.Nodes[roll(len(s.Nodes))].Id
			}
			k := api.Ask{Kind: uint8(roll(4) + 1), Node: n, Amount: int64(roll(7) + 1), Req: uint64(roll(99) + 1)}
			if k.Kind == api.EvNode {
				k.Req, k.Amount = 0, 9*k.Amount
				if roll(2) == 0 {
					k.Node = 0
				}
			}
			if k.Kind == api.EvRaise {
				k.Req = 0
			}
			if k.Kind == api.EvFree {
				k.Of, k.Node, k.Amount = uint64(roll(99)+1), 0, 0
			}
			switch roll(7) {
			case 0:
				c.Do(api.Step{Do: api.StTick, Who: who})
			case 1, 2:
				c.Do(api.Step{Do: api.StDeliver, K: roll(5)})
			case 3:
				c.Do([]api.Step{{Do: api.StFuse, Who: who, N: roll(7)}, {Do: api.StOn, Who: who, Picks: []int{roll(2), roll(100)}}, {Do: api.StTime, N: 1}}[roll(3)])
			default:
				x := c.Do(api.Step{Do: api.StAsk, Who: who, A: k})
				a.Say(who, k, x)
				if x.E == api.OK && k.Kind == api.EvTake {
					took++
				}
			}
			if !a.Bound() {
				t.Fatalf("P26.3: with the seed %d it is not Bound", seed)
			}
		}
		if took < 5 {
			t.Errorf("only %d takes went", took)
		}
	}
}
