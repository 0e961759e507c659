package cluster_test

import (
	"slices"
	"testing"

	"leat/api"
	"leat/cluster"
	"leat/member"
	"leat/rights"
)

const a = uint64(1<<40 + 1)

// same tells whether two states are the same.
func same(a, b api.State) bool {
	return a.In == b.In && a.Left == b.Left && a.Known == b.Known && slices.Equal(a.Nodes, b.Nodes) && slices.Equal(a.Grants, b.Grants)
}

func node(below uint64, x int64) api.Ask { return api.Ask{Kind: api.EvNode, Node: below, Amount: x} }
func take(n uint64, x int64, req uint64) api.Ask {
	return api.Ask{Kind: api.EvTake, Node: n, Amount: x, Req: req}
}

func ask(who int, k api.Ask) api.Step { return api.Step{Do: api.StAsk, Who: who, A: k} }

// step is a step of a region.
func step(do uint8, who int) api.Step { return api.Step{Do: do, Who: who} }

func fresh(t *testing.T, n int) *cluster.Cluster {
	t.Helper()
	c, e := cluster.New(n)
	if c == nil || e != api.OK {
		t.Fatal("P24.1: New: ", e)
	}
	return c
}

// do does steps, and wants each to have that error, and to make nothing but asks.
func do(t *testing.T, c *cluster.Cluster, want api.Errno, l ...api.Step) {
	t.Helper()
	for _, s := range l {
		x := c.Do(s)
		if x.E != want || (x.Made != api.Event{}) && s.Do != api.StAsk {
			t.Errorf("P24.2: Do of %v: %v, not %d", s, x, want)
		}
	}
}

func TestNew(t *testing.T) {
	for _, n := range []int{0, -1, 7, 1 << 40} {
		if c, e := cluster.New(n); c != nil || e != api.ErrArg {
			t.Errorf("P24.1: New of %d: %v, %d", n, c, e)
		}
	}
	for n := 1; n <= api.MaxRegions; n++ {
		c := fresh(t, n)
		var want api.State
		for i := range n {
			want.In[i] = true
		}
		for i := -1; i <= api.MaxRegions+1; i++ {
			s, up := c.State(i)
			if there := i >= 1 && i <= api.MaxRegions; up != there || there && !same(s, want) || !there && !same(s, api.State{}) {
				t.Errorf("P24.1: State of %d of %d: %v, %v", i, n, s, up)
			}
		}
		if c.Way() != 0 || c.Now() != 0 {
			t.Errorf("P24.1: %d, %d", c.Way(), c.Now())
		}
	}
	var none *cluster.Cluster
	s, up := none.State(1)
	if x := none.Do(api.Step{}); x.E != api.ErrNil || up || !same(s, api.State{}) || none.Way() != 0 || none.Now() != 0 {
		t.Error("P24.1: of no cluster")
	}
}

func TestExample(t *testing.T) {
	c := fresh(t, 2)
	x := c.Do(ask(1, node(0, 10)))
	if x.E != api.OK || x.Made != (api.Event{Origin: 1, Seq: 1, Kind: api.EvNode, Amount: 10}) {
		t.Errorf("P24.2: %v", x)
	}
	do(t, c, api.OK, step(api.StTick, 1))
	if c.Way() != 1 {
		t.Error("P24.1: ", c.Way())
	}
	do(t, c, api.OK, step(api.StDeliver, 0))
	if s, up := c.State(2); !up || len(s.Nodes) != 1 || s.Nodes[0].Id != a || c.Way() != 0 {
		t.Errorf("P24.2: %v, %v", s, up)
	}
}

func TestErrorsOfSteps(t *testing.T) {
	c := fresh(t, 2)
	do(t, c, api.OK, ask(1, node(0, 10)))
	for _, d := range []uint8{0, 13, 14, 255} {
		do(t, c, api.ErrArg, step(d, 1), step(d, 9))
	}
	for _, d := range []uint8{api.StAsk, api.StTick, api.StCut, api.StFuse, api.StOff, api.StOn, api.StLeave} {
		for _, who := range []int{0, 7, -1, 1 << 40, -1 << 63} {
			do(t, c, api.ErrRegion, step(d, who), api.Step{Do: d, Who: who, J: 1, N: 1})
		}
	}
	for _, who := range []int{0, 7, -1} {
		do(t, c, api.OK, api.Step{Do: api.StTime, Who: who, N: 1}, step(api.StHeal, who))
		do(t, c, api.ErrNone, step(api.StDeliver, who), step(api.StDrop, who), step(api.StTwice, who))
	}
	for _, k := range []int{-1, 0, 1, 1 << 40, -1 << 63} {
		do(t, c, api.ErrNone, api.Step{Do: api.StDeliver, K: k}, api.Step{Do: api.StDrop, K: k}, api.Step{Do: api.StTwice, K: k})
	}
	do(t, c, api.ErrRegion, ask(3, node(0, 1)), api.Step{Do: api.StCut, Who: 1, J: 1}, api.Step{Do: api.StCut, Who: 1, J: 7}, api.Step{Do: api.StCut, Who: 1})
	do(t, c, api.ErrRegion, api.Step{Do: api.StLeave, Who: 1, J: 1}, api.Step{Do: api.StLeave, Who: 1, J: 3}, api.Step{Do: api.StLeave, Who: 3, J: 1}, api.Step{Do: api.StLeave, Who: 1})
	do(t, c, api.ErrRights, ask(1, take(a, 11, 1)))
	do(t, c, api.ErrNode, ask(2, take(a, 1, 1)))
	do(t, c, api.ErrArg, ask(1, api.Ask{}))
	do(t, c, api.ErrState, step(api.StOn, 1))
	do(t, c, api.OK, step(api.StOff, 1), step(api.StOff, 1), api.Step{Do: api.StFuse, Who: 1, N: 3})
	do(t, c, api.ErrPower, ask(1, api.Ask{}), ask(1, take(a, 11, 1)), ask(1, take(9, 1, 1)))
	do(t, c, api.ErrPower, ask(1, node(0, 10)), step(api.StTick, 1), api.Step{Do: api.StLeave, Who: 1, J: 2}, api.Step{Do: api.StLeave, Who: 1, J: 9})
	if s, up := c.State(1); up || !same(s, api.State{}) {
		t.Errorf("P24.1: of one that is off: %v, %v", s, up)
	}
}

func TestTime(t *testing.T) {
	c := fresh(t, 2)
	for _, x := range []struct {
		n   int
		e   api.Errno
		now uint64
	}{{0, 0, 0}, {5, 0, 5}, {-1, api.ErrArg, 5}, {-1 << 63, api.ErrArg, 5}, {api.MaxClock + 1, api.ErrArg, 5}, {1<<63 - 1, api.ErrArg, 5}, {api.MaxClock - 4, api.ErrArg, 5}, {api.MaxClock - 5, 0, api.MaxClock}, {1, api.ErrArg, api.MaxClock}, {0, 0, api.MaxClock}} {
		do(t, c, x.e, api.Step{Do: api.StTime, N: x.n})
		if c.Now() != x.now {
			t.Errorf("P24.2: behind StTime of %d: %d", x.n, c.Now())
		}
	}
}

func TestAllTimeAtOnce(t *testing.T) {
	c := fresh(t, 2)
	do(t, c, api.OK, api.Step{Do: api.StTime, N: api.MaxClock})
	if c.Now() != api.MaxClock {
		t.Error("P24.2: ", c.Now())
	}
}

func TestMessages(t *testing.T) {
	c := fresh(t, 3)
	do(t, c, api.OK, ask(1, node(0, 10)), step(api.StTick, 1))
	if c.Way() != 2 {
		t.Fatal("P24.2: ", c.Way())
	}
	do(t, c, api.OK, api.Step{Do: api.StTwice, K: 1})
	do(t, c, api.OK, api.Step{Do: api.StDrop, K: 0})
	do(t, c, api.OK, api.Step{Do: api.StDeliver, K: 1})
	s2, _ := c.State(2)
	s3, _ := c.State(3)
	if c.Way() != 1 || len(s2.Nodes) != 0 || len(s3.Nodes) != 1 {
		t.Errorf("P24.2: %d, %v, %v", c.Way(), s2, s3)
	}
	do(t, c, api.OK, step(api.StOff, 3))
	do(t, c, api.ErrPower, step(api.StDeliver, 0))
	if c.Way() != 0 {
		t.Error("P24.2: what is heard by nobody is lost")
	}
	do(t, c, api.OK, step(api.StOn, 3), api.Step{Do: api.StCut, Who: 2, J: 1}, step(api.StTick, 1))
	if c.Way() != 1 {
		t.Error("P24.2: cut: ", c.Way())
	}
	do(t, c, api.OK, step(api.StHeal, 0), step(api.StTick, 1))
	if c.Way() != 3 {
		t.Error("P24.2: healed: ", c.Way())
	}
	for range 100 {
		do(t, c, api.OK, step(api.StTick, 1))
	}
	do(t, c, api.ErrFull, step(api.StTwice, 0))
	if c.Way() != api.MaxNet {
		t.Error("P24.2: ", c.Way())
	}
	for range api.MaxNet {
		do(t, c, api.OK, step(api.StDeliver, 0))
	}
}

func TestPower(t *testing.T) {
	for n := range 4 {
		for first := range 2 {
			c := fresh(t, 2)
			do(t, c, api.OK, ask(1, node(0, 10)), api.Step{Do: api.StFuse, Who: 1, N: n})
			var want []api.Errno // of two takes
			switch n {
			case 0, 1:
				want = []api.Errno{api.ErrPower, api.ErrPower}
			default:
				want = []api.Errno{api.OK, api.ErrPower}
			}
			for k, e := range want {
				x := c.Do(ask(1, take(a, 1, uint64(k+1))))
				if x.E != e || (x.Made == api.Event{}) == (e == api.OK) {
					t.Errorf("P24.2: the take %d with the fuse %d: %v", k, n, x)
				}
			}
			if _, up := c.State(1); up {
				t.Error("P24.2: a region whose power went is up")
			}
			do(t, c, api.OK, api.Step{Do: api.StOn, Who: 1, Picks: []int{first, 0}})
			s, up := c.State(1)
			if known := uint64(1 + n/2 + first); !up || s.Known[0] != known || len(s.Grants) != int(known)-1 {
				t.Errorf("P24.2: with the fuse %d, the pick %d: %v", n, first, s.Known)
			}
			x := c.Do(ask(1, take(a, 1, uint64(n/2+1))))
			if x.E != api.OK || (x.Made == api.Event{}) != (first == 1) {
				t.Errorf("P24.3: the take again: %v", x)
			}
		}
	}
	c := fresh(t, 2)
	do(t, c, api.OK, ask(1, node(0, 10)), step(api.StTick, 1), api.Step{Do: api.StFuse, Who: 2, N: 0})
	do(t, c, api.ErrPower, step(api.StDeliver, 0))
	do(t, c, api.OK, api.Step{Do: api.StFuse, Who: 1, N: 0}, api.Step{Do: api.StFuse, Who: 1, N: -1}, ask(1, take(a, 1, 1)))
}

func TestLeave(t *testing.T) {
	c := fresh(t, 3)
	do(t, c, api.OK, ask(1, node(0, 10)), ask(1, node(a, 5)), api.Step{Do: api.StLeave, Who: 1, J: 2})
	s, _ := c.State(1)
	if !slices.Equal(member.Live(s), []int{2, 3}) || s.Known != (api.Vector{5}) {
		t.Errorf("P24.2: %v", s)
	}
	for _, n := range s.Nodes {
		limit, _ := rights.Sums(n.R)
		if rights.Local(n.R, 2) != limit || rights.Local(n.R, 1) != 0 {
			t.Errorf("P24.2: %v", n)
		}
	}
	do(t, c, api.ErrRegion, api.Step{Do: api.StLeave, Who: 1, J: 2}, ask(1, node(0, 1)))
	c = fresh(t, 2)
	do(t, c, api.OK, ask(1, node(0, 10)), ask(1, node(a, 5)), api.Step{Do: api.StFuse, Who: 1, N: 2})
	do(t, c, api.ErrPower, api.Step{Do: api.StLeave, Who: 1, J: 2})
	do(t, c, api.OK, step(api.StOn, 1))
	if s, _ := c.State(1); s.Known != (api.Vector{3}) || s.Left[0] {
		t.Errorf("P24.2: %v", s)
	}
}

func TestAsksAreHeardAtTheTime(t *testing.T) {
	c := fresh(t, 2)
	do(t, c, api.OK, ask(1, node(0, 10)), step(api.StTick, 1), step(api.StDeliver, 0), api.Step{Do: api.StTime, N: 5})
	do(t, c, api.ErrRights, ask(2, take(a, 4, 1)))
	var ways []int
	for range 9 {
		was := c.Way()
		do(t, c, api.OK, step(api.StTick, 2), api.Step{Do: api.StTime, N: 1})
		ways = append(ways, c.Way()-was)
	}
	if !slices.Equal(ways, []int{2, 2, 1, 2, 1, 1, 1, 2, 1}) {
		t.Errorf("P24.2: %v", ways)
	}
}

// roll is a row of numbers that is the same each time.
func roll(seed *uint32, n int) int {
	*seed = *seed*1664525 + 1013904223
	return int(*seed>>8) % n
}

// some makes a step.
func some(seed *uint32, c *cluster.Cluster) api.Step {
	who, x := roll(seed, 6)+1, int64(roll(seed, 9)+1)
	s, _ := c.State(who)
	n := uint64(0)
	if len(s.Nodes) > 0 {
		n = s.Nodes[roll(seed, len(s.Nodes))].Id
	}
	req := uint64(roll(seed, 40) + 1)
	k := 0
	if c.Way() > 0 {
		k = roll(seed, c.Way())
	}
	switch roll(seed, 40) {
	case 0, 1:
		return ask(who, node([]uint64{0, n, n}[roll(seed, 3)], 3*x))
	case 2:
		return ask(who, api.Ask{Kind: api.EvRaise, Node: n, Amount: x})
	case 3, 4, 5, 6, 7, 8:
		return ask(who, take(n, x, req))
	case 9, 10, 11:
		return ask(who, api.Ask{Kind: api.EvFree, Req: req, Of: uint64(roll(seed, 40) + 1)})
	case 12:
		return ask(who, api.Ask{Kind: api.EvMove, Node: n, Amount: x, To: roll(seed, 6) + 1})
	case 13:
		return ask(who, api.Ask{Kind: api.EvJoin, To: roll(seed, 6) + 1})
	case 14:
		if roll(seed, 20) == 0 {
			return api.Step{Do: api.StLeave, Who: who, J: roll(seed, 6) + 1}
		}
	case 15, 16:
		return api.Step{Do: api.StDrop, K: k}
	case 17, 18:
		return api.Step{Do: api.StTwice, K: k}
	case 19:
		return api.Step{Do: api.StCut, Who: who, J: roll(seed, 6) + 1}
	case 20:
		return api.Step{Do: api.StHeal}
	case 21:
		return api.Step{Do: api.StFuse, Who: who, N: roll(seed, 9) - 1}
	case 22:
		return step(api.StOff, who)
	case 23, 24, 25:
		return api.Step{Do: api.StOn, Who: who, Picks: []int{roll(seed, 5), roll(seed, 300)}}
	case 26, 27:
		return api.Step{Do: api.StTime, N: roll(seed, 4)}
	case 28, 29, 30, 31:
		return step(api.StTick, who)
	}
	return api.Step{Do: api.StDeliver, K: k}
}

// book reckons by answers alone what is taken at each node.
type book struct {
	above map[uint64]uint64
	limit map[uint64]int64
	taken map[[2]uint64]api.Ask
	back  map[[2]uint64]bool
}

func (b *book) say(s api.Step, x api.Answer) {
	k := s.A
	if s.Do != api.StAsk || x.E != api.OK && x.E != api.ErrPower {
		return
	}
	who := uint64(s.Who)
	switch k.Kind {
	case api.EvNode:
		if x.E == api.OK {
			id := uint64(x.Made.Origin)<<40 + x.Made.Seq
			b.above[id] = k.Node
			b.limit[id] += k.Amount
		}
	case api.EvRaise:
		b.limit[k.Node] += k.Amount
	case api.EvTake:
		if x.E == api.OK {
			b.taken[[2]uint64{who, k.Req}] = k
		}
	case api.EvFree:
		b.back[[2]uint64{who, k.Of}] = true
	}
}

func (b *book) held(t *testing.T) {
	t.Helper()
	used := map[uint64]int64{}
	for key, k := range b.taken {
		if b.back[key] {
			continue
		}
		for n, ok := k.Node, true; ok; n, ok = b.above[n], b.above[n] != 0 {
			used[n] += k.Amount
		}
	}
	for n := range b.above {
		if used[n] > b.limit[n] {
			t.Fatalf("P24.3: at %d %d are used of %d", n, used[n], b.limit[n])
		}
	}
}

// agree checks that regions that know the same have the same state.
func agree(t *testing.T, c *cluster.Cluster) {
	t.Helper()
	for i := 1; i <= api.MaxRegions; i++ {
		for j := 1; j < i; j++ {
			a, up := c.State(i)
			b, up2 := c.State(j)
			if up && up2 && a.Known == b.Known && !same(a, b) {
				t.Fatalf("P24.3: %v, %v", a, b)
			}
		}
	}
}

// calm lets nothing be cut, lost or off, and all tick and hear, for so many rounds; what all that are live know then.
func calm(t *testing.T, c *cluster.Cluster, rounds int) []api.Vector {
	t.Helper()
	c.Do(step(api.StHeal, 0))
	for i := 1; i <= api.MaxRegions; i++ {
		c.Do(step(api.StOff, i))
		do(t, c, api.OK, step(api.StOn, i))
	}
	for range rounds {
		for i := 1; i <= api.MaxRegions; i++ {
			do(t, c, api.OK, step(api.StTick, i))
			for c.Way() > 0 {
				do(t, c, api.OK, step(api.StDeliver, 0))
			}
		}
	}
	var l []api.Vector
	for i := 1; i <= api.MaxRegions; i++ {
		if s, _ := c.State(i); slices.Contains(member.Live(s), i) {
			l = append(l, s.Known)
		}
	}
	return l
}

func TestAnything(t *testing.T) {
	made := 0
	for seed := range uint32(40) {
		r := seed
		c := fresh(t, roll(&r, 6)+1)
		b := book{map[uint64]uint64{}, map[uint64]int64{}, map[[2]uint64]api.Ask{}, map[[2]uint64]bool{}}
		n := 50 + roll(&r, 400)
		for k := range n {
			s := some(&r, c)
			b.say(s, c.Do(s))
			if k%10 == 0 {
				b.held(t)
				agree(t, c)
			}
		}
		b.held(t)
		made += len(b.taken)
		l := calm(t, c, min(2*n+4, 60))
		for _, v := range l {
			if v != l[0] {
				t.Fatalf("P24.4: %v", l)
			}
		}
		agree(t, c)
	}
	if made < 100 {
		t.Errorf("only %d takes went", made)
	}
}

func TestFewStepsFewRounds(t *testing.T) {
	for seed := range uint32(60) {
		r := seed
		c := fresh(t, 6)
		n := roll(&r, 12)
		for range n {
			c.Do(some(&r, c))
		}
		l := calm(t, c, 2*n+4)
		for _, v := range l {
			if v != l[0] {
				t.Fatalf("P24.4: behind %d steps: %v", n, l)
			}
		}
	}
}
