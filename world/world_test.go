package world_test

import (
	"slices"
	"testing"

	"leat/api"
	"leat/message"
	"leat/world"
)

const a = uint64(1<<40 + 1)

// same tells whether two states are the same.
func same(a, b api.State) bool {
	return a.In == b.In && a.Left == b.Left && a.Known == b.Known && slices.Equal(a.Nodes, b.Nodes) && slices.Equal(a.Grants, b.Grants)
}

func node(below uint64, x int64) api.Ask { return api.Ask{Kind: api.EvNode, Node: below, Amount: x} }
func take(n uint64, x int64, req uint64) api.Ask {
	return api.Ask{Kind: api.EvTake, Node: n, Amount: x, Req: req}
}
func free(of, req uint64) api.Ask { return api.Ask{Kind: api.EvFree, Of: of, Req: req} }
func move(n uint64, x int64, to int) api.Ask {
	return api.Ask{Kind: api.EvMove, Node: n, Amount: x, To: to}
}

func ask(who int, k api.Ask) api.Step { return api.Step{Do: api.StAsk, Who: who, A: k} }

// step is a step of a region.
func step(do uint8, who int) api.Step { return api.Step{Do: do, Who: who} }

func fresh(t *testing.T, n int) *world.World {
	t.Helper()
	w, e := world.New(n)
	if w == nil || e != api.OK {
		t.Fatal("P27.1: New: ", e)
	}
	return w
}

// do does a step, and wants it to have that error.
func do(t *testing.T, w *world.World, s api.Step, want api.Errno) api.Event {
	t.Helper()
	x := w.Do(s)
	if x.E != want {
		t.Errorf("P27.1: Do of %v: %d, not %d", s, x.E, want)
	}
	return x.Made
}

// calm wants a Calm to be of so many rounds.
func calm(t *testing.T, w *world.World, most, want int) {
	t.Helper()
	if got, e := w.Calm(most); got != want || e != api.OK {
		t.Errorf("P27.3: Calm of %d: %d, %d; not %d", most, got, e, want)
	}
}

// quota holds a node's quota, as a region knows it, against what is wanted.
func quota(t *testing.T, w *world.World, i int, n uint64, limit, used int64, local ...int64) {
	t.Helper()
	want := api.Quota{Limit: limit, Used: used}
	copy(want.Local[:], local)
	if q, e := w.Quota(i, n); q != want || e != api.OK {
		t.Errorf("P27.2: Quota of %d by %d: %v, %d; not %v", n, i, q, e, want)
	}
}

func TestNewAndNone(t *testing.T) {
	for _, n := range []int{0, -1, 7} {
		if w, e := world.New(n); w != nil || e != api.ErrArg {
			t.Errorf("P27.1: New of %d: %v, %d", n, w, e)
		}
	}
	for n := 1; n <= api.MaxRegions; n++ {
		w := fresh(t, n)
		s, up := w.Cluster().State(1)
		if !up || s.Known != (api.Vector{}) || !s.In[n-1] || n < 6 && s.In[n] || !w.Bound() || !w.Agree() {
			t.Errorf("P27.1: New of %d: %v", n, s)
		}
		calm(t, w, 10, 0)
	}
	var w *world.World
	q, e := w.Quota(9, 1)
	l, u, e2 := w.Sums(1)
	k, e3 := w.Calm(-1)
	if x := w.Do(api.Step{}); x != (api.Answer{E: api.ErrNil}) || q != (api.Quota{}) || e != api.ErrNil || l != 0 || u != 0 || e2 != api.ErrNil || k != 0 || e3 != api.ErrNil {
		t.Error("P27.3: of no world: ", x, q, e, l, u, e2, k, e3)
	}
	if w.Bound() || w.Agree() || w.Cluster() != nil {
		t.Error("P27.3: of no world")
	}
}

func TestExamplesOfTheWhole(t *testing.T) {
	w := fresh(t, 2)
	do(t, w, ask(1, node(0, 10)), api.OK)
	calm(t, w, 10, 1)
	quota(t, w, 1, a, 10, 0, 10)
	quota(t, w, 2, a, 10, 0, 10)
	do(t, w, ask(2, take(a, 4, 7)), api.ErrRights)
	do(t, w, step(api.StTick, 2), api.OK)
	calm(t, w, 10, 0)
	do(t, w, step(api.StDeliver, 0), api.OK)
	do(t, w, step(api.StDeliver, 0), api.OK)
	calm(t, w, 10, 1)
	if e := do(t, w, ask(2, take(a, 4, 7)), api.OK); e.Kind != api.EvTake || e.Origin != 2 || e.Amount != 4 {
		t.Errorf("P27.1: %v", e)
	}
	do(t, w, ask(1, take(a, 7, 7)), api.ErrRights)
	do(t, w, ask(1, take(a, 6, 7)), api.OK)
	if e := do(t, w, ask(1, take(a, 6, 7)), api.OK); e != (api.Event{}) {
		t.Errorf("W4: %v", e)
	}
	quota(t, w, 1, a, 10, 6, 0, 4)
	calm(t, w, 10, 1)
	quota(t, w, 1, a, 10, 10)
	do(t, w, ask(2, free(7, 8)), api.OK)
	do(t, w, ask(2, free(7, 9)), api.ErrGrant)
	do(t, w, ask(1, free(7, 8)), api.OK)
	calm(t, w, 10, 1)
	quota(t, w, 2, a, 10, 0, 6, 4)
	b := do(t, w, ask(1, node(a, 3)), api.OK)
	n := uint64(b.Origin)<<40 + b.Seq
	do(t, w, ask(1, take(n, 2, 20)), api.OK)
	quota(t, w, 1, a, 10, 2, 4, 4)
	quota(t, w, 1, n, 3, 2, 1)
	if l, u, e := w.Sums(a); l != 10 || u != 2 || e != api.OK {
		t.Errorf("P27.1: Sums: %d, %d, %d", l, u, e)
	}
	do(t, w, api.Step{Do: api.StLeave, Who: 1, J: 2}, api.OK)
	quota(t, w, 1, a, 10, 2, 0, 8)
	quota(t, w, 1, n, 3, 2, 0, 1)
	if m, e := message.Get(make([]byte, 9)); e != api.ErrBytes || m.Kind != 0 {
		t.Errorf("%v, %d", m, e)
	}
}

func TestPowerGoesWithinACall(t *testing.T) {
	for fuse := range 2 {
		for pick := range 2 {
			w := fresh(t, 2)
			do(t, w, ask(1, node(0, 10)), api.OK)
			do(t, w, ask(1, take(a, 3, 1)), api.OK)
			do(t, w, api.Step{Do: api.StFuse, Who: 1, N: fuse}, api.OK)
			do(t, w, ask(1, take(a, 2, 2)), api.ErrPower)
			if q, e := w.Quota(1, a); q != (api.Quota{}) || e != api.ErrPower {
				t.Errorf("P27.2: %v, %d", q, e)
			}
			do(t, w, api.Step{Do: api.StOn, Who: 1, Picks: []int{pick}}, api.OK)
			used := int64(3 + 2*pick)
			quota(t, w, 1, a, 10, used, 10-used)
			if l, u, e := w.Sums(a); l != 10 || u != 3 || e != api.OK {
				t.Errorf("P27.1: Sums: %d, %d, %d", l, u, e)
			}
		}
	}
}

func TestAllIsLostBetween(t *testing.T) {
	w := fresh(t, 2)
	do(t, w, ask(1, node(0, 10)), api.OK)
	do(t, w, ask(1, move(a, 4, 2)), api.OK)
	calm(t, w, 10, 1)
	do(t, w, api.Step{Do: api.StCut, Who: 1, J: 2}, api.OK)
	for k := range uint64(20) {
		w.Do(ask(1, take(a, 1, k+1)))
		w.Do(ask(2, take(a, 1, k+1)))
		w.Do(step(api.StTick, 1))
		w.Do(step(api.StTick, 2))
	}
	if w.Cluster().Way() != 0 {
		t.Error("what is cut is under way")
	}
	if l, u, _ := w.Sums(a); l != 10 || u != 10 {
		t.Errorf("W1: %d, %d", l, u)
	}
	quota(t, w, 1, a, 10, 6, 0, 4)
	quota(t, w, 2, a, 10, 4, 6, 0)
	calm(t, w, 10, 1)
	quota(t, w, 2, a, 10, 10)
}

func TestQuotaErrors(t *testing.T) {
	w := fresh(t, 2)
	do(t, w, ask(1, node(0, 10)), api.OK)
	do(t, w, step(api.StOff, 3), api.OK)
	for _, c := range []struct {
		i int
		n uint64
		e api.Errno
	}{{0, a, api.ErrRegion}, {7, a, api.ErrRegion}, {-1, 9, api.ErrRegion}, {3, a, api.ErrPower}, {3, 9, api.ErrPower}, {1, 9, api.ErrNode}, {2, a, api.ErrNode}, {6, a, api.ErrNode}} {
		if q, e := w.Quota(c.i, c.n); q != (api.Quota{}) || e != c.e {
			t.Errorf("P27.2: Quota of %d by %d: %v, %d", c.n, c.i, q, e)
		}
	}
	if _, _, e := w.Sums(9); e != api.ErrNode {
		t.Error("P27.1: ", e)
	}
}

func TestCalm(t *testing.T) {
	w := fresh(t, 3)
	for _, n := range []int{-1, 1001, -1 << 63, 1 << 40} {
		if k, e := w.Calm(n); k != 0 || e != api.ErrArg {
			t.Errorf("P27.3: Calm of %d: %d, %d", n, k, e)
		}
	}
	calm(t, w, 1000, 0)
	do(t, w, ask(1, node(0, 10)), api.OK)
	calm(t, w, 0, 0)
	quota(t, w, 1, a, 10, 0, 10)
	if _, e := w.Quota(2, a); e != api.ErrNode {
		t.Error("P27.3: Calm of 0 rounds tells: ", e)
	}
	do(t, w, api.Step{Do: api.StCut, Who: 1, J: 2}, api.OK)
	do(t, w, api.Step{Do: api.StFuse, Who: 2, N: 0}, api.OK)
	do(t, w, step(api.StOff, 3), api.OK)
	do(t, w, step(api.StOff, 6), api.OK)
	now := w.Cluster().Now()
	calm(t, w, 10, 1)
	for i := 1; i <= 3; i++ {
		quota(t, w, i, a, 10, 0, 10)
	}
	if _, up := w.Cluster().State(6); !up || w.Cluster().Now() != now || w.Cluster().Way() != 0 {
		t.Error("P27.3: Calm")
	}
	for k := range uint64(40) {
		do(t, w, ask(3, node(0, 1)), []api.Errno{api.OK, api.ErrMany}[min(k/5, 1)])
		do(t, w, ask(1, take(a, 1, k+1)), []api.Errno{api.OK, api.ErrRights}[min(k/10, 1)])
	}
	for k := range uint64(30) {
		do(t, w, ask(2, api.Ask{Kind: api.EvRaise, Node: a, Amount: 1 + int64(k)}), api.OK)
	}
	calm(t, w, 1, 1)
	if s, _ := w.Cluster().State(1); s.Known[1] != 16 {
		t.Errorf("P27.3: a round tells MaxSend events: %v", s.Known)
	}
	calm(t, w, 100, 1)
	calm(t, w, 100, 0)
}

func TestWhatIsUnderWayIsToldOfFirst(t *testing.T) {
	w := fresh(t, 2)
	do(t, w, ask(2, node(0, 10)), api.OK)
	for k := range uint64(29) {
		do(t, w, ask(2, api.Ask{Kind: api.EvRaise, Node: 2<<40 + 1, Amount: int64(k + 1)}), api.OK)
	}
	do(t, w, step(api.StTick, 2), api.OK)
	// Heard ahead of all, these 16 events are known to 1 when it tells 2; so 2 tells the others in the same round.
	calm(t, w, 10, 1)
}

func TestADeadRegionIsOpenedAnew(t *testing.T) {
	w := fresh(t, 1)
	do(t, w, ask(1, node(0, 1<<40)), api.OK)
	var e api.Errno
	req := uint64(0)
	for ; e == api.OK; req++ {
		e = w.Do(ask(1, take(a, 1, req+1))).E
	}
	if _, up := w.Cluster().State(1); up || e != api.ErrFull {
		t.Fatalf("P24.2: a region whose disk is full: %v, %d", up, e)
	}
	do(t, w, step(api.StOn, 1), api.ErrState)
	calm(t, w, 0, 0)
	quota(t, w, 1, a, 1<<40, int64(req-1), 1<<40-int64(req-1))
}

func TestLiveOnes(t *testing.T) {
	w := fresh(t, 2)
	do(t, w, ask(1, node(0, 9)), api.OK)
	do(t, w, ask(1, api.Ask{Kind: api.EvJoin, To: 3}), api.OK)
	calm(t, w, 10, 1)
	quota(t, w, 3, a, 9, 0, 9)
	do(t, w, api.Step{Do: api.StLeave, Who: 1, J: 2}, api.OK)
	calm(t, w, 10, 0)
	do(t, w, ask(2, api.Ask{Kind: api.EvRaise, Node: a, Amount: 1}), api.OK)
	calm(t, w, 10, 1)
}

func TestUnderWayIsHeardFirst(t *testing.T) {
	w := fresh(t, 2)
	do(t, w, ask(1, node(0, 10)), api.OK)
	do(t, w, step(api.StTick, 1), api.OK)
	for range 40 {
		do(t, w, api.Step{Do: api.StTwice}, api.OK)
	}
	calm(t, w, 0, 0)
	if w.Cluster().Way() != 41 {
		t.Error("P27.3: Calm of 0 rounds hears")
	}
	calm(t, w, 5, 1)
}
