package drill_test

import (
	"slices"
	"testing"

	"leat/api"
	"leat/drill"
	"leat/world"
)

const a = uint64(1<<40 + 1)

// same tells whether two lists of steps are the same.
func same(a, b []api.Step) bool {
	return slices.EqualFunc(a, b, func(s, t api.Step) bool {
		return s.Do == t.Do && s.Who == t.Who && s.A == t.A && s.K == t.K && s.J == t.J && s.N == t.N && slices.Equal(s.Picks, t.Picks)
	})
}

// sameState tells whether two states are the same.
func sameState(a, b api.State) bool {
	return a.In == b.In && a.Left == b.Left && a.Known == b.Known && slices.Equal(a.Nodes, b.Nodes) && slices.Equal(a.Grants, b.Grants)
}

func cut(who, j int) api.Step { return api.Step{Do: api.StCut, Who: who, J: j} }

func TestSteps(t *testing.T) {
	tick := func(i int) api.Step { return api.Step{Do: api.StTick, Who: i} }
	twice := func(k int) api.Step { return api.Step{Do: api.StTwice, K: k} }
	drop := api.Step{Do: api.StDrop}
	for k, c := range []struct {
		n     int
		e     drill.Event
		under int
		want  []api.Step
	}{
		{3, drill.Event{Kind: drill.Split, A: 1}, 9, []api.Step{cut(1, 2), cut(1, 3)}},
		{3, drill.Event{Kind: drill.Split, A: 2, N: 7}, 9, []api.Step{cut(1, 2), cut(2, 3)}},
		{3, drill.Event{Kind: drill.Split, A: 6}, 9, []api.Step{cut(1, 2), cut(1, 3)}},
		{3, drill.Event{Kind: drill.Split, A: 0xf8}, 9, nil},
		{3, drill.Event{Kind: drill.Split, A: 7}, 9, nil},
		{1, drill.Event{Kind: drill.Split, A: 1}, 9, nil},
		{6, drill.Event{Kind: drill.Split, A: 0b101010}, 0, []api.Step{cut(1, 2), cut(1, 4), cut(1, 6), cut(2, 3), cut(2, 5), cut(3, 4), cut(3, 6), cut(4, 5), cut(5, 6)}},
		{6, drill.Event{Kind: drill.Split, A: 0b11100000}, 0, []api.Step{cut(1, 6), cut(2, 6), cut(3, 6), cut(4, 6), cut(5, 6)}},
		{3, drill.Event{Kind: drill.Heal, A: 5, N: 5}, 9, []api.Step{{Do: api.StHeal}}},
		{3, drill.Event{Kind: drill.Down, A: 0, N: 5}, 9, []api.Step{{Do: api.StOff, Who: 1}}},
		{3, drill.Event{Kind: drill.Down, A: 5}, 9, []api.Step{{Do: api.StOff, Who: 3}}},
		{6, drill.Event{Kind: drill.Down, A: 255}, 9, []api.Step{{Do: api.StOff, Who: 4}}},
		{3, drill.Event{Kind: drill.Up, A: 4, N: 5}, 9, []api.Step{{Do: api.StOn, Who: 2}}},
		{1, drill.Event{Kind: drill.Up, A: 77}, 9, []api.Step{{Do: api.StOn, Who: 1}}},
		{3, drill.Event{Kind: drill.Burn, A: 1, N: 5}, 9, []api.Step{{Do: api.StFuse, Who: 2, N: 5}}},
		{3, drill.Event{Kind: drill.Burn, A: 3, N: -1}, 9, []api.Step{{Do: api.StFuse, Who: 1, N: -1}}},
		{3, drill.Event{Kind: drill.Lose, A: 1, N: 5}, 3, []api.Step{drop, drop, drop}},
		{3, drill.Event{Kind: drill.Lose}, 0, nil},
		{3, drill.Event{Kind: drill.Lose}, -4, nil},
		{3, drill.Event{Kind: drill.Twice, A: 1, N: 5}, 3, []api.Step{twice(0), twice(1), twice(2)}},
		{3, drill.Event{Kind: drill.Twice}, 0, nil},
		{3, drill.Event{Kind: drill.Twice}, -1 << 63, nil},
		{3, drill.Event{Kind: drill.Wait, A: 1, N: 5}, 3, []api.Step{{Do: api.StTime, N: 5}}},
		{3, drill.Event{Kind: drill.Wait, N: -5}, 3, []api.Step{{Do: api.StTime, N: -5}}},
		{3, drill.Event{Kind: drill.Turn, A: 1, N: 5}, 3, []api.Step{tick(1), tick(2), tick(3)}},
		{6, drill.Event{Kind: drill.Turn}, 3, []api.Step{tick(1), tick(2), tick(3), tick(4), tick(5), tick(6)}},
		{3, drill.Event{Kind: 0, A: 1, N: 1}, 3, nil},
		{3, drill.Event{Kind: 10, A: 1, N: 1}, 3, nil},
		{3, drill.Event{Kind: 255, A: 1, N: 1}, 3, nil},
	} {
		if got := drill.Steps(c.n, c.e, c.under); !same(got, c.want) {
			t.Errorf("P30.1: %d: Steps of %v: %v", k, c.e, got)
		}
		for _, n := range []int{0, -1, 7, -1 << 63, 1 << 40} {
			if got := drill.Steps(n, c.e, c.under); len(got) != 0 {
				t.Errorf("P30.1: %d: Steps of %d regions: %v", k, n, got)
			}
		}
	}
}

func fresh(t *testing.T, n int) *world.World {
	t.Helper()
	w, e := world.New(n)
	if e != api.OK {
		t.Fatal(e)
	}
	return w
}

// ask asks a region, and wants an error.
func ask(t *testing.T, w *world.World, who int, k api.Ask, want api.Errno) {
	t.Helper()
	if x := w.Do(api.Step{Do: api.StAsk, Who: who, A: k}); x.E != want {
		t.Errorf("P30.4: %v by %d: %d, not %d", k, who, x.E, want)
	}
}

func node(x int64) api.Ask { return api.Ask{Kind: api.EvNode, Amount: x} }
func take(x int64, req uint64) api.Ask {
	return api.Ask{Kind: api.EvTake, Node: a, Amount: x, Req: req}
}

func TestExample(t *testing.T) {
	w := fresh(t, 3)
	ask(t, w, 1, node(9), api.OK)
	if got := drill.Run(w, 3, []drill.Event{{Kind: drill.Split, A: 1}}); got != 2 {
		t.Errorf("P30.2: Run: %d", got)
	}
	ask(t, w, 1, take(5, 1), api.OK)
}

func TestRun(t *testing.T) {
	w := fresh(t, 3)
	if got := drill.Run(nil, 3, []drill.Event{{Kind: drill.Turn}}); got != 0 {
		t.Errorf("P30.2: Run of no world: %d", got)
	}
	for _, c := range []struct {
		n    int
		l    []drill.Event
		want int
		way  int
	}{
		{3, nil, 0, 0},
		{0, []drill.Event{{Kind: drill.Turn}, {Kind: drill.Heal}}, 0, 0},
		{3, []drill.Event{{Kind: drill.Turn}}, 3, 6},
		{3, []drill.Event{{Kind: drill.Twice}, {Kind: drill.Twice}}, 6 + 12, 24},
		{3, []drill.Event{{Kind: 77}, {Kind: drill.Lose}}, 24, 0},
		{2, []drill.Event{{Kind: drill.Turn}, {Kind: drill.Lose}, {Kind: drill.Turn}}, 2 + 4 + 2, 4},
		{3, []drill.Event{{Kind: drill.Lose}, {Kind: drill.Split, A: 1}, {Kind: drill.Turn}}, 4 + 2 + 3, 2},
		{3, []drill.Event{{Kind: drill.Heal}, {Kind: drill.Down, A: 1}, {Kind: drill.Turn}}, 1 + 1 + 3, 6},
		{3, []drill.Event{{Kind: drill.Up, A: 1}, {Kind: drill.Turn}}, 1 + 3, 12},
	} {
		if got := drill.Run(w, c.n, c.l); got != c.want || w.Cluster().Way() != c.way {
			t.Errorf("P30.2: Run of %v: %d, %d are under way; not %d, %d", c.l, got, w.Cluster().Way(), c.want, c.way)
		}
	}
	if got := drill.Run(w, 3, []drill.Event{{Kind: drill.Wait, N: 7}, {Kind: drill.Wait, N: -1}, {Kind: drill.Burn, A: 0, N: 0}}); got != 3 || w.Cluster().Now() != 7 {
		t.Errorf("P30.2: %d, %d", got, w.Cluster().Now())
	}
	ask(t, w, 1, node(9), api.ErrPower)
}

// calm wants a Calm to be so.
func calm(t *testing.T, w *world.World, n int, off []int, most, want int, e api.Errno) {
	t.Helper()
	if got, e2 := drill.Calm(w, n, off, most); got != want || e2 != e {
		t.Errorf("P30.3: Calm of %d, %v, %d: %d, %d; not %d, %d", n, off, most, got, e2, want, e)
	}
}

func TestCalmErrors(t *testing.T) {
	calm(t, nil, 0, []int{9}, 0, 0, api.ErrNil)
	w := fresh(t, 3)
	drill.Run(w, 3, []drill.Event{{Kind: drill.Turn}, {Kind: drill.Split, A: 1}, {Kind: drill.Down, A: 2}})
	for _, c := range []struct {
		n    int
		off  []int
		most int
	}{{3, nil, 0}, {3, nil, -1}, {0, nil, 5}, {7, nil, 5}, {-1, nil, 5}, {3, []int{0}, 5}, {3, []int{4}, 5}, {3, []int{1, 1}, 5}, {3, []int{1, 2, 1}, 5}, {3, []int{-1}, 5}, {2, []int{1, 3}, 5}, {6, []int{7}, 5}} {
		calm(t, w, c.n, c.off, c.most, 0, api.ErrArg)
	}
	if _, up := w.Cluster().State(3); up || w.Cluster().Way() != 6 {
		t.Error("P30.3: an error turned the world")
	}
	w.Do(api.Step{Do: api.StTick, Who: 1})
	if w.Cluster().Way() != 6 {
		t.Error("P30.3: an error healed the world")
	}
}

func TestCalm(t *testing.T) {
	w := fresh(t, 3)
	calm(t, w, 3, nil, 1, 1, api.OK)
	ask(t, w, 1, node(9), api.OK)
	drill.Run(w, 3, []drill.Event{{Kind: drill.Split, A: 1}, {Kind: drill.Down, A: 1}, {Kind: drill.Burn, A: 2, N: 0}})
	calm(t, w, 3, nil, 9, 1, api.OK)
	for i := 1; i <= 3; i++ {
		if q, e := w.Quota(i, a); q.Limit != 9 || e != api.OK {
			t.Errorf("P30.3: the region %d: %v, %d", i, q, e)
		}
	}
	for k := range int64(40) {
		ask(t, w, 3, api.Ask{Kind: api.EvRaise, Node: a, Amount: k + 1}, api.OK)
	}
	calm(t, w, 3, nil, 2, 0, api.ErrNone)
	calm(t, w, 3, nil, 2, 1, api.OK)
	ask(t, w, 2, api.Ask{Kind: api.EvRaise, Node: a, Amount: 1}, api.OK)
	calm(t, w, 3, []int{2}, 5, 1, api.OK)
	for i, up := range []bool{true, false, true} {
		if _, got := w.Cluster().State(i + 1); got != up {
			t.Errorf("P30.3: the region %d: %v", i+1, got)
		}
	}
	calm(t, w, 3, []int{1, 2, 3}, 5, 1, api.OK)
	calm(t, w, 3, []int{3, 1}, 5, 1, api.OK)
	calm(t, w, 4, nil, 5, 0, api.ErrNone)
	calm(t, w, 4, []int{4}, 5, 1, api.OK)
	if w.Cluster().Way() != 0 {
		t.Error("P30.3: something is under way")
	}
	if _, up := w.Cluster().State(4); up {
		t.Error("P30.3: a region that is off is up")
	}
}

func TestCalmHearsWhatIsUnderWay(t *testing.T) {
	w := fresh(t, 3)
	ask(t, w, 1, node(9), api.OK)
	w.Do(api.Step{Do: api.StTick, Who: 1})
	calm(t, w, 3, []int{1}, 5, 1, api.OK)
	for i := 2; i <= 3; i++ {
		if q, e := w.Quota(i, a); q.Limit != 9 || e != api.OK {
			t.Errorf("P30.3: the region %d: %v, %d", i, q, e)
		}
	}
}

func TestCalmOpensADeadRegionAnew(t *testing.T) {
	w := fresh(t, 1)
	ask(t, w, 1, node(1<<40), api.OK)
	x := api.Answer{}
	for req := uint64(1); x.E == api.OK; req++ {
		x = w.Do(api.Step{Do: api.StAsk, Who: 1, A: take(1, req)})
	}
	if _, up := w.Cluster().State(1); up || x.E != api.ErrFull {
		t.Fatalf("a region whose disk is full: %v, %d", up, x.E)
	}
	calm(t, w, 1, nil, 1, 1, api.OK)
	if _, up := w.Cluster().State(1); !up {
		t.Error("P30.3: it is not up")
	}
}

func TestCalmHearsFirst(t *testing.T) {
	w := fresh(t, 2)
	for range 5 {
		ask(t, w, 2, node(9), api.OK)
	}
	for k := range int64(25) {
		ask(t, w, 2, api.Ask{Kind: api.EvRaise, Node: 2<<40 + 1, Amount: k + 1}, api.OK)
	}
	w.Do(api.Step{Do: api.StTick, Who: 2})
	// Heard ahead of all, these 16 events are known to 1 when it tells 2; so 2 tells the others in the same round.
	calm(t, w, 2, nil, 5, 1, api.OK)
}

// roll is a row of numbers that is the same each time.
func roll(seed *uint32, n int) int {
	*seed = *seed*1664525 + 1013904223
	return int(*seed>>8) % n
}

// agree wants regions to have the same state.
func agree(t *testing.T, w *world.World, l []int) {
	t.Helper()
	first, _ := w.Cluster().State(l[0])
	for _, i := range l {
		if s, up := w.Cluster().State(i); !up || !sameState(s, first) {
			t.Fatalf("P30.4: the region %d: %v, %v, not %v", i, up, s, first)
		}
	}
}

func TestAnyPlan(t *testing.T) {
	for seed := range uint32(40) {
		r := seed
		n := roll(&r, 5) + 2
		w := fresh(t, n)
		ask(t, w, 1, node(500), api.OK)
		for i := 2; i <= n; i++ {
			ask(t, w, 1, api.Ask{Kind: api.EvMove, Node: a, Amount: 60, To: i}, api.OK)
		}
		drill.Calm(w, n, nil, 20)
		for k := range 60 {
			e := drill.Event{Kind: uint8(roll(&r, 10)), A: uint8(roll(&r, 256)), N: roll(&r, 12) - 1}
			drill.Run(w, n, []drill.Event{e})
			i, x := roll(&r, n)+1, int64(roll(&r, 5)+1)
			q, err := w.Quota(i, a)
			got := w.Do(api.Step{Do: api.StAsk, Who: i, A: take(x, uint64(k+1))}).E
			if err == api.OK && q.Local[i-1] >= x && got != api.OK && got != api.ErrPower {
				t.Fatalf("P30.4: the region %d has %d, and takes %d: %d", i, q.Local[i-1], x, got)
			}
			if roll(&r, 3) == 0 {
				for range 4 {
					w.Do(api.Step{Do: api.StDeliver})
				}
			}
			if !w.Bound() || !w.Agree() {
				t.Fatal("P30.4: not Bound, or they do not Agree")
			}
		}
		var off, there []int
		all := []int{}
		for i := 1; i <= n; i++ {
			all = append(all, i)
			if i > 1 && roll(&r, 2) == 0 || len(there) == 0 && i == n {
				there = append(there, i)
			} else {
				off = append(off, i)
			}
		}
		if k, e := drill.Calm(w, n, off, 100); k < 1 || e != api.OK {
			t.Fatalf("P30.4: Calm without %v: %d, %d", off, k, e)
		}
		agree(t, w, there)
		for _, i := range there {
			q, _ := w.Quota(i, a)
			if x := q.Local[i-1]; x > 0 {
				ask(t, w, i, take(x, 999), api.OK)
			}
		}
		if k, e := drill.Calm(w, n, nil, 100); k < 1 || e != api.OK {
			t.Fatalf("P30.4: Calm of all: %d, %d", k, e)
		}
		agree(t, w, all)
		if !w.Bound() || !w.Agree() {
			t.Fatal("P30.4: behind Calm")
		}
	}
}
