package ledger_test

import (
	"slices"
	"testing"

	"leat/api"
	"leat/event"
	"leat/ledger"
	"leat/rights"
	"leat/tree"
)

// next is the event of a region that comes next in a ledger, with the fields of an ask.
func next(l *ledger.Ledger, i int, a api.Ask) api.Event {
	v := l.Known()
	e := api.Event{Origin: i, Deps: v, Kind: a.Kind, Node: a.Node, To: a.To, Amount: a.Amount, Req: a.Req, Of: a.Of}
	if i >= 1 && i <= api.MaxRegions {
		e.Seq = v[i-1] + 1
	}
	return e
}

func node(below uint64, x int64) api.Ask { return api.Ask{Kind: api.EvNode, Node: below, Amount: x} }
func raise(n uint64, x int64) api.Ask    { return api.Ask{Kind: api.EvRaise, Node: n, Amount: x} }
func take(n uint64, x int64, req uint64) api.Ask {
	return api.Ask{Kind: api.EvTake, Node: n, Amount: x, Req: req}
}
func free(of, req uint64) api.Ask { return api.Ask{Kind: api.EvFree, Req: req, Of: of} }
func move(n uint64, x int64, to int) api.Ask {
	return api.Ask{Kind: api.EvMove, Node: n, Amount: x, To: to}
}
func join(to int) api.Ask { return api.Ask{Kind: api.EvJoin, To: to} }
func leave() api.Ask      { return api.Ask{Kind: api.EvLeave} }

func grant(origin int, req, n uint64, x int64, by uint64) api.Grant {
	return api.Grant{Origin: origin, Req: req, Node: n, Amount: x, By: by}
}

// same tells whether two states are the same.
func same(a, b api.State) bool {
	return a.In == b.In && a.Left == b.Left && a.Known == b.Known && slices.Equal(a.Nodes, b.Nodes) && slices.Equal(a.Grants, b.Grants)
}

// do holds what Check and Apply answer against an error, and that an error turns nothing.
func do(t *testing.T, l *ledger.Ledger, i int, a api.Ask, want api.Errno) {
	t.Helper()
	was := l.State()
	e := next(l, i, a)
	if got := l.Check(e); got != want {
		t.Errorf("P11.2: Check of %v by %d: %d, not %d", a, i, got, want)
	}
	if !same(was, l.State()) {
		t.Errorf("P11.2: Check of %v turned the ledger", a)
	}
	if got := l.Apply(e); got != want {
		t.Errorf("P11.2: Apply of %v by %d: %d, not %d", a, i, got, want)
	}
	if want != api.OK && !same(was, l.State()) {
		t.Errorf("P11.2: the error of %v turned the ledger", a)
	}
	if want == api.OK {
		was.Known[i-1]++
		if l.Known() != was.Known {
			t.Errorf("P11.2: known behind %v: %v", a, l.Known())
		}
		if got := l.Apply(e); got != api.ErrAgain {
			t.Errorf("P11.2: %v once more: %d", a, got)
		}
	}
}

func fresh(t *testing.T, n int) *ledger.Ledger {
	t.Helper()
	l, e := ledger.New(n)
	if e != api.OK || l == nil {
		t.Fatal("P11.1: New: ", e)
	}
	return l
}

func TestNew(t *testing.T) {
	for _, n := range []int{0, -1, 7, 1 << 40} {
		if l, e := ledger.New(n); l != nil || e != api.ErrArg {
			t.Errorf("P11.1: New of %d: %v, %d", n, l, e)
		}
	}
	for n := 1; n <= api.MaxRegions; n++ {
		var want api.State
		for i := range n {
			want.In[i] = true
		}
		l := fresh(t, n)
		if !same(l.State(), want) || l.Known() != want.Known || l.Local(1, 5) != 0 || len(l.Path(5)) != 0 {
			t.Errorf("P11.1: New of %d: %v", n, l.State())
		}
	}
	var none *ledger.Ledger
	e := next(fresh(t, 1), 1, node(0, 1))
	if none.Apply(e) != api.ErrNil || none.Check(api.Event{}) != api.ErrNil || !same(none.State(), api.State{}) || none.Known() != (api.Vector{}) || none.Local(1, 1) != 0 || len(none.Path(1)) != 0 {
		t.Error("P11.1: of no ledger")
	}
}

func TestExample(t *testing.T) {
	l := fresh(t, 2)
	n := uint64(1<<40 + 1)
	do(t, l, 1, node(0, 10), api.OK)
	do(t, l, 2, take(n, 4, 1), api.ErrRights)
	do(t, l, 1, move(n, 4, 2), api.OK)
	do(t, l, 2, take(n, 4, 1), api.OK)
	want := api.State{Known: api.Vector{2, 1}, In: [api.MaxRegions]bool{true, true}}
	r := api.Rights{}
	r.G[0], r.R[0][1], r.C[1] = 10, 4, 4
	want.Nodes = []api.Node{{Id: n, R: r}}
	want.Grants = []api.Grant{{Origin: 2, Req: 1, Node: n, Amount: 4}}
	if !same(l.State(), want) {
		t.Errorf("P11.2: %v", l.State())
	}
	if l.Local(1, n) != 6 || l.Local(2, n) != 0 || l.Local(7, n) != 0 || l.Local(1, 9) != 0 || !slices.Equal(l.Path(n), []uint64{n}) {
		t.Error("P11.1: Local, Path")
	}
}

func TestTimes(t *testing.T) {
	l := fresh(t, 2)
	n := uint64(1<<40 + 1)
	ok := next(l, 1, node(0, 10))
	for i, c := range []struct {
		turn func(e *api.Event)
		want api.Errno
	}{
		{func(e *api.Event) { e.Amount = -1 }, api.ErrArg},
		{func(e *api.Event) { e.Kind = 9 }, api.ErrArg},
		{func(e *api.Event) { e.Origin = 7 }, api.ErrArg},
		{func(e *api.Event) { e.Origin = 0 }, api.ErrArg},
		{func(e *api.Event) { e.Seq, e.Deps[0] = 2, 1 }, api.ErrOrder},
		{func(e *api.Event) { e.Deps[1] = 1 }, api.ErrOrder},
		{func(e *api.Event) { e.Origin, e.Deps[1] = 3, 1 }, api.ErrOrder},
		{func(e *api.Event) { e.Origin = 3 }, api.ErrRegion},
		{func(e *api.Event) { e.Origin, e.Node = 3, 99 }, api.ErrRegion},
	} {
		e := ok
		c.turn(&e)
		if got, got2 := l.Check(e), l.Apply(e); got != c.want || got2 != c.want {
			t.Errorf("P11.2: %d: %d, %d, not %d", i, got, got2, c.want)
		}
	}
	do(t, l, 1, node(0, 10), api.OK)
	late := ok
	late.Amount, late.Node = 11, 99
	if got := l.Check(late); got != api.ErrAgain {
		t.Error("P11.2: a late one: ", got)
	}
	late.Amount = -1
	if got := l.Check(late); got != api.ErrArg {
		t.Error("P11.2: a late one that may not be: ", got)
	}
	do(t, l, 2, leave(), api.OK)
	do(t, l, 2, raise(n, 1), api.ErrRegion)
	do(t, l, 2, leave(), api.ErrRegion)
	do(t, l, 2, take(99, 1, 1), api.ErrRegion)
	old := api.Event{Origin: 2, Seq: 1, Kind: api.EvLeave}
	if got := l.Check(old); got != api.ErrAgain {
		t.Error("P11.2: late, of a region that left: ", got)
	}
	far := api.Event{Origin: 2, Seq: 3, Deps: api.Vector{0, 2}, Kind: api.EvLeave}
	if got := l.Check(far); got != api.ErrOrder {
		t.Error("P11.2: ahead of its time, of a region that left: ", got)
	}
}

func TestNodes(t *testing.T) {
	l := fresh(t, 2)
	a := uint64(1<<40 + 1)
	do(t, l, 1, node(9, 10), api.ErrNode)
	do(t, l, 1, node(a, 10), api.ErrNode)
	do(t, l, 1, node(0, api.MaxGive+1), api.ErrMany)
	do(t, l, 1, node(9, api.MaxGive+1), api.ErrMany)
	do(t, l, 1, node(0, api.MaxGive), api.OK)
	do(t, l, 1, node(a, 0), api.OK)
	do(t, l, 1, node(a+1, 3), api.OK)
	do(t, l, 1, node(a+2, 3), api.OK)
	do(t, l, 1, node(a+3, 3), api.ErrMany)
	do(t, l, 2, node(a+3, 3), api.ErrMany)
	do(t, l, 1, node(a+2, 7), api.OK)
	do(t, l, 1, node(0, 1), api.ErrMany)
	do(t, l, 1, node(99, 1), api.ErrMany)
	do(t, l, 2, node(a+4, 1), api.ErrMany)
	do(t, l, 2, node(a+2, 8), api.OK)
	b := uint64(2<<40 + 1)
	if p := l.Path(b); !slices.Equal(p, []uint64{b, a + 2, a + 1, a}) {
		t.Errorf("P11.1: Path: %v", p)
	}
	s := l.State()
	want := []api.Node{{Id: a}, {Id: a + 1, Parent: a}, {Id: a + 2, Parent: a + 1}, {Id: a + 3, Parent: a + 2}, {Id: a + 4, Parent: a + 2}, {Id: b, Parent: a + 2}}
	for k, x := range []int64{api.MaxGive, 0, 3, 3, 7} {
		want[k].R.G[0] = x
	}
	want[5].R.G[1] = 8
	if !slices.Equal(s.Nodes, want) || s.Known != (api.Vector{5, 1}) {
		t.Errorf("P11.1: %v", s)
	}
}

func TestRaise(t *testing.T) {
	l := fresh(t, 2)
	a := uint64(1<<40 + 1)
	do(t, l, 1, raise(a, 1), api.ErrNode)
	do(t, l, 1, raise(0, api.MaxAmount), api.ErrNode)
	do(t, l, 1, node(0, 10), api.OK)
	do(t, l, 2, raise(a, api.MaxGive+1), api.ErrMany)
	do(t, l, 2, raise(a, api.MaxAmount), api.ErrMany)
	do(t, l, 2, raise(a, api.MaxGive), api.OK)
	do(t, l, 2, raise(a, 1), api.ErrMany)
	do(t, l, 1, raise(a, api.MaxGive-9), api.ErrMany)
	do(t, l, 1, raise(a, api.MaxGive-10), api.OK)
	if g := l.State().Nodes[0].R.G; g != [api.MaxRegions]int64{api.MaxGive, api.MaxGive} {
		t.Errorf("P11.2: %v", g)
	}
	for i := 3; i <= api.MaxRegions; i++ {
		do(t, l, i, raise(a, 1), api.ErrRegion)
		do(t, l, 1, join(i), api.OK)
		do(t, l, i, raise(a, api.MaxGive), api.OK)
	}
}

func TestTakeAndFree(t *testing.T) {
	l := fresh(t, 2)
	a, b := uint64(1<<40+1), uint64(2<<40+1)
	do(t, l, 1, take(a, 1, 5), api.ErrNode)
	do(t, l, 1, free(5, 6), api.ErrGrant)
	do(t, l, 1, node(0, 10), api.OK)
	do(t, l, 2, node(a, 20), api.OK)
	do(t, l, 1, take(b, 1, 5), api.ErrRights)
	do(t, l, 2, take(b, 1, 5), api.ErrRights)
	do(t, l, 2, move(b, 12, 1), api.OK)
	do(t, l, 1, take(b, 11, 5), api.ErrRights)
	do(t, l, 1, take(b, 4, 5), api.OK)
	do(t, l, 1, take(b, 4, 5), api.ErrAgain)
	do(t, l, 1, take(99, 4, 5), api.ErrAgain)
	do(t, l, 1, take(a, 5, 2), api.OK)
	do(t, l, 1, take(a, 2, 7), api.ErrRights)
	do(t, l, 2, free(5, 6), api.ErrGrant)
	do(t, l, 1, free(99, 6), api.ErrGrant)
	do(t, l, 1, free(2, 5), api.ErrAgain)
	do(t, l, 1, free(99, 5), api.ErrAgain)
	do(t, l, 1, free(5, 6), api.OK)
	do(t, l, 1, free(5, 9), api.ErrGrant)
	do(t, l, 1, free(5, 6), api.ErrAgain)
	do(t, l, 1, take(b, 1, 6), api.ErrAgain)
	do(t, l, 1, free(6, 9), api.ErrGrant)
	do(t, l, 2, move(b, 8, 1), api.OK)
	do(t, l, 1, take(b, 5, 1<<64-1), api.OK)
	do(t, l, 1, move(a, 0, 2), api.ErrArg)
	s := l.State()
	ra, rb := api.Rights{}, api.Rights{}
	ra.G[0], ra.C[0], ra.F[0] = 10, 14, 4
	rb.G[1], rb.R[1][0], rb.C[0], rb.F[0] = 20, 20, 9, 4
	if want := []api.Node{{Id: a, R: ra}, {Id: b, Parent: a, R: rb}}; !slices.Equal(s.Nodes, want) {
		t.Errorf("P11.2: %v", s.Nodes)
	}
	if want := []api.Grant{grant(1, 2, a, 5, 0), grant(1, 5, b, 4, 6), grant(1, 1<<64-1, b, 5, 0)}; !slices.Equal(s.Grants, want) {
		t.Errorf("P11.1: %v", s.Grants)
	}
	if l.Local(1, a) != 0 || l.Local(1, b) != 15 || l.Local(2, b) != 0 {
		t.Error("P11.1: Local")
	}
}

func TestTakesOfOthersAreApart(t *testing.T) {
	l := fresh(t, 3)
	a := uint64(3<<40 + 1)
	do(t, l, 3, node(0, 30), api.OK)
	do(t, l, 3, move(a, 10, 1), api.OK)
	do(t, l, 3, move(a, 10, 2), api.OK)
	for i := 3; i >= 1; i-- {
		do(t, l, i, take(a, int64(i), 9), api.OK)
		do(t, l, i, take(a, int64(i)+1, 3), api.OK)
	}
	do(t, l, 2, free(9, 4), api.OK)
	want := []api.Grant{grant(1, 3, a, 2, 0), grant(1, 9, a, 1, 0), grant(2, 3, a, 3, 0), grant(2, 9, a, 2, 4), grant(3, 3, a, 4, 0), grant(3, 9, a, 3, 0)}
	if got := l.State().Grants; !slices.Equal(got, want) {
		t.Errorf("P11.1: %v", got)
	}
}

func TestTakeAtAllOrNone(t *testing.T) {
	l := fresh(t, 1)
	a := uint64(1<<40 + 1)
	do(t, l, 1, node(0, 5), api.OK)
	do(t, l, 1, node(a, 9), api.OK)
	do(t, l, 1, node(a+1, 9), api.OK)
	do(t, l, 1, take(a+2, 6, 1), api.ErrRights)
	do(t, l, 1, take(a+2, 5, 1), api.OK)
	for k, want := range []int64{0, 4, 4} {
		if got := l.Local(1, a+uint64(k)); got != want {
			t.Errorf("P11.2: rights at the node %d: %d", k, got)
		}
	}
}

func TestTakeOfTooMuchInAll(t *testing.T) {
	l := fresh(t, 1)
	a := uint64(1<<40 + 1)
	do(t, l, 1, node(0, api.MaxGive), api.OK)
	for k := range uint64(8) {
		do(t, l, 1, take(a, api.MaxGive, 2*k+1), api.OK)
		do(t, l, 1, free(2*k+1, 2*k+2), api.OK)
	}
	do(t, l, 1, take(a, 1, 99), api.ErrMany)
	do(t, l, 1, take(a, api.MaxAmount, 99), api.ErrRights)
}

func TestMove(t *testing.T) {
	l := fresh(t, 2)
	a := uint64(1<<40 + 1)
	do(t, l, 1, move(a, 1, 3), api.ErrNode)
	do(t, l, 1, node(0, 10), api.OK)
	do(t, l, 1, move(a, 11, 3), api.ErrRegion)
	do(t, l, 1, move(a, 11, 2), api.ErrRights)
	do(t, l, 1, move(a, 10, 2), api.OK)
	do(t, l, 1, move(a, 1, 2), api.ErrRights)
	do(t, l, 2, join(3), api.OK)
	do(t, l, 2, join(3), api.OK)
	do(t, l, 2, move(a, 3, 3), api.OK)
	do(t, l, 3, leave(), api.OK)
	do(t, l, 2, move(a, 3, 3), api.OK)
	do(t, l, 2, join(3), api.OK)
	do(t, l, 3, move(a, 3, 2), api.ErrRegion)
	s := l.State()
	if s.In != [api.MaxRegions]bool{true, true, true} || s.Left != [api.MaxRegions]bool{false, false, true} {
		t.Errorf("P11.2: %v, %v", s.In, s.Left)
	}
	if l.Local(2, a) != 4 || l.Local(3, a) != 6 {
		t.Error("P11.2: Local")
	}
}

func TestStateIsNewMemory(t *testing.T) {
	l := fresh(t, 1)
	do(t, l, 1, node(0, 10), api.OK)
	do(t, l, 1, take(1<<40+1, 1, 1), api.OK)
	s := l.State()
	s.Nodes[0].Id, s.Grants[0].Req = 9, 9
	_ = append(s.Grants[:0], api.Grant{}, api.Grant{})
	l.Path(1<<40 + 1)[0] = 9
	if s := l.State(); s.Nodes[0].Id != 1<<40+1 || s.Grants[0].Req != 1 || l.Path(1<<40 + 1)[0] != 1<<40+1 {
		t.Errorf("R3: %v", s)
	}
}

// roll is a row of numbers that is the same each time.
func roll(seed *uint32, n int) int {
	*seed = *seed*1664525 + 1013904223
	return int(*seed>>8) % n
}

// some makes an ask by what a ledger knows.
func some(seed *uint32, l *ledger.Ledger) api.Ask {
	s := l.State()
	n := uint64(0)
	if len(s.Nodes) > 0 {
		n = s.Nodes[roll(seed, len(s.Nodes))].Id
	}
	x := int64(roll(seed, 9) + 1)
	req := uint64(roll(seed, 40) + 1)
	switch roll(seed, 16) {
	case 0:
		if roll(seed, 3) == 0 {
			n = 0
		}
		return node(n, 3*x)
	case 1:
		return raise(n, x)
	case 2, 3, 4, 5, 6:
		return take(n, x, req)
	case 7, 8, 9:
		return free(uint64(roll(seed, 40)+1), req)
	case 10:
		return join(roll(seed, 6) + 1)
	case 11:
		if roll(seed, 20) == 0 {
			return leave()
		}
	}
	return move(n, x, roll(seed, 6)+1)
}

// held checks at each node that what is used is within the limit, and is the sum of all grants at it and below it.
func held(t *testing.T, l *ledger.Ledger) {
	t.Helper()
	s := l.State()
	used := map[uint64]int64{}
	for _, g := range s.Grants {
		if g.By == 0 {
			for _, n := range l.Path(g.Node) {
				used[n] += g.Amount
			}
		}
	}
	for _, n := range s.Nodes {
		limit, u := rights.Sums(n.R)
		if !rights.May(n.R) || u > limit || u != used[n.Id] {
			t.Fatalf("P11.4: at %d: %d used, by grants %d, the limit %d", n.Id, u, used[n.Id], limit)
		}
	}
}

// history makes events by several ledgers that hear of each other now and then.
func history(t *testing.T, seed uint32, steps int) []api.Event {
	var ls []*ledger.Ledger
	for range api.MaxRegions {
		ls = append(ls, fresh(t, 3))
	}
	var all []api.Event
	for range steps {
		i := roll(&seed, api.MaxRegions)
		if roll(&seed, 3) == 0 {
			for _, e := range all {
				if roll(&seed, 30) == 0 {
					break
				}
				ls[i].Apply(e)
			}
		}
		if e := next(ls[i], i+1, some(&seed, ls[i])); ls[i].Apply(e) == api.OK {
			all = append(all, e)
			held(t, ls[i])
		}
	}
	return all
}

func TestAnyOrder(t *testing.T) {
	kinds := map[uint8]int{}
	for seed := range uint32(25) {
		all := history(t, seed, 400)
		want := fresh(t, 3)
		for _, e := range all {
			kinds[e.Kind]++
			if !event.May(e) {
				t.Fatal("P11.2: what was taken may not be: ", e)
			}
			if err := want.Apply(e); err != api.OK {
				t.Fatalf("P11.3: %v: %d", e, err)
			}
			held(t, want)
		}
		for range 4 {
			l := fresh(t, 3)
			rest := slices.Clone(all)
			for len(rest) > 0 {
				k := roll(&seed, len(rest))
				switch err := l.Apply(rest[k]); err {
				case api.OK:
					rest = slices.Delete(rest, k, k+1)
				case api.ErrOrder:
				default:
					t.Fatalf("P11.3: %v: %d", rest[k], err)
				}
			}
			if !same(l.State(), want.State()) {
				t.Fatalf("P11.3: %v, not %v", l.State(), want.State())
			}
		}
	}
	for k := api.EvNode; k <= api.EvLeave; k++ {
		if kinds[k] == 0 {
			t.Error("no event of the kind ", k)
		}
	}
}

func TestManyNodes(t *testing.T) {
	l := fresh(t, api.MaxRegions)
	for i := 1; i <= api.MaxRegions; i++ {
		for range api.MaxOwn {
			do(t, l, i, node(0, 1), api.OK)
		}
		do(t, l, i, node(0, 1), api.ErrMany)
	}
	s := l.State()
	if len(s.Nodes) != api.MaxOwn*api.MaxRegions || s.Nodes[7].Id != tree.Id(2, 3) {
		t.Errorf("P11.2: %d nodes", len(s.Nodes))
	}
}
