package replica_test

import (
	"slices"
	"testing"

	"leat/api"
	"leat/message"
	"leat/replica"
	"leat/rights"
)

const a = uint64(1<<40 + 1)

// same tells whether two states are the same.
func same(a, b api.State) bool {
	return a.In == b.In && a.Left == b.Left && a.Known == b.Known && slices.Equal(a.Nodes, b.Nodes) && slices.Equal(a.Grants, b.Grants)
}

// sameMessages tells whether two lists of messages are the same.
func sameMessages(a, b []api.Message) bool {
	return slices.EqualFunc(a, b, func(a, b api.Message) bool {
		return a.Kind == b.Kind && a.From == b.From && a.To == b.To && a.Known == b.Known && a.Node == b.Node && a.Amount == b.Amount && slices.Equal(a.Events, b.Events)
	})
}

func node(below uint64, x int64) api.Ask { return api.Ask{Kind: api.EvNode, Node: below, Amount: x} }
func take(n uint64, x int64, req uint64) api.Ask {
	return api.Ask{Kind: api.EvTake, Node: n, Amount: x, Req: req}
}
func move(n uint64, x int64, to int) api.Ask {
	return api.Ask{Kind: api.EvMove, Node: n, Amount: x, To: to}
}

// fresh are all regions of a world of n.
func fresh(t *testing.T, n int) []*replica.Replica {
	t.Helper()
	l := []*replica.Replica{nil}
	for i := 1; i <= api.MaxRegions; i++ {
		r, e := replica.New(n, i)
		if e != api.OK || r == nil {
			t.Fatalf("P21.1: New of %d, %d: %d", n, i, e)
		}
		l = append(l, r)
	}
	return l
}

// do does what is asked, and wants it to go.
func do(t *testing.T, r *replica.Replica, k api.Ask) api.Event {
	t.Helper()
	e, err := r.Do(k, 0)
	if err != api.OK {
		t.Fatalf("P21.3: Do of %v: %d", k, err)
	}
	return e
}

// tell lets all hear what one tells.
func tell(t *testing.T, l []*replica.Replica, i int, now uint64) {
	t.Helper()
	for _, m := range l[i].Tick(now) {
		if !message.May(m) || m.From != i {
			t.Fatalf("P21.7: %v", m)
		}
		if _, e := l[m.To].Hear(m, now); e != api.OK {
			t.Fatalf("P21.4: %v: %d", m, e)
		}
	}
}

func TestNew(t *testing.T) {
	for _, c := range []struct {
		n, i int
		e    api.Errno
	}{{0, 1, api.ErrArg}, {7, 1, api.ErrArg}, {-1, 1, api.ErrArg}, {2, 0, api.ErrArg}, {2, 7, api.ErrArg}, {2, -1, api.ErrArg}, {0, 0, api.ErrArg}, {1, 6, api.OK}, {6, 1, api.OK}} {
		r, e := replica.New(c.n, c.i)
		if e != c.e || (r != nil) != (e == api.OK) {
			t.Errorf("P21.1: New of %d, %d: %v, %d", c.n, c.i, r, e)
		}
	}
	r := fresh(t, 3)[2]
	want := api.State{In: [api.MaxRegions]bool{true, true, true}}
	if !same(r.State(), want) || len(r.Wants()) != 0 || r.Waiting() != 0 {
		t.Error("P21.1: a new one")
	}
	var none *replica.Replica
	made, e := none.Do(node(0, 1), 0)
	news, e2 := none.Hear(api.Message{}, 0)
	if e3 := none.Replay(nil); e != api.ErrNil || e2 != api.ErrNil || e3 != api.ErrNil || made != (api.Event{}) || len(news) != 0 {
		t.Error("P21.1: of no replica: ", e, e2, e3)
	}
	if len(none.Tick(0)) != 0 || !same(none.State(), api.State{}) || len(none.Wants()) != 0 || none.Waiting() != 0 {
		t.Error("P21.1: of no replica")
	}
}

func TestExample(t *testing.T) {
	r := fresh(t, 2)[1]
	e := do(t, r, node(0, 10))
	if e != (api.Event{Origin: 1, Seq: 1, Kind: api.EvNode, Amount: 10}) {
		t.Errorf("P21.3: %v", e)
	}
	want := []api.Message{{Kind: api.MsgSync, From: 1, To: 2, Known: api.Vector{1}, Events: []api.Event{e}}}
	if got := r.Tick(0); !sameMessages(got, want) {
		t.Errorf("P21.5: %v", got)
	}
}

func TestReplay(t *testing.T) {
	l := fresh(t, 2)
	var all []api.Event
	for _, k := range []api.Ask{node(0, 10), take(a, 3, 5), move(a, 2, 2), {Kind: api.EvFree, Of: 5, Req: 6}} {
		all = append(all, do(t, l[1], k))
	}
	r := l[2]
	if e := r.Replay(nil); e != api.OK {
		t.Error("P21.2: ", e)
	}
	if e := r.Replay(all[:2]); e != api.OK || r.State().Known != (api.Vector{2}) {
		t.Error("P21.2: ", e)
	}
	if e := r.Replay([]api.Event{all[2], all[1], all[3]}); e != api.ErrAgain || r.State().Known != (api.Vector{3}) {
		t.Errorf("P21.2: %d, %v", e, r.State().Known)
	}
	bad := all[3]
	bad.Of = 99
	for _, c := range []struct {
		e    api.Event
		want api.Errno
	}{{api.Event{}, api.ErrArg}, {bad, api.ErrGrant}, {all[3], api.OK}} {
		if e := r.Replay([]api.Event{c.e}); e != c.want {
			t.Errorf("P21.2: Replay of %v: %d", c.e, e)
		}
	}
	if !same(r.State(), l[1].State()) {
		t.Errorf("P21.6: %v", r.State())
	}
	want := []api.Message{{Kind: api.MsgSync, From: 2, To: 1, Known: api.Vector{4}, Events: all}}
	if got := r.Tick(0); !sameMessages(got, want) {
		t.Errorf("P21.2: what is replayed is told: %v", got)
	}
}

func TestDo(t *testing.T) {
	l := fresh(t, 2)
	do(t, l[1], node(0, 10))
	tell(t, l, 1, 0)
	for n, c := range []struct {
		i     int
		k     api.Ask
		now   uint64
		made  bool
		e     api.Errno
		wants []api.Want
	}{
		{2, take(a, 4, 1), 7, false, api.ErrRights, []api.Want{{Node: a, Amount: 4}}},
		{2, take(a, 3, 1), 7, false, api.ErrRights, []api.Want{{Node: a, Amount: 4}}},
		{2, take(a, 6, 2), 1 << 63, false, api.ErrRights, []api.Want{{Node: a, Amount: 4}}},
		{2, take(a, 6, 2), 9, false, api.ErrRights, []api.Want{{Node: a, Amount: 6}}},
		{2, take(99, 6, 2), 9, false, api.ErrNode, []api.Want{{Node: a, Amount: 6}}},
		{2, take(a, 7, 0), 9, false, api.ErrArg, []api.Want{{Node: a, Amount: 6}}},
		{2, move(a, 8, 1), 9, false, api.ErrRights, []api.Want{{Node: a, Amount: 6}}},
		{2, node(a, 5), 9, true, api.OK, []api.Want{{Node: a, Amount: 6}}},
		{2, take(2<<40+1, 9, 3), 9, false, api.ErrRights, []api.Want{{Node: a, Amount: 6}, {Node: 2<<40 + 1, Amount: 9}}},
		{2, take(2<<40+1, 5, 3), 9, false, api.ErrRights, []api.Want{{Node: a, Amount: 6}, {Node: 2<<40 + 1, Amount: 9}}},
		{1, take(a, 10, 1), 9, true, api.OK, nil},
		{1, take(a, 10, 1), 9, false, api.OK, nil},
		{1, take(a, 11, 1), 9, false, api.ErrAgain, nil},
		{1, take(a, 1, 2), 9, false, api.ErrRights, []api.Want{{Node: a, Amount: 1}}},
		{3, node(0, 1), 9, false, api.ErrRegion, nil},
		{3, take(a, 1, 1), 9, false, api.ErrRegion, nil},
	} {
		was := l[c.i].State()
		made, e := l[c.i].Do(c.k, c.now)
		if e != c.e || (made != api.Event{}) != c.made || !slices.Equal(l[c.i].Wants(), c.wants) {
			t.Errorf("P21.3: %d: Do of %v: %v, %d; %v", n, c.k, made, e, l[c.i].Wants())
		}
		if !c.made && !same(was, l[c.i].State()) {
			t.Errorf("P21.3: %d: Do of %v turned the state", n, c.k)
		}
	}
}

func TestHearErrors(t *testing.T) {
	l := fresh(t, 2)
	e := do(t, l[1], node(0, 10))
	good := api.Message{Kind: api.MsgSync, From: 1, To: 2, Known: api.Vector{1}, Events: []api.Event{e}}
	for n, turn := range []func(m *api.Message){
		func(m *api.Message) { m.To = 3 }, func(m *api.Message) { m.To = 1 }, func(m *api.Message) { m.To = 0 }, func(m *api.Message) { m.From = 2 }, func(m *api.Message) { m.From = 7 },
		func(m *api.Message) { m.Kind = 3 }, func(m *api.Message) { m.Kind = api.MsgAsk }, func(m *api.Message) { m.Amount = 1 }, func(m *api.Message) { m.Known[2] = api.MaxSeq + 1 },
		func(m *api.Message) { m.Events = []api.Event{e, {}} },
	} {
		m := good
		turn(&m)
		if news, err := l[2].Hear(m, 0); len(news) != 0 || err != api.ErrArg || l[2].State().Known != (api.Vector{}) || l[2].Waiting() != 0 {
			t.Errorf("P21.4: %d: %v, %d", n, news, err)
		}
	}
	if got := l[2].Tick(0); len(got) != 1 || got[0].Known != (api.Vector{}) {
		t.Errorf("P21.4: %v", got)
	}
	if news, err := l[2].Hear(good, 0); !slices.Equal(news, []api.Event{e}) || err != api.OK {
		t.Errorf("P21.4: %v, %d", news, err)
	}
	if news, err := l[2].Hear(good, 0); len(news) != 0 || err != api.OK {
		t.Errorf("P21.4: again: %v, %d", news, err)
	}
}

func TestHearInAnyOrder(t *testing.T) {
	l := fresh(t, 2)
	var all []api.Event
	for range 5 {
		all = append(all, do(t, l[1], node(0, 10)))
	}
	hear := func(es ...api.Event) []api.Event {
		t.Helper()
		news, e := l[2].Hear(api.Message{Kind: api.MsgSync, From: 1, To: 2, Events: es}, 0)
		if e != api.OK {
			t.Error("P21.4: ", e)
		}
		return news
	}
	if news := hear(all[4], all[2]); len(news) != 0 || l[2].Waiting() != 2 {
		t.Errorf("P21.4: %v, %d wait", news, l[2].Waiting())
	}
	if news := hear(all[1]); len(news) != 0 || l[2].Waiting() != 3 {
		t.Errorf("P21.4: %v, %d wait", news, l[2].Waiting())
	}
	if news := hear(all[0]); !slices.Equal(news, all[:3]) || l[2].Waiting() != 1 {
		t.Errorf("P21.4: %v, %d wait", news, l[2].Waiting())
	}
	bad := all[3]
	bad.Node = 77
	if news := hear(bad); len(news) != 0 || l[2].Waiting() != 1 || l[2].State().Known != (api.Vector{3}) {
		t.Errorf("P21.4: what the ledger does not take: %v, %d wait", news, l[2].Waiting())
	}
	if news := hear(all[3]); !slices.Equal(news, all[3:]) || l[2].Waiting() != 0 {
		t.Errorf("P21.4: %v, %d wait", news, l[2].Waiting())
	}
	if !same(l[1].State(), l[2].State()) {
		t.Errorf("P21.6: %v", l[2].State())
	}
	got := l[2].Tick(0)
	if len(got) != 1 || !slices.Equal(got[0].Events, all) {
		t.Errorf("P21.4: what was heard is told: %v", got)
	}
}

func TestHoldIsFull(t *testing.T) {
	l := fresh(t, 2)
	for seq := uint64(2); seq < 2+api.MaxHold+5; seq++ {
		e := api.Event{Origin: 1, Seq: seq, Deps: api.Vector{seq - 1}, Kind: api.EvLeave}
		if _, err := l[2].Hear(api.Message{Kind: api.MsgSync, From: 1, To: 2, Events: []api.Event{e}}, 0); err != api.OK {
			t.Error("P21.4: ", err)
		}
	}
	if l[2].Waiting() != api.MaxHold {
		t.Error("P21.4: ", l[2].Waiting())
	}
}

func TestAsk(t *testing.T) {
	l := fresh(t, 3)
	do(t, l[1], node(0, 10))
	ask := func(x int64, n uint64, from int) []api.Event {
		t.Helper()
		news, e := l[1].Hear(api.Message{Kind: api.MsgAsk, From: from, To: 1, Node: n, Amount: x}, 0)
		if e != api.OK {
			t.Error("P21.4: ", e)
		}
		return news
	}
	given := func(news []api.Event, x int64, to int) {
		t.Helper()
		seq := l[1].State().Known[0]
		want := []api.Event{{Origin: 1, Seq: seq, Deps: api.Vector{seq - 1}, Kind: api.EvMove, Node: a, Amount: x, To: to}}
		if !slices.Equal(news, want) {
			t.Errorf("P21.4: %v, not %v", news, want)
		}
	}
	given(ask(3, a, 2), 3, 2)
	given(ask(100, a, 3), 4, 3)
	given(ask(100, a, 3), 2, 3)
	given(ask(100, a, 3), 1, 3)
	if news := ask(1, a, 2); len(news) != 0 {
		t.Errorf("P21.4: without rights: %v", news)
	}
	if news := ask(1, 99, 2); len(news) != 0 {
		t.Errorf("P21.4: of no node: %v", news)
	}
	do(t, l[1], api.Ask{Kind: api.EvRaise, Node: a, Amount: 50})
	if news := ask(1, a, 4); len(news) != 0 {
		t.Errorf("P21.4: to a region that is not in: %v", news)
	}
	r := l[1].State().Nodes[0].R
	if rights.Local(r, 1) != 50 || rights.Local(r, 2) != 3 || rights.Local(r, 3) != 7 {
		t.Errorf("P21.4: %v", r)
	}
	if got := l[1].Tick(0); len(got) != 2 || len(got[0].Events) != 6 {
		t.Errorf("P21.4: what was given is told: %v", got)
	}
	do(t, l[1], api.Ask{Kind: api.EvLeave})
	if news := ask(1, a, 2); len(news) != 0 {
		t.Errorf("P21.4: of one that left: %v", news)
	}
}

func TestAskTellsWhatIsKnown(t *testing.T) {
	l := fresh(t, 2)
	do(t, l[1], node(0, 10))
	e := do(t, l[1], node(0, 10))
	l[1].Hear(api.Message{Kind: api.MsgAsk, From: 2, To: 1, Known: api.Vector{1}, Node: 99, Amount: 1}, 0)
	if got := l[1].Tick(0); len(got) != 1 || !slices.Equal(got[0].Events, []api.Event{e}) {
		t.Errorf("P21.4: %v", got)
	}
}

func TestTick(t *testing.T) {
	l := fresh(t, 4)
	var all []api.Event
	for n := range 20 {
		k := node(0, 100)
		if n > 0 {
			k = take(a, 1, uint64(n))
		}
		all = append(all, do(t, l[1], k))
	}
	sync := func(to int, es []api.Event) api.Message {
		return api.Message{Kind: api.MsgSync, From: 1, To: to, Known: api.Vector{20}, Events: es}
	}
	for range 2 {
		if got := l[1].Tick(0); !sameMessages(got, []api.Message{sync(2, all[:16]), sync(3, all[:16]), sync(4, all[:16])}) {
			t.Errorf("P21.5: %v", got)
		}
	}
	l[1].Hear(api.Message{Kind: api.MsgSync, From: 3, To: 1, Known: api.Vector{17}}, 0)
	l[1].Hear(api.Message{Kind: api.MsgSync, From: 3, To: 1, Known: api.Vector{5}}, 0)
	l[1].Hear(api.Message{Kind: api.MsgSync, From: 4, To: 1, Known: api.Vector{20}}, 0)
	if got := l[1].Tick(0); !sameMessages(got, []api.Message{sync(2, all[:16]), sync(3, all[17:]), sync(4, nil)}) {
		t.Errorf("P21.5: %v", got)
	}
	for _, i := range []int{5, 6} {
		if got := l[i].Tick(0); len(got) != 0 {
			t.Errorf("P21.5: of one that is not in: %v", got)
		}
	}
	l[1].Hear(api.Message{Kind: api.MsgSync, From: 3, To: 1, Events: []api.Event{{Origin: 3, Seq: 1, Kind: api.EvLeave}}}, 0)
	l[1].Hear(api.Message{Kind: api.MsgSync, From: 2, To: 1, Events: []api.Event{{Origin: 2, Seq: 1, Kind: api.EvJoin, To: 6}}}, 0)
	var to []int
	for _, m := range l[1].Tick(0) {
		to = append(to, m.To)
	}
	if !slices.Equal(to, []int{2, 4, 6}) {
		t.Errorf("P21.5: live ones: %v", to)
	}
	do(t, l[1], api.Ask{Kind: api.EvLeave})
	if got := l[1].Tick(0); len(got) != 0 {
		t.Errorf("P21.5: of one that left: %v", got)
	}
}

func TestTickAsks(t *testing.T) {
	l := fresh(t, 3)
	do(t, l[3], node(0, 10))
	do(t, l[3], node(0, 9))
	b := uint64(3<<40 + 1)
	do(t, l[3], move(b, 2, 1))
	do(t, l[3], move(b+1, 5, 2))
	tell(t, l, 3, 0)
	for k, x := range []int64{9, 2, 7} {
		l[1].Do(take(b, x, uint64(k+1)), 5)
	}
	l[1].Do(take(b+1, 4, 9), 8)
	if got, want := l[1].Wants(), []api.Want{{Node: b, Amount: 9}, {Node: b + 1, Amount: 4}}; !slices.Equal(got, want) {
		t.Fatalf("P21.3: %v", got)
	}
	known := l[1].State().Known
	asks := func(now uint64) []api.Message {
		t.Helper()
		got := l[1].Tick(now)
		if len(got) < 2 || got[0].Kind != api.MsgSync || got[0].To != 2 || got[1].Kind != api.MsgSync || got[1].To != 3 {
			t.Fatalf("P21.5: at %d: %v", now, got)
		}
		return got[2:]
	}
	// 1 took the 2 that it had at the first node, so all 9 that are wanted there are lacking.
	at := api.Message{Kind: api.MsgAsk, From: 1, To: 3, Known: known, Node: b, Amount: 9}
	at2 := api.Message{Kind: api.MsgAsk, From: 1, To: 2, Known: known, Node: b + 1, Amount: 4}
	for _, c := range []struct {
		now  uint64
		want []api.Message
	}{{4, nil}, {5, []api.Message{at}}, {5, nil}, {6, []api.Message{at}}, {7, nil}, {8, []api.Message{at, at2}}, {9, []api.Message{at2}}, {10, nil}, {11, []api.Message{at2}}, {12, []api.Message{at}}} {
		if got := asks(c.now); !sameMessages(got, c.want) {
			t.Errorf("P21.5: at %d: %v, not %v", c.now, got, c.want)
		}
	}
}

func TestTickEndsWants(t *testing.T) {
	l := fresh(t, 2)
	do(t, l[1], node(0, 10))
	tell(t, l, 1, 0)
	l[2].Do(take(a, 4, 1), 0)
	l[2].Do(take(a, 5, 1), 0)
	tell(t, l, 2, 0)
	if got := rights.Local(l[1].State().Nodes[0].R, 2); got != 5 {
		t.Errorf("P21.4: %d", got)
	}
	if len(l[2].Wants()) != 1 {
		t.Errorf("P21.5: %v", l[2].Wants())
	}
	tell(t, l, 1, 1)
	if len(l[2].Wants()) != 1 {
		t.Errorf("P21.5: wants end by Tick alone: %v", l[2].Wants())
	}
	if got := l[2].Tick(1); len(got) != 1 || got[0].Kind != api.MsgSync || len(l[2].Wants()) != 0 {
		t.Errorf("P21.5: %v, %v", got, l[2].Wants())
	}
	do(t, l[2], take(a, 5, 1))
}

func TestTickAsksForWhatIsLacking(t *testing.T) {
	l := fresh(t, 2)
	do(t, l[1], node(0, 10))
	do(t, l[1], move(a, 2, 2))
	tell(t, l, 1, 0)
	l[2].Do(take(a, 7, 1), 3)
	got := l[2].Tick(3)
	if len(got) != 2 || got[1].Amount != 5 || got[1].Node != a || got[1].To != 1 {
		t.Errorf("P21.5: %v", got)
	}
	r := fresh(t, 1)[1]
	do(t, r, node(0, 1))
	r.Do(take(a, 7, 1), 0)
	if got := r.Tick(0); len(got) != 0 {
		t.Errorf("P21.5: nobody is there to be asked: %v", got)
	}
}

// roll is a row of numbers that is the same each time.
func roll(seed *uint32, n int) int {
	*seed = *seed*1664525 + 1013904223
	return int(*seed>>8) % n
}

func TestAnythingHeard(t *testing.T) {
	for seed := range uint32(20) {
		r := seed
		l := fresh(t, 4)
		var way []api.Message
		for step := range 600 {
			i, now := roll(&r, 6)+1, uint64(step/20)
			s := l[i].State()
			n := uint64(0)
			if len(s.Nodes) > 0 {
				n = s.Nodes[roll(&r, len(s.Nodes))].Id
			}
			x, req := int64(roll(&r, 9)+1), uint64(roll(&r, 50)+1)
			switch roll(&r, 14) {
			case 0:
				l[i].Do(node([]uint64{0, n}[roll(&r, 2)], x*4), now)
			case 1, 2, 3:
				l[i].Do(take(n, x, req), now)
			case 4:
				l[i].Do(api.Ask{Kind: api.EvFree, Of: uint64(roll(&r, 50) + 1), Req: req}, now)
			case 5:
				l[i].Do(move(n, x, roll(&r, 6)+1), now)
			case 6:
				l[i].Do(api.Ask{Kind: api.EvJoin, To: roll(&r, 6) + 1}, now)
			case 7, 8:
				for _, m := range l[i].Tick(now) {
					if !message.May(m) {
						t.Fatalf("P21.7: %v", m)
					}
					way = append(way, m)
				}
			default:
				if len(way) > 0 {
					k := roll(&r, len(way))
					l[way[k].To].Hear(way[k], now)
					if roll(&r, 3) > 0 {
						way = slices.Delete(way, k, k+1)
					}
				}
			}
			for j := 1; step%10 == 0 && j <= api.MaxRegions; j++ {
				if a, b := l[j].State(), l[i].State(); a.Known == b.Known && !same(a, b) {
					t.Fatalf("P21.6: %v, %v", a, b)
				}
			}
		}
	}
}
