package durable_test

import (
	"slices"
	"testing"

	"leat/api"
	"leat/disk"
	"leat/durable"
	"leat/event"
	"leat/frame"
	"leat/journal"
	"leat/replica"
)

const a = uint64(1<<40 + 1)

// same tells whether two states are the same.
func same(a, b api.State) bool {
	return a.In == b.In && a.Left == b.Left && a.Known == b.Known && slices.Equal(a.Nodes, b.Nodes) && slices.Equal(a.Grants, b.Grants)
}

func node(below uint64, x int64) api.Ask { return api.Ask{Kind: api.EvNode, Node: below, Amount: x} }
func take(n uint64, x int64, req uint64) api.Ask {
	return api.Ask{Kind: api.EvTake, Node: n, Amount: x, Req: req}
}

func open(t *testing.T, n, i int, d *disk.Disk) *durable.Durable {
	t.Helper()
	u, e := durable.New(n, i, d)
	if u == nil || e != api.OK || u.Dead() || len(u.Wants()) != 0 {
		t.Fatalf("P22.1: New: %d", e)
	}
	return u
}

// kept are the events that a disk has, one to each record.
func kept(t *testing.T, d *disk.Disk) []api.Event {
	t.Helper()
	b, _ := d.Read(0)
	l, at := frame.All(b)
	var out []api.Event
	for _, r := range l {
		e, next, err := event.Take(r, 0)
		if err != api.OK || next != len(r) {
			t.Fatalf("P22.2: a record %x", r)
		}
		out = append(out, e)
	}
	if at != len(b) || d.Loose() != 0 {
		t.Fatalf("P22.2: %d of %d bytes, %d loose", at, len(b), d.Loose())
	}
	return out
}

func TestExample(t *testing.T) {
	d := disk.New()
	u := open(t, 1, 1, d)
	if _, e := u.Do(node(0, 5), 0); e != api.OK {
		t.Error("P22.2: ", e)
	}
	d.Off()
	d.On()
	if s := open(t, 1, 1, d).State(); len(s.Nodes) != 1 || s.Nodes[0].Id != a {
		t.Errorf("P22.4: %v", s)
	}
}

func TestNew(t *testing.T) {
	off := disk.New()
	off.Off()
	with := func(records ...[]byte) *disk.Disk {
		d := disk.New()
		j, _, _ := journal.Open(d)
		j.Add(records...)
		return d
	}
	one := event.Put(api.Event{Origin: 1, Seq: 1, Kind: api.EvNode, Amount: 9})
	two := event.Put(api.Event{Origin: 1, Seq: 2, Deps: api.Vector{1}, Kind: api.EvNode, Amount: 9})
	three := event.Put(api.Event{Origin: 3, Seq: 1, Kind: api.EvLeave})
	for k, c := range []struct {
		n, i int
		d    *disk.Disk
		e    api.Errno
	}{
		{1, 1, nil, api.ErrNil}, {0, 1, nil, api.ErrNil}, {0, 1, disk.New(), api.ErrArg}, {7, 1, disk.New(), api.ErrArg}, {1, 0, off, api.ErrArg}, {1, 7, disk.New(), api.ErrArg},
		{1, 1, off, api.ErrPower}, {1, 1, with(one, two), api.OK}, {1, 6, with(one, two), api.OK}, {1, 1, with(two), api.ErrBytes}, {1, 1, with(one, one), api.ErrBytes}, {1, 1, with(two, one), api.ErrBytes},
		{1, 1, with(nil), api.ErrBytes}, {1, 1, with(one, []byte("x")), api.ErrBytes}, {1, 1, with(one[:90]), api.ErrBytes}, {1, 1, with(append(slices.Clone(one), 0)), api.ErrBytes},
		{1, 1, with(append(slices.Clone(one), two...)), api.ErrBytes}, {1, 1, with(make([]byte, 91)), api.ErrBytes}, {2, 1, with(three), api.ErrBytes}, {3, 1, with(three), api.OK},
	} {
		u, e := durable.New(c.n, c.i, c.d)
		if e != c.e || (u != nil) != (e == api.OK) {
			t.Errorf("P22.1: %d: New: %d, not %d", k, e, c.e)
		}
	}
	u := open(t, 1, 1, with(one, two))
	if s := u.State(); s.Known != (api.Vector{2}) || len(s.Nodes) != 2 {
		t.Errorf("P22.1: %v", s)
	}
	var none *durable.Durable
	made, e := none.Do(node(0, 1), 0)
	if made != (api.Event{}) || e != api.ErrNil || none.Hear(api.Message{}, 0) != api.ErrNil || len(none.Tick(0)) != 0 || !same(none.State(), api.State{}) || len(none.Wants()) != 0 || !none.Dead() {
		t.Error("P22.3: of no region")
	}
}

func TestDoAndHear(t *testing.T) {
	d, d2 := disk.New(), disk.New()
	u, u2 := open(t, 2, 1, d), open(t, 2, 2, d2)
	model, _ := replica.New(2, 1)
	var all []api.Event
	for k, ask := range []api.Ask{node(0, 10), node(9, 1), take(a, 3, 7), take(a, 3, 7), take(a, 4, 7), take(a, 8, 8), take(a, 7, 9), {Kind: api.EvFree, Of: 7, Req: 10}, {Kind: api.EvFree, Of: 7, Req: 10}, {Kind: 99}} {
		d.Fuse(2) // one Append and one Sync, or nothing
		made, e := u.Do(ask, uint64(k))
		want, e2 := model.Do(ask, uint64(k))
		if made != want || e != e2 {
			t.Errorf("P22.2: Do of %v: %v, %d; not %v, %d", ask, made, e, want, e2)
		}
		if made != (api.Event{}) {
			all = append(all, made)
		}
		if got := kept(t, d); !slices.Equal(got, all) || !same(u.State(), model.State()) || !slices.Equal(u.Wants(), model.Wants()) || u.Dead() {
			t.Errorf("P22.2: behind Do of %v: %v", ask, got)
		}
	}
	l := u.Tick(20)
	if want := model.Tick(20); len(l) != len(want) || len(l) != 1 || !slices.Equal(l[0].Events, want[0].Events) || l[0].Known != want[0].Known {
		t.Errorf("P22.3: Tick: %v, not %v", l, want)
	}
	d2.Fuse(2)
	if e := u2.Hear(l[0], 0); e != api.OK || !slices.Equal(kept(t, d2), all) {
		t.Errorf("P22.2: Hear: %d", e)
	}
	d2.Fuse(0)
	if e := u2.Hear(l[0], 0); e != api.OK || u2.Dead() {
		t.Errorf("P22.2: Hear again: %d", e)
	}
	if e := u2.Hear(api.Message{}, 0); e != api.ErrArg || u2.Dead() {
		t.Errorf("P22.2: Hear of what may not be: %d", e)
	}
	d2.Fuse(-1)
	ask := api.Message{Kind: api.MsgAsk, From: 2, To: 1, Node: a, Amount: 1}
	if e := u.Hear(ask, 0); e != api.OK || len(kept(t, d)) != len(all)+1 {
		t.Errorf("P22.2: Hear of a MsgAsk: %d", e)
	}
	if s := open(t, 2, 1, d).State(); !same(s, u.State()) {
		t.Errorf("P22.4: %v", s)
	}
}

func TestDead(t *testing.T) {
	for fuse := range 2 {
		d := disk.New()
		u := open(t, 2, 1, d)
		u.Do(node(0, 10), 0)
		u.Do(take(a, 99, 5), 0)
		d.Fuse(fuse)
		if made, e := u.Do(take(a, 3, 1), 0); made != (api.Event{}) || e != api.ErrPower || !u.Dead() {
			t.Errorf("P22.2: %v, %d", made, e)
		}
		d.On()
		s := u.State()
		if s.Known != (api.Vector{2}) || len(u.Wants()) != 1 {
			t.Errorf("P22.3: of a dead one: %v, %v", s, u.Wants())
		}
		made, e := u.Do(take(a, 1, 2), 0)
		e2 := u.Hear(api.Message{}, 0)
		if made != (api.Event{}) || e != api.ErrPower || e2 != api.ErrPower || len(u.Tick(0)) != 0 || !u.Dead() || !same(u.State(), s) {
			t.Errorf("P22.2: of a dead one: %v, %d, %d", made, e, e2)
		}
		if k := open(t, 2, 1, d).State().Known; k != (api.Vector{1}) {
			t.Errorf("P22.4: %v", k)
		}
	}
	d := disk.New()
	u := open(t, 2, 2, d)
	d.Off()
	m := api.Message{Kind: api.MsgSync, From: 1, To: 2, Events: []api.Event{{Origin: 1, Seq: 1, Kind: api.EvNode, Amount: 9}}}
	if e := u.Hear(m, 0); e != api.ErrPower || !u.Dead() {
		t.Errorf("P22.2: %d", e)
	}
	d = disk.New()
	u = open(t, 2, 1, d)
	d.Append(1, make([]byte, api.MaxDisk))
	if made, e := u.Do(node(0, 10), 0); made != (api.Event{}) || e != api.ErrFull || !u.Dead() {
		t.Errorf("P22.2: of a full disk: %v, %d", made, e)
	}
	if _, e := u.Do(node(0, 10), 0); e != api.ErrPower {
		t.Errorf("P22.2: of a dead one: %d", e)
	}
}

// run does many things in two regions until the power of the first goes, opens that again, and holds it against what it answered and told.
func run(t *testing.T, fuse, first, second int) {
	d := disk.New()
	u, other := open(t, 2, 1, d), open(t, 2, 2, disk.New())
	used := map[uint64]api.Event{} // numbers of the region's that were told or answered
	sure := func(u *durable.Durable, e api.Event) {
		if old, ok := used[e.Seq]; ok && old != e {
			t.Fatalf("P22.5: the number %d of %v and %v", e.Seq, old, e)
		}
		used[e.Seq] = e
	}
	d.Fuse(fuse)
	for k := range 12 {
		was := u.State().Known
		ask := take(a, 1, uint64(k+1))
		if k == 0 {
			ask = node(0, 20)
		}
		if made, e := u.Do(ask, uint64(k)); e == api.OK && made.Seq > 0 {
			sure(u, made)
			was = u.State().Known
		}
		for _, m := range u.Tick(uint64(k)) {
			for _, e := range m.Events {
				if e.Origin == 1 {
					sure(u, e)
				}
			}
			was = m.Known
			other.Hear(m, uint64(k))
		}
		other.Do(node(a, 1), uint64(k))
		other.Do(take(a, 3, uint64(k+1)), uint64(k))
		for _, m := range other.Tick(uint64(k)) {
			if u.Hear(m, uint64(k)) == api.OK {
				was = u.State().Known
			}
		}
		if !u.Dead() {
			continue
		}
		under := u.State().Known
		d.On(first, second)
		u = open(t, 2, 1, d)
		now := u.State()
		for i := range was {
			if now.Known[i] < was[i] || now.Known[i] > under[i] {
				t.Fatalf("P22.4: it knew %v, %v was under way, opened again it knows %v", was, under, now.Known)
			}
		}
		for seq := range used {
			if seq > now.Known[0] {
				t.Fatalf("P22.4: the event %d is lost", seq)
			}
		}
		model, _ := replica.New(2, 1)
		if e := model.Replay(kept(t, d)); e != api.OK || !same(model.State(), now) {
			t.Fatalf("P22.4: %v", now)
		}
	}
}

func TestAnyLossOfPower(t *testing.T) {
	for fuse := range 30 {
		for first := range 3 {
			for second := 0; second < 700; second += 33 {
				run(t, fuse, first, second)
			}
		}
	}
}
