package snap_test

import (
	"bytes"
	"hash/crc32"
	"slices"
	"testing"

	"leat/api"
	"leat/ledger"
	"leat/snap"
	"leat/vector"
)

// same tells whether two states are the same.
func same(a, b api.State) bool {
	return a.In == b.In && a.Left == b.Left && a.Known == b.Known && slices.Equal(a.Nodes, b.Nodes) && slices.Equal(a.Grants, b.Grants)
}

// copied is a state in memory of its own.
func copied(s api.State) api.State {
	s.Nodes, s.Grants = slices.Clone(s.Nodes), slices.Clone(s.Grants)
	return s
}

// turned is a state with something else in it.
func turned(s api.State, turn func(s *api.State)) api.State {
	s = copied(s)
	turn(&s)
	return s
}

// some is a state with three nodes and three grants.
func some() api.State {
	s := api.State{In: [6]bool{true, true, false, true}, Left: [6]bool{false, true}, Known: api.Vector{1, 2, 0, 0x0102030405, 0, api.MaxSeq}}
	s.Nodes = []api.Node{{Id: 5, Parent: 1<<64 - 1}, {Id: 7}, {Id: 1<<64 - 1, Parent: 7}}
	s.Nodes[0].R.G[0], s.Nodes[0].R.R[0][1], s.Nodes[0].R.C[1], s.Nodes[0].R.F[1] = 10, 6, 5, 2
	s.Nodes[2].R.G[5] = api.MaxAmount
	s.Grants = []api.Grant{{Origin: 1, Req: 3, Node: 7, Amount: 1}, {Origin: 1, Req: 1<<64 - 1, Node: 5, Amount: api.MaxAmount, By: 3}, {Origin: 6, Req: 1, Node: 1<<64 - 1, Amount: 9, By: 1<<64 - 1}}
	return s
}

// chain is a state of n nodes, each below the one behind it.
func chain(n int) api.State {
	var s api.State
	for k := range uint64(n) {
		s.Nodes = append(s.Nodes, api.Node{Id: k + 1, Parent: (k + 2) % (uint64(n) + 1)})
	}
	return s
}

// granted is a state of n grants.
func granted(n int) api.State {
	s := api.State{Nodes: []api.Node{{Id: 9}}}
	for k := range uint64(n) {
		s.Grants = append(s.Grants, api.Grant{Origin: 1 + int(k/1000), Req: k + 1, Node: 9, Amount: 1})
	}
	return s
}

// raw tells a state's bytes by the chapter's own words, also of what may not be.
func raw(s api.State) []byte {
	b := []byte("LSNP")
	put := func(n uint64, size int) {
		for i := size - 1; i >= 0; i-- {
			b = append(b, byte(n>>(8*i)))
		}
	}
	for i := range s.In {
		n := uint64(0)
		if s.In[i] {
			n++
		}
		if s.Left[i] {
			n += 2
		}
		put(n, 1)
	}
	for _, n := range s.Known {
		put(n, 8)
	}
	put(uint64(len(s.Nodes)), 2)
	for _, n := range s.Nodes {
		put(n.Id, 8)
		put(n.Parent, 8)
		rows := [][6]int64{n.R.G, n.R.C, n.R.F}
		for _, row := range append(rows, n.R.R[:]...) {
			for _, x := range row {
				put(uint64(x), 8)
			}
		}
	}
	put(uint64(len(s.Grants)), 2)
	for _, g := range s.Grants {
		put(uint64(g.Origin), 1)
		for _, n := range []uint64{g.Req, g.Node, uint64(g.Amount), g.By} {
			put(n, 8)
		}
	}
	return summed(b)
}

// summed puts the sum behind bytes.
func summed(b []byte) []byte {
	s := crc32.ChecksumIEEE(b)
	return append(bytes.Clone(b), byte(s>>24), byte(s>>16), byte(s>>8), byte(s))
}

func good() []api.State {
	return []api.State{{}, some(), chain(api.MaxNodes), chain(1), granted(snap.MaxGrants), granted(1), {Nodes: []api.Node{}, Grants: []api.Grant{}}, {In: [6]bool{true, true, true, true, true, true}, Left: [6]bool{true, true, true, true, true, true}}}
}

func bad() []api.State {
	l := []api.State{chain(api.MaxNodes + 1), granted(snap.MaxGrants + 1), {Nodes: []api.Node{{Id: 0}}}, {Nodes: []api.Node{{Id: 5}, {Id: 5}}}, {Nodes: []api.Node{{Id: 7}, {Id: 5}}}, {Nodes: []api.Node{{Id: 5}, {Id: 6}, {Id: 6}}}}
	for _, turn := range []func(s *api.State){
		func(s *api.State) { s.Left[2] = true }, func(s *api.State) { s.Left[5] = true }, func(s *api.State) { s.Known[2] = api.MaxSeq + 1 }, func(s *api.State) { s.Known[0] = 1<<64 - 1 },
		func(s *api.State) { s.Nodes[0].Id = 0 }, func(s *api.State) { s.Nodes[1].Id = 5 }, func(s *api.State) { s.Nodes[0].Id = 8 }, func(s *api.State) { s.Nodes[0], s.Nodes[1] = s.Nodes[1], s.Nodes[0] },
		func(s *api.State) { s.Nodes[0].Parent = 6 }, func(s *api.State) { s.Nodes[0].Parent = 5 }, func(s *api.State) { s.Nodes[1].Parent = 5 }, func(s *api.State) { s.Nodes[1].Parent = 1<<64 - 1 }, func(s *api.State) { s.Nodes[1].Parent = 7 },
		func(s *api.State) { s.Nodes[1].R.C[0] = 1 }, func(s *api.State) { s.Nodes[1].R.G[0] = -1 }, func(s *api.State) { s.Nodes[2].R.G[0] = 1 }, func(s *api.State) { s.Nodes[0].R.R[2][2] = 1 },
		func(s *api.State) { s.Grants[0].Origin = 0 }, func(s *api.State) { s.Grants[2].Origin = 7 }, func(s *api.State) { s.Grants[0].Origin = -1 }, func(s *api.State) { s.Grants[2].Origin = 256 + 1 }, func(s *api.State) { s.Grants[0].Req = 0 },
		func(s *api.State) { s.Grants[1].Req, s.Grants[1].By = 3, 0 }, func(s *api.State) { s.Grants[1].Req = 2 }, func(s *api.State) { s.Grants[0].Origin = 2 }, func(s *api.State) { s.Grants[0], s.Grants[1] = s.Grants[1], s.Grants[0] },
		func(s *api.State) { s.Nodes[1].Id, s.Grants = 5, nil }, func(s *api.State) { s.Nodes[0].Id, s.Grants = 7, nil },
		func(s *api.State) { s.Grants[0].Node = 0 }, func(s *api.State) { s.Grants[0].Node = 6 }, func(s *api.State) { s.Nodes = nil },
		func(s *api.State) { s.Grants[0].Amount = 0 }, func(s *api.State) { s.Grants[0].Amount = -1 }, func(s *api.State) { s.Grants[0].Amount = api.MaxAmount + 1 }, func(s *api.State) { s.Grants[0].By = 3 },
	} {
		l = append(l, turned(some(), turn))
	}
	return l
}

func TestMayPutAndGet(t *testing.T) {
	if b := snap.Put(api.State{}); len(b) != 66 || string(b[:4]) != "LSNP" || snap.MaxGrants != 4096 {
		t.Errorf("P32.1: Put of nothing: %x", b)
	}
	for k, s := range good() {
		was := copied(s)
		b := snap.Put(s)
		if !snap.May(s) || !bytes.Equal(b, raw(s)) {
			t.Errorf("P32.1: %d: May %v, Put %d bytes", k, snap.May(s), len(b))
		}
		got, e := snap.Get(b)
		if !same(got, s) || e != api.OK || !bytes.Equal(snap.Put(got), b) || !same(was, s) {
			t.Errorf("P32.1: %d: it is got as %v, %d", k, got, e)
		}
		for _, n := range []int{0, 1, 3, 4, 10, 58, 65, len(b) - 5, len(b) - 1} {
			if got, e := snap.Get(b[:n]); n < len(b) && (!same(got, api.State{}) || e != api.ErrBytes) {
				t.Errorf("P32.1: %d: Get of %d bytes: %d", k, n, e)
			}
		}
		for _, c := range [][]byte{append(bytes.Clone(b), 0), summed(b), summed(append(bytes.Clone(b[:len(b)-4]), 0)), summed(b[:len(b)-5])} {
			if got, e := snap.Get(c); !same(got, api.State{}) || e != api.ErrBytes {
				t.Errorf("P32.1: %d: Get of other bytes: %d", k, e)
			}
		}
	}
	for k, s := range bad() {
		if b := snap.Put(s); snap.May(s) || len(b) != 0 {
			t.Errorf("P32.1: %d: May %v", k, s)
		}
		if len(s.Grants) > 0 && s.Grants[len(s.Grants)-1].Origin > 255 {
			continue
		}
		if got, e := snap.Get(raw(s)); !same(got, api.State{}) || e != api.ErrBytes {
			t.Errorf("P32.1: %d: Get of %v: %d", k, got, e)
		}
	}
}

func TestOtherBytes(t *testing.T) {
	b := snap.Put(some())
	for at := range b {
		c := bytes.Clone(b)
		c[at] ^= 1
		if got, e := snap.Get(c); !same(got, api.State{}) || e != api.ErrBytes {
			t.Errorf("P32.1: Get with the byte %d turned: %d", at, e)
		}
		if at >= len(b)-4 {
			continue
		}
		for _, x := range []byte{1, 2, 4, 0x80, 0xff} {
			c := bytes.Clone(b[:len(b)-4])
			c[at] ^= x
			c = summed(c)
			got, e := snap.Get(c)
			if e == api.OK && (!snap.May(got) || !bytes.Equal(snap.Put(got), c)) || e != api.OK && (e != api.ErrBytes || !same(got, api.State{})) {
				t.Errorf("P32.1: Get with the byte %d turned, and the sum: %v, %d", at, got, e)
			}
		}
	}
	for _, n := range []int{0, 4, 66, 9999} {
		if got, e := snap.Get(bytes.Repeat([]byte{0xff}, n)); !same(got, api.State{}) || e != api.ErrBytes {
			t.Errorf("P32.1: Get of %d bytes: %d", n, e)
		}
	}
	for i := range api.MaxRegions {
		for _, x := range []byte{2, 4, 5, 0xff} {
			c := bytes.Clone(b[:len(b)-4])
			c[4+i] = x
			if got, e := snap.Get(summed(c)); !same(got, api.State{}) || e != api.ErrBytes {
				t.Errorf("P32.1: Get of a region's byte %d: %d", x, e)
			}
		}
	}
}

func TestJoin(t *testing.T) {
	a, b := some(), turned(some(), func(s *api.State) {
		s.In, s.Left, s.Known = [6]bool{false, true, true}, [6]bool{false, false, true}, api.Vector{0, 5, 7}
		s.Nodes = []api.Node{{Id: 6}, {Id: 7}, {Id: 1<<64 - 1, Parent: 7}}
		s.Nodes[1].R.G[2], s.Nodes[2].R.G[5], s.Nodes[2].R.R[5][0] = 4, 3, 2
		s.Grants = []api.Grant{{Origin: 1, Req: 3, Node: 7, Amount: 1, By: 8}, {Origin: 2, Req: 1, Node: 6, Amount: 4}, {Origin: 6, Req: 1, Node: 1<<64 - 1, Amount: 9}}
	})
	want := turned(a, func(s *api.State) {
		s.In, s.Left, s.Known = [6]bool{true, true, true, true}, [6]bool{false, true, true}, api.Vector{1, 5, 7, 0x0102030405, 0, api.MaxSeq}
		s.Nodes = []api.Node{a.Nodes[0], b.Nodes[0], b.Nodes[1], a.Nodes[2]}
		s.Nodes[3].R.R[5][0] = 2
		s.Grants = []api.Grant{b.Grants[0], a.Grants[1], b.Grants[1], a.Grants[2]}
	})
	for range 2 {
		got, e := snap.Join(a, b)
		if !same(got, want) || e != api.OK {
			t.Errorf("P32.2: Join: %v, %d; not %v", got, e, want)
		}
		if snap.Less(a, b) || !snap.Less(a, want) || !snap.Less(b, want) || snap.Less(want, a) || snap.Less(want, b) || !snap.Less(want, want) {
			t.Error("P32.2: Less")
		}
		a, b = b, a
	}
	was := copied(a)
	got, _ := snap.Join(a, api.State{})
	got.Nodes[0].Id, got.Grants[0].Req = 1, 1
	if !same(a, was) {
		t.Error("R3: Join shares memory")
	}
}

func TestLessOfOneThingMore(t *testing.T) {
	for k, turn := range []func(s *api.State){
		func(s *api.State) { s.In[2] = true }, func(s *api.State) { s.Left[0] = true }, func(s *api.State) { s.Known[2] = 1 },
		func(s *api.State) { s.Nodes[1].R.G[0] = 1 }, func(s *api.State) { s.Nodes = append(s.Nodes[:1:1], append([]api.Node{{Id: 6}}, s.Nodes[1:]...)...) },
		func(s *api.State) { s.Grants[0].By = 9 }, func(s *api.State) { s.Grants = append(s.Grants, api.Grant{Origin: 6, Req: 2, Node: 7, Amount: 1}) },
	} {
		more := turned(some(), turn)
		if !snap.May(more) || !snap.Less(some(), more) || snap.Less(more, some()) {
			t.Errorf("P32.2: %d: Less: %v, %v", k, snap.Less(some(), more), snap.Less(more, some()))
		}
	}
}

func TestJoinErrors(t *testing.T) {
	for k, s := range bad() {
		for _, c := range [][2]api.State{{s, some()}, {some(), s}, {s, s}} {
			if got, e := snap.Join(c[0], c[1]); !same(got, api.State{}) || e != api.ErrArg || snap.Less(c[0], c[1]) {
				t.Errorf("P32.2: %d: Join: %d", k, e)
			}
		}
	}
	ids := func(from int) api.State {
		var s api.State
		for k := range uint64(20) {
			s.Nodes = append(s.Nodes, api.Node{Id: uint64(from) + k})
		}
		return s
	}
	parents := func(s *api.State) { s.Nodes[0].Parent = 7 }
	node := func(s *api.State) { s.Grants[0].Node = 5 }
	amount := func(s *api.State) { s.Grants[0].Amount = 2 }
	by := func(s *api.State) { s.Grants[1].By = 4 }
	for k, c := range []struct {
		a, b api.State
		e    api.Errno
	}{
		{some(), turned(some(), parents), api.ErrNode},
		{some(), turned(some(), node), api.ErrAgain},
		{some(), turned(some(), amount), api.ErrAgain},
		{some(), turned(some(), by), api.ErrAgain},
		{some(), turned(turned(some(), by), parents), api.ErrNode},
		{ids(1), ids(13), api.OK},
		{ids(1), ids(14), api.ErrMany},
		{granted(1), granted(snap.MaxGrants), api.OK},
		{granted(snap.MaxGrants), turned(granted(1), func(s *api.State) { s.Grants[0].Req = 9999 }), api.ErrMany},
		{turned(some(), func(s *api.State) { s.Nodes[2].R.C[5] = api.MaxAmount }), turned(some(), func(s *api.State) { s.Nodes[2].R.R[5][0] = 1 }), api.ErrMany},
		{turned(some(), func(s *api.State) { s.Nodes[1].R.G[0] = api.MaxAmount }), turned(some(), func(s *api.State) { s.Nodes[1].R.G[1] = 1 }), api.ErrMany},
		{turned(ids(1), parentsOf(3)), turned(ids(14), func(s *api.State) { s.Nodes[0].Parent = 15 }), api.ErrNode},
		{turned(ids(1), parentsOf(3)), ids(1), api.ErrNode},
		{some(), turned(some(), func(s *api.State) { s.Grants[1].By = 0 }), api.OK},
	} {
		for range 2 {
			got, e := snap.Join(c.a, c.b)
			if e != c.e || e != api.OK && !same(got, api.State{}) || e != api.OK && snap.Less(c.a, c.b) {
				t.Errorf("P32.2: %d: Join: %d, not %d", k, e, c.e)
			}
			c.a, c.b = c.b, c.a
		}
	}
	if s := turned(some(), func(s *api.State) { s.Grants[1].By = 0 }); snap.Less(some(), s) || !snap.Less(s, some()) {
		t.Error("P32.2: Less of what was given back")
	}
}

// parentsOf puts the first node below another one.
func parentsOf(id uint64) func(s *api.State) {
	return func(s *api.State) { s.Nodes[0].Parent = id }
}

// roll is a row of numbers that is the same each time.
func roll(seed *uint32, n int) int {
	*seed = *seed*1664525 + 1013904223
	return int(*seed>>8) % n
}

// event makes one of a region by what a ledger knows.
func event(seed *uint32, l *ledger.Ledger, i int) api.Event {
	s := l.State()
	e := api.Event{Origin: i, Seq: s.Known[i-1] + 1, Deps: s.Known}
	if len(s.Nodes) > 0 {
		e.Node = s.Nodes[roll(seed, len(s.Nodes))].Id
	}
	x, req := int64(roll(seed, 9)+1), uint64(roll(seed, 30)+1)
	switch roll(seed, 8) {
	case 0:
		e.Kind, e.Amount = api.EvNode, 4*x
	case 1, 2, 3:
		e.Kind, e.Amount, e.Req = api.EvTake, x, req
	case 4:
		e.Kind, e.Node, e.Req, e.Of = api.EvFree, 0, req, uint64(roll(seed, 30)+1)
	case 5:
		e.Kind, e.Node, e.To = api.EvJoin, 0, roll(seed, 6)+1
	case 6:
		e.Kind, e.Amount = api.EvRaise, x
	default:
		e.Kind, e.Amount, e.To = api.EvMove, x, roll(seed, 6)+1
	}
	return e
}

func TestStatesOfRegions(t *testing.T) {
	less := 0
	for seed := range uint32(40) {
		r := seed
		var ls [3]*ledger.Ledger
		for i := range ls {
			ls[i], _ = ledger.New(3)
		}
		both, _ := ledger.New(3)
		var all []api.Event
		for range 60 {
			i := roll(&r, 3)
			if roll(&r, 4) == 0 {
				j := roll(&r, 3)
				for _, e := range all {
					if vector.Has(ls[j].Known(), e.Origin, e.Seq) {
						ls[i].Apply(e)
					}
				}
			}
			if e := event(&r, ls[i], i+1); ls[i].Apply(e) == api.OK {
				all = append(all, e)
			}
			a, b := ls[0].State(), ls[1].State()
			if got, want := snap.Less(a, b), vector.Less(a.Known, b.Known); got != want {
				t.Fatalf("P32.3: Less: %v, of %v, %v", got, a.Known, b.Known)
			} else if got {
				less++
			}
		}
		a, b, c := ls[0].State(), ls[1].State(), ls[2].State()
		for _, e := range all {
			if vector.Has(a.Known, e.Origin, e.Seq) || vector.Has(b.Known, e.Origin, e.Seq) {
				both.Apply(e)
			}
		}
		j, e := snap.Join(a, b)
		if !same(j, both.State()) || e != api.OK {
			t.Fatalf("P32.3: Join: %v, %d; not %v", j, e, both.State())
		}
		left, _ := snap.Join(j, c)
		bc, _ := snap.Join(c, b)
		right, _ := snap.Join(bc, a)
		again, _ := snap.Join(left, j)
		if !same(left, right) || !same(again, left) {
			t.Fatalf("P32.3: Joins in another order: %v, %v", left, right)
		}
		if got, e := snap.Get(snap.Put(left)); !same(got, left) || e != api.OK {
			t.Fatalf("P32.1: %v, %d", got, e)
		}
	}
	if less < 20 {
		t.Errorf("only %d were Less", less)
	}
}
