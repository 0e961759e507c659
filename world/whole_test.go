package world_test

import (
	"slices"
	"testing"

	"leat/api"
	"leat/member"
	"leat/query"
	"leat/world"
)

// These tests are of the program as a whole: W1 to W5, P27.4, P27.5.

// roll is a row of numbers that is the same each time.
func roll(seed *uint32, n int) int {
	*seed = *seed*1664525 + 1013904223
	return int(*seed>>8) % n
}

// some makes a step: an ask of a region, or something that goes wrong, or goes on.
func some(seed *uint32, w *world.World) api.Step {
	who, x := roll(seed, 6)+1, int64(roll(seed, 9)+1)
	s, _ := w.Cluster().State(who)
	n := uint64(0)
	if len(s.Nodes) > 0 {
		n = s.Nodes[roll(seed, len(s.Nodes))].Id
	}
	req, k := uint64(roll(seed, 40)+1), roll(seed, w.Cluster().Way()+1)
	switch roll(seed, 36) {
	case 0, 1:
		return ask(who, node([]uint64{0, n, n}[roll(seed, 3)], 3*x))
	case 2:
		return ask(who, api.Ask{Kind: api.EvRaise, Node: n, Amount: x})
	case 3, 4, 5, 6, 7, 8, 9:
		return ask(who, take(n, x, req))
	case 10, 11, 12:
		return ask(who, free(uint64(roll(seed, 40)+1), req))
	case 13:
		return ask(who, move(n, x, roll(seed, 6)+1))
	case 14:
		return ask(who, api.Ask{Kind: api.EvJoin, To: roll(seed, 6) + 1})
	case 15:
		return api.Step{Do: api.StDrop, K: k}
	case 16, 17:
		return api.Step{Do: api.StTwice, K: k}
	case 18:
		return api.Step{Do: api.StCut, Who: who, J: roll(seed, 6) + 1}
	case 19:
		return api.Step{Do: api.StHeal}
	case 20:
		return api.Step{Do: api.StFuse, Who: who, N: roll(seed, 9) - 1}
	case 21:
		return step(api.StOff, who)
	case 22, 23, 24:
		return api.Step{Do: api.StOn, Who: who, Picks: []int{roll(seed, 5), roll(seed, 300)}}
	case 25:
		return api.Step{Do: api.StTime, N: roll(seed, 4)}
	case 26, 27, 28, 29:
		return step(api.StTick, who)
	}
	return api.Step{Do: api.StDeliver, K: k}
}

// book is what was answered, by the words of W1, W3 and W4 alone.
type book struct {
	made  map[uint64]api.Event // by ids
	above map[uint64]uint64
	limit map[uint64]int64
	took  map[[2]uint64]api.Ask
	back  map[[2]uint64]uint64
}

func newBook() *book {
	return &book{map[uint64]api.Event{}, map[uint64]uint64{}, map[uint64]int64{}, map[[2]uint64]api.Ask{}, map[[2]uint64]uint64{}}
}

// say writes an answer down, and holds it against those that came ahead.
func (b *book) say(t *testing.T, s api.Step, x api.Answer) {
	t.Helper()
	if s.Do != api.StAsk || x.E != api.OK && x.E != api.ErrPower {
		return
	}
	if x.E == api.OK && x.Made != (api.Event{}) {
		id := uint64(x.Made.Origin)<<40 + x.Made.Seq
		if old, ok := b.made[id]; ok {
			t.Fatalf("W3: a number of two events: %v, %v", old, x.Made)
		}
		b.made[id] = x.Made
	}
	key, k := [2]uint64{uint64(s.Who), s.A.Req}, s.A
	switch k.Kind {
	case api.EvNode:
		if x.E == api.OK {
			id := uint64(x.Made.Origin)<<40 + x.Made.Seq
			b.above[id] = k.Node
			b.limit[id] += k.Amount
		}
	case api.EvRaise:
		b.limit[k.Node] += k.Amount
	case api.EvTake:
		if old, ok := b.took[key]; x.E == api.OK && ok && (old != k || x.Made != (api.Event{})) {
			t.Fatalf("W4: a request of two takes: %v, %v", old, k)
		}
		if x.E == api.OK {
			b.took[key] = k
		}
	case api.EvFree:
		of := [2]uint64{uint64(s.Who), k.Of}
		if by, ok := b.back[of]; x.E == api.OK && ok && by != 0 && by != k.Req {
			t.Fatalf("W4: %v is given back by %d and %d", of, by, k.Req)
		}
		if x.E == api.OK {
			b.back[of] = k.Req
		} else if _, ok := b.back[of]; !ok {
			b.back[of] = 0 // it may have been
		}
	}
}

// held checks that at no node more is used than there is.
func (b *book) held(t *testing.T) {
	t.Helper()
	used := map[uint64]int64{}
	for key, k := range b.took {
		if _, ok := b.back[key]; ok {
			continue
		}
		for n, ok := k.Node, true; ok; n, ok = b.above[n], b.above[n] != 0 {
			used[n] += k.Amount
		}
	}
	for n := range b.above {
		if used[n] > b.limit[n] {
			t.Fatalf("W1: at %d %d are used of %d", n, used[n], b.limit[n])
		}
	}
}

// known checks that each up region knows all of its own that it was answered, and all that others know of it.
func (b *book) known(t *testing.T, w *world.World) {
	t.Helper()
	for i := 1; i <= api.MaxRegions; i++ {
		s, up := w.Cluster().State(i)
		if !up {
			continue
		}
		for id := range b.made {
			if id>>40 == uint64(i) && id&(1<<40-1) > s.Known[i-1] {
				t.Fatalf("W3: the region %d does not know %d, which was answered OK", i, id)
			}
		}
		for j := 1; j <= api.MaxRegions; j++ {
			if other, up := w.Cluster().State(j); up && other.Known[i-1] > s.Known[i-1] {
				t.Fatalf("W3: the region %d does not know what it told to %d", i, j)
			}
		}
	}
}

// settled checks that all live regions know the same, and have the same state.
func settled(t *testing.T, w *world.World) {
	t.Helper()
	first, _ := w.Cluster().State(1)
	for _, i := range member.Live(first) {
		if s, up := w.Cluster().State(i); !up || !same(s, first) {
			t.Fatalf("P27.4: the region %d: %v, %v, not %v", i, up, s, first)
		}
	}
}

func TestAnything(t *testing.T) {
	took, again := 0, 0
	for seed := range uint32(60) {
		r := seed
		w := fresh(t, roll(&r, 6)+1)
		b := newBook()
		var asked []api.Step
		for k := range 100 + roll(&r, 500) {
			s := some(&r, w)
			// A region that is not in tells nobody what it knows, so it hears but the first MaxSend events of each: it has to join while that is enough.
			if s.Do == api.StAsk && s.A.Kind == api.EvJoin && k > 12 {
				continue
			}
			if len(asked) > 0 && roll(&r, 5) == 0 {
				s = asked[roll(&r, len(asked))]
			}
			x := w.Do(s)
			b.say(t, s, x)
			if s.Do == api.StAsk && s.A.Req > 0 {
				asked = append(asked, s)
			}
			if x.E == api.OK && s.Do == api.StAsk && s.A.Kind == api.EvTake {
				took++
				if x.Made == (api.Event{}) {
					again++
				}
			}
			if !w.Bound() {
				t.Fatal("W1: not Bound")
			}
			if k%8 == 0 {
				b.held(t)
				b.known(t, w)
				if !w.Agree() {
					t.Fatal("W2: they do not Agree")
				}
			}
		}
		if k, e := w.Calm(300); e != api.OK || k == 300 {
			t.Fatalf("W5: Calm: %d, %d", k, e)
		}
		settled(t, w)
		b.held(t)
		b.known(t, w)
		if !w.Bound() || !w.Agree() {
			t.Fatal("P27.4: behind Calm")
		}
		first, _ := w.Cluster().State(1)
		for id, e := range b.made {
			for j := 1; e.Kind == api.EvTake && j <= api.MaxRegions; j++ {
				s, _ := w.Cluster().State(j)
				has := slices.ContainsFunc(s.Grants, func(g api.Grant) bool {
					return g.Origin == e.Origin && g.Req == e.Req && g.Node == e.Node && g.Amount == e.Amount
				})
				if !has && slices.Contains(member.Live(first), j) {
					t.Fatalf("W3: the region %d does not have the take %d", j, id)
				}
			}
		}
	}
	if took < 300 || again < 20 {
		t.Errorf("only %d takes went, %d again", took, again)
	}
}

func TestAnythingWithLeaves(t *testing.T) {
	for seed := range uint32(20) {
		r := seed + 1000
		w := fresh(t, 6)
		b := newBook()
		for k := range 300 {
			s := some(&r, w)
			if roll(&r, 60) == 0 {
				s = api.Step{Do: api.StLeave, Who: roll(&r, 6) + 1, J: roll(&r, 6) + 1}
			}
			b.say(t, s, w.Do(s))
			if k%8 == 0 {
				b.held(t)
				b.known(t, w)
			}
		}
		if !w.Bound() || !w.Agree() {
			t.Fatal("W1, W2: with leaves")
		}
	}
}

// spread makes a world of six with a path of four nodes, the rights at which are everywhere but at the last region.
func spread(t *testing.T, seed uint32, most int64) (*world.World, []uint64) {
	t.Helper()
	w := fresh(t, 6)
	var path []uint64
	above := uint64(0)
	for range api.MaxDepth {
		who := roll(&seed, 5) + 1
		e := do(t, w, ask(who, node(above, most/5)), api.OK)
		if k, _ := w.Calm(100); k == 100 {
			t.Fatal("P27.4: Calm")
		}
		above = uint64(e.Origin)<<40 + e.Seq
		path = append(path, above)
		for i := 1; i < 6; i++ {
			if i != who {
				do(t, w, ask(i, api.Ask{Kind: api.EvRaise, Node: above, Amount: most / 5}), api.OK)
			}
		}
	}
	for k := range 40 {
		i, n := roll(&seed, 5)+1, path[roll(&seed, len(path))]
		s, _ := w.Cluster().State(i)
		has := most
		for _, n := range query.Path(s, n) {
			q, _ := query.Of(s, n)
			has = min(has, q.Local[i-1])
		}
		// No more than it has: what is refused is wanted, and here nobody else may want anything.
		if has > 0 {
			do(t, w, ask(i, take(n, int64(roll(&seed, int(min(has, 9))))+1, uint64(k+1))), api.OK)
		}
		w.Do(ask(roll(&seed, 5)+1, move(n, int64(roll(&seed, int(most/7))+1), roll(&seed, 5)+1)))
	}
	if k, e := w.Calm(200); e != api.OK || k == 200 {
		t.Fatal("P27.4: Calm: ", k, e)
	}
	return w, path
}

func TestATakeThatThereIsRoomFor(t *testing.T) {
	worst := 0
	for seed := range uint32(12) {
		for _, most := range []int64{1<<22 - 1, 1 << 21, 60} {
			w, path := spread(t, seed, most)
			who := []int{6, 1, 3}[seed%3]
			s, _ := w.Cluster().State(who)
			x := int64(1 << 40)
			for _, n := range query.Path(s, path[3]) {
				q, _ := query.Of(s, n)
				x = min(x, q.Limit-q.Used)
			}
			times := 0
			for e := api.ErrRights; e != api.OK && times < 601; times++ {
				e = w.Do(ask(who, take(path[3], x, 999))).E
				if e != api.OK && e != api.ErrRights {
					t.Fatal("P27.5: ", e)
				}
				do(t, w, api.Step{Do: api.StTime, N: 16}, api.OK)
				for i := 1; i <= api.MaxRegions; i++ {
					do(t, w, step(api.StTick, i), api.OK)
					for w.Cluster().Way() > 0 {
						do(t, w, step(api.StDeliver, 0), api.OK)
					}
				}
			}
			if times > 600 {
				t.Errorf("P27.5: with the seed %d a take of %d is not answered OK", seed, x)
			}
			worst = max(worst, times)
		}
	}
	if worst < 20 {
		t.Errorf("all takes went within %d times: the rights were not spread", worst)
	}
	t.Log("the most times: ", worst)
}

func TestNumbersAreNotUsedTwice(t *testing.T) {
	for fuse := range 12 {
		for pick := range 3 {
			w := fresh(t, 2)
			b := newBook()
			req := uint64(0)
			w.Do(ask(1, node(0, 1000)))
			w.Do(api.Step{Do: api.StFuse, Who: 1, N: fuse})
			for k := range 30 {
				req++
				s := ask(1, take(a, int64(k+1), req))
				b.say(t, s, w.Do(s))
				if k%3 == 0 {
					w.Do(step(api.StTick, 1))
					w.Do(step(api.StDeliver, 0))
				}
				w.Do(api.Step{Do: api.StOn, Who: 1, Picks: []int{pick, 40 * k}})
				b.known(t, w)
			}
			if k, _ := w.Calm(50); k == 50 || !w.Agree() || !w.Bound() {
				t.Error("W3: Calm")
			}
			settled(t, w)
		}
	}
}
