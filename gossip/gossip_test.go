package gossip_test

import (
	"slices"
	"testing"

	"leat/api"
	"leat/gossip"
	"leat/origin"
	"leat/vector"
)

// vec makes a vector of its first numbers.
func vec(l ...uint64) (v api.Vector) {
	copy(v[:], l)
	return v
}

func TestExample(t *testing.T) {
	p := gossip.New()
	if e, e2 := p.Told(2, vec(3, 1)), p.Told(2, vec(1, 4)); e != api.OK || e2 != api.OK {
		t.Error("P17.1: ", e, e2)
	}
	if got := p.Of(2); got != vec(3, 4) {
		t.Errorf("P17.1: %v", got)
	}
	if got := p.Least([]int{2, 3}); got != vec() {
		t.Errorf("P17.2: %v", got)
	}
}

func TestToldAndOf(t *testing.T) {
	p := gossip.New()
	for j := -1; j <= api.MaxRegions+1; j++ {
		if got := p.Of(j); got != vec() {
			t.Errorf("P17.1: Of %d of a new one: %v", j, got)
		}
	}
	for _, j := range []int{0, -1, 7, 1 << 40} {
		if e := p.Told(j, vec(1)); e != api.ErrRegion {
			t.Errorf("P17.1: Told of %d: %d", j, e)
		}
	}
	for j := 1; j <= api.MaxRegions; j++ {
		if e := p.Told(j, vec(uint64(j), 9, 1<<64-1)); e != api.OK {
			t.Errorf("P17.1: Told of %d: %d", j, e)
		}
	}
	p.Told(3, vec(2, 8, 0, 5))
	for j := 1; j <= api.MaxRegions; j++ {
		want := vec(uint64(j), 9, 1<<64-1)
		if j == 3 {
			want[3] = 5
		}
		if got := p.Of(j); got != want {
			t.Errorf("P17.1: Of %d: %v", j, got)
		}
	}
	if p.Of(0) != vec() || p.Of(7) != vec() || p.Of(-5) != vec() {
		t.Error("P17.1: Of what is no region")
	}
}

func TestLeast(t *testing.T) {
	p := gossip.New()
	p.Told(1, vec(5, 3, 1, 9))
	p.Told(2, vec(4, 4, 1, 8))
	p.Told(6, vec(6, 2, 7, 7, 1))
	for _, c := range []struct {
		l    []int
		want api.Vector
	}{
		{nil, vec()}, {[]int{1}, vec(5, 3, 1, 9)}, {[]int{1, 2}, vec(4, 3, 1, 8)}, {[]int{6, 2, 1, 1}, vec(4, 2, 1, 7)}, {[]int{1, 3}, vec()},
		{[]int{1, 0}, vec()}, {[]int{7, 1}, vec()}, {[]int{-1}, vec()}, {[]int{6, 6}, vec(6, 2, 7, 7, 1)},
	} {
		if got := p.Least(c.l); got != c.want {
			t.Errorf("P17.2: Least of %v: %v", c.l, got)
		}
		for _, j := range c.l {
			if !vector.Less(p.Least(c.l), p.Of(j)) {
				t.Errorf("P17.3: Least of %v is not less than Of %d", c.l, j)
			}
		}
	}
}

func TestLacks(t *testing.T) {
	l := origin.New()
	var all []api.Event
	for seq := uint64(1); seq < 6; seq++ {
		e := api.Event{Origin: 1, Seq: seq, Deps: vec(seq - 1), Kind: api.EvNode}
		l.Add(e)
		all = append(all, e)
	}
	p := gossip.New()
	p.Told(2, vec(3))
	for _, c := range []struct {
		j, most int
		want    []api.Event
	}{{2, 9, all[3:]}, {2, 1, all[3:4]}, {2, 0, nil}, {2, -1, nil}, {3, 2, all[:2]}, {7, 9, all}, {0, 9, all}} {
		if got := p.Lacks(c.j, l, c.most); !slices.Equal(got, c.want) {
			t.Errorf("P17.2: Lacks of %d, %d: %v", c.j, c.most, got)
		}
	}
	if got := p.Lacks(2, nil, 9); len(got) != 0 {
		t.Errorf("P17.2: of no log: %v", got)
	}
	var none *gossip.Peers
	if none.Told(9, vec()) != api.ErrNil || none.Of(2) != vec() || none.Least([]int{2}) != vec() || len(none.Lacks(2, l, 9)) != 0 {
		t.Error("P17.2: of no peers")
	}
}

func TestNeverFalls(t *testing.T) {
	p, seed := gossip.New(), uint32(5)
	for range 300 {
		var v api.Vector
		for i := range v {
			seed = seed*1664525 + 1013904223
			v[i] = uint64(seed>>8) % 50
		}
		j := int(seed>>8)%api.MaxRegions + 1
		was, least := p.Of(j), p.Least([]int{1, 2, 3})
		p.Told(j, v)
		if !vector.Less(was, p.Of(j)) || !vector.Less(v, p.Of(j)) || !vector.Less(least, p.Least([]int{1, 2, 3})) {
			t.Errorf("P17.3: Told of %v: %v, behind %v", v, p.Of(j), was)
		}
	}
}
