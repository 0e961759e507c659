package tree_test

import (
	"slices"
	"testing"

	"leat/api"
	"leat/tree"
)

func TestId(t *testing.T) {
	for _, c := range []struct {
		origin    int
		seq, want uint64
	}{{1, 1, 1<<40 + 1}, {6, 7, 6<<40 + 7}, {2, api.MaxSeq - 1, 2<<40 + api.MaxSeq - 1}, {2, api.MaxSeq, 0}, {2, 1<<64 - 1, 0}, {2, 0, 0}, {0, 1, 0}, {7, 1, 0}, {-1, 1, 0}, {1 << 30, 1, 0}} {
		if got := tree.Id(c.origin, c.seq); got != c.want {
			t.Errorf("P9.1: Id of %d, %d: %d", c.origin, c.seq, got)
		}
	}
}

func TestExample(t *testing.T) {
	r := tree.New()
	if len(r.List()) != 0 || r.Has(0) || r.Has(5) || len(r.Path(5)) != 0 || len(r.Below(5)) != 0 {
		t.Error("P9.1: a new one is not of no node")
	}
	if e, e2, e3 := r.Add(5, 0), r.Add(6, 5), r.Add(7, 9); e != api.OK || e2 != api.OK || e3 != api.ErrNode {
		t.Errorf("P9.2: %d, %d, %d", e, e2, e3)
	}
	if p, b := r.Path(6), r.Below(5); !slices.Equal(p, []uint64{6, 5}) || !slices.Equal(b, []uint64{5, 6}) {
		t.Errorf("P9.3: %v, %v", p, b)
	}
}

func TestAdd(t *testing.T) {
	r := tree.New()
	for i, c := range []struct {
		id, parent uint64
		e          api.Errno
	}{
		{0, 0, api.ErrArg}, {0, 9, api.ErrArg}, {9, 9, api.ErrNode}, {9, 0, api.OK}, {9, 0, api.ErrAgain}, {9, 77, api.ErrAgain}, {9, 9, api.ErrAgain},
		{3, 9, api.OK}, {20, 3, api.OK}, {1, 20, api.OK}, {50, 1, api.ErrMany}, {1, 1, api.ErrAgain}, {50, 51, api.ErrNode}, {1<<64 - 1, 0, api.OK},
		{50, 20, api.OK}, {51, 50, api.ErrMany}, {51, 9, api.OK}, {0, 50, api.ErrArg},
	} {
		was := r.List()
		if e := r.Add(c.id, c.parent); e != c.e {
			t.Errorf("P9.2: %d: Add of %d, %d: %d, not %d", i, c.id, c.parent, e, c.e)
		}
		if c.e != api.OK && !slices.Equal(was, r.List()) {
			t.Errorf("P9.2: %d: an error turned the tree", i)
		}
	}
	for _, c := range []struct{ id, want []uint64 }{
		{[]uint64{9}, []uint64{9}}, {[]uint64{1}, []uint64{1, 20, 3, 9}}, {[]uint64{50}, []uint64{50, 20, 3, 9}}, {[]uint64{51}, []uint64{51, 9}}, {[]uint64{1<<64 - 1}, []uint64{1<<64 - 1}}, {[]uint64{0}, nil}, {[]uint64{2}, nil},
	} {
		if got := r.Path(c.id[0]); !slices.Equal(got, c.want) {
			t.Errorf("P9.3: Path of %d: %v", c.id, got)
		}
	}
	for id, want := range map[uint64][]uint64{9: {1, 3, 9, 20, 50, 51}, 3: {1, 3, 20, 50}, 20: {1, 20, 50}, 1: {1}, 51: {51}, 1<<64 - 1: {1<<64 - 1}, 0: nil, 2: nil} {
		if got := r.Below(id); !slices.Equal(got, want) {
			t.Errorf("P9.3: Below of %d: %v", id, got)
		}
		if r.Has(id) != (len(want) > 0) {
			t.Errorf("P9.3: Has of %d: %v", id, r.Has(id))
		}
	}
	if got := r.List(); !slices.Equal(got, []uint64{1, 3, 9, 20, 50, 51, 1<<64 - 1}) {
		t.Errorf("P9.3: List: %v", got)
	}
}

func TestMany(t *testing.T) {
	r := tree.New()
	for i := uint64(1); i <= api.MaxNodes; i++ {
		if e := r.Add(i, i/9); e != api.OK {
			t.Errorf("P9.2: Add of %d: %d", i, e)
		}
	}
	if e := r.Add(99, 0); e != api.ErrMany {
		t.Errorf("P9.2: one node more: %d", e)
	}
	if e := r.Add(99, 98); e != api.ErrNode {
		t.Errorf("P9.2: one node more, below none: %d", e)
	}
	if e := r.Add(3, 0); e != api.ErrAgain {
		t.Errorf("P9.2: a node again: %d", e)
	}
	if len(r.List()) != api.MaxNodes {
		t.Errorf("P9.2: %v", r.List())
	}
}

func TestNone(t *testing.T) {
	var r *tree.Tree
	if e := r.Add(0, 5); e != api.ErrNil {
		t.Error("P9.2: of no tree: ", e)
	}
	if r.Has(1) || len(r.Path(1)) != 0 || len(r.Below(1)) != 0 || len(r.List()) != 0 {
		t.Error("P9.3: of no tree")
	}
}

func TestOtherOrder(t *testing.T) {
	pairs := [][2]uint64{{8, 0}, {4, 8}, {6, 4}, {2, 4}, {9, 0}, {1, 9}, {3, 6}}
	orders := [][]int{{0, 1, 2, 3, 4, 5, 6}, {4, 5, 0, 1, 3, 2, 6}, {0, 4, 1, 5, 2, 6, 3}}
	var trees []*tree.Tree
	for _, o := range orders {
		r := tree.New()
		for _, k := range o {
			if e := r.Add(pairs[k][0], pairs[k][1]); e != api.OK {
				t.Error("P9.4: ", e)
			}
		}
		trees = append(trees, r)
	}
	for _, r := range trees {
		if !slices.Equal(r.List(), trees[0].List()) {
			t.Errorf("P9.4: List: %v", r.List())
		}
		for id := range uint64(11) {
			p := r.Path(id)
			if len(p) > api.MaxDepth || !slices.Equal(p, trees[0].Path(id)) || !slices.Equal(r.Below(id), trees[0].Below(id)) {
				t.Errorf("P9.4: of %d: %v, %v", id, p, r.Below(id))
			}
		}
	}
	p := trees[0].Path(3)
	p[0] = 99
	if !slices.Equal(trees[0].Path(3), []uint64{3, 6, 4, 8}) {
		t.Error("R3: what was answered is kept")
	}
}
