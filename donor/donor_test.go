package donor_test

import (
	"testing"

	"leat/api"
	"leat/donor"
)

func TestShare(t *testing.T) {
	for _, c := range []struct{ local, want, share int64 }{
		{10, 3, 3}, {10, 100, 5}, {1, 1, 1}, {10, 5, 5}, {10, 6, 5}, {11, 6, 6}, {11, 7, 6}, {2, 2, 1}, {3, 3, 2}, {1, api.MaxAmount, 1}, {api.MaxAmount, 1, 1},
		{api.MaxAmount, api.MaxAmount, api.MaxAmount / 2}, {api.MaxAmount - 1, api.MaxAmount, api.MaxAmount / 2},
		{0, 1, 0}, {1, 0, 0}, {-1, 5, 0}, {5, -1, 0}, {-1, -1, 0}, {api.MaxAmount + 1, 5, 0}, {5, api.MaxAmount + 1, 0}, {1<<63 - 1, 1, 0}, {1, 1<<63 - 1, 0}, {-1 << 63, 1, 0}, {1, -1 << 63, 0},
	} {
		if got := donor.Share(c.local, c.want); got != c.share {
			t.Errorf("P14.1: Share of %d, %d: %d", c.local, c.want, got)
		}
	}
}

func TestAllIsGiven(t *testing.T) {
	for _, n := range []int64{1, 2, 3, 7, 100, 1<<40 + 1, api.MaxAmount - 1, api.MaxAmount} {
		left, times := n, 0
		for left > 0 && times < 100 {
			left -= donor.Share(left, n)
			times++
		}
		if left != 0 || times > 64 {
			t.Errorf("P14.3: of %d %d are left, by %d shares", n, left, times)
		}
	}
}

// state has one node, 9, with these rights of the regions, all of which are in, before others.
func state(l ...int64) api.State {
	s := api.State{In: [api.MaxRegions]bool{true, true, true, true, true, true}, Nodes: []api.Node{{Id: 8}, {Id: 9}, {Id: 9}}}
	copy(s.Nodes[1].R.G[:], l)
	return s
}

func TestWhom(t *testing.T) {
	bad := state(5, 9)
	bad.Nodes[1].R.C[2] = 1
	out := state(5, 9, 9, 2)
	out.In[1], out.Left[2] = false, true
	moved := state(5, 9)
	moved.Nodes[1].R.R[1][3] = 8
	for n, c := range []struct {
		s    api.State
		i    int
		node uint64
		want int
	}{
		{state(5, 9, 9, 2), 1, 9, 2},
		{state(5, 9, 9, 2), 2, 9, 3},
		{state(5, 9, 9, 2), 3, 9, 2},
		{state(5, 9, 9, 2), 0, 9, 2},
		{state(5, 9, 9, 2), 77, 9, 2},
		{state(5, 9, 9, 2), 1, 8, 0},
		{state(5, 9, 9, 2), 1, 7, 0},
		{state(0, 0, 0, 0, 0, 1), 1, 9, 6},
		{state(0, 0, 0, 0, 0, 1), 6, 9, 0},
		{state(7, 7, 7, 7, 7, 7), 1, 9, 2},
		{state(7, 7, 7, 7, 7, 7), 4, 9, 1},
		{state(), 1, 9, 0},
		{bad, 1, 9, 0},
		{out, 4, 9, 1},
		{out, 1, 9, 4},
		{moved, 1, 9, 4},
		{moved, 4, 9, 1},
		{api.State{}, 1, 9, 0},
	} {
		if got := donor.Whom(c.s, c.i, c.node); got != c.want {
			t.Errorf("P14.2: %d: Whom of %d, %d: %d, not %d", n, c.i, c.node, got, c.want)
		}
	}
}
