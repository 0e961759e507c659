package snap

import (
	"leat/api"
	"leat/octet"
)

const (
	mark      = "LSNP"
	sumSize   = 4
	countSize = 2
	wide      = 8 // the size of most numbers
	in, left  = 1, 2
)

// writer puts numbers behind its bytes.
type writer struct {
	b []byte
}

// reader takes numbers off its bytes.
type reader struct {
	b  []byte
	at int
}

// number puts n behind, and tells it.
func (w *writer) number(n uint64, size int) uint64 {
	b, _ := octet.Put(nil, n, size)
	w.b = append(w.b, b...)
	return n
}

// number tells the next number, whatever n was; 0, if there is none.
func (r *reader) number(n uint64, size int) uint64 {
	n, next, e := octet.Take(r.b, r.at, size)
	if e == api.OK {
		r.at = next
	}
	return n
}

// walk goes through all of a state in the order of its bytes: each number is handed out, and becomes what comes back. So one walk writes, and reads.
func walk(s *api.State, number func(n uint64, size int) uint64) {
	all := func(n uint64) uint64 { return number(n, wide) }
	for i := range s.In {
		n := number(flags(s.In[i], s.Left[i]), 1)
		s.In[i], s.Left[i] = n&in != 0, n&left != 0
	}
	row(s.Known[:], all)
	s.Nodes = sized(s.Nodes, int(number(uint64(len(s.Nodes)), countSize)), api.MaxNodes)
	for k := range s.Nodes {
		n := &s.Nodes[k]
		n.Id, n.Parent = all(n.Id), all(n.Parent)
		row(n.R.G[:], all)
		row(n.R.C[:], all)
		row(n.R.F[:], all)
		for i := range n.R.R {
			row(n.R.R[i][:], all)
		}
	}
	s.Grants = sized(s.Grants, int(number(uint64(len(s.Grants)), countSize)), MaxGrants)
	for k := range s.Grants {
		g := &s.Grants[k]
		g.Origin = int(number(uint64(g.Origin), 1))
		g.Req, g.Node = all(g.Req), all(g.Node)
		g.Amount = int64(all(uint64(g.Amount)))
		g.By = all(g.By)
	}
}

// row hands out each number of a row, and puts what comes back in its place.
func row[N int64 | uint64](l []N, turn func(n uint64) uint64) {
	for i, n := range l {
		l[i] = N(turn(uint64(n)))
	}
}

// sized is l, or, where n says another length, a list of so many, but most at most.
func sized[T any](l []T, n, most int) []T {
	if n == len(l) {
		return l
	}
	return make([]T, min(n, most))
}

// flags tells a region's byte.
func flags(isIn, hasLeft bool) uint64 {
	n := uint64(0)
	if isIn {
		n |= in
	}
	if hasLeft {
		n |= left
	}
	return n
}
