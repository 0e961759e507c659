package trace

import (
	"leat/api"
	"leat/octet"
)

const (
	mostPlace  = 255     // of Who, J, K and To
	mostN      = 1 << 30 // of N
	mostAmount = 1 << 60
	mostPicks  = 255
	mostPick   = 254
)

// May tells whether a step may be.
func May(s api.Step) bool {
	if s.Do < api.StAsk || s.Do > api.StLeave || s.A.Kind > api.EvLeave || len(s.Picks) > mostPicks {
		return false
	}
	if !upTo(mostPlace, s.Who, s.J, s.K, s.A.To) || !upTo(mostN, s.N) || !upTo(mostPick, s.Picks...) {
		return false
	}
	return s.A.Amount >= -1 && s.A.Amount <= mostAmount
}

// Put tells a step's bytes.
func Put(s api.Step) []byte {
	if !May(s) {
		return nil
	}
	// What may be -1 is written as one more.
	var b []byte
	put := func(n uint64, size int) {
		more, _ := octet.Put(nil, n, size)
		b = append(b, more...)
	}
	put(uint64(s.Do), 1)
	for _, n := range []int{s.Who, s.J, s.K} {
		put(uint64(n+1), 2)
	}
	put(uint64(s.N+1), 4)
	put(uint64(s.A.Kind), 1)
	put(s.A.Node, 8)
	put(uint64(s.A.To+1), 2)
	put(uint64(s.A.Amount+1), 8)
	put(s.A.Req, 8)
	put(s.A.Of, 8)
	put(uint64(len(s.Picks)), 1)
	for _, n := range s.Picks {
		put(uint64(n+1), 1)
	}
	return b
}

// Get tells the step whose bytes b are.
func Get(b []byte) (api.Step, api.Errno) {
	at, failed := 0, false
	take := func(size int) uint64 {
		n, next, e := octet.Take(b, at, size)
		failed = failed || e != api.OK
		at = next
		return n
	}
	var s api.Step
	s.Do = uint8(take(1))
	for _, n := range []*int{&s.Who, &s.J, &s.K} {
		*n = int(take(2)) - 1
	}
	s.N = int(take(4)) - 1
	s.A.Kind = uint8(take(1))
	s.A.Node = take(8)
	s.A.To = int(take(2)) - 1
	s.A.Amount = int64(take(8)) - 1
	s.A.Req = take(8)
	s.A.Of = take(8)
	for range take(1) {
		s.Picks = append(s.Picks, int(take(1))-1)
	}
	if failed || at != len(b) || !May(s) {
		return api.Step{}, api.ErrBytes
	}
	return s, api.OK
}

// upTo tells whether all of l are from -1 to most.
func upTo(most int, l ...int) bool {
	for _, n := range l {
		if n < -1 || n > most {
			return false
		}
	}
	return true
}
