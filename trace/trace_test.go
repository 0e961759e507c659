package trace_test

import (
	"bytes"
	"slices"
	"testing"

	"leat/api"
	"leat/trace"
)

// same tells whether two steps are the same.
func same(a, b api.Step) bool {
	return a.Do == b.Do && a.Who == b.Who && a.A == b.A && a.K == b.K && a.J == b.J && a.N == b.N && slices.Equal(a.Picks, b.Picks)
}

// sameState tells whether two states are the same.
func sameState(a, b api.State) bool {
	return a.In == b.In && a.Left == b.Left && a.Known == b.Known && slices.Equal(a.Nodes, b.Nodes) && slices.Equal(a.Grants, b.Grants)
}

// full is a step each field of which has a number of its own.
func full() api.Step {
	return api.Step{Do: api.StOn, Who: 2, J: 0x103 - 0x80, K: 4, N: 0x01020304, A: api.Ask{Kind: api.EvTake, Node: 0x1112131415161718, To: 5, Amount: 0x0122232425262728, Req: 0x3132333435363738, Of: 1<<64 - 1}, Picks: []int{6, -1, 254}}
}

// many are picks.
func many(n, x int) []int {
	l := make([]int, n)
	for i := range l {
		l[i] = x
	}
	return l
}

// turn is a step with something else in it, and whether it may be.
type turn struct {
	do  func(s *api.Step)
	may bool
}

func turns() []turn {
	var l []turn
	add := func(may bool, do func(s *api.Step)) { l = append(l, turn{do, may}) }
	for d := range 256 {
		add(d >= 1 && d <= 12, func(s *api.Step) { s.Do = uint8(d) })
		add(d <= 7, func(s *api.Step) { s.A.Kind = uint8(d) })
	}
	for n, may := range map[int]bool{-1 << 63: false, -2: false, -1: true, 0: true, 254: true, 255: true, 256: false, 1<<63 - 1: false, 65535: false, 65536: false} {
		add(may, func(s *api.Step) { s.Who = n })
		add(may, func(s *api.Step) { s.J = n })
		add(may, func(s *api.Step) { s.K = n })
		add(may, func(s *api.Step) { s.A.To = n })
		add(may && n != 255, func(s *api.Step) { s.Picks = []int{3, n} })
	}
	for n, may := range map[int]bool{-1 << 63: false, -2: false, -1: true, 0: true, 1 << 30: true, 1<<30 + 1: false, 1 << 32: false, 1<<32 - 1: false, 1<<63 - 1: false} {
		add(may, func(s *api.Step) { s.N = n })
	}
	for n, may := range map[int64]bool{-1 << 63: false, -2: false, -1: true, 0: true, 1 << 60: true, 1<<60 + 1: false, 1<<63 - 1: false} {
		add(may, func(s *api.Step) { s.A.Amount = n })
	}
	for n, may := range map[int]bool{0: true, 1: true, 254: true, 255: true, 256: false, 257: false, 1000: false} {
		add(may, func(s *api.Step) { s.Picks = many(n, 7) })
	}
	add(true, func(s *api.Step) { s.A.Node, s.A.Req, s.A.Of = 1<<64-1, 1<<64-1, 1<<64-1 })
	return l
}

// raw tells a step's bytes by the chapter's own words, also of what may not be.
func raw(s api.Step) []byte {
	var b []byte
	put := func(n uint64, size int) {
		for i := size - 1; i >= 0; i-- {
			b = append(b, byte(n>>(8*i)))
		}
	}
	put(uint64(s.Do), 1)
	put(uint64(s.Who+1), 2)
	put(uint64(s.J+1), 2)
	put(uint64(s.K+1), 2)
	put(uint64(s.N+1), 4)
	put(uint64(s.A.Kind), 1)
	put(s.A.Node, 8)
	put(uint64(s.A.To+1), 2)
	put(uint64(s.A.Amount+1), 8)
	put(s.A.Req, 8)
	put(s.A.Of, 8)
	put(uint64(len(s.Picks)), 1)
	for _, n := range s.Picks {
		put(uint64(n+1), 1)
	}
	return b
}

func TestSteps(t *testing.T) {
	want := "\x0b\x00\x03\x00\x84\x00\x05\x01\x02\x03\x05\x03\x11\x12\x13\x14\x15\x16\x17\x18\x00\x06\x01\x22\x23\x24\x25\x26\x27\x29\x31\x32\x33\x34\x35\x36\x37\x38\xff\xff\xff\xff\xff\xff\xff\xff\x03\x07\x00\xff"
	if b := trace.Put(full()); string(b) != want {
		t.Errorf("P29.1: Put: %x", b)
	}
	for _, from := range []api.Step{full(), {Do: api.StHeal}} {
		for k, c := range turns() {
			s := from
			c.do(&s)
			b := trace.Put(s)
			if trace.May(s) != c.may || c.may && !bytes.Equal(b, raw(s)) || !c.may && len(b) != 0 {
				t.Errorf("P29.1: %d: May of %v: %v, %x", k, s, trace.May(s), b)
			}
			if !c.may {
				continue
			}
			got, e := trace.Get(b)
			if !same(got, s) || e != api.OK || !bytes.Equal(trace.Put(got), b) {
				t.Errorf("P29.1: %v is got as %v, %d", s, got, e)
			}
			for _, n := range []int{0, 1, 7, len(b) / 2, len(b) - 1} {
				if got, e := trace.Get(b[:n]); !same(got, api.Step{}) || e != api.ErrBytes {
					t.Errorf("P29.1: Get of %d bytes: %v, %d", n, got, e)
				}
			}
			if got, e := trace.Get(append(bytes.Clone(b), 0)); !same(got, api.Step{}) || e != api.ErrBytes {
				t.Errorf("P29.1: Get of a byte more: %v, %d", got, e)
			}
		}
	}
	for at := range trace.Put(full()) {
		for _, x := range []byte{1, 2, 4, 8, 0x10, 0x80, 0xff} {
			b := trace.Put(full())
			b[at] ^= x
			s, e := trace.Get(b)
			if e == api.OK && (!trace.May(s) || !bytes.Equal(trace.Put(s), b)) || e != api.OK && (e != api.ErrBytes || !same(s, api.Step{})) {
				t.Errorf("P29.1: %x is got as %v, %d", b, s, e)
			}
		}
	}
}

func fresh(t *testing.T, n int) *trace.Trace {
	t.Helper()
	r, e := trace.New(n)
	if r == nil || e != api.OK {
		t.Fatal("P29.2: New: ", e)
	}
	return r
}

func TestExample(t *testing.T) {
	r := fresh(t, 2)
	x, e := r.Do(api.Step{Do: api.StAsk, Who: 1, A: api.Ask{Kind: api.EvNode, Amount: 10}})
	if want := (api.Answer{Made: api.Event{Origin: 1, Seq: 1, Kind: api.EvNode, Amount: 10}}); x != want || e != api.OK {
		t.Errorf("P29.2: %v, %d", x, e)
	}
	again, l, e := trace.Again(r.Bytes())
	if e != api.OK || len(l) != 1 || l[0] != x || again.Len() != 1 {
		t.Errorf("P29.3: %v, %d", l, e)
	}
}

func TestTrace(t *testing.T) {
	for _, n := range []int{0, -1, 7, 256, 257} {
		if r, e := trace.New(n); r != nil || e != api.ErrArg {
			t.Errorf("P29.2: New of %d: %v, %d", n, r, e)
		}
	}
	var none *trace.Trace
	if x, e := none.Do(api.Step{}); x != (api.Answer{}) || e != api.ErrNil || none.World() != nil || none.Len() != 0 || len(none.Bytes()) != 0 {
		t.Errorf("P29.2: of no trace: %v, %d", x, e)
	}
	for n := 1; n <= api.MaxRegions; n++ {
		r := fresh(t, n)
		if s, _ := r.World().Cluster().State(1); !s.In[n-1] || n < 6 && s.In[n] || r.Len() != 0 || !bytes.Equal(r.Bytes(), []byte{byte(n)}) {
			t.Errorf("P29.2: New of %d: %v, %x", n, s, r.Bytes())
		}
	}
	r := fresh(t, 2)
	for k, c := range turns() {
		s := full()
		c.do(&s)
		if c.may {
			continue
		}
		if x, e := r.Do(s); x != (api.Answer{}) || e != api.ErrArg || r.Len() != 0 || len(r.Bytes()) != 1 {
			t.Errorf("P29.2: %d: Do of %v: %v, %d", k, s, x, e)
		}
	}
	x, e := r.Do(api.Step{Do: api.StTick, Who: -1})
	x2, e2 := r.Do(api.Step{Do: api.StAsk, Who: 1, A: api.Ask{Kind: api.EvNode, Amount: -1}})
	if x.E != api.ErrRegion || e != api.OK || x2.E != api.ErrArg || e2 != api.OK || r.Len() != 2 {
		t.Errorf("P29.2: steps with errors are written down: %v, %d, %v, %d", x, e, x2, e2)
	}
	b := r.Bytes()
	if want := append([]byte{2, 0, 47}, raw(api.Step{Do: api.StTick, Who: -1})...); !bytes.Equal(b[:50], want) || b[50] != 0 || b[51] != 47 || len(b) != 99 {
		t.Errorf("P29.2: %x", b)
	}
	clear(b)
	if r.Bytes()[0] != 2 {
		t.Error("R3: Bytes")
	}
	picks := []int{1, 2}
	r.Do(api.Step{Do: api.StOn, Who: 1, Picks: picks})
	picks[0] = 9
	if b := r.Bytes(); b[len(b)-2] != 2 || b[len(b)-1] != 3 {
		t.Errorf("R3: %x", b)
	}
}

func TestFull(t *testing.T) {
	r := fresh(t, 1)
	for k := range trace.MostSteps {
		if _, e := r.Do(api.Step{Do: api.StHeal}); e != api.OK {
			t.Fatal("P29.2: ", k, e)
		}
	}
	if x, e := r.Do(api.Step{Do: api.StHeal}); x != (api.Answer{}) || e != api.ErrFull || r.Len() != trace.MostSteps || trace.MostSteps != 65536 {
		t.Error("P29.2: ", x, e)
	}
	if _, e := r.Do(api.Step{}); e != api.ErrArg {
		t.Error("P29.2: ", e)
	}
	b := r.Bytes()
	again, l, e := trace.Again(b)
	if e != api.OK || again.Len() != trace.MostSteps || len(l) != trace.MostSteps {
		t.Error("P29.3: ", e)
	}
	if got, e := trace.Upto(b, trace.MostSteps); e != api.OK || !bytes.Equal(got, b) {
		t.Error("P29.3: ", e)
	}
	b = append(b, b[1:50]...)
	if again, l, e := trace.Again(b); again != nil || len(l) != 0 || e != api.ErrBytes {
		t.Error("P29.3: of a step more: ", e)
	}
	if got, e := trace.Upto(b, 1); len(got) != 0 || e != api.ErrBytes {
		t.Error("P29.3: of a step more: ", e)
	}
}

// roll is a row of numbers that is the same each time.
func roll(seed *uint32, n int) int {
	*seed = *seed*1664525 + 1013904223
	return int(*seed>>8) % n
}

// some makes a step.
func some(seed *uint32) api.Step {
	who, n := roll(seed, 3)+1, uint64(roll(seed, 2)+1)<<40+uint64(roll(seed, 3)+1)
	x, req := int64(roll(seed, 9)+1), uint64(roll(seed, 30)+1)
	ask := func(a api.Ask) api.Step { return api.Step{Do: api.StAsk, Who: who, A: a} }
	switch roll(seed, 20) {
	case 0, 1:
		return ask(api.Ask{Kind: api.EvNode, Amount: 5 * x})
	case 2, 3, 4:
		return ask(api.Ask{Kind: api.EvTake, Node: n, Amount: x, Req: req})
	case 5:
		return ask(api.Ask{Kind: api.EvFree, Of: req, Req: req + 1})
	case 6:
		return ask(api.Ask{Kind: api.EvMove, Node: n, Amount: x, To: roll(seed, 4)})
	case 7:
		return api.Step{Do: api.StFuse, Who: who, N: roll(seed, 8) - 1}
	case 8, 9:
		return api.Step{Do: api.StOn, Who: who, Picks: []int{roll(seed, 5) - 1, roll(seed, 200)}}
	case 10:
		return api.Step{Do: api.StTime, N: roll(seed, 9) - 1}
	case 11:
		return api.Step{Do: uint8(roll(seed, 12) + 1), Who: roll(seed, 9) - 1, K: roll(seed, 9) - 1, J: roll(seed, 9) - 1}
	case 12, 13, 14, 15:
		return api.Step{Do: api.StTick, Who: who}
	}
	return api.Step{Do: api.StDeliver, K: roll(seed, 3)}
}

func TestAgainAndUpto(t *testing.T) {
	for seed := range uint32(20) {
		r := seed
		run := fresh(t, roll(&r, 3)+1)
		var answers []api.Answer
		at := []int{1}
		for range 120 {
			x, e := run.Do(some(&r))
			if e != api.OK {
				t.Fatal("P29.2: ", e)
			}
			answers = append(answers, x)
			at = append(at, len(run.Bytes()))
		}
		b := run.Bytes()
		again, l, e := trace.Again(b)
		if e != api.OK || !slices.Equal(l, answers) || !bytes.Equal(again.Bytes(), b) || again.Len() != run.Len() {
			t.Fatalf("P29.4: %v, %d", l, e)
		}
		for i := 1; i <= api.MaxRegions; i++ {
			s, up := run.World().Cluster().State(i)
			s2, up2 := again.World().Cluster().State(i)
			if up != up2 || !sameState(s, s2) {
				t.Errorf("P29.4: the region %d: %v, %v", i, s, s2)
			}
		}
		if again.World().Cluster().Way() != run.World().Cluster().Way() || again.World().Cluster().Now() != run.World().Cluster().Now() {
			t.Error("P29.4: the cluster")
		}
		for k := -1; k <= 121; k++ {
			got, e := trace.Upto(b, k)
			if k < 0 || k > 120 {
				if len(got) != 0 || e != api.ErrArg {
					t.Errorf("P29.3: Upto %d: %d", k, e)
				}
				continue
			}
			if !bytes.Equal(got, b[:at[k]]) || e != api.OK {
				t.Errorf("P29.3: Upto %d: %x, %d", k, got, e)
			}
		}
		part, _ := trace.Upto(b, 60)
		if _, l, e := trace.Again(part); !slices.Equal(l, answers[:60]) || e != api.OK {
			t.Errorf("P29.4: the first 60: %v, %d", l, e)
		}
	}
}

func TestNoRuns(t *testing.T) {
	r := fresh(t, 2)
	r.Do(full())
	r.Do(api.Step{Do: api.StHeal})
	b := r.Bytes()
	l := [][]byte{nil, {}, {0}, {7}, {255}, {2, 0}, {2, 0, 0}, {2, 0, 1, 1}, append(bytes.Clone(b), 0), append(bytes.Clone(b), 0, 0), append(bytes.Clone(b), 0, 47), append([]byte{0}, b[1:]...)}
	for n := range b {
		if n != 1 && n != 1+2+50 {
			l = append(l, b[:n])
		}
	}
	bad := bytes.Clone(b)
	bad[3] = 13
	l = append(l, bad)
	bad = bytes.Clone(b)
	bad[2]++
	l = append(l, bad)
	for _, b := range l {
		again, answers, e := trace.Again(b)
		if again != nil || len(answers) != 0 || e != api.ErrBytes {
			t.Errorf("P29.3: Again of %x: %d", b, e)
		}
		for _, k := range []int{-1, 0, 1} {
			if got, e := trace.Upto(b, k); len(got) != 0 || e != api.ErrBytes {
				t.Errorf("P29.3: Upto of %x: %x, %d", b, got, e)
			}
		}
	}
	got, _ := trace.Upto(b, 1)
	clear(got)
	if b[0] != 2 {
		t.Error("R3: Upto")
	}
}
