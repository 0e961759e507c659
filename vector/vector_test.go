package vector_test

import (
	"bytes"
	"testing"

	"leat/api"
	"leat/vector"
)

// vec makes a vector of its first numbers.
func vec(l ...uint64) (v api.Vector) {
	copy(v[:], l)
	return v
}

// some makes n vectors that are the same each time.
func some(n int) []api.Vector {
	seed := uint32(1)
	l := make([]api.Vector, n)
	for i := range l {
		for j := range l[i] {
			seed = seed*1664525 + 1013904223
			l[i][j] = uint64(seed>>8) % 5
		}
	}
	return l
}

func TestMay(t *testing.T) {
	if !vector.May(vec()) || !vector.May(vec(1, 2, 3, 4, 5, api.MaxSeq)) {
		t.Error("P6.1: May is false")
	}
	for i := range api.MaxRegions {
		for n, want := range map[uint64]bool{api.MaxSeq - 1: true, api.MaxSeq: true, api.MaxSeq + 1: false, 1<<64 - 1: false} {
			v := vec()
			v[i] = n
			if vector.May(v) != want {
				t.Errorf("P6.1: May of %v is %v", v, !want)
			}
		}
	}
}

func TestLess(t *testing.T) {
	a, b := vec(1, 2), vec(2, 1)
	if !vector.Less(a, vec(2, 2)) || vector.Less(b, a) || vector.Less(a, b) || !vector.Less(a, a) || !vector.Less(vec(), vec()) {
		t.Error("P6.1: Less")
	}
	for i := range api.MaxRegions {
		low, high := vec(5, 5, 5, 5, 5, 5), vec(5, 5, 5, 5, 5, 5)
		high[i] = 1<<64 - 1
		if !vector.Less(low, high) || vector.Less(high, low) {
			t.Error("P6.1: Less at the place ", i)
		}
	}
}

func TestJoinAndMeet(t *testing.T) {
	a, b := vec(1, 2), vec(2, 1)
	if got := vector.Join(a, b); got != vec(2, 2) {
		t.Errorf("P6.1: Join: %v", got)
	}
	if got := vector.Meet(a, b); got != vec(1, 1) {
		t.Errorf("P6.1: Meet: %v", got)
	}
	if vector.Join() != vec() || vector.Meet() != vec() {
		t.Error("P6.1: of none")
	}
	c := vec(9, 8, 7, 6, 1<<64-1, 4)
	if vector.Join(c) != c || vector.Meet(c) != c {
		t.Error("P6.1: of one")
	}
	if got := vector.Join(c, a, vec(0, 0, 99)); got != vec(9, 8, 99, 6, 1<<64-1, 4) {
		t.Errorf("P6.1: Join of three: %v", got)
	}
	if got := vector.Meet(c, vec(3, 9, 9, 9, 9, 9), vec(4, 4, 4, 9, 5, 9)); got != vec(3, 4, 4, 6, 5, 4) {
		t.Errorf("P6.1: Meet of three: %v", got)
	}
}

func TestJoinSaysNothingOfOrder(t *testing.T) {
	l := some(12)
	for _, a := range l {
		for _, b := range l {
			j := vector.Join(a, b)
			if !vector.Less(a, j) || !vector.Less(b, j) || j != vector.Join(b, a, b, a) || vector.Join(a, a) != a {
				t.Errorf("P6.5: Join of %v, %v: %v", a, b, j)
			}
			for _, c := range l {
				if vector.Less(a, c) && vector.Less(b, c) && !vector.Less(j, c) {
					t.Errorf("P6.5: %v is less than the Join of %v, %v", c, a, b)
				}
				if vector.Join(a, vector.Join(b, c)) != vector.Join(c, j) || vector.Join(a, b, c) != vector.Join(j, c) {
					t.Errorf("P6.5: Join of %v, %v, %v in brackets", a, b, c)
				}
			}
			for i := range api.MaxRegions + 2 {
				for seq := range uint64(6) {
					if vector.Less(a, b) && vector.Has(a, i, seq) && !vector.Has(b, i, seq) {
						t.Errorf("P6.5: Has of %v, not of %v: %d, %d", a, b, i, seq)
					}
				}
			}
		}
	}
}

func TestHas(t *testing.T) {
	v := vec(1, 2, 0, 0, 0, 7)
	for _, c := range []struct {
		origin int
		seq    uint64
		want   bool
	}{{2, 2, true}, {2, 1, true}, {2, 3, false}, {2, 0, false}, {1, 1, true}, {1, 2, false}, {3, 0, false}, {3, 1, false}, {6, 7, true}, {6, 8, false}, {7, 1, false}, {0, 1, false}, {-1, 1, false}, {1 << 40, 1, false}, {2, 1<<64 - 1, false}} {
		if got := vector.Has(v, c.origin, c.seq); got != c.want {
			t.Errorf("P6.2: Has of %d, %d: %v", c.origin, c.seq, got)
		}
	}
}

func TestNext(t *testing.T) {
	v := vec(1, 2, 0, api.MaxSeq-1, api.MaxSeq, 1<<64-1)
	for _, c := range []struct {
		origin int
		want   uint64
		e      api.Errno
	}{{1, 2, 0}, {2, 3, 0}, {3, 1, 0}, {4, api.MaxSeq, 0}, {5, 0, api.ErrMany}, {6, 0, api.ErrMany}, {7, 0, api.ErrRegion}, {0, 0, api.ErrRegion}, {-1, 0, api.ErrRegion}} {
		if got, e := vector.Next(v, c.origin); got != c.want || e != c.e {
			t.Errorf("P6.2: Next of %d: %d, %d", c.origin, got, e)
		}
	}
}

func TestWith(t *testing.T) {
	v := vec(1, 2, 3, 4, 5, 6)
	for _, c := range []struct {
		origin int
		seq    uint64
		want   api.Vector
		e      api.Errno
	}{
		{1, 9, vec(9, 2, 3, 4, 5, 6), 0},
		{6, 0, vec(1, 2, 3, 4, 5, 0), 0},
		{3, api.MaxSeq, vec(1, 2, api.MaxSeq, 4, 5, 6), 0},
		{3, api.MaxSeq + 1, vec(), api.ErrArg},
		{7, 1, vec(), api.ErrRegion},
		{0, 1, vec(), api.ErrRegion},
		{7, api.MaxSeq + 1, vec(), api.ErrRegion},
	} {
		if got, e := vector.With(v, c.origin, c.seq); got != c.want || e != c.e {
			t.Errorf("P6.2: With of %d, %d: %v, %d", c.origin, c.seq, got, e)
		}
	}
	if v != vec(1, 2, 3, 4, 5, 6) {
		t.Errorf("R3: %v", v)
	}
}

func TestLack(t *testing.T) {
	for _, c := range []struct {
		a, b api.Vector
		want uint64
	}{
		{vec(1, 2), vec(2, 2), 1},
		{vec(2, 2), vec(1, 2), 0},
		{vec(5, 0, 3), vec(1, 4, 7), 8},
		{vec(), vec(1, 2, 3, 4, 5, 6), 21},
		{vec(), vec(1<<64-1, 1<<64-1, 3), 1},
		{vec(1<<64 - 1), vec(), 0},
		{vec(), vec(), 0},
	} {
		if got := vector.Lack(c.a, c.b); got != c.want {
			t.Errorf("P6.3: Lack of %v, %v: %d", c.a, c.b, got)
		}
	}
}

func TestBytes(t *testing.T) {
	b := vector.Bytes(vec(1, 0x0102030405060708, 0, 0, 0, 1<<64-1))
	want := "\x00\x00\x00\x00\x00\x00\x00\x01\x01\x02\x03\x04\x05\x06\x07\x08" + string(make([]byte, 24)) + "\xff\xff\xff\xff\xff\xff\xff\xff"
	if string(b) != want {
		t.Errorf("P6.4: Bytes: %x", b)
	}
	if v, e := vector.Of(b); v != vec() || e != api.ErrBytes {
		t.Errorf("P6.4: Of what may not be: %v, %d", v, e)
	}
	for _, v := range append(some(20), vec(), vec(1, 2, 3, 4, 5, api.MaxSeq), vec(api.MaxSeq, 0x0102030405)) {
		b := vector.Bytes(v)
		if got, e := vector.Of(b); got != v || e != api.OK {
			t.Errorf("P6.5: %v is read as %v, %d", v, got, e)
		}
		for n := range len(b) {
			if got, e := vector.Of(b[:n]); got != vec() || e != api.ErrBytes {
				t.Errorf("P6.4: Of %d bytes: %v, %d", n, got, e)
			}
		}
		if got, e := vector.Of(append(bytes.Clone(b), 0)); got != vec() || e != api.ErrBytes {
			t.Errorf("P6.4: Of 49 bytes: %v, %d", got, e)
		}
	}
	for i := range api.MaxRegions {
		v := vec()
		v[i] = api.MaxSeq + 1
		if got, e := vector.Of(vector.Bytes(v)); got != vec() || e != api.ErrBytes {
			t.Errorf("P6.4: Of %v: %v, %d", v, got, e)
		}
	}
}
