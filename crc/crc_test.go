package crc_test

import (
	"hash/crc32"
	"testing"

	"leat/crc"
)

// bits tells the sum by the chapter's own words, a step a bit.
func bits(b []byte) uint32 {
	s := uint32(0xffffffff)
	for _, c := range b {
		for i := range 8 {
			y := (s ^ uint32(c>>i)) & 1
			s >>= 1
			if y == 1 {
				s ^= 0xedb88320
			}
		}
	}
	return ^s
}

// some makes n bytes that are the same each time.
func some(n int, seed uint32) []byte {
	b := make([]byte, n)
	for i := range b {
		seed = seed*1664525 + 1013904223
		b[i] = byte(seed >> 24)
	}
	return b
}

func TestSum(t *testing.T) {
	for _, c := range []struct {
		b    string
		want uint32
	}{
		{"", 0},
		{"a", 0xe8b7be43},
		{"123456789", 0xcbf43926},
		{"\x00", 0xd202ef8d},
		{"\xff", 0xff000000},
		{"\x00\x00\x00\x00", 0x2144df1c},
		{"abc", 0x352441c2},
	} {
		if got := crc.Sum([]byte(c.b)); got != c.want {
			t.Errorf("P2.1: Sum of %q: %08x", c.b, got)
		}
	}
	if got := crc.Sum(nil); got != 0 {
		t.Errorf("P2.1: Sum of nothing: %08x", got)
	}
	for n := range 300 {
		b := some(n, uint32(n))
		if got := crc.Sum(b); got != bits(b) || got != crc32.ChecksumIEEE(b) {
			t.Errorf("P2.1: Sum of %x: %08x", b, got)
		}
	}
}

func TestMore(t *testing.T) {
	if got := crc.More(0xcbf43926, nil); got != 0xcbf43926 {
		t.Errorf("P2.1: More of nothing: %08x", got)
	}
	if got := crc.More(0, []byte("a")); got != 0xe8b7be43 {
		t.Errorf("P2.1: More of 0: %08x", got)
	}
	for _, sum := range []uint32{0, 1, 0xffffffff, 0xdeadbeef} {
		b := some(20, sum)
		if got := crc.More(sum, b); got != crc32.Update(sum, crc32.IEEETable, b) {
			t.Errorf("P2.1: More of %08x: %08x", sum, got)
		}
	}
	b := some(50, 9)
	for i := range b {
		for j := i; j < len(b); j++ {
			if got := crc.More(crc.More(crc.Sum(b[:i]), b[i:j]), b[j:]); got != crc.Sum(b) {
				t.Errorf("P2.3: in parts of %d, %d: %08x", i, j, got)
			}
		}
	}
}

func TestTurn(t *testing.T) {
	for _, sum := range []uint32{0, 1, 0xffffffff, 0xcbf43926, 0x80000000} {
		for _, n := range []int{-1 << 63, -2, -1, 0, 1, 2, 3, 4, 7, 8, 63, 64, 65, 1000, 65536} {
			want := sum
			if n > 0 {
				want = crc.More(sum, make([]byte, n))
			}
			if got := crc.Turn(sum, n); got != want {
				t.Errorf("P2.2: Turn of %08x, %d: %08x, not %08x", sum, n, got, want)
			}
		}
	}
	// The least power that turns every number back to itself is 2^32 - 1: such long rows of noughts can be told without going through them.
	for _, sum := range []uint32{5, 0xcbf43926} {
		if got := crc.Turn(sum, 1<<32-1); got != sum {
			t.Errorf("P2.2: Turn of %08x, 2^32 - 1: %08x", sum, got)
		}
		if got, want := crc.Turn(sum, 1<<40), crc.Turn(sum, 1<<8); got != want {
			t.Errorf("P2.2: Turn of %08x, 2^40: %08x, not %08x", sum, got, want)
		}
		if got, want := crc.Turn(sum, 1<<40-3), crc.Turn(crc.Turn(sum, 1<<39), 1<<39-3); got != want {
			t.Errorf("P2.2: Turn of %08x, 2^40 - 3: %08x, not %08x", sum, got, want)
		}
	}
}

func TestJoin(t *testing.T) {
	a, b := crc.Sum([]byte("1234")), crc.Sum([]byte("56789"))
	if got := crc.Join(a, b, 5); got != 0xcbf43926 {
		t.Errorf("P2.2: Join: %08x", got)
	}
	for i := range 60 {
		x, y := some(i, 3), some(59-i, 4)
		want := crc.Sum(append(append([]byte{}, x...), y...))
		if got := crc.Join(crc.Sum(x), crc.Sum(y), len(y)); got != want {
			t.Errorf("P2.2: Join of %d and %d bytes: %08x, not %08x", len(x), len(y), got, want)
		}
	}
	for _, c := range []struct {
		a, b uint32
		long int
	}{{1, 2, 3}, {0xffffffff, 0, 9}, {0, 0xffffffff, 1 << 40}, {7, 8, 0}, {7, 8, -1}, {7, 8, -1 << 63}} {
		want := crc.Turn(c.a, c.long) ^ crc.Turn(0, c.long) ^ c.b
		if got := crc.Join(c.a, c.b, c.long); got != want {
			t.Errorf("P2.2: Join of %08x, %08x, %d: %08x, not %08x", c.a, c.b, c.long, got, want)
		}
	}
	if got := crc.Join(7, 8, -5); got != crc.Join(7, 8, 0) || got != 15 {
		t.Errorf("P2.2: Join of long below 0: %08x", got)
	}
}

func TestTurnedBytesAreKnown(t *testing.T) {
	b := some(24, 77)
	sum := crc.Sum(b)
	for at := range len(b) * 8 {
		for _, row := range []uint32{1, 3, 0x80000001, 0xffffffff, 0xedb88320, 0x04c11db7, 0x12345679} {
			c := append([]byte{}, b...)
			whole := true
			for i := range 32 {
				if row>>i&1 == 1 {
					if at+i >= len(c)*8 {
						whole = false
						break
					}
					c[(at+i)/8] ^= 1 << ((at + i) % 8)
				}
			}
			if whole && crc.Sum(c) == sum {
				t.Errorf("P2.3: bits %08x turned at %d have the same Sum", row, at)
			}
		}
	}
}

func TestNotTurned(t *testing.T) {
	b := []byte("abc")
	crc.Sum(b)
	crc.More(3, b)
	if string(b) != "abc" {
		t.Errorf("R3: %q", b)
	}
}
