package frame_test

import (
	"bytes"
	"hash/crc32"
	"testing"

	"leat/api"
	"leat/frame"
)

// framed tells a record's frame by the chapter's own words.
func framed(record []byte) []byte {
	n := []byte{byte(len(record) >> 24), byte(len(record) >> 16), byte(len(record) >> 8), byte(len(record))}
	s := crc32.ChecksumIEEE(append(bytes.Clone(n), record...))
	return append(append(n, byte(s>>24), byte(s>>16), byte(s>>8), byte(s)), record...)
}

// records makes n records of many lengths.
func records(n int) [][]byte {
	var l [][]byte
	for i := range n {
		l = append(l, bytes.Repeat([]byte{byte(i + 1)}, i*5%17))
	}
	return l
}

// same tells whether two lists have the same records.
func same(a, b [][]byte) bool {
	if len(a) != len(b) {
		return false
	}
	for i := range a {
		if !bytes.Equal(a[i], b[i]) {
			return false
		}
	}
	return true
}

func TestPut(t *testing.T) {
	if frame.Head != 8 {
		t.Error("P3.1: Head is ", frame.Head)
	}
	got, e := frame.Put(nil, []byte("a"))
	if !bytes.Equal(got, framed([]byte("a"))) || e != api.OK || string(got[:4]) != "\x00\x00\x00\x01" || got[8] != 'a' {
		t.Errorf("P3.1: Put of a: %x, %d", got, e)
	}
	for n := range 12 {
		want := []byte("ahead")
		for _, r := range records(n) {
			want = append(want, framed(r)...)
		}
		if got, e := frame.Put([]byte("ahead"), records(n)...); !bytes.Equal(got, want) || e != api.OK {
			t.Errorf("P3.1: Put of %d: %x, %d", n, got, e)
		}
	}
	long := make([]byte, api.MaxRecord+1)
	if got, e := frame.Put([]byte("x"), long[1:]); !bytes.Equal(got, append([]byte("x"), framed(long[1:])...)) || e != api.OK {
		t.Errorf("P3.1: Put of MaxRecord bytes: %d, %d", len(got), e)
	}
	for _, l := range [][][]byte{{long}, {[]byte("a"), long}, {long, []byte("a")}} {
		if got, e := frame.Put([]byte("x"), l...); len(got) != 0 || e != api.ErrMany {
			t.Errorf("P3.1: Put of MaxRecord bytes and one: %x, %d", got, e)
		}
	}
}

func TestTake(t *testing.T) {
	a := framed([]byte("abc"))
	long := framed(make([]byte, api.MaxRecord))
	none := framed(make([]byte, api.MaxRecord+1))
	for i, c := range []struct {
		b    []byte
		at   int
		want string
		next int
		e    api.Errno
	}{
		{a, 0, "abc", 11, api.OK},
		{append([]byte("??"), a...), 2, "abc", 13, api.OK},
		{append(bytes.Clone(a), "behind"...), 0, "abc", 11, api.OK},
		{framed(nil), 0, "", 8, api.OK},
		{long, 0, string(long[8:]), len(long), api.OK},
		{none, 0, "", 0, api.ErrBytes},
		{a, 1, "", 0, api.ErrBytes},
		{a, 11, "", 0, api.ErrBytes},
		{a, 12, "", 0, api.ErrArg},
		{a, -1, "", 0, api.ErrArg},
		{nil, 0, "", 0, api.ErrBytes},
		{nil, 1, "", 0, api.ErrArg},
		{a[:10], 0, "", 0, api.ErrBytes},
		{a[:8], 0, "", 0, api.ErrBytes},
		{a[:7], 0, "", 0, api.ErrBytes},
		{a[:3], 0, "", 0, api.ErrBytes},
		{make([]byte, 8), 0, "", 0, api.ErrBytes},
		{bytes.Repeat([]byte{0xff}, 20), 0, "", 0, api.ErrBytes},
	} {
		got, next, e := frame.Take(c.b, c.at)
		if string(got) != c.want || next != c.next || e != c.e {
			t.Errorf("P3.1: Take %d: %x, %d, %d", i, got, next, e)
		}
	}
	for at := range a {
		for bit := range 8 {
			b := append(bytes.Clone(a), bytes.Repeat([]byte{0}, 300)...)
			b[at] ^= 1 << bit
			if got, next, e := frame.Take(b, 0); len(got) != 0 || next != 0 || e != api.ErrBytes {
				t.Errorf("P3.1: Take with the bit %d of the byte %d turned: %x, %d, %d", bit, at, got, next, e)
			}
		}
	}
}

func TestReader(t *testing.T) {
	l := records(5)
	b, _ := frame.Put(nil, l...)
	b = append(b, "???"...)
	r := frame.New(b)
	if r.At() != 0 {
		t.Error("P3.2: At of a new one: ", r.At())
	}
	at := 0
	for i := range l {
		got, ok := r.Next()
		at += frame.Head + len(l[i])
		if !ok || !bytes.Equal(got, l[i]) || r.At() != at {
			t.Errorf("P3.2: Next %d: %x, %v, %d", i, got, ok, r.At())
		}
	}
	for range 2 {
		if got, ok := r.Next(); ok || len(got) != 0 || r.At() != at {
			t.Errorf("P3.2: Next at the end: %x, %v, %d", got, ok, r.At())
		}
	}
	var none *frame.Reader
	if got, ok := none.Next(); ok || len(got) != 0 || none.At() != 0 {
		t.Errorf("P3.2: of no reader: %x, %v, %d", got, ok, none.At())
	}
	if got, ok := frame.New(nil).Next(); ok || len(got) != 0 {
		t.Errorf("P3.2: of no bytes: %x, %v", got, ok)
	}
}

func TestReaderHasItsOwnMemory(t *testing.T) {
	b, _ := frame.Put(nil, []byte("ab"), []byte("cd"))
	r := frame.New(b)
	clear(b)
	first, ok := r.Next()
	if string(first) != "ab" || !ok {
		t.Errorf("P3.2: %q, %v", first, ok)
	}
	first = append(first[:0], "!!!!!!!!!!!!"...)
	if second, ok := r.Next(); string(second) != "cd" || !ok {
		t.Errorf("P3.2: %q, %v", second, ok)
	}
	room := []byte("abcdefghijklmnopqrstuvwxyz")
	frame.Put(room[:1], []byte("?"))
	if string(room) != "abcdefghijklmnopqrstuvwxyz" {
		t.Errorf("R3: %q", room)
	}
	c := framed([]byte("abc"))
	got, _, _ := frame.Take(c, 0)
	got[0] = '!'
	if c[8] != 'a' {
		t.Errorf("P3.1: what was taken shares memory: %q", c)
	}
}

func TestAll(t *testing.T) {
	a := framed([]byte("a"))
	if l, at := frame.All(a[:8]); len(l) != 0 || at != 0 {
		t.Errorf("P3.2: All without the last byte: %q, %d", l, at)
	}
	two := append(bytes.Clone(a), a...)
	two[len(two)-1] ^= 1
	if l, at := frame.All(two); len(l) != 1 || string(l[0]) != "a" || at != 9 {
		t.Errorf("P3.2: All of two, the last byte turned: %q, %d", l, at)
	}
	if l, at := frame.All(nil); len(l) != 0 || at != 0 {
		t.Errorf("P3.2: All of nothing: %q, %d", l, at)
	}
}

func TestAllOfWhatWasCut(t *testing.T) {
	l := records(9)
	b, _ := frame.Put(nil, l...)
	for cut := range len(b) + 1 {
		n, end := 0, 0
		for n < len(l) && end+frame.Head+len(l[n]) <= cut {
			end += frame.Head + len(l[n])
			n++
		}
		got, at := frame.All(b[:cut])
		if !same(got, l[:n]) || at != end {
			t.Errorf("P3.3: cut at %d: %d records, %d", cut, len(got), at)
		}
		again, e := frame.Put(nil, got...)
		if !bytes.Equal(again, b[:at]) || e != api.OK {
			t.Errorf("P3.3: cut at %d: put again: %x, %d", cut, again, e)
		}
		junk := append(bytes.Clone(b[:cut]), "\xff\xff\xff\xff\xff\xff"...)
		if got, at := frame.All(junk); !same(got, l[:n]) || at != end {
			t.Errorf("P3.3: cut at %d, other bytes behind: %d records, %d", cut, len(got), at)
		}
	}
}
