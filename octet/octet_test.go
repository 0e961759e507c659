package octet_test

import (
	"bytes"
	"testing"

	"leat/api"
	"leat/octet"
)

func TestPut(t *testing.T) {
	for _, c := range []struct {
		b    string
		n    uint64
		size int
		want string
		e    api.Errno
	}{
		{"", 258, 2, "\x01\x02", api.OK},
		{"", 258, 1, "", api.ErrMany},
		{"", 1, 3, "", api.ErrArg},
		{"ab", 0, 1, "ab\x00", api.OK},
		{"ab", 255, 1, "ab\xff", api.OK},
		{"ab", 256, 1, "", api.ErrMany},
		{"ab", 65535, 2, "ab\xff\xff", api.OK},
		{"ab", 65536, 2, "", api.ErrMany},
		{"ab", 0x01020304, 4, "ab\x01\x02\x03\x04", api.OK},
		{"ab", 1<<32 - 1, 4, "ab\xff\xff\xff\xff", api.OK},
		{"ab", 1 << 32, 4, "", api.ErrMany},
		{"ab", 0x0102030405060708, 8, "ab\x01\x02\x03\x04\x05\x06\x07\x08", api.OK},
		{"ab", 1<<64 - 1, 8, "ab\xff\xff\xff\xff\xff\xff\xff\xff", api.OK},
		{"ab", 1 << 63, 0, "", api.ErrArg},
		{"ab", 1 << 63, -1, "", api.ErrArg},
		{"ab", 1 << 63, -8, "", api.ErrArg},
		{"ab", 1, 5, "", api.ErrArg},
		{"ab", 1, 6, "", api.ErrArg},
		{"ab", 1, 7, "", api.ErrArg},
		{"ab", 1, 9, "", api.ErrArg},
		{"ab", 1, 16, "", api.ErrArg},
		{"ab", 300, 3, "", api.ErrArg},
	} {
		got, e := octet.Put([]byte(c.b), c.n, c.size)
		if string(got) != c.want || e != c.e {
			t.Errorf("P1.1: Put of %q, %d, %d: %x, %d", c.b, c.n, c.size, got, e)
		}
	}
}

func TestTake(t *testing.T) {
	for _, c := range []struct {
		b        string
		at, size int
		n        uint64
		next     int
		e        api.Errno
	}{
		{"\x01\x02", 0, 2, 258, 2, api.OK},
		{"\x01\x02\x03", 0, 1, 1, 1, api.OK},
		{"\x01\x02\x03", 1, 1, 2, 2, api.OK},
		{"\x01\x02\x03", 1, 2, 515, 3, api.OK},
		{"\x01\x02\x03", 2, 2, 0, 0, api.ErrBytes},
		{"\x01\x02\x03", 3, 1, 0, 0, api.ErrBytes},
		{"\x01\x02\x03", 4, 1, 0, 0, api.ErrArg},
		{"\x01\x02\x03", -1, 1, 0, 0, api.ErrArg},
		{"\x01\x02\x03", 0, 3, 0, 0, api.ErrArg},
		{"\x01\x02\x03", 0, 0, 0, 0, api.ErrArg},
		{"\x01\x02\x03", 3, 0, 0, 0, api.ErrArg},
		{"\x01\x02\x03", 0, -1, 0, 0, api.ErrArg},
		{"\x01\x02\x03", 0, 4, 0, 0, api.ErrBytes},
		{"\x01\x02\x03", 9, 9, 0, 0, api.ErrArg},
		{"", 0, 8, 0, 0, api.ErrBytes},
		{"?\xff\xfe\xfd\xfc?", 1, 4, 0xfffefdfc, 5, api.OK},
		{"?\xff\xfe\xfd\xfc\xfb\xfa\xf9\xf8?", 1, 8, 0xfffefdfcfbfaf9f8, 9, api.OK},
		{"\xff\xfe\xfd\xfc\xfb\xfa\xf9", 0, 8, 0, 0, api.ErrBytes},
		{"\x01", 1<<63 - 1, 1, 0, 0, api.ErrArg},
		{"\x01", -1 << 63, 8, 0, 0, api.ErrArg},
	} {
		n, next, e := octet.Take([]byte(c.b), c.at, c.size)
		if n != c.n || next != c.next || e != c.e {
			t.Errorf("P1.1: Take of %q, %d, %d: %d, %d, %d", c.b, c.at, c.size, n, next, e)
		}
	}
}

func TestPutString(t *testing.T) {
	for _, c := range []struct{ b, s, want string }{
		{"", "ab", "\x00\x00\x00\x02ab"},
		{"xy", "ab", "xy\x00\x00\x00\x02ab"},
		{"xy", "", "xy\x00\x00\x00\x00"},
		{"", "", "\x00\x00\x00\x00"},
	} {
		got, e := octet.PutString([]byte(c.b), []byte(c.s))
		if string(got) != c.want || e != api.OK {
			t.Errorf("P1.2: PutString of %q, %q: %x, %d", c.b, c.s, got, e)
		}
	}
	long := bytes.Repeat([]byte{7}, api.MaxDisk)
	got, e := octet.PutString([]byte("x"), long)
	if e != api.OK || len(got) != 5+api.MaxDisk || string(got[:5]) != "x\x00\x40\x00\x00" || !bytes.Equal(got[5:], long) {
		t.Errorf("P1.2: PutString of MaxDisk bytes: %d, %d", len(got), e)
	}
	if got, e := octet.PutString([]byte("x"), append(long, 7)); len(got) != 0 || e != api.ErrMany {
		t.Errorf("P1.2: PutString of MaxDisk bytes and one: %d, %d", len(got), e)
	}
}

func TestTakeString(t *testing.T) {
	for _, c := range []struct {
		b        string
		at, most int
		s        string
		next     int
		e        api.Errno
	}{
		{"\x00\x00\x00\x02ab", 0, 2, "ab", 6, api.OK},
		{"\x00\x00\x00\x02ab", 0, 1, "", 0, api.ErrMany},
		{"\x00\x00\x00\x02ab", 0, 9, "ab", 6, api.OK},
		{"??\x00\x00\x00\x02ab??", 2, 2, "ab", 8, api.OK},
		{"\x00\x00\x00\x00", 0, 0, "", 4, api.OK},
		{"\x00\x00\x00\x00", 0, -1, "", 0, api.ErrMany},
		{"\x00\x00\x00\x02a", 0, 2, "", 0, api.ErrBytes},
		{"\x00\x00\x00\x02a", 0, 1, "", 0, api.ErrMany},
		{"\x00\x00\x00\x02", 0, 2, "", 0, api.ErrBytes},
		{"\x00\x00\x00", 0, 2, "", 0, api.ErrBytes},
		{"\x00\x00\x00", 0, -1, "", 0, api.ErrBytes},
		{"", 0, 2, "", 0, api.ErrBytes},
		{"\x00\x00\x00\x00", 4, 2, "", 0, api.ErrBytes},
		{"\x00\x00\x00\x00", 5, 2, "", 0, api.ErrArg},
		{"\x00\x00\x00\x00", -1, 2, "", 0, api.ErrArg},
		{"\x00\x00\x00\x00", -1, -1, "", 0, api.ErrArg},
		{"\xff\xff\xff\xff", 0, 9, "", 0, api.ErrMany},
		{"\xff\xff\xff\xff", 0, 1<<63 - 1, "", 0, api.ErrBytes},
	} {
		s, next, e := octet.TakeString([]byte(c.b), c.at, c.most)
		if string(s) != c.s || next != c.next || e != c.e {
			t.Errorf("P1.2: TakeString of %q, %d, %d: %q, %d, %d", c.b, c.at, c.most, s, next, e)
		}
	}
}

func TestStrings(t *testing.T) {
	long := make([]byte, api.MaxDisk+1)
	for _, c := range []struct {
		l    [][]byte
		want string
		e    api.Errno
	}{
		{[][]byte{[]byte("a"), nil}, "\x00\x00\x00\x01a\x00\x00\x00\x00", api.OK},
		{nil, "", api.OK},
		{[][]byte{{}}, "\x00\x00\x00\x00", api.OK},
		{[][]byte{[]byte("ab"), []byte("c"), []byte("def")}, "\x00\x00\x00\x02ab\x00\x00\x00\x01c\x00\x00\x00\x03def", api.OK},
		{[][]byte{[]byte("a"), long}, "", api.ErrMany},
	} {
		got, e := octet.Strings(c.l...)
		if string(got) != c.want || e != c.e {
			t.Errorf("P1.3: Strings of %q: %x, %d", c.l, got, e)
		}
	}
	if got, e := octet.Strings(long[:api.MaxDisk], []byte("z")); e != api.OK || len(got) != api.MaxDisk+9 || got[len(got)-1] != 'z' {
		t.Errorf("P1.3: Strings of MaxDisk bytes: %d, %d", len(got), e)
	}
}

func TestSplit(t *testing.T) {
	for _, c := range []struct {
		b    string
		most int
		want []string
		e    api.Errno
	}{
		{"\x00\x00\x00\x01a\x00\x00\x00\x00", 9, []string{"a", ""}, api.OK},
		{"\x00\x00\x00\x01a\x00\x00\x00\x00", 1, []string{"a", ""}, api.OK},
		{"\x00\x00\x00\x01a\x00\x00\x00\x00", 0, nil, api.ErrMany},
		{"", 0, nil, api.OK},
		{"", -1, nil, api.OK},
		{"\x00\x00\x00\x01a\x00\x00\x00", 9, nil, api.ErrBytes},
		{"\x00\x00\x00\x01a\x00\x00\x00\x02b", 9, nil, api.ErrBytes},
		{"\x00\x00\x00\x01a\x00\x00\x00\x02b", 1, nil, api.ErrMany},
		{"\x00\x00\x00\x02b\x00\x00\x00\x09", 9, nil, api.ErrBytes},
	} {
		got, e := octet.Split([]byte(c.b), c.most)
		same := len(got) == len(c.want) && e == c.e
		for i := range c.want {
			same = same && string(got[i]) == c.want[i]
		}
		if !same {
			t.Errorf("P1.3: Split of %q, %d: %q, %d", c.b, c.most, got, e)
		}
	}
}

func TestNumbersComeBack(t *testing.T) {
	for _, size := range []int{1, 2, 4, 8} {
		for _, n := range []uint64{0, 1, 127, 128, 255, 256, 65535, 65536, 1<<32 - 1, 1 << 32, 1<<64 - 1} {
			for _, ahead := range []string{"", "a", "abcdefghi"} {
				b, e := octet.Put([]byte(ahead), n, size)
				if size < 8 && n >= 1<<(8*size) {
					if e != api.ErrMany || len(b) != 0 {
						t.Errorf("P1.1: %d of size %d: %x, %d", n, size, b, e)
					}
					continue
				}
				got, next, e := octet.Take(append(bytes.Clone(b), "behind"...), len(ahead), size)
				if got != n || next != len(b) || e != api.OK {
					t.Errorf("P1.4: %d of size %d behind %q: %d, %d, %d", n, size, ahead, got, next, e)
				}
				again, _ := octet.Put(b[:len(ahead)], got, size)
				if !bytes.Equal(again, b) {
					t.Errorf("P1.4: %x is put again as %x", b, again)
				}
			}
		}
	}
}

func TestStringsComeBack(t *testing.T) {
	for n := range 40 {
		var l [][]byte
		for i := range n {
			l = append(l, bytes.Repeat([]byte{byte(i)}, (i*7)%13))
		}
		b, e := octet.Strings(l...)
		if e != api.OK {
			t.Fatal("P1.4: ", e)
		}
		got, e := octet.Split(b, 12)
		if e != api.OK || len(got) != n {
			t.Fatal("P1.4: ", len(got), e)
		}
		for i := range l {
			if !bytes.Equal(got[i], l[i]) {
				t.Errorf("P1.4: %x is taken as %x", l[i], got[i])
			}
		}
		again, _ := octet.Strings(got...)
		if !bytes.Equal(again, b) {
			t.Errorf("P1.4: %x is put again as %x", b, again)
		}
	}
	b, _ := octet.PutString([]byte("ahead"), []byte("within"))
	s, next, e := octet.TakeString(append(bytes.Clone(b), "behind"...), 5, 6)
	if string(s) != "within" || next != len(b) || e != api.OK {
		t.Errorf("P1.4: %q, %d, %d", s, next, e)
	}
}

func TestMemory(t *testing.T) {
	room := []byte("abcdefghijklmnopqrstuvwxyz")
	b, _ := octet.Put(room[:2], 1<<64-1, 8)
	c, _ := octet.PutString(room[:2], []byte("??"))
	b[0], c[0] = '!', '!'
	if string(room) != "abcdefghijklmnopqrstuvwxyz" {
		t.Errorf("R3: what was handed in is %q", room)
	}
	from := []byte("\x00\x00\x00\x02ab\x00\x00\x00\x02cd")
	s, _, _ := octet.TakeString(from, 0, 9)
	l, _ := octet.Split(from, 9)
	s[0] = '!'
	l[0][0] = '!'
	if string(append(l[0], '?')) != "!b?" || string(l[1]) != "cd" || string(from) != "\x00\x00\x00\x02ab\x00\x00\x00\x02cd" {
		t.Errorf("R3: %q, %q, %q", s, l, from)
	}
}
