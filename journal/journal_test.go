package journal_test

import (
	"strings"
	"testing"

	"leat/api"
	"leat/disk"
	"leat/frame"
	"leat/journal"
)

// list makes records of words.
func list(words string) [][]byte {
	var l [][]byte
	for _, w := range strings.Fields(words) {
		l = append(l, []byte(w))
	}
	return l
}

// words makes words of records.
func words(l [][]byte) string {
	var out []string
	for _, r := range l {
		out = append(out, string(r))
	}
	return strings.Join(out, " ")
}

// open opens the journal of a disk, and holds its records against words.
func open(t *testing.T, what string, d *disk.Disk, want string) *journal.Journal {
	t.Helper()
	j, l, e := journal.Open(d)
	if e != api.OK || j == nil || words(l) != want {
		t.Fatalf("%s: Open: %q, %d; not %q", what, words(l), e, want)
	}
	b0, _ := d.Read(0)
	b1, _ := d.Read(1)
	if made, _ := frame.Put(nil, l...); string(made) != string(b0) || len(b1) != 0 || d.Loose() != 0 || j.Size() != len(b0) || !j.Whole() {
		t.Fatalf("%s: behind Open: %d bytes, %d bytes, %d loose, Size %d, %v", what, len(b0), len(b1), d.Loose(), j.Size(), j.Whole())
	}
	return j
}

func TestExamples(t *testing.T) {
	d := disk.New()
	j := open(t, "P5.1", d, "")
	if e := j.Add(list("a b")...); e != api.OK {
		t.Error("P5.2: ", e)
	}
	open(t, "P5.2", d, "a b")

	d = disk.New()
	j = open(t, "P5.1", d, "")
	j.Add(list("a")...)
	d.Fuse(1)
	if e := j.Add(list("b")...); e != api.ErrPower {
		t.Error("P5.2: ", e)
	}
	d.On(0, 8)
	open(t, "P5.2", d, "a")

	d = disk.New()
	j = open(t, "P5.1", d, "")
	j.Add(list("a")...)
	d.Fuse(3)
	if e := j.Compact(list("z")...); e != api.ErrPower {
		t.Error("P5.3: ", e)
	}
	d.On(1)
	open(t, "P5.3", d, "z")
}

func TestOpen(t *testing.T) {
	if j, l, e := journal.Open(nil); j != nil || len(l) != 0 || e != api.ErrNil {
		t.Errorf("P5.1: of no disk: %v, %q, %d", j, l, e)
	}
	d := disk.New()
	d.Off()
	if j, l, e := journal.Open(d); j != nil || len(l) != 0 || e != api.ErrPower {
		t.Errorf("P5.1: without power: %v, %q, %d", j, l, e)
	}
	whole, _ := frame.Put(nil, list("a bc")...)
	for _, c := range []struct {
		zero, one string
		sync      bool
		calls     int // how many changes and Syncs it takes
	}{
		{"", "", true, 0},
		{string(whole), "", true, 0},
		{string(whole), "", false, 1},
		{string(whole), "x", true, 2},
		{string(whole) + "torn", "", true, 2},
		{string(whole) + "torn", "", false, 2},
		{string(whole) + "torn", "x", true, 3},
		{string(whole) + string(whole[:9]), string(whole), false, 2},
	} {
		for fuse := range c.calls + 1 {
			d := disk.New()
			if c.zero != "" {
				d.Append(0, []byte(c.zero))
			}
			if c.one != "" {
				d.Append(1, []byte(c.one))
			}
			if c.sync {
				d.Sync()
			}
			d.Fuse(fuse)
			want := words(list("a bc"))
			if strings.HasPrefix(c.zero, string(whole)+string(whole[:9])) {
				want = "a bc a"
			}
			if c.zero == "" {
				want = ""
			}
			if fuse == c.calls {
				open(t, "P5.1", d, want)
				if e := d.Append(0, nil); e != api.ErrPower {
					t.Errorf("P5.1: of %q, %q: fewer calls than %d", c.zero, c.one, c.calls)
				}
				continue
			}
			if j, l, e := journal.Open(d); j != nil || len(l) != 0 || e != api.ErrPower {
				t.Errorf("P5.1: of %q, %q with the fuse %d: %q, %d", c.zero, c.one, fuse, l, e)
			}
			if c.sync || fuse > 0 {
				d.On(9 * 8 * 7 * 6 * 5)
				if c.sync {
					open(t, "P5.1: again", d, want)
				}
			}
		}
	}
}

func TestAdd(t *testing.T) {
	d := disk.New()
	j := open(t, "P5.1", d, "")
	long := make([]byte, api.MaxRecord+1)
	d.Fuse(0)
	if e := j.Add(); e != api.OK || j.Size() != 0 {
		t.Errorf("P5.2: Add of none: %d, %d", e, j.Size())
	}
	if e := j.Add([]byte("a"), long); e != api.ErrMany || j.Size() != 0 || !j.Whole() {
		t.Errorf("P5.2: Add of a long one: %d", e)
	}
	d.Fuse(2)
	if e := j.Add([]byte("a"), nil, []byte("bc")); e != api.OK || j.Size() != 3*frame.Head+3 {
		t.Errorf("P5.2: Add: %d, %d", e, j.Size())
	}
	if d.Loose() != 0 {
		t.Error("P5.2: what was added is loose")
	}
	if e := j.Add([]byte("x")); e != api.ErrPower || j.Whole() {
		t.Errorf("P5.2: Add takes more than one Append and one Sync: %d, %v", e, j.Whole())
	}
	for i, e := range []api.Errno{j.Add(), j.Add(long), j.Compact(), j.Compact(long), j.Add([]byte("a"))} {
		if e != api.ErrState {
			t.Errorf("P5.2: call %d of a broken one: %d", i, e)
		}
	}
	d.On()
	if e := j.Add([]byte("a")); e != api.ErrState || j.Whole() {
		t.Errorf("P5.2: a broken one with the power on: %d", e)
	}
	j = open(t, "P5.2", d, "a  bc")
	d.Off()
	if e := j.Add(); e != api.OK || !j.Whole() {
		t.Errorf("P5.2: Add of none without power: %d", e)
	}
	if e := j.Add(long); e != api.ErrMany || !j.Whole() {
		t.Errorf("P5.2: Add of a long one without power: %d", e)
	}
	if e := j.Add([]byte("a")); e != api.ErrPower || j.Whole() {
		t.Errorf("P5.2: Add without power: %d, %v", e, j.Whole())
	}
}

func TestFull(t *testing.T) {
	d := disk.New()
	j := open(t, "P5.1", d, "")
	big := make([]byte, api.MaxRecord)
	step := frame.Head + api.MaxRecord
	n := 0
	for ; (n+1)*step <= api.MaxDisk; n++ {
		if e := j.Add(big); e != api.OK {
			t.Fatal("P5.2: ", n, e)
		}
	}
	if e := j.Add(big); e != api.ErrFull || j.Size() != n*step || !j.Whole() || d.Loose() != 0 {
		t.Errorf("P5.2: %d, %d, %v, %d", e, j.Size(), j.Whole(), d.Loose())
	}
	room := api.MaxDisk - n*step
	if e := j.Add(make([]byte, room-frame.Head)); e != api.OK || j.Size() != api.MaxDisk {
		t.Errorf("P5.2: into the last bytes: %d, %d", e, j.Size())
	}
	d.Fuse(0)
	if e := j.Add(nil); e != api.ErrFull || !d.Power() {
		t.Errorf("P5.2: %d", e)
	}
	if e := j.Compact([]byte{}); e != api.ErrFull || !j.Whole() || !d.Power() || j.Size() != api.MaxDisk {
		t.Errorf("P5.3: Compact of a full one: %d", e)
	}
	d.Fuse(-1)
	if e := j.Compact(); e != api.OK || j.Size() != 0 {
		t.Errorf("P5.3: Compact of none: %d, %d", e, j.Size())
	}
	if e := j.Add([]byte("a")); e != api.OK {
		t.Error("P5.3: ", e)
	}
	d.Append(1, []byte("left"))
	d.Sync()
	var l [][]byte
	for range api.MaxDisk/step - 1 {
		l = append(l, big)
	}
	rest := api.MaxDisk - len(l)*step - 9
	half := (rest - 2*frame.Head) / 2
	l = append(l, make([]byte, half), make([]byte, rest-2*frame.Head-half+1))
	if e := j.Compact(l...); e != api.ErrFull {
		t.Error("P5.3: Compact of a byte too much: ", e)
	}
	if b, _ := d.Read(1); string(b) != "left" || d.Loose() != 0 {
		t.Errorf("P5.3: the error ErrFull turned the disk: %q", b)
	}
	if e := j.Compact(append(l[:len(l)-1], make([]byte, rest-2*frame.Head-half))...); e != api.OK || j.Size() != api.MaxDisk-9 {
		t.Errorf("P5.3: Compact into all the room: %d, %d", e, j.Size())
	}
}

func TestCompact(t *testing.T) {
	d := disk.New()
	j := open(t, "P5.1", d, "")
	j.Add(list("a b c")...)
	if e := j.Compact([]byte("a"), make([]byte, api.MaxRecord+1)); e != api.ErrMany || !j.Whole() || j.Size() != 27 {
		t.Error("P5.3: ", e)
	}
	d.Fuse(4)
	if e := j.Compact(list("x yz")...); e != api.OK || j.Size() != 19 || !j.Whole() || d.Loose() != 0 {
		t.Errorf("P5.3: %d, %d, %v", e, j.Size(), j.Whole())
	}
	if e := d.Append(1, []byte("left")); e != api.ErrPower {
		t.Error("P5.3: Compact takes other than four calls: ", e)
	}
	d.On(1, 0)
	d.Append(1, []byte("left"))
	d.Sync()
	j, l, e := journal.Open(d)
	if words(l) != "x yz" || e != api.OK {
		t.Errorf("P5.3: %q, %d", words(l), e)
	}
	d.Append(1, []byte("left"))
	if e := j.Compact(list("q")...); e != api.OK {
		t.Error("P5.3: ", e)
	}
	j = open(t, "P5.3: with bytes in the file 1", d, "q")
	j.Add(list("r")...)
	open(t, "P5.3: Add behind Compact", d, "q r")
	d.Off()
	if e := j.Compact(list("s")...); e != api.ErrPower || j.Whole() {
		t.Errorf("P5.3: without power: %d, %v", e, j.Whole())
	}
}

func TestNone(t *testing.T) {
	var j *journal.Journal
	if e, e2 := j.Add(make([]byte, api.MaxRecord+1)), j.Compact(); e != api.ErrNil || e2 != api.ErrNil || j.Size() != 0 || j.Whole() {
		t.Errorf("P5.3: of no journal: %d, %d, %d, %v", e, e2, j.Size(), j.Whole())
	}
}

// may tells the words that may be there again: what was, with a beginning of what was under way, or what was to be alone.
func may(was, more, alone string, got string) bool {
	if alone != "" {
		return got == was || got == alone
	}
	l := strings.Fields(more)
	for i := range len(l) + 1 {
		if got == strings.Join(append(strings.Fields(was), l[:i]...), " ") {
			return true
		}
	}
	return false
}

func TestAnyLossOfPower(t *testing.T) {
	steps := []struct{ more, alone string }{{more: "a bb"}, {more: "ccc"}, {alone: "x yy"}, {more: "dd e f"}, {alone: "z"}, {more: "g"}}
	for fuse := range 22 {
		for first := range 4 {
			for second := range 40 {
				d := disk.New()
				j := open(t, "P5.4", d, "")
				d.Fuse(fuse)
				was := ""
				for _, s := range steps {
					var e api.Errno
					if s.alone != "" {
						e = j.Compact(list(s.alone)...)
					} else {
						e = j.Add(list(s.more)...)
					}
					if e == api.OK {
						was = strings.TrimSpace(was + " " + s.more)
						if s.alone != "" {
							was = s.alone
						}
						continue
					}
					if e != api.ErrPower || j.Whole() {
						t.Fatalf("P5.4: %d, %v", e, j.Whole())
					}
					d.On(first, second)
					_, l, e := journal.Open(d)
					if got := words(l); e != api.OK || !may(was, s.more, s.alone, got) {
						t.Fatalf("P5.4: with the fuse %d, the picks %d, %d: %q, %d; it was %q", fuse, first, second, got, e, was)
					}
					open(t, "P5.4: opened twice", d, words(l))
					break
				}
			}
		}
	}
}

func TestMemory(t *testing.T) {
	d := disk.New()
	j := open(t, "P5.1", d, "")
	l := list("ab cd")
	j.Add(l...)
	clear(l[0])
	open(t, "R3", d, "ab cd")
}
