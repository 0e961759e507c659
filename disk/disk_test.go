package disk_test

import (
	"testing"

	"leat/api"
	"leat/disk"
)

// model is the chapter's words, without any sharing of memory.
type model struct {
	sure, now [2]string
	loose     []loosened
	off       bool
	fuse      int
}

type loosened struct {
	kind, file, n int // 0 Append, 1 Cut, 2 Rename
	b             string
}

func (c loosened) on(f [2]string) [2]string {
	switch c.kind {
	case 0:
		f[c.file] += c.b
	case 1:
		f[c.file] = f[c.file][:c.n]
	default:
		f = [2]string{f[1], ""}
	}
	return f
}

func (m *model) burns() bool {
	if m.fuse == 0 {
		m.off, m.fuse = true, -1
		return true
	}
	if m.fuse > 0 {
		m.fuse--
	}
	return false
}

func (m *model) change(c loosened) api.Errno {
	if m.off {
		return api.ErrPower
	}
	if c.file < 0 || c.file > 1 || c.kind == 1 && (c.n < 0 || c.n > len(m.now[c.file])) {
		return api.ErrArg
	}
	m.now = c.on(m.now)
	m.loose = append(m.loose, c)
	if m.burns() {
		return api.ErrPower
	}
	return api.OK
}

func (m *model) sync() api.Errno {
	if m.off || m.burns() {
		return api.ErrPower
	}
	m.sure, m.loose = m.now, nil
	return api.OK
}

func (m *model) on(picks ...int) api.Errno {
	if !m.off {
		return api.ErrState
	}
	p := [2]int{}
	for i := range p {
		if i < len(picks) && picks[i] > 0 {
			p[i] = picks[i]
		}
	}
	k := p[0] % (len(m.loose) + 1)
	f := m.sure
	for i, c := range m.loose {
		if i == k && c.kind == 0 {
			c.b = c.b[:p[1]%(len(c.b)+1)]
			f = c.on(f)
		}
		if i >= k {
			break
		}
		f = c.on(f)
	}
	*m = model{sure: f, now: f, fuse: -1}
	return api.OK
}

// check holds the files, the power and what is loose against a model's.
func check(t *testing.T, what string, d *disk.Disk, m *model) {
	t.Helper()
	if d.Power() == m.off || d.Loose() != len(m.loose) {
		t.Fatalf("%s: Power %v, Loose %d; not %v, %d", what, d.Power(), d.Loose(), !m.off, len(m.loose))
	}
	for file := range 2 {
		b, e := d.Read(file)
		if m.off && (len(b) != 0 || e != api.ErrPower) || !m.off && (string(b) != m.now[file] || e != api.OK) {
			t.Fatalf("%s: Read %d: %q, %d; not %q", what, file, b, e, m.now[file])
		}
	}
}

func TestExamples(t *testing.T) {
	d := disk.New()
	d.Append(0, []byte("ab"))
	d.Sync()
	d.Append(0, []byte("cd"))
	d.Off()
	d.On(0, 1)
	if b, e := d.Read(0); string(b) != "abc" || e != api.OK {
		t.Errorf("P4.3: %q, %d", b, e)
	}
	d = disk.New()
	d.Append(1, []byte("x"))
	d.Rename()
	d.Off()
	d.On(1)
	b0, _ := d.Read(0)
	b1, _ := d.Read(1)
	if len(b0) != 0 || string(b1) != "x" {
		t.Errorf("P4.3: %q, %q", b0, b1)
	}
	d = disk.New()
	d.Fuse(1)
	e0, e1 := d.Append(0, []byte("a")), d.Sync()
	if _, e := d.Read(0); e0 != api.OK || e1 != api.ErrPower || e != api.ErrPower {
		t.Errorf("P4.2: %d, %d, %d", e0, e1, e)
	}
}

func TestNew(t *testing.T) {
	check(t, "P4.1: a new one", disk.New(), &model{fuse: -1})
}

func TestWrongArguments(t *testing.T) {
	d := disk.New()
	d.Append(0, []byte("abc"))
	d.Append(1, []byte("de"))
	m := &model{now: [2]string{"abc", "de"}, loose: make([]loosened, 2), fuse: -1}
	for _, file := range []int{-1, 2, 3, 1 << 40, -1 << 63} {
		_, e := d.Read(file)
		if e1, e2 := d.Append(file, []byte("x")), d.Cut(file, 0); e != api.ErrArg || e1 != api.ErrArg || e2 != api.ErrArg {
			t.Errorf("P4.1: the file %d: %d, %d, %d", file, e, e1, e2)
		}
	}
	for _, c := range [][2]int{{0, 4}, {0, -1}, {1, 3}, {1, -1 << 63}, {1, 1<<63 - 1}} {
		if e := d.Cut(c[0], c[1]); e != api.ErrArg {
			t.Errorf("P4.1: Cut %d, %d: %d", c[0], c[1], e)
		}
	}
	check(t, "P4.1: behind wrong arguments", d, m)
	d.Off()
	_, e := d.Read(9)
	for i, e := range []api.Errno{e, d.Append(9, nil), d.Cut(9, -1), d.Cut(0, 99), d.Rename(), d.Sync(), d.Append(0, make([]byte, api.MaxDisk))} {
		if e != api.ErrPower {
			t.Errorf("P4.1: call %d without power: %d", i, e)
		}
	}
}

func TestNoDisk(t *testing.T) {
	var d *disk.Disk
	d.Fuse(3)
	d.Off()
	b, e := d.Read(9)
	for i, e := range []api.Errno{e, d.Append(9, nil), d.Cut(9, 9), d.Rename(), d.Sync(), d.On()} {
		if e != api.ErrNil {
			t.Errorf("P4.3: call %d of no disk: %d", i, e)
		}
	}
	if len(b) != 0 || d.Power() || d.Loose() != 0 {
		t.Errorf("P4.3: of no disk: %q, %v, %d", b, d.Power(), d.Loose())
	}
}

func TestFull(t *testing.T) {
	d := disk.New()
	if e := d.Append(0, make([]byte, api.MaxDisk-10)); e != api.OK {
		t.Fatal("P4.1: ", e)
	}
	d.Fuse(3)
	for _, c := range []struct {
		file, n int
		e       api.Errno
	}{{1, 11, api.ErrFull}, {0, 11, api.ErrFull}, {1, 4, api.OK}, {0, 7, api.ErrFull}, {2, 99, api.ErrArg}, {0, 6, api.OK}, {0, 1, api.ErrFull}, {1, 1, api.ErrFull}, {1, 0, api.OK}} {
		if e := d.Append(c.file, make([]byte, c.n)); e != c.e {
			t.Errorf("P4.1: Append %d of %d bytes: %d, not %d", c.file, c.n, e, c.e)
		}
	}
	if e := d.Cut(0, 0); e != api.ErrPower || d.Power() {
		t.Errorf("P4.2: calls that have an error burn no fuse: %d", e)
	}
	if d.Loose() != 5 {
		t.Error("P4.3: Loose is ", d.Loose())
	}
}

func TestPower(t *testing.T) {
	d := disk.New()
	if e := d.On(); e != api.ErrState {
		t.Error("P4.3: On with the power on: ", e)
	}
	d.Append(0, []byte("ab"))
	d.Off()
	d.Off()
	if d.Power() || d.Loose() != 1 {
		t.Errorf("P4.3: %v, %d", d.Power(), d.Loose())
	}
	d.Fuse(0)
	if e := d.On(1); e != api.OK || !d.Power() || d.Loose() != 0 {
		t.Errorf("P4.3: On: %d, %v, %d", e, d.Power(), d.Loose())
	}
	if e := d.Sync(); e != api.OK {
		t.Error("P4.3: On leaves no fuse: ", e)
	}
	d.Fuse(0)
	d.Off()
	d.On()
	if b, _ := d.Read(0); d.Sync() != api.OK || string(b) != "ab" {
		t.Errorf("P4.2: Off leaves no fuse; sure is %q", b)
	}
	if e := d.On(); e != api.ErrState {
		t.Error("P4.3: On twice: ", e)
	}
}

func TestFuse(t *testing.T) {
	calls := []func(d *disk.Disk) api.Errno{
		func(d *disk.Disk) api.Errno { return d.Append(1, []byte("xyz")) },
		func(d *disk.Disk) api.Errno { return d.Cut(1, 2) },
		func(d *disk.Disk) api.Errno { return d.Rename() },
		func(d *disk.Disk) api.Errno { return d.Sync() },
		func(d *disk.Disk) api.Errno { return d.Append(0, nil) },
		func(d *disk.Disk) api.Errno { return d.Sync() },
	}
	loose := []int{1, 2, 3, 3, 1, 1}
	for n := -2; n < 8; n++ {
		d := disk.New()
		d.Fuse(3)
		d.Fuse(n)
		for i, call := range calls {
			d.Read(0)
			d.Cut(0, -1)
			want := api.OK
			if n >= 0 && i >= n {
				want = api.ErrPower
			}
			if e := call(d); e != want {
				t.Errorf("P4.2: with the fuse %d, call %d: %d, not %d", n, i, e, want)
			}
		}
		if n >= 0 && n < len(calls) && (d.Power() || d.Loose() != loose[n]) {
			t.Errorf("P4.2: with the fuse %d: %v, %d loose, not %d", n, d.Power(), d.Loose(), loose[n])
		}
	}
}

func TestAllPicks(t *testing.T) {
	for _, fuse := range []int{-1, 0, 1, 2, 3, 4, 5} {
		for first := -2; first < 9; first++ {
			for second := -1; second < 6; second++ {
				d, m := disk.New(), &model{fuse: -1}
				for _, b := range []string{"sure", "!"} {
					d.Append(0, []byte(b))
					m.change(loosened{file: 0, b: b})
				}
				d.Sync()
				m.sync()
				d.Fuse(fuse)
				m.fuse = fuse
				for i, c := range []loosened{{file: 1, b: "new"}, {kind: 1, file: 0, n: 2}, {file: 0, b: "bc"}, {kind: 2}, {file: 0, b: "d"}} {
					var e api.Errno
					switch c.kind {
					case 0:
						e = d.Append(c.file, []byte(c.b))
					case 1:
						e = d.Cut(c.file, c.n)
					default:
						e = d.Rename()
					}
					if want := m.change(c); e != want {
						t.Fatalf("P4.2: change %d with the fuse %d: %d, not %d", i, fuse, e, want)
					}
				}
				d.Off()
				m.off, m.fuse = true, -1
				check(t, "P4.3: off", d, m)
				if d.On(first, second, 77) != m.on(first, second) {
					t.Fatal("P4.3: On")
				}
				check(t, "P4.3: on", d, m)
			}
		}
	}
}

func TestWantingPicks(t *testing.T) {
	for _, picks := range [][]int{nil, {}, {0}, {0, 0}, {-1}, {-5, -5}, {3}, {6, 3}} {
		d := disk.New()
		d.Append(0, []byte("ab"))
		d.Append(0, []byte("cd"))
		d.Off()
		d.On(picks...)
		if b, e := d.Read(0); len(b) != 0 || e != api.OK {
			t.Errorf("P4.3: On of %v: %q, %d", picks, b, e)
		}
	}
	d := disk.New()
	d.Append(0, []byte("ab"))
	d.Append(0, []byte("cd"))
	d.Off()
	d.On(1<<62-1, 1<<63-1)
	if b, _ := d.Read(0); string(b) != "a" { // 2^62 - 1 is 0 modulo 3, 2^63 - 1 is 1
		t.Errorf("P4.3: %q", b)
	}
}

// next is a row of numbers that is the same each time.
func next(seed *uint32, n int) int {
	*seed = *seed*1664525 + 1013904223
	return int(*seed>>8) % n
}

func TestWhatIsSureIsThere(t *testing.T) {
	for seed := range uint32(300) {
		d, m := disk.New(), &model{fuse: -1}
		r := seed
		for range 60 {
			var e, want api.Errno
			file, n := next(&r, 2), next(&r, 6)
			b := "abcdefghij"[n : n+next(&r, 5)]
			switch next(&r, 12) {
			case 0, 1, 2, 3:
				e, want = d.Append(file, []byte(b)), m.change(loosened{file: file, b: b})
			case 4, 5:
				n := next(&r, len(m.now[file])+2)
				e, want = d.Cut(file, n), m.change(loosened{kind: 1, file: file, n: n})
			case 6:
				e, want = d.Rename(), m.change(loosened{kind: 2})
			case 7, 8:
				e, want = d.Sync(), m.sync()
			case 9:
				d.Fuse(n - 1)
				m.fuse = n - 1
				if m.off {
					m.fuse = -1
				}
			case 10:
				d.Off()
				m.off, m.fuse = true, -1
			default:
				k, l := next(&r, 9), next(&r, 9)
				e, want = d.On(k, l), m.on(k, l)
			}
			if e != want {
				t.Fatalf("P4.4: %d, not %d", e, want)
			}
			check(t, "P4.4", d, m)
		}
	}
}

func TestNothingLoose(t *testing.T) {
	d := disk.New()
	d.Append(0, []byte("ab"))
	d.Append(1, []byte("cd"))
	d.Sync()
	d.Off()
	d.On(7, 7)
	b0, _ := d.Read(0)
	b1, _ := d.Read(1)
	if string(b0) != "ab" || string(b1) != "cd" {
		t.Errorf("P4.4: %q, %q", b0, b1)
	}
}

func TestMemory(t *testing.T) {
	d := disk.New()
	own := []byte("abcdef")
	d.Append(0, own[:3])
	clear(own)
	b, _ := d.Read(0)
	if string(b) != "abc" {
		t.Errorf("R3: what was handed in was kept: %q", b)
	}
	copy(b, "!!!")
	if b, _ := d.Read(0); string(b) != "abc" {
		t.Errorf("P4.1: what was read shares memory: %q", b)
	}
	d.Off()
	d.On(1)
	if b, _ := d.Read(0); string(b) != "abc" {
		t.Errorf("R3: %q", b)
	}
}
