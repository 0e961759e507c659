package rights_test

import (
	"testing"

	"leat/api"
	"leat/rights"
)

// given makes rights of what each region was given.
func given(l ...int64) (r api.Rights) {
	copy(r.G[:], l)
	return r
}

// with is r with one number turned.
func with(r api.Rights, turn func(r *api.Rights)) api.Rights {
	turn(&r)
	return r
}

// locals are the rights of all regions.
func locals(r api.Rights) (l [api.MaxRegions]int64) {
	for i := range l {
		l[i] = rights.Local(r, i+1)
	}
	return l
}

// none is what may not be.
func none() []api.Rights {
	var l []api.Rights
	add := func(turn func(r *api.Rights)) {
		l = append(l, with(given(100, 100, 100, 100, 100, 100), turn))
	}
	for i := range api.MaxRegions {
		add(func(r *api.Rights) { r.G[i] = -1 })
		add(func(r *api.Rights) { r.C[i] = -1 })
		add(func(r *api.Rights) { r.F[i] = -1 })
		add(func(r *api.Rights) { r.C[i], r.F[i] = 3, 4 })
		add(func(r *api.Rights) { r.C[i] = 101 })
		add(func(r *api.Rights) { r.G[i] = api.MaxAmount - 499 })
		add(func(r *api.Rights) { r.G[i] = 1<<63 - 1 })
		add(func(r *api.Rights) { r.G[i] = -1 << 63 })
		add(func(r *api.Rights) { r.C[i], r.F[i] = api.MaxAmount+1, api.MaxAmount+1 })
		add(func(r *api.Rights) { r.C[i], r.F[i] = 1<<63-1, 1<<63-1 })
		for j := range api.MaxRegions {
			add(func(r *api.Rights) { r.R[i][j] = -1 })
			add(func(r *api.Rights) { r.R[i][j] = 101 })
			add(func(r *api.Rights) { r.R[i][j], r.R[j][i] = api.MaxAmount+1, api.MaxAmount+1 })
		}
		add(func(r *api.Rights) { r.R[i][i] = 1 })
	}
	return l
}

func TestMay(t *testing.T) {
	for i, r := range none() {
		if rights.May(r) {
			t.Errorf("P7.1: May %d of %v", i, r)
		}
		if l, u := rights.Sums(r); l != 0 || u != 0 {
			t.Errorf("P7.1: Sums of %v: %d, %d", r, l, u)
		}
		if got := locals(r); got != [api.MaxRegions]int64{} {
			t.Errorf("P7.1: Local of %v: %v", r, got)
		}
	}
	for i, r := range []api.Rights{
		{},
		given(1, 2, 3, 4, 5, 6),
		given(api.MaxAmount),
		given(api.MaxAmount-5, 1, 1, 1, 1, 1),
		with(given(9), func(r *api.Rights) { r.C[0] = 9 }),
		with(given(9), func(r *api.Rights) { r.C[0], r.F[0] = 20, 11 }),
		with(given(9), func(r *api.Rights) { r.C[1], r.F[1] = api.MaxAmount, api.MaxAmount }),
		with(given(9), func(r *api.Rights) { r.R[0][1] = 9 }),
		with(given(9), func(r *api.Rights) { r.R[0][1], r.R[1][0] = api.MaxAmount, api.MaxAmount }),
		with(given(9), func(r *api.Rights) { r.R[0][1], r.R[1][2], r.R[2][3], r.C[3] = 9, 8, 7, 6 }),
	} {
		if !rights.May(r) {
			t.Errorf("P7.1: May not %d of %v", i, r)
		}
	}
}

func TestLocalAndSums(t *testing.T) {
	r := given(100, 20, 0, 0, 0, 3)
	r.C = [api.MaxRegions]int64{10, 2, 5}
	r.F = [api.MaxRegions]int64{4, 2, 1}
	r.R[0][2], r.R[0][5], r.R[1][2], r.R[5][0] = 30, 4, 7, 6
	if got := locals(r); got != [api.MaxRegions]int64{66, 13, 33, 0, 0, 1} {
		t.Errorf("P7.1: Local: %v", got)
	}
	if l, u := rights.Sums(r); l != 123 || u != 10 {
		t.Errorf("P7.1: Sums: %d, %d", l, u)
	}
	for _, i := range []int{0, -1, 7, 1 << 40, -1 << 63} {
		if got := rights.Local(r, i); got != 0 {
			t.Errorf("P7.1: Local of %d: %d", i, got)
		}
	}
}

func TestExample(t *testing.T) {
	r, e := rights.Give(api.Rights{}, 1, 10)
	if r != given(10) || e != api.OK {
		t.Errorf("P7.2: Give: %v, %d", r, e)
	}
	if got, e := rights.Take(r, 1, 11); got != (api.Rights{}) || e != api.ErrRights {
		t.Errorf("P7.2: Take of 11: %v, %d", got, e)
	}
	r, e = rights.Move(r, 1, 2, 4)
	if want := with(given(10), func(r *api.Rights) { r.R[0][1] = 4 }); r != want || e != api.OK {
		t.Errorf("P7.2: Move: %v, %d", r, e)
	}
	r, e = rights.Take(r, 2, 4)
	if want := with(given(10), func(r *api.Rights) { r.R[0][1], r.C[1] = 4, 4 }); r != want || e != api.OK {
		t.Errorf("P7.2: Take: %v, %d", r, e)
	}
	l, u := rights.Sums(r)
	if rights.Local(r, 1) != 6 || rights.Local(r, 2) != 0 || l != 10 || u != 4 {
		t.Errorf("P7.2: %v, %d, %d", locals(r), l, u)
	}
	r, e = rights.Free(r, 2, 3)
	if want := with(given(10), func(r *api.Rights) { r.R[0][1], r.C[1], r.F[1] = 4, 4, 3 }); r != want || e != api.OK {
		t.Errorf("P7.2: Free: %v, %d", r, e)
	}
	if got := rights.Local(r, 2); got != 3 {
		t.Errorf("P7.2: Local of 2: %d", got)
	}
}

// call is one of the four, by its number.
func call(kind int, r api.Rights, i, j int, x int64) (api.Rights, api.Errno) {
	switch kind {
	case 0:
		return rights.Give(r, i, x)
	case 1:
		return rights.Take(r, i, x)
	case 2:
		return rights.Free(r, i, x)
	}
	return rights.Move(r, i, j, x)
}

func TestErrorsOfAll(t *testing.T) {
	r := with(given(100, 100), func(r *api.Rights) { r.C[0] = 50 })
	for kind := range 4 {
		for _, c := range []struct {
			r    api.Rights
			i, j int
			x    int64
			e    api.Errno
		}{
			{r, 1, 2, 0, api.ErrArg}, {r, 1, 2, -1, api.ErrArg}, {r, 1, 2, -1 << 63, api.ErrArg}, {r, 1, 2, api.MaxAmount + 1, api.ErrArg}, {r, 1, 2, 1<<63 - 1, api.ErrArg},
			{r, 9, 2, 0, api.ErrArg}, {none()[0], 1, 2, 5, api.ErrArg}, {none()[0], 9, 2, 5, api.ErrArg},
			{r, 0, 2, 5, api.ErrRegion}, {r, 7, 2, 5, api.ErrRegion}, {r, -1, 2, api.MaxAmount, api.ErrRegion}, {r, 1, 2, 5, api.OK},
		} {
			got, e := call(kind, c.r, c.i, c.j, c.x)
			if e != c.e || e != api.OK && got != (api.Rights{}) {
				t.Errorf("P7.2: call %d, %d, %d, %d: %v, %d, not %d", kind, c.i, c.j, c.x, got, e, c.e)
			}
		}
	}
	for i, bad := range none() {
		for kind := range 4 {
			if got, e := call(kind, bad, 1, 2, 1); got != (api.Rights{}) || e != api.ErrArg {
				t.Errorf("P7.2: call %d of %d, which may not be: %v, %d", kind, i, got, e)
			}
		}
	}
}

func TestErrorsOfEach(t *testing.T) {
	full := with(given(9), func(r *api.Rights) {
		r.C[1], r.F[1], r.R[0][1], r.R[1][0] = api.MaxAmount-2, api.MaxAmount-2, api.MaxAmount-1, api.MaxAmount-1
	})
	for i, c := range []struct {
		kind int
		r    api.Rights
		i, j int
		x    int64
		e    api.Errno
	}{
		{0, given(10, 20), 1, 0, api.MaxAmount - 30, api.OK},
		{0, given(10, 20), 1, 0, api.MaxAmount - 29, api.ErrMany},
		{0, given(10, 20), 3, 0, api.MaxAmount - 29, api.ErrMany},
		{0, given(), 6, 0, api.MaxAmount, api.OK},
		{0, given(api.MaxAmount), 6, 0, 1, api.ErrMany},
		{1, given(10, 20), 1, 0, 10, api.OK},
		{1, given(10, 20), 1, 0, 11, api.ErrRights},
		{1, given(10, 20), 3, 0, 1, api.ErrRights},
		{1, full, 2, 0, 1, api.ErrRights},
		{1, with(full, func(r *api.Rights) { r.G[1] = 5 }), 2, 0, 2, api.OK},
		{1, with(full, func(r *api.Rights) { r.G[1] = 5 }), 2, 0, 3, api.ErrMany},
		{1, with(full, func(r *api.Rights) { r.G[1] = 5 }), 2, 0, 6, api.ErrRights},
		{2, with(given(10), func(r *api.Rights) { r.C[0], r.F[0] = 7, 3 }), 1, 0, 4, api.OK},
		{2, with(given(10), func(r *api.Rights) { r.C[0], r.F[0] = 7, 3 }), 1, 0, 5, api.ErrGrant},
		{2, given(10), 1, 0, 1, api.ErrGrant},
		{3, given(10), 1, 2, 10, api.OK},
		{3, given(10), 1, 2, 11, api.ErrRights},
		{3, given(10), 1, 1, 5, api.ErrArg},
		{3, given(10), 1, 1, 50, api.ErrArg},
		{3, given(10), 7, 7, 5, api.ErrRegion},
		{3, given(10), 1, 7, 50, api.ErrRegion},
		{3, given(10), 1, 0, 5, api.ErrRegion},
		{3, full, 1, 2, 1, api.OK},
		{3, full, 1, 2, 2, api.ErrMany},
		{3, full, 1, 2, 10, api.ErrRights},
		{3, full, 1, 6, 9, api.OK},
	} {
		got, e := call(c.kind, c.r, c.i, c.j, c.x)
		if e != c.e || e != api.OK && got != (api.Rights{}) || e == api.OK && !rights.May(got) {
			t.Errorf("P7.2: %d: %v, %d, not %d", i, got, e, c.e)
		}
	}
}

// next is a row of numbers that is the same each time.
func next(seed *uint32, n int) int {
	*seed = *seed*1664525 + 1013904223
	return int(*seed>>8) % n
}

// walk makes rights by many calls, and holds each one against what P7.4 says.
func walk(t *testing.T, seed uint32, steps int) api.Rights {
	var r api.Rights
	for range steps {
		kind, i, j, x := next(&seed, 4), next(&seed, 6)+1, next(&seed, 6)+1, int64(next(&seed, 20)+1)
		got, e := call(kind, r, i, j, x)
		if e != api.OK {
			continue
		}
		if rights.Join(r, got) != got {
			t.Fatalf("P7.4: call %d made a number less: %v, %v", kind, r, got)
		}
		if kind != 0 {
			a, _ := rights.Sums(r)
			b, _ := rights.Sums(got)
			if a != b {
				t.Fatalf("P7.4: call %d turned the limit: %d, %d", kind, a, b)
			}
		}
		r = got
		limit, used := rights.Sums(r)
		all := used
		for _, n := range locals(r) {
			if n < 0 {
				t.Fatalf("P7.4: rights below 0: %v", r)
			}
			all += n
		}
		if used > limit || all != limit {
			t.Fatalf("P7.4: %d used, %d with all rights, the limit %d", used, all, limit)
		}
	}
	return r
}

func TestNeverMore(t *testing.T) {
	for seed := range uint32(60) {
		walk(t, seed, 200)
	}
}

func TestJoin(t *testing.T) {
	a := with(given(1, 5), func(r *api.Rights) { r.C[0], r.F[3], r.R[1][2], r.R[5][5] = 9, -3, 4, 1 })
	b := with(given(2, 3), func(r *api.Rights) { r.C[0], r.F[3], r.R[1][2], r.R[5][4] = 8, -4, 1<<63-1, 2 })
	want := with(given(2, 5), func(r *api.Rights) { r.C[0], r.F[3], r.R[1][2], r.R[5][4], r.R[5][5] = 9, -3, 1<<63-1, 2, 1 })
	if got := rights.Join(a, b); got != want {
		t.Errorf("P7.3: %v", got)
	}
	for seed := range uint32(20) {
		a, b, c := walk(t, seed, 50), walk(t, seed+100, 50), walk(t, seed+200, 50)
		if rights.Join(a, b) != rights.Join(b, a) || rights.Join(a, a) != a || rights.Join(a, rights.Join(b, c)) != rights.Join(rights.Join(a, b), c) {
			t.Errorf("P7.4: Join of %v, %v, %v", a, b, c)
		}
	}
}
