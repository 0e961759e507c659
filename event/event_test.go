package event_test

import (
	"bytes"
	"testing"

	"leat/api"
	"leat/event"
)

// top is the greatest Seq.
const top = api.MaxSeq - 1

// first is an event 1 of the region 1 that knew nothing.
func first(kind uint8, turn func(e *api.Event)) api.Event {
	e := api.Event{Origin: 1, Seq: 1, Kind: kind}
	if turn != nil {
		turn(&e)
	}
	return e
}

// good is events that may be.
func good() []api.Event {
	l := []api.Event{
		first(api.EvNode, func(e *api.Event) { e.Amount = 5 }),
		first(api.EvNode, nil),
		first(api.EvNode, func(e *api.Event) { e.Node, e.Amount = 1<<64-1, api.MaxAmount }),
		first(api.EvRaise, func(e *api.Event) { e.Amount = 1 }),
		first(api.EvRaise, func(e *api.Event) { e.Node, e.Amount = 1<<63, api.MaxAmount }),
		first(api.EvTake, func(e *api.Event) { e.Amount, e.Req = 1, 1 }),
		first(api.EvTake, func(e *api.Event) { e.Node, e.Amount, e.Req = 7, api.MaxAmount, 1<<64-1 }),
		first(api.EvFree, func(e *api.Event) { e.Req, e.Of = 1, 2 }),
		first(api.EvFree, func(e *api.Event) { e.Req, e.Of = 1<<64-1, 1<<64-2 }),
		first(api.EvMove, func(e *api.Event) { e.Amount, e.To = 1, 2 }),
		first(api.EvMove, func(e *api.Event) { e.Node, e.Amount, e.To = 1<<64-1, api.MaxAmount, 6 }),
		first(api.EvJoin, func(e *api.Event) { e.To = 2 }),
		first(api.EvJoin, func(e *api.Event) { e.To = 6 }),
		first(api.EvLeave, nil),
	}
	for i := 1; i <= api.MaxRegions; i++ {
		e := api.Event{Origin: i, Seq: top, Deps: api.Vector{top, top, top, top, top, top}, Kind: api.EvLeave}
		e.Deps[i-1] = top - 1
		l = append(l, e)
		l = append(l, api.Event{Origin: i, Seq: 3, Deps: api.Vector{2, 2, 2, 2, 2, 2}, Kind: api.EvNode})
	}
	return l
}

// bad is events that may not be.
func bad() []api.Event {
	var l []api.Event
	for _, n := range []int{0, -1, 7, 256, 257, 1 << 40} {
		l = append(l, api.Event{Origin: n, Seq: 1, Kind: api.EvLeave})
		l = append(l, first(api.EvMove, func(e *api.Event) { e.Amount, e.To = 1, n }), first(api.EvJoin, func(e *api.Event) { e.To = n }))
	}
	l = append(l, first(api.EvMove, func(e *api.Event) { e.Amount, e.To = 1, 1 }), first(api.EvJoin, func(e *api.Event) { e.To = 1 }))
	l = append(l, api.Event{Origin: 1, Seq: 0, Kind: api.EvLeave})
	l = append(l, api.Event{Origin: 1, Seq: 0, Deps: api.Vector{1<<64 - 1}, Kind: api.EvLeave})
	l = append(l, api.Event{Origin: 1, Seq: top + 1, Deps: api.Vector{top}, Kind: api.EvLeave})
	for i := range api.MaxRegions {
		for _, n := range []uint64{1, api.MaxSeq, 1<<64 - 1} {
			if i > 0 && n == 1 {
				continue
			}
			l = append(l, first(api.EvLeave, func(e *api.Event) { e.Deps[i] = n }))
		}
	}
	l = append(l, api.Event{Origin: 2, Seq: 3, Deps: api.Vector{2}, Kind: api.EvLeave})
	for _, kind := range []uint8{0, 8, 9, 255} {
		l = append(l, first(kind, nil), first(kind, func(e *api.Event) { e.Amount, e.To, e.Req, e.Of = 1, 2, 1, 2 }))
	}
	for _, e := range good() {
		if e.Kind != api.EvFree {
			l = append(l, turned(e, func(e *api.Event) { e.Of = 3 }))
		}
		if e.Kind != api.EvFree && e.Kind != api.EvTake {
			l = append(l, turned(e, func(e *api.Event) { e.Req = 3 }))
		} else {
			l = append(l, turned(e, func(e *api.Event) { e.Req = 0 }))
		}
		if e.Kind == api.EvFree {
			l = append(l, turned(e, func(e *api.Event) { e.Of = 0 }), turned(e, func(e *api.Event) { e.Of = e.Req }))
		}
		if e.Kind != api.EvMove && e.Kind != api.EvJoin {
			l = append(l, turned(e, func(e *api.Event) { e.To = 2 }), turned(e, func(e *api.Event) { e.To = -1 }))
		}
		if e.Kind >= api.EvJoin || e.Kind == api.EvFree {
			l = append(l, turned(e, func(e *api.Event) { e.Node = 1 }), turned(e, func(e *api.Event) { e.Amount = 1 }))
		}
		if e.Kind >= api.EvRaise && e.Kind != api.EvFree && e.Kind < api.EvJoin {
			l = append(l, turned(e, func(e *api.Event) { e.Amount = 0 }))
		}
		l = append(l, turned(e, func(e *api.Event) { e.Amount = -1 }), turned(e, func(e *api.Event) { e.Amount = api.MaxAmount + 1 }))
	}
	return l
}

func turned(e api.Event, turn func(e *api.Event)) api.Event {
	turn(&e)
	return e
}

// raw tells an event's bytes by the chapter's own words, also of what may not be.
func raw(e api.Event) []byte {
	var b []byte
	put := func(n uint64, size int) {
		for i := size - 1; i >= 0; i-- {
			b = append(b, byte(n>>(8*i)))
		}
	}
	put(uint64(e.Origin), 1)
	put(e.Seq, 8)
	for _, n := range e.Deps {
		put(n, 8)
	}
	put(uint64(e.Kind), 1)
	put(e.Node, 8)
	put(uint64(e.To), 1)
	put(uint64(e.Amount), 8)
	put(e.Req, 8)
	put(e.Of, 8)
	return b
}

func TestExamples(t *testing.T) {
	e := api.Event{Origin: 1, Seq: 1, Kind: api.EvNode, Amount: 5}
	if !event.May(e) || event.May(turned(e, func(e *api.Event) { e.Req = 1 })) {
		t.Error("P8.1: May")
	}
	if b := event.Put(e); len(b) != 91 || event.Size != 91 || string(b[:9]) != "\x01\x00\x00\x00\x00\x00\x00\x00\x01" {
		t.Errorf("P8.1: Put: %x", b)
	}
	if id := event.Id(e); id != 1099511627777 {
		t.Error("P8.1: Id: ", id)
	}
}

func TestMayAndPut(t *testing.T) {
	for _, e := range good() {
		if !event.May(e) {
			t.Errorf("P8.1: May not %v", e)
		}
		if b := event.Put(e); !bytes.Equal(b, raw(e)) {
			t.Errorf("P8.1: Put of %v: %x", e, b)
		}
	}
	for _, e := range bad() {
		if event.May(e) {
			t.Errorf("P8.1: May %v", e)
		}
		if b := event.Put(e); len(b) != 0 {
			t.Errorf("P8.1: Put of %v: %x", e, b)
		}
	}
}

func TestId(t *testing.T) {
	for _, c := range []struct {
		origin int
		seq    uint64
		want   uint64
	}{{1, 1, 1<<40 + 1}, {6, top, 6<<40 + top}, {2, 0, 2 << 40}, {0, 5, 0}, {7, 5, 0}, {-1, 5, 0}, {1, 1<<64 - 1, 1<<40 - 1}, {3, 1 << 41, 5 << 40}, {1 << 40, 1, 0}} {
		if got := event.Id(api.Event{Origin: c.origin, Seq: c.seq}); got != c.want {
			t.Errorf("P8.1: Id of %d, %d: %d", c.origin, c.seq, got)
		}
	}
	seen := map[uint64]api.Event{}
	for _, e := range good() {
		old, ok := seen[event.Id(e)]
		if ok && (old.Origin != e.Origin || old.Seq != e.Seq) {
			t.Errorf("P8.3: one Id of %v, %v", old, e)
		}
		seen[event.Id(e)] = e
	}
}

func TestTake(t *testing.T) {
	for _, e := range good() {
		b := append(append([]byte("ahead"), event.Put(e)...), "behind"...)
		got, next, err := event.Take(b, 5)
		if got != e || next != 5+event.Size || err != api.OK {
			t.Errorf("P8.3: %v is taken as %v, %d, %d", e, got, next, err)
		}
		if again := event.Put(got); !bytes.Equal(again, b[5:next]) {
			t.Errorf("P8.3: %x is put again as %x", b[5:next], again)
		}
		for _, at := range []int{-1, len(b) + 1, -1 << 63, 1<<63 - 1} {
			if got, next, err := event.Take(b, at); got != (api.Event{}) || next != 0 || err != api.ErrArg {
				t.Errorf("P8.2: Take at %d: %v, %d, %d", at, got, next, err)
			}
		}
		for _, at := range []int{0, 1, 4, 6, len(b) - event.Size, len(b)} {
			if got, next, err := event.Take(b, at); got != (api.Event{}) || next != 0 || err != api.ErrBytes {
				t.Errorf("P8.2: Take at %d: %v, %d, %d", at, got, next, err)
			}
		}
		if got, next, err := event.Take(b[:len(b)-7], 5); got != (api.Event{}) || next != 0 || err != api.ErrBytes {
			t.Errorf("P8.2: Take of a byte less: %v, %d, %d", got, next, err)
		}
	}
	for _, e := range bad() {
		if e.Origin < 0 || e.Origin > 255 || e.To < 0 || e.To > 255 {
			continue
		}
		if got, next, err := event.Take(raw(e), 0); got != (api.Event{}) || next != 0 || err != api.ErrBytes {
			t.Errorf("P8.2: Take of %v: %v, %d, %d", e, got, next, err)
		}
	}
	if _, _, err := event.Take(nil, 0); err != api.ErrBytes {
		t.Error("P8.2: Take of nothing: ", err)
	}
	if _, _, err := event.Take(nil, 1); err != api.ErrArg {
		t.Error("P8.2: Take of nothing, at 1: ", err)
	}
}

func TestAnyBytes(t *testing.T) {
	for _, e := range good() {
		for at := range event.Size {
			for _, turn := range []byte{1, 2, 0x80, 0xff} {
				b := event.Put(e)
				b[at] ^= turn
				got, next, err := event.Take(b, 0)
				if err == api.OK && (next != event.Size || !event.May(got) || !bytes.Equal(event.Put(got), b)) {
					t.Errorf("P8.3: %x is taken as %v", b, got)
				}
				if err != api.OK && (err != api.ErrBytes || got != (api.Event{}) || next != 0) {
					t.Errorf("P8.2: Take of %x: %v, %d, %d", b, got, next, err)
				}
			}
		}
	}
}

func TestAll(t *testing.T) {
	var b []byte
	for n, e := range append(good(), api.Event{}) {
		got, err := event.All(b)
		if err != api.OK || len(got) != n {
			t.Fatal("P8.2: ", len(got), n, err)
		}
		for i, want := range good()[:n] {
			if got[i] != want {
				t.Errorf("P8.2: All: %v, not %v", got[i], want)
			}
		}
		b = append(b, event.Put(e)...)
		for _, cut := range []int{1, 8, 90, 92} {
			if got, err := event.All(b[:max(len(b)-cut, 1)]); len(got) != 0 || err != api.ErrBytes {
				t.Errorf("P8.2: All of a part: %v, %d", got, err)
			}
		}
		if got, err := event.All(append(bytes.Clone(b), 0)); len(got) != 0 || err != api.ErrBytes {
			t.Errorf("P8.2: All of a byte more: %v, %d", got, err)
		}
	}
	if got, err := event.All(append(b, raw(bad()[20])...)); len(got) != 0 || err != api.ErrBytes {
		t.Errorf("P8.2: All with what may not be: %v, %d", got, err)
	}
}
