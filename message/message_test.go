package message_test

import (
	"bytes"
	"slices"
	"testing"

	"leat/api"
	"leat/event"
	"leat/message"
	"leat/vector"
)

// same tells whether two messages are the same.
func same(a, b api.Message) bool {
	return a.Kind == b.Kind && a.From == b.From && a.To == b.To && a.Known == b.Known && a.Node == b.Node && a.Amount == b.Amount && slices.Equal(a.Events, b.Events)
}

// events makes n events of the region 1.
func events(n int) []api.Event {
	var l []api.Event
	for i := range uint64(n) {
		l = append(l, api.Event{Origin: 1, Seq: i + 1, Deps: api.Vector{i}, Kind: api.EvTake, Node: 7, Amount: 3, Req: i + 1})
	}
	return l
}

// turned is a message with something else in it.
func turned(m api.Message, turn func(m *api.Message)) api.Message {
	m.Events = slices.Clone(m.Events)
	turn(&m)
	return m
}

func ask() api.Message {
	return api.Message{Kind: api.MsgAsk, From: 1, To: 2, Node: 9, Amount: 3}
}

func sync(n int) api.Message {
	return api.Message{Kind: api.MsgSync, From: 3, To: 6, Known: api.Vector{1, 2, 3, 4, 5, api.MaxSeq}, Events: events(n)}
}

func good() []api.Message {
	return []api.Message{ask(), sync(0), sync(1), sync(2), sync(api.MaxSend), {Kind: api.MsgSync, From: 6, To: 1, Events: []api.Event{}},
		turned(ask(), func(m *api.Message) { m.Amount, m.Node = api.MaxAmount, 1<<64-1 }),
		turned(ask(), func(m *api.Message) { m.Amount, m.Node, m.Events = 1, 1, []api.Event{} }),
		turned(ask(), func(m *api.Message) { m.From, m.To, m.Known[5] = 6, 5, api.MaxSeq }),
	}
}

func bad() []api.Message {
	var l []api.Message
	for _, m := range []api.Message{ask(), sync(0), sync(2)} {
		for _, i := range []int{0, -1, 7, 256 + 1, 1 << 40} {
			l = append(l, turned(m, func(m *api.Message) { m.From = i }), turned(m, func(m *api.Message) { m.To = i }))
		}
		l = append(l, turned(m, func(m *api.Message) { m.From = m.To }))
		for i := range api.MaxRegions {
			l = append(l, turned(m, func(m *api.Message) { m.Known[i] = api.MaxSeq + 1 }))
		}
		for _, k := range []uint8{0, 3, 255, api.MsgSync + api.MsgAsk - m.Kind} {
			l = append(l, turned(m, func(m *api.Message) { m.Kind = k }))
		}
	}
	return append(l, sync(api.MaxSend+1),
		turned(sync(2), func(m *api.Message) { m.Events[1].Of = 5 }),
		turned(sync(2), func(m *api.Message) { m.Events[0] = api.Event{} }),
		turned(sync(2), func(m *api.Message) { m.Node = 1 }),
		turned(sync(2), func(m *api.Message) { m.Amount = 1 }),
		turned(sync(0), func(m *api.Message) { m.Node, m.Amount = 1, 1 }),
		turned(ask(), func(m *api.Message) { m.Node = 0 }),
		turned(ask(), func(m *api.Message) { m.Amount = 0 }),
		turned(ask(), func(m *api.Message) { m.Amount = -1 }),
		turned(ask(), func(m *api.Message) { m.Amount = api.MaxAmount + 1 }),
		turned(ask(), func(m *api.Message) { m.Events = events(1) }),
		api.Message{},
	)
}

func TestExample(t *testing.T) {
	if b := message.Put(ask()); len(b) != 67 || string(b[:3]) != "\x02\x01\x02" {
		t.Errorf("P20.1: %x", b)
	}
}

// raw tells a message's bytes by the chapter's own words, also of what may not be.
func raw(m api.Message) []byte {
	b := append([]byte{m.Kind, byte(m.From), byte(m.To)}, vector.Bytes(m.Known)...)
	if m.Kind == api.MsgAsk {
		for _, n := range []uint64{m.Node, uint64(m.Amount)} {
			for i := 7; i >= 0; i-- {
				b = append(b, byte(n>>(8*i)))
			}
		}
		return b
	}
	for _, e := range m.Events {
		b = append(b, event.Put(e)...)
	}
	return b
}

func TestMayPutAndGet(t *testing.T) {
	for i, m := range good() {
		b := message.Put(m)
		if !message.May(m) || !bytes.Equal(b, raw(m)) {
			t.Errorf("P20.1: %d: May %v, Put %x", i, message.May(m), b)
		}
		got, e := message.Get(b)
		if !same(got, m) || e != api.OK {
			t.Errorf("P20.2: %d: %v, %d", i, got, e)
		}
		if again := message.Put(got); !bytes.Equal(again, b) {
			t.Errorf("P20.2: %d: %x is put again as %x", i, b, again)
		}
		for _, n := range []int{0, 1, 2, 3, 50, len(b) - 1, len(b) - 90} {
			if n < 0 || n == 51 || n > 51 && m.Kind == api.MsgSync && (n-51)%event.Size == 0 {
				continue
			}
			if got, e := message.Get(b[:n]); !same(got, api.Message{}) || e != api.ErrBytes {
				t.Errorf("P20.1: %d: Get of %d bytes: %v, %d", i, n, got, e)
			}
		}
		if got, e := message.Get(append(bytes.Clone(b), 0)); !same(got, api.Message{}) || e != api.ErrBytes {
			t.Errorf("P20.1: %d: Get of a byte more: %v, %d", i, got, e)
		}
	}
	for i, m := range bad() {
		if b := message.Put(m); message.May(m) || len(b) != 0 {
			t.Errorf("P20.1: %d: May %v, Put %x", i, m, b)
		}
		if m.From < 0 || m.From > 255 || m.To < 0 || m.To > 255 {
			continue
		}
		if b := raw(m); m.Kind == api.MsgSync && (m.Node != 0 || m.Amount != 0 || len(m.Events) == 2 && len(b) != 51+2*event.Size) || m.Kind == api.MsgAsk && len(m.Events) > 0 {
			continue // what may not be of these is not in the bytes
		}
		if got, e := message.Get(raw(m)); !same(got, api.Message{}) || e != api.ErrBytes {
			t.Errorf("P20.1: %d: Get of %v: %v, %d", i, m, got, e)
		}
	}
	for _, n := range []int{0, 9, 51, 67, 142} {
		if got, e := message.Get(make([]byte, n)); !same(got, api.Message{}) || e != api.ErrBytes {
			t.Errorf("P20.1: Get of %d bytes 0: %v, %d", n, got, e)
		}
	}
}

func TestAnyBytes(t *testing.T) {
	for _, m := range []api.Message{ask(), sync(1)} {
		for at := range message.Put(m) {
			for _, turn := range []byte{1, 2, 4, 0x80, 0xff} {
				b := message.Put(m)
				b[at] ^= turn
				got, e := message.Get(b)
				if e == api.OK && (!message.May(got) || !bytes.Equal(message.Put(got), b)) {
					t.Errorf("P20.2: %x is got as %v", b, got)
				}
				if e != api.OK && (e != api.ErrBytes || !same(got, api.Message{})) {
					t.Errorf("P20.1: Get of %x: %v, %d", b, got, e)
				}
			}
		}
	}
}
