package script

import (
	"strings"

	"leat/api"
)

const (
	mostNumber = 1 << 50
	mostSmall  = 1<<31 - 1
	mostPicks  = 8
)

// reader takes words off a line; once one is not what it must be, nothing that it takes is anything.
type reader struct {
	rest []string
	bad  bool
}

// shape is how a line goes on behind the word that tells it apart: what kind it is of, and what fills the item.
type shape struct {
	kind uint8
	do   uint8
	fill func(r *reader, x *Item)
}

// Read tells the item that a line is.
func Read(line string) (Item, bool) {
	r := reader{rest: strings.Split(line, " ")}
	var x Item
	shapes := ofAll()
	word := r.word()
	if who, ok := region(word); ok {
		x.S.Who = who
		shapes = ofRegion()
		word = r.word()
	}
	s, ok := shapes[word]
	if !ok {
		return Item{}, false
	}
	x.Kind, x.S.Do = s.kind, s.do
	s.fill(&r, &x)
	if !r.done() {
		return Item{}, false
	}
	return x, true
}

// ofRegion tells the shapes of lines that begin with a region, by the word behind that.
func ofRegion() map[string]shape {
	return map[string]shape{
		"node": {Steps, api.StAsk, func(r *reader, x *Item) {
			x.S.A = api.Ask{Kind: api.EvNode, Node: r.node(), Amount: r.amount()}
		}},
		"raise": {Steps, api.StAsk, func(r *reader, x *Item) {
			x.S.A = api.Ask{Kind: api.EvRaise, Node: r.node(), Amount: r.amount()}
		}},
		"take": {Steps, api.StAsk, func(r *reader, x *Item) {
			x.S.A = api.Ask{Kind: api.EvTake, Node: r.node(), Amount: r.amount(), Req: r.number()}
		}},
		"free": {Steps, api.StAsk, func(r *reader, x *Item) {
			x.S.A = api.Ask{Kind: api.EvFree, Of: r.number(), Req: r.number()}
		}},
		"move": {Steps, api.StAsk, func(r *reader, x *Item) {
			x.S.A = api.Ask{Kind: api.EvMove, Node: r.node(), Amount: r.amount(), To: r.region()}
		}},
		"join": {Steps, api.StAsk, func(r *reader, x *Item) {
			x.S.A = api.Ask{Kind: api.EvJoin, To: r.region()}
		}},
		"leave": {Steps, api.StLeave, func(r *reader, x *Item) { x.S.J = r.region() }},
		"tick":  {Steps, api.StTick, nothing},
		"off":   {Steps, api.StOff, nothing},
		"on":    {Steps, api.StOn, func(r *reader, x *Item) { x.S.Picks = r.picks() }},
		"fuse":  {Steps, api.StFuse, func(r *reader, x *Item) { x.S.N = r.small() }},
		"cut":   {Steps, api.StCut, func(r *reader, x *Item) { x.S.J = r.region() }},
		"quota": {Quotas, 0, func(r *reader, x *Item) { x.Node = r.node() }},
	}
}

// ofAll tells the shapes of all other lines, by their first word.
func ofAll() map[string]shape {
	message := func(r *reader, x *Item) { x.S.K = r.small() }
	return map[string]shape{
		"time":    {Steps, api.StTime, func(r *reader, x *Item) { x.S.N = r.small() }},
		"deliver": {Steps, api.StDeliver, message},
		"drop":    {Steps, api.StDrop, message},
		"twice":   {Steps, api.StTwice, message},
		"heal":    {Steps, api.StHeal, nothing},
		"calm":    {Calms, 0, func(r *reader, x *Item) { x.N = r.small() }},
		"sums":    {Sums, 0, func(r *reader, x *Item) { x.Node = r.node() }},
		"bound":   {Bounds, 0, nothing},
		"agree":   {Agrees, 0, nothing},
	}
}

// nothing is behind the word that tells a line apart.
func nothing(r *reader, x *Item) {}

// done tells whether all words were what they must be, and none is left.
func (r *reader) done() bool {
	return !r.bad && len(r.rest) == 0
}

// word takes a word off.
func (r *reader) word() string {
	if len(r.rest) == 0 {
		r.bad = true
		return ""
	}
	w := r.rest[0]
	r.rest = r.rest[1:]
	return w
}

// upTo takes a number off that is most at most.
func (r *reader) upTo(most uint64) uint64 {
	n, ok := number(r.word(), most)
	r.bad = r.bad || !ok
	return n
}

func (r *reader) number() uint64 { return r.upTo(mostNumber) }

func (r *reader) amount() int64 { return int64(r.upTo(mostNumber)) }

func (r *reader) small() int { return int(r.upTo(mostSmall)) }

func (r *reader) region() int {
	i, ok := region(r.word())
	r.bad = r.bad || !ok
	return i
}

func (r *reader) node() uint64 {
	id, ok := Id(r.word())
	r.bad = r.bad || !ok
	return id
}

func (r *reader) picks() []int {
	if len(r.rest) > mostPicks {
		r.bad = true
		return nil
	}
	var l []int
	for len(r.rest) > 0 {
		l = append(l, r.small())
	}
	return l
}
