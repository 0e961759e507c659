package script

import (
	"strconv"
	"strings"

	"leat/api"
	"leat/tree"
)

const (
	none    = "0" // the name of the id 0
	dot     = "." // between a node's region and its number
	idShift = 40  // how far the region stands above the number in an id
)

// Name tells a node's name.
func Name(id uint64) string {
	if id == 0 {
		return none
	}
	origin, seq := id>>idShift, id&(1<<idShift-1)
	if origin > api.MaxRegions || tree.Id(int(origin), seq) == 0 {
		return ""
	}
	return strconv.FormatUint(origin, 10) + dot + strconv.FormatUint(seq, 10)
}

// Id tells the id whose name s is.
func Id(s string) (uint64, bool) {
	if s == none {
		return 0, true
	}
	who, what, _ := strings.Cut(s, dot)
	origin, ok := region(who)
	seq, ok2 := number(what, api.MaxSeq-1)
	if !ok || !ok2 || seq == 0 {
		return 0, false
	}
	return tree.Id(origin, seq), true
}

// made tells the name of what an event made.
func made(e api.Event) string {
	return Name(tree.Id(e.Origin, e.Seq))
}

// number tells the number that s is, if it is most at most.
func number(s string, most uint64) (uint64, bool) {
	n, err := strconv.ParseUint(s, 10, 64)
	// Told again it has to be s: so there are neither signs nor noughts ahead.
	if err != nil || n > most || strconv.FormatUint(n, 10) != s {
		return 0, false
	}
	return n, true
}

// region tells the region that s is.
func region(s string) (int, bool) {
	n, ok := number(s, api.MaxRegions)
	return int(n), ok && n > 0
}
