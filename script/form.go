package script

import (
	"slices"
	"strconv"
	"strings"

	"leat/api"
)

// Form tells the line that is read as x.
func Form(x Item) (string, bool) {
	line := strings.Join(words(x), " ")
	// What is read again tells whether there is such a line: else some field of x is not in it.
	if y, ok := Read(line); !ok || !same(x, y) {
		return "", false
	}
	return line, true
}

// words tells the words of the line that x could be.
func words(x Item) []string {
	switch x.Kind {
	case Steps:
		return stepWords(x.S)
	case Calms:
		return []string{"calm", strconv.Itoa(x.N)}
	case Quotas:
		return []string{strconv.Itoa(x.S.Who), "quota", Name(x.Node)}
	case Sums:
		return []string{"sums", Name(x.Node)}
	case Bounds:
		return []string{"bound"}
	case Agrees:
		return []string{"agree"}
	}
	return nil
}

// stepWords tells the words of a step.
func stepWords(s api.Step) []string {
	who := strconv.Itoa(s.Who)
	switch s.Do {
	case api.StAsk:
		return append([]string{who}, askWords(s.A)...)
	case api.StTick:
		return []string{who, "tick"}
	case api.StTime:
		return []string{"time", strconv.Itoa(s.N)}
	case api.StDeliver:
		return []string{"deliver", strconv.Itoa(s.K)}
	case api.StDrop:
		return []string{"drop", strconv.Itoa(s.K)}
	case api.StTwice:
		return []string{"twice", strconv.Itoa(s.K)}
	case api.StCut:
		return []string{who, "cut", strconv.Itoa(s.J)}
	case api.StHeal:
		return []string{"heal"}
	case api.StFuse:
		return []string{who, "fuse", strconv.Itoa(s.N)}
	case api.StOff:
		return []string{who, "off"}
	case api.StOn:
		l := []string{who, "on"}
		for _, n := range s.Picks {
			l = append(l, strconv.Itoa(n))
		}
		return l
	case api.StLeave:
		return []string{who, "leave", strconv.Itoa(s.J)}
	}
	return nil
}

// askWords tells the words of what a region is asked.
func askWords(a api.Ask) []string {
	node, amount := Name(a.Node), strconv.FormatInt(a.Amount, 10)
	to := strconv.Itoa(a.To)
	req, of := strconv.FormatUint(a.Req, 10), strconv.FormatUint(a.Of, 10)
	switch a.Kind {
	case api.EvNode:
		return []string{"node", node, amount}
	case api.EvRaise:
		return []string{"raise", node, amount}
	case api.EvTake:
		return []string{"take", node, amount, req}
	case api.EvFree:
		return []string{"free", of, req}
	case api.EvMove:
		return []string{"move", node, amount, to}
	case api.EvJoin:
		return []string{"join", to}
	}
	return nil
}

// same tells whether two items are the same.
func same(a, b Item) bool {
	s, t := a.S, b.S
	return a.Kind == b.Kind && a.Node == b.Node && a.N == b.N && s.Do == t.Do && s.Who == t.Who && s.A == t.A && s.K == t.K && s.J == t.J && s.N == t.N && slices.Equal(s.Picks, t.Picks)
}
