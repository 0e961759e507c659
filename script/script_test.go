package script_test

import (
	"slices"
	"strings"
	"testing"

	"leat/api"
	"leat/script"
)

const a = uint64(1<<40 + 1)

// same tells whether two items are the same.
func same(a, b script.Item) bool {
	s, t := a.S, b.S
	return a.Kind == b.Kind && a.Node == b.Node && a.N == b.N && s.Do == t.Do && s.Who == t.Who && s.A == t.A && s.K == t.K && s.J == t.J && s.N == t.N && slices.Equal(s.Picks, t.Picks)
}

// steps makes the item of a step.
func steps(s api.Step) script.Item { return script.Item{Kind: script.Steps, S: s} }

// ask makes the item of an ask.
func ask(who int, k api.Ask) script.Item { return steps(api.Step{Do: api.StAsk, Who: who, A: k}) }

// good are lines and what they are.
func good() map[string]script.Item {
	return map[string]script.Item{
		"1 node 0 10":  ask(1, api.Ask{Kind: api.EvNode, Amount: 10}),
		"6 node 1.1 0": ask(6, api.Ask{Kind: api.EvNode, Node: a}),
		"2 node 6.1099511627775 1125899906842624": ask(2, api.Ask{Kind: api.EvNode, Node: 7<<40 - 1, Amount: 1 << 50}),
		"3 raise 1.1 7":                 ask(3, api.Ask{Kind: api.EvRaise, Node: a, Amount: 7}),
		"3 raise 0 0":                   ask(3, api.Ask{Kind: api.EvRaise}),
		"2 take 1.1 4 7":                ask(2, api.Ask{Kind: api.EvTake, Node: a, Amount: 4, Req: 7}),
		"2 take 0 0 0":                  ask(2, api.Ask{Kind: api.EvTake}),
		"2 take 0 0 1125899906842624":   ask(2, api.Ask{Kind: api.EvTake, Req: 1 << 50}),
		"4 free 7 8":                    ask(4, api.Ask{Kind: api.EvFree, Of: 7, Req: 8}),
		"4 free 0 1125899906842624":     ask(4, api.Ask{Kind: api.EvFree, Req: 1 << 50}),
		"5 move 1.1 9 6":                ask(5, api.Ask{Kind: api.EvMove, Node: a, Amount: 9, To: 6}),
		"5 move 1.1 9 5":                ask(5, api.Ask{Kind: api.EvMove, Node: a, Amount: 9, To: 5}),
		"1 join 3":                      ask(1, api.Ask{Kind: api.EvJoin, To: 3}),
		"1 leave 2":                     steps(api.Step{Do: api.StLeave, Who: 1, J: 2}),
		"6 tick":                        steps(api.Step{Do: api.StTick, Who: 6}),
		"6 off":                         steps(api.Step{Do: api.StOff, Who: 6}),
		"6 on":                          steps(api.Step{Do: api.StOn, Who: 6}),
		"6 on 0":                        steps(api.Step{Do: api.StOn, Who: 6, Picks: []int{0}}),
		"6 on 1 2 3 4 5 6 7 2147483647": steps(api.Step{Do: api.StOn, Who: 6, Picks: []int{1, 2, 3, 4, 5, 6, 7, 1<<31 - 1}}),
		"1 fuse 0":                      steps(api.Step{Do: api.StFuse, Who: 1}),
		"1 fuse 2147483647":             steps(api.Step{Do: api.StFuse, Who: 1, N: 1<<31 - 1}),
		"1 cut 4":                       steps(api.Step{Do: api.StCut, Who: 1, J: 4}),
		"time 0":                        steps(api.Step{Do: api.StTime}),
		"time 16":                       steps(api.Step{Do: api.StTime, N: 16}),
		"deliver 3":                     steps(api.Step{Do: api.StDeliver, K: 3}),
		"drop 4":                        steps(api.Step{Do: api.StDrop, K: 4}),
		"twice 2147483647":              steps(api.Step{Do: api.StTwice, K: 1<<31 - 1}),
		"heal":                          steps(api.Step{Do: api.StHeal}),
		"calm 10":                       {Kind: script.Calms, N: 10},
		"calm 2147483647":               {Kind: script.Calms, N: 1<<31 - 1},
		"2 quota 1.1":                   {Kind: script.Quotas, S: api.Step{Who: 2}, Node: a},
		"2 quota 0":                     {Kind: script.Quotas, S: api.Step{Who: 2}},
		"sums 3.7":                      {Kind: script.Sums, Node: 3<<40 + 7},
		"sums 0":                        {Kind: script.Sums},
		"bound":                         {Kind: script.Bounds},
		"agree":                         {Kind: script.Agrees},
	}
}

// bad are lines that are nothing.
func bad() []string {
	l := []string{"", " ", "#", "# a remark", "regions 2", "1", "1 ", "0 tick", "7 tick", "01 tick", "11 tick", "-1 tick", "+1 tick", "tick", "1 node", "1 node 0", "1 node 0 010", "1 node 0 00", "1 node 0 -1", "1 node 0 +1", "1 node 0 x", "1 node 0 1_0",
		"1 node 0 1125899906842625", "1 node 0 99999999999999999999999999", "1 node 00 1", "1 node 1 1", "1 node 1. 1", "1 node .1 1", "1 node 1.0 1", "1 node 1.01 1", "1 node 7.1 1", "1 node 0.1 1", "1 node 1.1.1 1", "1 node 1.1099511627776 1", "1 node 01.1 1",
		"1 take 1.1 4", "1 take 1.1 4 1125899906842625", "1 take 1.1 4 07", "1 free 1", "1 free 1 02", "1 free 1125899906842625 1", "1 move 1.1 4", "1 move 1.1 4 7", "1 move 1.1 4 0", "1 move 1.1 4 1.1", "1 join", "1 join 0", "1 join 7", "1 join 1.1", "1 leave 9", "1 leave",
		"1 on 1 2 3 4 5 6 7 8 9", "1 on x", "1 on 2147483648", "1 on 01", "1 on -1", "1 on ", "1 fuse", "1 fuse -1", "1 fuse 2147483648", "1 fuse 00", "1 cut 0", "1 cut 7", "1 cut", "time", "time -1", "time 2147483648", "deliver", "deliver x", "drop 00", "twice 1 2",
		"1 deliver 0", "1 heal", "heal 1", "calm", "calm 2147483648", "1 calm 5", "quota 1.1", "1 quota", "1 sums 1.1", "sums", "bound yes", "agree 1", "1 bound", "1 time 4", "1 no", "NODE", "1 Node 0 10", "1\tnode 0 10", "1 node 0 10\r", "1 node 0 10\n", "１ tick", "1 tick\x00"}
	for line := range good() {
		if !strings.Contains(line, " on") {
			l = append(l, line+" 1")
		}
		l = append(l, line+" ", " "+line, line+" x", line+"x", "x"+line, strings.Replace(line, " ", "  ", 1)+" ")
		if strings.Contains(line, " ") {
			l = append(l, strings.Replace(line, " ", "  ", 1), strings.Replace(line, " ", "\t", 1), strings.ToUpper(line)+"?")
		}
	}
	return l
}

func TestNameAndId(t *testing.T) {
	for id, want := range map[uint64]string{0: "0", a: "1.1", 6<<40 + 5: "6.5", 7<<40 - 1: "6.1099511627775", 1: "", 1<<40 - 1: "", 1 << 40: "", 6 << 40: "", 7<<40 + 1: "", 1<<64 - 1: "", 256<<40 + 1: "", 2<<40 + 10: "2.10"} {
		if got := script.Name(id); got != want {
			t.Errorf("P28.1: Name of %d: %q", id, got)
		}
		if want == "" {
			continue
		}
		if got, ok := script.Id(want); got != id || !ok {
			t.Errorf("P28.1: Id of %q: %d, %v", want, got, ok)
		}
	}
	for _, s := range []string{"", "1", "00", "1.", ".1", ".", "1.0", "1.01", "0.1", "7.1", "1.1099511627776", "1.18446744073709551617", "1.1.1", "01.1", "1.-1", "1.+1", "-1.1", " 1.1", "1.1 ", "1,1", "a.b", "1.1_0", "0.0", "1.x"} {
		if got, ok := script.Id(s); got != 0 || ok {
			t.Errorf("P28.1: Id of %q: %d, %v", s, got, ok)
		}
	}
}

func TestReadAndForm(t *testing.T) {
	for line, want := range good() {
		if x, ok := script.Read(line); !same(x, want) || !ok {
			t.Errorf("P28.1: Read of %q: %v, %v", line, x, ok)
		}
		if got, ok := script.Form(want); got != line || !ok {
			t.Errorf("P28.4: %v is formed as %q, %v, not %q", want, got, ok, line)
		}
	}
	for _, line := range bad() {
		if x, ok := script.Read(line); !same(x, script.Item{}) || ok {
			t.Errorf("P28.1: Read of %q: %v, %v", line, x, ok)
		}
	}
}

func TestFormOfNone(t *testing.T) {
	turns := []func(x *script.Item){
		func(x *script.Item) { x.Kind = 6 }, func(x *script.Item) { x.Kind = 255 }, func(x *script.Item) { x.S.Do = 13 }, func(x *script.Item) { x.S.Who = 7 }, func(x *script.Item) { x.S.Who = -1 },
		func(x *script.Item) { x.S.K = -1 }, func(x *script.Item) { x.S.J = -1 }, func(x *script.Item) { x.S.J = 7 }, func(x *script.Item) { x.S.N = -1 }, func(x *script.Item) { x.N = -1 }, func(x *script.Item) { x.N = 1 << 31 },
		func(x *script.Item) { x.S.N = 1 << 31 }, func(x *script.Item) { x.S.K = 1 << 31 }, func(x *script.Item) { x.S.Picks = make([]int, 9) }, func(x *script.Item) { x.S.Picks = []int{-1} }, func(x *script.Item) { x.S.Picks = []int{1 << 31} },
		func(x *script.Item) { x.S.A.Kind = 8 }, func(x *script.Item) { x.S.A.Amount = -1 }, func(x *script.Item) { x.S.A.Amount = 1<<50 + 1 }, func(x *script.Item) { x.S.A.Req = 1<<50 + 1 }, func(x *script.Item) { x.S.A.Of = 1<<50 + 1 },
		func(x *script.Item) { x.S.A.To = -1 }, func(x *script.Item) { x.S.A.To = 7 }, func(x *script.Item) { x.S.A.Node = 5 }, func(x *script.Item) { x.Node = 5 },
	}
	for line, x := range good() {
		for k, turn := range turns {
			y := x
			turn(&y)
			if got, ok := script.Form(y); got != "" || ok {
				t.Errorf("P28.1: %q, turned by %d: Form is %q, %v", line, k, got, ok)
			}
		}
	}
	for _, x := range []script.Item{{}, ask(1, api.Ask{}), ask(1, api.Ask{Kind: api.EvLeave}), steps(api.Step{Do: api.StTick}), steps(api.Step{Do: api.StHeal, Who: 1}), steps(api.Step{Do: api.StLeave, Who: 1}), {Kind: script.Bounds, N: 1}, {Kind: script.Quotas, Node: a}, {Kind: script.Sums, Node: a, S: api.Step{Who: 1}}, ask(1, api.Ask{Kind: api.EvNode, Req: 1}), ask(1, api.Ask{Kind: api.EvJoin, To: 1, Node: a})} {
		if got, ok := script.Form(x); got != "" || ok {
			t.Errorf("P28.1: Form of %v: %q, %v", x, got, ok)
		}
	}
}

func TestExamples(t *testing.T) {
	out, at, e := script.Run("regions 2\n1 node 0 10\n1 tick\ndeliver 0\n2 take 1.1 4 7\n")
	if want := "1 node 0 10 -> ok 1.1\n1 tick -> ok\ndeliver 0 -> ok\n2 take 1.1 4 7 -> no 11\n"; out != want || at != 0 || e != api.OK {
		t.Errorf("P28.2: %q, %d, %d", out, at, e)
	}
	if out, at, e := script.Run("regions 1\n1 node 0 010"); out != "" || at != 2 || e != api.ErrBytes {
		t.Errorf("P28.2: %q, %d, %d", out, at, e)
	}
}

func TestRunErrors(t *testing.T) {
	long := "regions 1\n" + strings.Repeat("#\n", (65536-10)/2)
	for text, want := range map[string]struct {
		at int
		e  api.Errno
	}{
		"": {1, api.ErrBytes}, "\n": {2, api.ErrBytes}, "\n\n": {3, api.ErrBytes}, "# x": {2, api.ErrBytes}, "# x\n": {2, api.ErrBytes}, "# x\n\n#\n": {4, api.ErrBytes},
		"regions 2": {0, api.OK}, "regions 2\n": {0, api.OK}, "\n# x\nregions 6\n\n": {0, api.OK},
		"regions": {1, api.ErrBytes}, "regions 0": {1, api.ErrBytes}, "regions 7": {1, api.ErrBytes}, "regions  2": {1, api.ErrBytes}, "regions 2 ": {1, api.ErrBytes}, "regions 2 3": {1, api.ErrBytes}, "regions 02": {1, api.ErrBytes}, "Regions 2": {1, api.ErrBytes}, " regions 2": {1, api.ErrBytes},
		"heal": {1, api.ErrBytes}, "heal\nregions 2": {1, api.ErrBytes}, "#\n\nheal\nregions 2": {3, api.ErrBytes}, "regions 2\nregions 2": {2, api.ErrBytes},
		"regions 2\nheal\n\n #\nheal": {4, api.ErrBytes}, "regions 2\nheal\n ": {3, api.ErrBytes}, "regions 2\r\nheal": {1, api.ErrBytes}, "regions 2\nheal\nx\ny": {3, api.ErrBytes}, "x\ny": {1, api.ErrBytes},
		long: {0, api.OK}, long + "\n": {0, api.ErrMany}, strings.Repeat("x", 65537): {0, api.ErrMany}, strings.Repeat("x", 65536): {1, api.ErrBytes}, strings.Repeat("\n", 65536): {65537, api.ErrBytes}, strings.Repeat(" ", 65536): {1, api.ErrBytes},
	} {
		out, at, e := script.Run(text)
		if at != want.at || e != want.e || e != api.OK && out != "" {
			t.Errorf("P28.2: Run of %.40q, %d bytes: %q, %d, %d; not %v", text, len(text), out, at, e, want)
		}
	}
}

const play = `# a play
regions 2

1 node 0 10
1 node 1.1 3
bound
agree
2 quota 1.1
1 quota 1.1
calm 10
2 quota 1.1
2 take 1.2 2 7
time 1
2 tick
deliver 0
deliver 0
1 tick
deliver 0
2 take 1.2 2 7
time 16
2 tick
deliver 0
deliver 0
1 tick
deliver 0
2 take 1.2 2 7
2 take 1.2 2 7
2 take 1.2 3 7
2 free 7 8
2 free 7 8
2 free 7 9
sums 1.1
sums 1.9
1 raise 1.1 5
1 move 1.1 3 2
1 join 3
1 join 9
`

func TestAnswers(t *testing.T) {
	if _, at, e := script.Run(play); at != 37 || e != api.ErrBytes {
		t.Errorf("P28.2: %d, %d", at, e)
	}
	text := strings.TrimSuffix(play, "1 join 9\n") + "# more\n1 fuse 0\n1 take 1.1 1 1\n1 take 1.1 1 1\n1 quota 1.1\n1 on 1\n1 on 1\n1 take 1.1 1 1\n1 off\n1 off\n1 tick\n1 on\n3 node 0 5\n1 cut 2\n1 tick\nheal\n1 tick\ntwice 0\ndrop 0\ndrop 9\ndeliver 9\ntwice 9\ncalm 1001\ncalm 1000\n3 node 0 5\n1 leave 2\n1 leave 2\n1 quota 1.1\n1 quota 0\nsums 1.1\nbound\nagree"
	want := []string{"ok 1.1", "ok 1.2", "yes", "yes", "no 9", "10 0 10 0 0 0 0 0", "1", "10 0 10 0 0 0 0 0", "no 11", "ok", "ok", "ok", "ok", "ok", "ok", "no 11", "ok", "ok", "ok", "ok", "ok", "ok", "ok 2.1", "ok", "no 14", "ok 2.2", "ok", "no 12", "10 0", "no 9",
		"ok 1.5", "ok 1.6", "ok 1.7",
		"ok", "no 8", "no 8", "no 8", "ok", "no 3", "ok", "ok", "ok", "no 8", "ok", "no 10", "ok", "ok", "ok", "ok", "ok", "ok", "no 4", "no 4", "no 4", "no 1", "1", "ok 3.1", "ok", "no 10"}
	out, at, e := script.Run(text)
	if at != 0 || e != api.OK {
		t.Fatalf("P28.2: %q, %d, %d", out, at, e)
	}
	var said []string
	for _, line := range strings.Split(text, "\n")[2:] {
		if line != "" && line[0] != '#' {
			said = append(said, line)
		}
	}
	got := strings.Split(strings.TrimSuffix(out, "\n"), "\n")
	if len(got) != len(said) || !strings.HasSuffix(out, "\n") {
		t.Fatalf("P28.2: %d lines, not %d", len(got), len(said))
	}
	for k, line := range said {
		if k < len(want) && got[k] != line+" -> "+want[k] {
			t.Errorf("P28.3: %q, not -> %s", got[k], want[k])
		}
		if !strings.HasPrefix(got[k], line+" -> ") {
			t.Errorf("P28.2: %q, of %q", got[k], line)
		}
	}
	rest := got[len(want):]
	tail := []string{"1 quota 1.1 -> 15 1 0 14 0 0 0 0", "1 quota 0 -> no 9", "sums 1.1 -> 15 1", "bound -> yes", "agree -> yes"}
	if !slices.Equal(rest, tail) {
		t.Errorf("P28.3: %q", rest)
	}
	l := strings.Split(text, "\n")
	for k := 3; k <= len(l); k++ {
		begin, at, e := script.Run(strings.Join(l[:k], "\n"))
		if !strings.HasPrefix(out, begin) || at != 0 || e != api.OK {
			t.Errorf("P28.4: the first %d lines tell %q, %d, %d", k, begin, at, e)
		}
	}
}
