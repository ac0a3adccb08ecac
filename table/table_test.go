package table_test

import (
	"math"
	"math/rand"
	"slices"
	"testing"

	"cameo/graph"
	"cameo/table"
)

const (
	passive = table.Passive
	active  = table.Active
	blocked = table.Blocked
)

// both are the links between each of these two nodes, and the other way round.
func both(pairs ...[2]int) [][2]int {
	var links [][2]int
	for _, p := range pairs {
		links = append(links, p, [2]int{p[1], p[0]})
	}
	return links
}

// line has a link from each of n nodes to those beside it.
func line(n int) graph.Graph {
	g := graph.Graph{N: n}
	for i := n - 1; i > 0; i-- {
		g.Links = append(g.Links, both([2]int{i, i - 1})...)
	}
	return g
}

// example are the two nodes that the chapter names.
func example() []table.Node {
	return []table.Node{
		{States: []table.State{{Mode: active, Picks: []table.Pick{{Next: 1, Sends: []table.Send{{To: 1, Letter: 1}}}}}, {}}},
		{States: []table.State{{Mode: blocked, Waits: []int{0}, Takes: []table.Take{{From: 0, Letter: 1, Next: 1}}}, {}}},
	}
}

// idle are n nodes that do nothing.
func idle(n int) []table.Node {
	l := make([]table.Node, n)
	for i := range l {
		l[i].States = make([]table.State, 1)
	}
	return l
}

// among are the nodes of n, of which n is one, with l as its states.
func among(n, node int, l ...table.State) []table.Node {
	t := idle(n)
	t[node].States = l
	return t
}

// linked, mayGo and the rules below say the document's rule anew, one demand by one.
func linked(g graph.Graph, from, to int) bool {
	for _, l := range g.Links {
		if l[0] == from && l[1] == to {
			return true
		}
	}
	return false
}

func mayGo(g graph.Graph, from, to, letter int) bool {
	return linked(g, from, to) && 0 <= letter && letter <= 3
}

func isState(x table.Node, s int) bool {
	return 0 <= s && s < len(x.States)
}

func mayWait(g graph.Graph, n int, s table.State) bool {
	if s.Mode != blocked {
		return len(s.Waits) == 0
	}
	for i, w := range s.Waits {
		for _, v := range s.Waits[:i] {
			if v >= w {
				return false
			}
		}
		if !linked(g, w, n) {
			return false
		}
	}
	return len(s.Waits) > 0
}

func mayPick(g graph.Graph, n int, x table.Node, s table.State) bool {
	for _, k := range s.Picks {
		if s.Mode != active || !isState(x, k.Next) || len(k.Sends) > 4 {
			return false
		}
		for _, m := range k.Sends {
			if !mayGo(g, n, m.To, m.Letter) {
				return false
			}
		}
	}
	return len(s.Picks) <= 4
}

func mayTake(g graph.Graph, n int, x table.Node, s table.State) bool {
	for i, t := range s.Takes {
		for k, o := range s.Takes {
			if i != k && t.From == o.From && t.Letter == o.Letter {
				return false
			}
		}
		if !mayGo(g, t.From, n, t.Letter) || !isState(x, t.Next) {
			return false
		}
	}
	return true
}

func mayLead(x table.Node, s table.State) bool {
	if s.Mode != blocked {
		return true
	}
	for _, t := range s.Takes {
		var rest []int
		for _, w := range s.Waits {
			if w != t.From {
				rest = append(rest, w)
			}
		}
		next := x.States[t.Next]
		for _, w := range rest {
			if next.Mode != blocked || !slices.Contains(next.Waits, w) {
				return false
			}
		}
	}
	return true
}

// mayBe is the document's own rule.
func mayBe(l []table.Node, g graph.Graph) bool {
	if !graph.Right(g) || len(l) != g.N {
		return false
	}
	for n, x := range l {
		if len(x.States) < 1 || len(x.States) > 8 || !isState(x, x.Start) {
			return false
		}
		for _, s := range x.States {
			if s.Mode != passive && s.Mode != active && s.Mode != blocked || !mayWait(g, n, s) || !mayPick(g, n, x, s) || !mayTake(g, n, x, s) || !mayLead(x, s) {
				return false
			}
		}
	}
	return true
}

// anyGraph is one that may be, of 1 to 6 nodes.
func anyGraph(r *rand.Rand) graph.Graph {
	g := graph.Graph{N: 1 + r.Intn(6)}
	for a := range g.N {
		for b := range a {
			if b == a-1 || r.Intn(2) == 0 {
				g.Links = append(g.Links, both([2]int{a, b})...)
			}
		}
	}
	r.Shuffle(len(g.Links), func(i, k int) { g.Links[i], g.Links[k] = g.Links[k], g.Links[i] })
	return g
}

// anyState is one of a node of many states, whose takes lead nowhere yet.
func anyState(r *rand.Rand, g graph.Graph, n, many int) table.State {
	s := table.State{Mode: r.Intn(3)}
	var ends []int
	for a := range g.N {
		if linked(g, a, n) {
			ends = append(ends, a)
		}
	}
	for _, a := range ends {
		if s.Mode == blocked && r.Intn(2) == 0 {
			s.Waits = append(s.Waits, a)
		}
		for letter := range 4 {
			if r.Intn(3) == 0 {
				s.Takes = append(s.Takes, table.Take{From: a, Letter: letter})
			}
		}
	}
	if s.Mode == blocked && len(s.Waits) == 0 {
		s.Mode = passive
	}
	r.Shuffle(len(s.Takes), func(i, k int) { s.Takes[i], s.Takes[k] = s.Takes[k], s.Takes[i] })
	for s.Mode == active && len(s.Picks) < r.Intn(5) {
		k := table.Pick{Next: r.Intn(many)}
		for len(ends) > 0 && len(k.Sends) < r.Intn(5) {
			k.Sends = append(k.Sends, table.Send{To: ends[r.Intn(len(ends))], Letter: r.Intn(4)})
		}
		s.Picks = append(s.Picks, k)
	}
	return s
}

// anyTable is one that may be, over g.
func anyTable(r *rand.Rand, g graph.Graph) []table.Node {
	l := make([]table.Node, g.N)
	for n := range l {
		many := 1 + r.Intn(8)
		for range many {
			l[n].States = append(l[n].States, anyState(r, g, n, many))
		}
		l[n].Start = r.Intn(many)
		for s, x := range l[n].States {
			for i := range x.Takes {
				x.Takes[i].Next = r.Intn(many)
				if !mayLead(l[n], l[n].States[s]) {
					x.Takes[i].Next = s // where it stands it waits for all of its Waits
				}
			}
		}
	}
	return l
}

// numbers are all that a table has, so that each can be spoilt.
func numbers(l []table.Node) []*int {
	var all []*int
	for n := range l {
		all = append(all, &l[n].Start)
		for s := range l[n].States {
			x := &l[n].States[s]
			all = append(all, &x.Mode)
			for i := range x.Waits {
				all = append(all, &x.Waits[i])
			}
			for i := range x.Picks {
				all = append(all, &x.Picks[i].Next)
				for k := range x.Picks[i].Sends {
					all = append(all, &x.Picks[i].Sends[k].To, &x.Picks[i].Sends[k].Letter)
				}
			}
			for i := range x.Takes {
				all = append(all, &x.Takes[i].From, &x.Takes[i].Letter, &x.Takes[i].Next)
			}
		}
	}
	return all
}

// copyOf is a table that is the same, with lists of its own.
func copyOf(l []table.Node) []table.Node {
	l = slices.Clone(l)
	for n := range l {
		l[n].States = slices.Clone(l[n].States)
		for s := range l[n].States {
			x := &l[n].States[s]
			x.Waits, x.Picks, x.Takes = slices.Clone(x.Waits), slices.Clone(x.Picks), slices.Clone(x.Takes)
			for i := range x.Picks {
				x.Picks[i].Sends = slices.Clone(x.Picks[i].Sends)
			}
		}
	}
	return l
}

// same tells if two tables have the same of all.
func same(a, b []table.Node) bool {
	return slices.EqualFunc(a, b, func(x, y table.Node) bool {
		return x.Start == y.Start && slices.EqualFunc(x.States, y.States, func(s, t table.State) bool {
			return s.Mode == t.Mode && slices.Equal(s.Waits, t.Waits) && slices.Equal(s.Takes, t.Takes) && slices.EqualFunc(s.Picks, t.Picks, samePick)
		})
	})
}

func samePick(a, b table.Pick) bool {
	return a.Next == b.Next && slices.Equal(a.Sends, b.Sends)
}

func TestModes(t *testing.T) {
	if table.Passive != 0 || table.Active != 1 || table.Blocked != 2 || table.Modes != 3 {
		t.Error(table.Passive, table.Active, table.Blocked, table.Modes)
	}
}

func TestP41Right(t *testing.T) {
	full := graph.Full(6)
	var takes []table.Take
	for from := 5; from > 0; from-- {
		for letter := 3; letter >= 0; letter-- {
			takes = append(takes, table.Take{From: from, Letter: letter, Next: 7})
		}
	}
	sends := []table.Send{{To: 5, Letter: 3}, {To: 1}, {To: 1}, {To: 5, Letter: 3}}
	greatest := make([]table.State, 8)
	greatest[0] = table.State{Mode: active, Picks: slices.Repeat([]table.Pick{{Next: 7, Sends: sends}}, 4), Takes: takes}
	greatest[6] = table.State{Takes: takes}
	greatest[7] = table.State{Mode: blocked, Waits: []int{1, 2, 3, 4, 5}, Takes: takes}
	for i, x := range []struct {
		l []table.Node
		g graph.Graph
	}{
		{example(), graph.Full(2)}, {idle(1), graph.Full(1)}, {idle(6), full}, {idle(4), line(4)},
		{among(6, 0, greatest...), full},
		{among(1, 0, table.State{Mode: active}), graph.Full(1)},
		{among(1, 0, table.State{Mode: active, Picks: make([]table.Pick, 4)}), graph.Full(1)},
		{among(2, 1, table.State{Waits: []int{}, Picks: []table.Pick{}, Takes: []table.Take{}}), graph.Full(2)},
		{among(2, 1, table.State{Mode: blocked, Waits: []int{0}}), graph.Full(2)},
	} {
		if !table.Right(x.l, x.g) || !mayBe(x.l, x.g) {
			t.Error(i, x.l)
		}
	}
}

func TestP41RightOfNodes(t *testing.T) {
	for n := 1; n <= 6; n++ {
		for many := range 9 {
			for _, g := range []graph.Graph{graph.Full(n), line(n)} {
				if table.Right(idle(many), g) != (many == n) {
					t.Errorf("%d nodes over %v", many, g)
				}
			}
		}
	}
	if table.Right(nil, graph.Full(1)) || table.Right([]table.Node{}, graph.Full(1)) || table.Right(make([]table.Node, 2), graph.Full(2)) {
		t.Error("no states")
	}
}

func TestP41RightOfWrongGraphs(t *testing.T) {
	for i, g := range []graph.Graph{
		{}, {N: -1}, {N: 2}, {N: 2, Links: [][2]int{{0, 1}}}, {N: 2, Links: [][2]int{{0, 1}, {1, 0}, {0, 1}}}, {N: 1, Links: [][2]int{{0, 0}}},
		{N: 4, Links: both([2]int{0, 1}, [2]int{2, 3})}, line(7), {N: 2, Links: both([2]int{0, 1}, [2]int{0, 2})}, {N: math.MaxInt}, {N: math.MinInt},
	} {
		for many := range 9 {
			if table.Right(idle(many), g) {
				t.Error(i, many)
			}
		}
	}
	if table.Right(example(), graph.Graph{N: 2, Links: [][2]int{{0, 1}}}) {
		t.Error("one way alone")
	}
}

// wrongs are no places of a list of n.
func wrongs(n int) []int {
	return []int{math.MinInt, -1 << 32, -n, -1, n, n + 1, 1 << 32, math.MaxInt}
}

func TestP41RightOfStates(t *testing.T) {
	for many := range 12 {
		l := idle(3)
		l[1].States = make([]table.State, many)
		for start := range many {
			l[1].Start = start
			if table.Right(l, graph.Full(3)) != (many <= 8) {
				t.Errorf("%d states, from %d on", many, start)
			}
		}
		for _, start := range wrongs(max(many, 1)) {
			l[1].Start = start
			if table.Right(l, graph.Full(3)) {
				t.Errorf("%d states, from %d on", many, start)
			}
		}
	}
}

func TestP41RightOfModes(t *testing.T) {
	for _, mode := range append(wrongs(3), passive, active, blocked) {
		for _, waits := range [][]int{nil, {0}, {2}} {
			want := mode >= 0 && mode <= 2 && (mode == 2) == (len(waits) > 0)
			if table.Right(among(3, 1, table.State{}, table.State{Mode: mode, Waits: waits}), graph.Full(3)) != want {
				t.Error(mode, waits)
			}
		}
	}
}

func TestP41RightOfWaits(t *testing.T) {
	g := graph.Graph{N: 5, Links: both([2]int{2, 0}, [2]int{2, 1}, [2]int{2, 3}, [2]int{3, 4})} // of node 2: 0, 1, 3
	for _, x := range []struct {
		waits []int
		want  bool
	}{
		{nil, false}, {[]int{}, false},
		{[]int{0}, true}, {[]int{1}, true}, {[]int{3}, true}, {[]int{0, 1}, true}, {[]int{1, 3}, true}, {[]int{0, 3}, true}, {[]int{0, 1, 3}, true},
		{[]int{2}, false}, {[]int{4}, false}, {[]int{5}, false}, {[]int{-1}, false}, {[]int{math.MinInt}, false}, {[]int{math.MaxInt}, false},
		{[]int{0, 0}, false}, {[]int{0, 1, 1}, false}, {[]int{0, 0, 3}, false}, {[]int{1, 0}, false}, {[]int{3, 1}, false}, {[]int{0, 3, 1}, false}, {[]int{1, 0, 3}, false},
		{[]int{0, 2}, false}, {[]int{2, 3}, false}, {[]int{0, 1, 3, 4}, false}, {[]int{-1, 0}, false}, {[]int{0, 1, 3, 5}, false}, {[]int{0, 1, 2, 3, 4}, false},
		{make([]int, 1000000), false}, {slices.Repeat([]int{0, 1, 3}, 100000), false},
	} {
		if table.Right(among(5, 2, table.State{Mode: blocked, Waits: x.waits}), g) != x.want {
			t.Error(len(x.waits), x.waits[:min(len(x.waits), 9)])
		}
		for _, mode := range []int{passive, active} {
			if table.Right(among(5, 2, table.State{Mode: mode, Waits: x.waits}), g) != (len(x.waits) == 0) {
				t.Error(mode, len(x.waits), x.waits[:min(len(x.waits), 9)])
			}
		}
	}
}

func TestP41RightOfPicks(t *testing.T) {
	for mode := range 3 {
		s := table.State{Mode: mode}
		if mode == blocked {
			s.Waits = []int{0}
		}
		for many := range 7 {
			s.Picks = make([]table.Pick, many)
			if table.Right(among(3, 1, s), graph.Full(3)) != (many == 0 || mode == active && many <= 4) {
				t.Errorf("%d picks of mode %d", many, mode)
			}
		}
	}
	for many := 1; many <= 8; many++ {
		l := make([]table.State, many)
		for at := range 4 {
			picks := make([]table.Pick, 4)
			l[many-1] = table.State{Mode: active, Picks: picks}
			picks[at].Next = many - 1
			if !table.Right(among(3, 2, l...), graph.Full(3)) {
				t.Errorf("pick %d leads to the last of %d states", at, many)
			}
			for _, next := range wrongs(many) {
				picks[at].Next = next
				if table.Right(among(3, 2, l...), graph.Full(3)) {
					t.Errorf("pick %d leads to %d of %d states", at, next, many)
				}
			}
		}
	}
}

func TestP41RightOfSends(t *testing.T) {
	right := func(l ...table.Send) bool {
		return table.Right(among(4, 1, table.State{}, table.State{Mode: active, Picks: []table.Pick{{}, {Next: 1, Sends: l}}}), line(4))
	}
	for many := range 8 {
		if right(slices.Repeat([]table.Send{{To: 2}}, many)...) != (many <= 4) {
			t.Errorf("%d sends", many)
		}
	}
	for to := -2; to <= 6; to++ {
		for letter := -2; letter <= 6; letter++ {
			want := (to == 0 || to == 2) && letter >= 0 && letter <= 3
			s := table.Send{To: to, Letter: letter}
			if right(s) != want || right(table.Send{To: 2}, table.Send{To: 0}, table.Send{To: 2}, s) != want {
				t.Error(s)
			}
		}
	}
	for _, x := range wrongs(4) {
		if right(table.Send{To: x}) || right(table.Send{To: 2, Letter: x}) {
			t.Error(x)
		}
	}
}

func TestP41RightOfTakes(t *testing.T) {
	right := func(s table.State, l ...table.Take) bool {
		s.Takes = l
		return table.Right(among(4, 1, table.State{}, s), line(4))
	}
	for _, s := range []table.State{{}, {Mode: active}, {Mode: blocked, Waits: []int{0, 2}}} {
		for from := -2; from <= 6; from++ {
			for letter := -2; letter <= 6; letter++ {
				want := (from == 0 || from == 2) && letter >= 0 && letter <= 3
				x := table.Take{From: from, Letter: letter, Next: 1}
				if right(s, x) != want || right(s, table.Take{From: 0, Letter: 3 - letter&1, Next: 1}, x) != (want && (from != 0 || letter != 3-letter&1)) {
					t.Error(s, x)
				}
			}
		}
		for _, x := range wrongs(4) {
			if right(s, table.Take{From: x, Next: 1}) || right(s, table.Take{Letter: x, Next: 1}) {
				t.Error(s, x)
			}
		}
		for _, next := range wrongs(2) {
			if right(s, table.Take{Next: next}) || right(s, table.Take{Next: 1}, table.Take{From: 2, Next: next}) {
				t.Error(s, next)
			}
		}
	}
}

func TestP41RightOfTakesTwice(t *testing.T) {
	right := func(l ...table.Take) bool {
		return table.Right(among(4, 1, table.State{Takes: l}, table.State{}), line(4))
	}
	a, b, c := table.Take{From: 0, Letter: 2}, table.Take{From: 2, Letter: 2}, table.Take{From: 0, Letter: 1}
	other := table.Take{From: 0, Letter: 2, Next: 1}
	if !right(a, b, c) || !right(c, b, a) || !right(b, other, c) {
		t.Error("of unlike nodes or letters")
	}
	for i, l := range [][]table.Take{{a, a}, {a, other}, {other, a}, {a, b, a}, {a, b, c, other}, {b, c, a, c}, slices.Repeat([]table.Take{a}, 1000000)} {
		if right(l...) {
			t.Error(i)
		}
	}
	// Each state has takes of its own.
	if !table.Right(among(4, 1, table.State{Takes: []table.Take{a, b}}, table.State{Takes: []table.Take{a, b}}), line(4)) {
		t.Error("twice, in two states")
	}
}

// TestP41RightOfBlockedTakes: node 3 waits for some of 0, 1, 2, and takes a message, which leads to where it waits for some, or does not wait.
func TestP41RightOfBlockedTakes(t *testing.T) {
	waitsOf := func(bits int) (l []int) {
		for n := range 3 {
			if bits>>n&1 != 0 {
				l = append(l, n)
			}
		}
		return l
	}
	stateOf := func(bits int) table.State {
		if bits == 0 {
			return table.State{}
		}
		return table.State{Mode: blocked, Waits: waitsOf(bits)}
	}
	for ahead := range 8 {
		for behind := range 8 {
			for from := range 3 {
				s := stateOf(ahead)
				s.Takes = []table.Take{{From: from, Letter: 1, Next: 1}}
				want := ahead&^(1<<from)&^behind == 0
				if table.Right(among(4, 3, s, stateOf(behind)), graph.Full(4)) != want {
					t.Error(waitsOf(ahead), "takes of", from, waitsOf(behind))
				}
			}
		}
	}
}

func TestP41RightOfBlockedTakesOfOthers(t *testing.T) {
	first := table.State{Mode: blocked, Waits: []int{0, 2}, Takes: []table.Take{{From: 0, Next: 1}, {From: 2, Next: 2}, {From: 3, Next: 0}}}
	two := table.State{Mode: blocked, Waits: []int{2}, Takes: []table.Take{{From: 2, Next: 3}, {From: 0, Next: 0}}}
	null := table.State{Mode: blocked, Waits: []int{0}, Takes: []table.Take{{From: 0, Next: 4}}}
	work := table.State{Mode: active, Takes: []table.Take{{From: 0, Next: 3}, {From: 2, Next: 0}}}
	right := func(spoil func(l []table.State)) bool {
		l := copyOf(among(4, 1, first, two, null, table.State{}, work))
		spoil(l[1].States)
		return table.Right(l, graph.Full(4))
	}
	if !right(func(l []table.State) {}) {
		t.Error("right")
	}
	for i, spoil := range []func(l []table.State){
		func(l []table.State) { l[0].Takes[0].Next = 2 },
		func(l []table.State) { l[0].Takes[0].Next = 3 },
		func(l []table.State) { l[0].Takes[0].Next = 4 },
		func(l []table.State) { l[0].Takes[1].Next = 1 },
		func(l []table.State) { l[0].Takes[2].Next = 1 },
		func(l []table.State) { l[0].Takes[2].Next = 2 },
		func(l []table.State) { l[1].Takes[1].Next = 2 },
		func(l []table.State) { l[1].Takes[1].Next = 3 },
		func(l []table.State) { l[2].Takes[0].From = 2 },
		func(l []table.State) { l[2].Waits = []int{0, 3} },
		func(l []table.State) { l[1].Waits = []int{3} },
	} {
		if right(spoil) {
			t.Error(i)
		}
	}
	for i, change := range []func(l []table.State){
		func(l []table.State) { l[0].Takes[0].Next = 0 },
		func(l []table.State) { l[1].Takes[1].Next = 1 },
		func(l []table.State) { l[1].Takes[0].Next = 2 },
		func(l []table.State) { l[2].Takes[0].Next = 0 },
		func(l []table.State) { l[2].Waits = []int{0}; l[2].Takes[0].Next = 3 },
		func(l []table.State) { l[4].Takes[0].Next = 2 },
	} {
		if !right(change) {
			t.Error("right", i)
		}
	}
}

// TestP41RightOfEach holds Right against the rule over all tables of one node's two states that have few numbers.
func TestP41RightOfEach(t *testing.T) {
	g := line(3)
	var states []table.State
	for mode := -1; mode <= 3; mode++ {
		for _, waits := range [][]int{nil, {0}, {2}, {0, 2}, {2, 0}} {
			for _, picks := range [][]table.Pick{nil, {{Next: 1}}, {{Next: 2}}, {{Sends: []table.Send{{To: 2, Letter: 3}}}}, {{Sends: []table.Send{{To: 1}}}}} {
				for _, takes := range [][]table.Take{nil, {{From: 0, Next: 1}}, {{From: 2, Next: 0}}, {{From: 0, Next: 0}, {From: 2, Next: 1}}, {{From: 0}, {From: 0, Next: 1}}, {{From: 1}}, {{From: 0, Next: 2}}} {
					states = append(states, table.State{Mode: mode, Waits: waits, Picks: picks, Takes: takes})
				}
			}
		}
	}
	right := 0
	for _, a := range states {
		for _, b := range states {
			l := among(3, 1, a, b)
			if table.Right(l, g) != mayBe(l, g) {
				t.Fatal(l)
			}
			if table.Right(l, g) {
				right++
			}
		}
	}
	if right < 300 {
		t.Error("few are right:", right)
	}
}

func TestP41RightOfAny(t *testing.T) {
	r := rand.New(rand.NewSource(4))
	wrong := 0
	for range 1000 {
		g := anyGraph(r)
		l := anyTable(r, g)
		if !mayBe(l, g) || !table.Right(l, g) {
			t.Fatal(g, l)
		}
		for range 50 {
			spoilt := copyOf(l)
			all := numbers(spoilt)
			for range 1 + r.Intn(2) {
				*all[r.Intn(len(all))] = r.Intn(11) - 2
			}
			is := table.Right(spoilt, g)
			if is != mayBe(spoilt, g) {
				t.Fatal(g, spoilt)
			}
			if !is {
				wrong++
			}
		}
	}
	if wrong < 10000 || wrong > 45000 {
		t.Error("wrong of 50000:", wrong)
	}
}

// three is a table with all that can be told.
func three() []table.Node {
	return []table.Node{
		{Start: 1, States: []table.State{{}, {Mode: active, Picks: []table.Pick{{Next: 0, Sends: []table.Send{{To: 1, Letter: 0}, {To: 2, Letter: 3}}}, {Next: 1}}}}},
		{States: []table.State{
			{Mode: blocked, Waits: []int{0, 2}, Takes: []table.Take{{From: 2, Letter: 1, Next: 2}, {From: 0, Letter: 1, Next: 1}, {From: 0, Letter: 0, Next: 0}}},
			{Mode: blocked, Waits: []int{2}, Takes: []table.Take{{From: 2, Letter: 1, Next: 3}}},
			{Mode: blocked, Waits: []int{0}, Takes: []table.Take{{From: 0, Letter: 1, Next: 3}}},
			{},
		}},
		{States: []table.State{{Takes: []table.Take{{From: 0, Letter: 3, Next: 1}}}, {Mode: active, Takes: []table.Take{{From: 1, Letter: 2, Next: 0}}}}},
	}
}

func TestP42ModeAndWaits(t *testing.T) {
	l := three()
	if !table.Right(l, graph.Full(3)) {
		t.Fatal("right")
	}
	for n, states := range []([]struct {
		mode  int
		waits []int
	}){
		{{passive, nil}, {active, nil}},
		{{blocked, []int{0, 2}}, {blocked, []int{2}}, {blocked, []int{0}}, {passive, nil}},
		{{passive, nil}, {active, nil}},
	} {
		for s, x := range states {
			if table.Mode(l, n, s) != x.mode || !slices.Equal(table.Waits(l, n, s), x.waits) {
				t.Error(n, s, table.Mode(l, n, s), table.Waits(l, n, s))
			}
		}
	}
}

// noStates are nodes and states that three has not.
func noStates() [][2]int {
	var l [][2]int
	for n, states := range []int{2, 4, 2} {
		for _, s := range wrongs(states) {
			l = append(l, [2]int{n, s})
		}
	}
	for _, n := range wrongs(3) {
		for _, s := range append(wrongs(2), 0, 1) {
			l = append(l, [2]int{n, s})
		}
	}
	return l
}

func TestP42NoSuchState(t *testing.T) {
	l := three()
	for _, x := range noStates() {
		if table.Mode(l, x[0], x[1]) != passive || len(table.Waits(l, x[0], x[1])) != 0 {
			t.Error(x)
		}
		for k := -1; k <= 2; k++ {
			if p, is := table.Picked(l, x[0], x[1], k); is || p.Next != 0 || len(p.Sends) != 0 {
				t.Error(x, k, p)
			}
		}
		for from := -1; from <= 3; from++ {
			for letter := -1; letter <= 4; letter++ {
				if s := table.Taken(l, x[0], x[1], from, letter); s != x[1] {
					t.Error(x, from, letter, s)
				}
			}
		}
	}
	if table.Mode(nil, 0, 0) != passive || table.Waits(nil, 0, 0) != nil || table.Taken(nil, 0, 5, 0, 0) != 5 {
		t.Error("no nodes")
	}
}

func TestP42Picked(t *testing.T) {
	l := three()
	for k, want := range l[0].States[1].Picks {
		if p, is := table.Picked(l, 0, 1, k); !is || !samePick(p, want) {
			t.Error(k, p, is)
		}
	}
	for _, k := range wrongs(2) {
		if p, is := table.Picked(l, 0, 1, k); is || p.Next != 0 || len(p.Sends) != 0 {
			t.Error(k, p)
		}
	}
	for _, x := range [][2]int{{0, 0}, {1, 0}, {1, 3}, {2, 1}} {
		for k := -1; k <= 4; k++ {
			if p, is := table.Picked(l, x[0], x[1], k); is || p.Next != 0 || len(p.Sends) != 0 {
				t.Error(x, k, p)
			}
		}
	}
}

func TestP42Taken(t *testing.T) {
	l := three()
	for n, x := range l {
		for s, state := range x.States {
			for from := -2; from <= 7; from++ {
				for letter := -2; letter <= 5; letter++ {
					want := s
					for _, k := range state.Takes {
						if k.From == from && k.Letter == letter {
							want = k.Next
						}
					}
					if next := table.Taken(l, n, s, from, letter); next != want {
						t.Errorf("Taken(%d, %d, %d, %d) = %d", n, s, from, letter, next)
					}
				}
			}
			for _, far := range wrongs(1 << 40) {
				if table.Taken(l, n, s, far, 1) != s || table.Taken(l, n, s, 0, far) != s {
					t.Error(n, s, far)
				}
			}
		}
	}
	if table.Taken(l, 1, 0, 2, 1) != 2 || table.Taken(l, 1, 0, 0, 1) != 1 || table.Taken(l, 1, 0, 1, 1) != 0 || table.Taken(example(), 1, 0, 0, 1) != 1 {
		t.Error("takes of its own")
	}
}

func TestP42OfAny(t *testing.T) {
	r := rand.New(rand.NewSource(42))
	for range 300 {
		l := anyTable(r, anyGraph(r))
		for n, x := range l {
			for s, state := range x.States {
				if table.Mode(l, n, s) != state.Mode || !slices.Equal(table.Waits(l, n, s), state.Waits) {
					t.Fatal(l, n, s)
				}
				for k, want := range state.Picks {
					if p, is := table.Picked(l, n, s, k); !is || !samePick(p, want) {
						t.Fatal(l, n, s, k)
					}
				}
				for _, k := range state.Takes {
					if table.Taken(l, n, s, k.From, k.Letter) != k.Next {
						t.Fatal(l, n, s, k)
					}
				}
			}
		}
	}
}

// reached are the states to which node n may come from s, whatever it takes, but of one node.
func reached(l []table.Node, n, s, but int) []int {
	queue := []int{s}
	for at := 0; at < len(queue); at++ {
		for from := -1; from <= 6; from++ {
			for letter := -1; letter <= 4 && from != but; letter++ {
				if next := table.Taken(l, n, queue[at], from, letter); !slices.Contains(queue, next) {
					queue = append(queue, next)
				}
			}
		}
	}
	return queue
}

// checkStays holds a table that may be against what follows, and tells how often a node moved.
func checkStays(t *testing.T, l []table.Node) (moved int) {
	t.Helper()
	for n, x := range l {
		for s := range x.States {
			for _, w := range table.Waits(l, n, s) {
				states := reached(l, n, s, w)
				for _, next := range states {
					if table.Mode(l, n, next) != blocked || !slices.Contains(table.Waits(l, n, next), w) {
						t.Fatalf("%v: node %d, from %d to %d, waited for %d", l, n, s, next, w)
					}
				}
				moved += len(states) - 1
			}
		}
	}
	return moved
}

func TestP43WhatFollows(t *testing.T) {
	checkStays(t, example())
	checkStays(t, three())
	r := rand.New(rand.NewSource(43))
	moved := 0
	for range 500 {
		l := anyTable(r, anyGraph(r))
		moved += checkStays(t, l)
	}
	if moved < 100 {
		t.Error("few moved:", moved)
	}
}

// asked asks all that a table can be asked.
func asked(l []table.Node, g graph.Graph) {
	table.Right(l, g)
	for n := -1; n <= len(l); n++ {
		for s := -1; s <= 8; s++ {
			table.Mode(l, n, s)
			table.Waits(l, n, s)
			for k := -1; k <= 5; k++ {
				table.Picked(l, n, s, k)
			}
			table.Taken(l, n, s, 0, 1)
		}
	}
}

func TestR4ListsAreKept(t *testing.T) {
	waits, sends := []int{0, 2, 9, 9}, []table.Send{{To: 2, Letter: 2}, {To: 7, Letter: 7}}
	picks, takes := []table.Pick{{Sends: sends[:1]}, {Next: 9}}, []table.Take{{From: 2, Next: 0}, {From: 9, Letter: 9, Next: 9}}
	states := []table.State{{Mode: blocked, Waits: waits[:2], Takes: takes[:1]}, {Mode: active, Picks: picks[:1]}, {Mode: 9}}
	l := []table.Node{{States: make([]table.State, 1)}, {States: states[:2]}, {States: make([]table.State, 1)}, {Start: 9}}
	g := graph.Full(3)
	if !table.Right(l[:3], g) {
		t.Fatal("right")
	}
	was := copyOf(l)
	wasWaits, wasSends, wasTakes := slices.Clone(waits), slices.Clone(sends), slices.Clone(takes)
	asked(l[:3], g)
	asked(l[:2], g)
	if !same(l, was) || !slices.Equal(waits, wasWaits) || !slices.Equal(sends, wasSends) || !slices.Equal(takes, wasTakes) || picks[1].Next != 9 || states[2].Mode != 9 || !slices.Equal(g.Links, graph.Full(3).Links) {
		t.Error(l)
	}
}

func TestR4AnswersAreNewMemory(t *testing.T) {
	l := three()
	a := table.Waits(l, 1, 0)
	clear(a[:cap(a)])
	p, _ := table.Picked(l, 0, 1, 0)
	clear(p.Sends[:cap(p.Sends)])
	q, _ := table.Picked(l, 0, 1, 1)
	clear(q.Sends[:cap(q.Sends)])
	if !same(l, three()) {
		t.Error(l)
	}
	b := table.Waits(l, 1, 0)
	if o, _ := table.Picked(l, 0, 1, 0); !slices.Equal(b, []int{0, 2}) || !samePick(o, three()[0].States[1].Picks[0]) {
		t.Error(b, o)
	}
	l[1].States[0].Waits[0], l[0].States[1].Picks[0].Sends[0].To = 1, 2
	if !slices.Equal(b, []int{0, 2}) {
		t.Error(b)
	}
	// Room behind the lists that are handed in is none of the answer's.
	room := []int{0, 2, 5, 6}
	l[1].States[0].Waits = room[:2]
	_ = append(table.Waits(l, 1, 0), 7)
	l[1].States[0].Waits = room[:0]
	_ = append(table.Waits(l, 1, 0), 7)
	if !slices.Equal(room, []int{0, 2, 5, 6}) {
		t.Error(room)
	}
}

// spell hands out bytes as small numbers, of which some are wrong ones.
func spell(bytes []byte) func(most int) int {
	return func(most int) int {
		if len(bytes) == 0 {
			return 0
		}
		b := bytes[0]
		bytes = bytes[1:]
		return int(b)%(most+2) - int(b>>7)
	}
}

func FuzzP41(f *testing.F) {
	f.Add(int64(1), []byte{})
	f.Add(int64(2), []byte{1, 2, 3, 200, 9, 17})
	f.Fuzz(func(t *testing.T, seed int64, bytes []byte) {
		r := rand.New(rand.NewSource(seed))
		g := anyGraph(r)
		l := anyTable(r, g)
		all, next := numbers(l), spell(bytes)
		for range len(bytes) / 2 {
			*all[max(next(len(all)-2), 0)] = next(7)
		}
		is := table.Right(l, g)
		if is != mayBe(l, g) {
			t.Fatal(g, l)
		}
		asked(l, g)
		if is {
			checkStays(t, l)
		}
	})
}
