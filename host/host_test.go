package host_test

import (
	"math"
	"math/rand"
	"slices"
	"testing"
	"unsafe"

	"cameo/api"
	"cameo/graph"
	"cameo/host"
	"cameo/piece"
	"cameo/plain"
	"cameo/table"
)

// two are the nodes that the chapter names: 0 sends letter 1 to 1, which waits for that.
func two(fifo bool) plain.App {
	return plain.App{G: graph.Full(2), Fifo: fifo, T: []table.Node{
		{States: []table.State{{Mode: table.Active, Picks: []table.Pick{{Next: 1, Sends: []table.Send{{To: 1, Letter: 1}}}}}, {}}},
		{States: []table.State{{Mode: table.Blocked, Waits: []int{0}, Takes: []table.Take{{From: 0, Letter: 1, Next: 1}}}, {}}},
	}}
}

// three has node 1 between 0 and 2, and links in no order: 1 and 3 lead from node 1, to 2 and to 0; 0 leads to it from 2, and 2 from 0.
func three(fifo bool) plain.App {
	sends := func(l ...int) (s []table.Send) { // each is a node, and ten times a letter
		for _, x := range l {
			s = append(s, table.Send{To: x % 10, Letter: x / 10})
		}
		return s
	}
	return plain.App{Fifo: fifo, G: graph.Graph{N: 3, Links: [][2]int{{2, 1}, {1, 2}, {0, 1}, {1, 0}}}, T: []table.Node{
		{Start: 1, States: []table.State{
			{Mode: table.Active, Picks: []table.Pick{{Next: 1, Sends: sends(31)}, {Next: 2}}},
			{Takes: []table.Take{{From: 1, Letter: 2, Next: 0}}},
			{Mode: table.Blocked, Waits: []int{1}, Takes: []table.Take{{From: 1, Letter: 0, Next: 1}}},
		}},
		{Start: 0, States: []table.State{
			{Mode: table.Active, Picks: []table.Pick{{Next: 0, Sends: sends(20, 12, 0, 22)}, {Next: 1, Sends: sends(30, 10)}, {Next: 0}, {Next: 2, Sends: sends(2)}}, Takes: []table.Take{{From: 0, Letter: 3, Next: 1}}},
			{Mode: table.Active, Takes: []table.Take{{From: 0, Letter: 3, Next: 0}, {From: 2, Letter: 3, Next: 2}}},
			{Takes: []table.Take{{From: 2, Letter: 0, Next: 0}}},
			{},
		}},
		{Start: 2, States: []table.State{
			{},
			{Mode: table.Active, Picks: []table.Pick{{Next: 2, Sends: sends(1, 31)}}},
			{Takes: []table.Take{{From: 1, Letter: 1, Next: 1}, {From: 1, Letter: 2, Next: 2}}},
		}},
	}}
}

// full are n passive nodes with all links there can be.
func full(n int, fifo bool) plain.App {
	a := plain.App{G: graph.Full(n), T: make([]table.Node, n), Fifo: fifo}
	for i := range a.T {
		a.T[i].States = make([]table.State, 1)
	}
	return a
}

func both(f func(fifo bool)) {
	f(true)
	f(false)
}

// messages are some, by a number each: ten times the Seq, and the Letter.
func messages(l ...int) (m []api.Msg) {
	for _, x := range l {
		m = append(m, api.Msg{Seq: x / 10, Letter: x % 10})
	}
	return m
}

// every are the messages from 1 to 500.
func every() (l []api.Msg) {
	for i := range 500 {
		l = append(l, api.Msg{Seq: i + 1, Letter: i % 4})
	}
	return l
}

// wrongs are no places of a list of n.
func wrongs(n int) []int {
	return []int{math.MinInt, -1 << 32, -n - 1, -1, n, n + 1, 1 << 32, 1<<32 + 1, math.MaxInt}
}

// copyOf is a host that is the same, with lists of its own.
func copyOf(h host.Host) host.Host {
	h.In, h.Out = slices.Clone(h.In), slices.Clone(h.Out)
	for i, l := range h.In {
		h.In[i] = slices.Clone(l)
	}
	for i, l := range h.Out {
		h.Out[i] = slices.Clone(l)
	}
	return h
}

func equal(a, b host.Host) bool {
	return a.Node == b.Node && a.State == b.State && a.Steps == b.Steps &&
		slices.EqualFunc(a.In, b.In, slices.Equal) && slices.EqualFunc(a.Out, b.Out, slices.Equal)
}

func isZero(h host.Host) bool {
	return h.Node == 0 && h.State == 0 && h.Steps == 0 && len(h.In) == 0 && len(h.Out) == 0
}

// linksAt are the links whose one end is n, said anew.
func linksAt(a plain.App, end, n int) (l []int) {
	for i, x := range a.G.Links {
		if x[end] == n {
			l = append(l, i)
		}
	}
	return l
}

// mayBe is the document's own rule of a host, over a table that may be.
func mayBe(a plain.App, h host.Host) bool {
	if h.Node < 0 || h.Node > len(a.T)-1 || h.State < 0 || h.State > len(a.T[h.Node].States)-1 || h.Steps < 0 || h.Steps > 1<<31-1 {
		return false
	}
	for _, l := range h.In {
		for i, m := range l {
			if m.Seq < 1 || m.Seq > 500 || m.Letter < 0 || m.Letter > 3 || i > 0 && l[i-1].Seq >= m.Seq {
				return false
			}
		}
	}
	for _, l := range h.Out {
		for _, letter := range l {
			if letter < 0 || letter > 3 {
				return false
			}
		}
		if len(l) > 500 {
			return false
		}
	}
	return len(h.In) == len(linksAt(a, 1, h.Node)) && len(h.Out) == len(linksAt(a, 0, h.Node))
}

// pickedAnew is the document's Pick, said anew.
func pickedAnew(a plain.App, h host.Host, k int) (host.Host, []host.Sent, api.Errno) {
	state := a.T[h.Node].States[h.State]
	if state.Mode != 1 {
		return host.Host{}, nil, api.ErrIdle
	}
	if k < 0 || k > len(state.Picks)-1 {
		return host.Host{}, nil, api.ErrNone
	}
	x := copyOf(h)
	x.State, x.Steps = state.Picks[k].Next, h.Steps+1
	var sent []host.Sent
	for _, s := range state.Picks[k].Sends {
		for i, link := range linksAt(a, 0, h.Node) {
			if a.G.Links[link][1] == s.To {
				x.Out[i] = append(x.Out[i], s.Letter)
				sent = append(sent, host.Sent{Link: link, M: api.Msg{Seq: len(x.Out[i]), Letter: s.Letter}})
			}
		}
	}
	for _, l := range x.Out {
		if len(l) > 500 {
			return host.Host{}, nil, api.ErrBig
		}
	}
	return x, sent, api.OK
}

// takenAnew is the document's Take, said anew.
func takenAnew(a plain.App, h host.Host, link int, m api.Msg) (host.Host, api.Errno) {
	i := slices.Index(linksAt(a, 1, h.Node), link)
	if i < 0 || m.Seq < 1 || m.Seq > 500 || m.Letter < 0 || m.Letter > 3 {
		return host.Host{}, api.ErrArg
	}
	for _, other := range h.In[i] {
		if other.Seq == m.Seq {
			return host.Host{}, api.ErrArg
		}
	}
	x := copyOf(h)
	x.Steps++
	x.In[i] = append(x.In[i], m)
	slices.SortFunc(x.In[i], func(a, b api.Msg) int { return a.Seq - b.Seq })
	for _, t := range a.T[h.Node].States[h.State].Takes {
		if t.From == a.G.Links[link][0] && t.Letter == m.Letter {
			x.State = t.Next
		}
	}
	return x, api.OK
}

// anyApp is one that may be, with 1 to 6 nodes.
func anyApp(r *rand.Rand) plain.App {
	a := plain.App{G: graph.Graph{N: 1 + r.Intn(6)}, Fifo: r.Intn(2) == 0}
	near := make([][]int, a.G.N)
	for x := range a.G.N {
		for y := range x {
			if y == x-1 || r.Intn(3) == 0 {
				a.G.Links = append(a.G.Links, [2]int{x, y}, [2]int{y, x})
				near[x], near[y] = append(near[x], y), append(near[y], x)
			}
		}
	}
	r.Shuffle(len(a.G.Links), func(i, k int) { a.G.Links[i], a.G.Links[k] = a.G.Links[k], a.G.Links[i] })
	for _, l := range near {
		many := 1 + r.Intn(8)
		x := table.Node{Start: r.Intn(many)}
		for s := range many {
			x.States = append(x.States, anyState(r, l, s, many))
		}
		a.T = append(a.T, x)
	}
	return a
}

// anyState is state s of many, of a node that has links with those of near. It waits for one node, if for any, and only that one's messages lead elsewhere then.
func anyState(r *rand.Rand, near []int, s, many int) table.State {
	if len(near) == 0 {
		return table.State{Mode: r.Intn(2)}
	}
	x := table.State{Mode: r.Intn(3)}
	if x.Mode == table.Blocked {
		x.Waits = []int{near[r.Intn(len(near))]}
	}
	for _, from := range near {
		for letter := range 4 {
			t := table.Take{From: from, Letter: letter, Next: r.Intn(many)}
			if x.Mode == table.Blocked && from != x.Waits[0] {
				t.Next = s
			}
			if r.Intn(2) == 0 {
				x.Takes = append(x.Takes, t)
			}
		}
	}
	for x.Mode == table.Active && len(x.Picks) < 1+r.Intn(4) {
		k := table.Pick{Next: r.Intn(many)}
		for range r.Intn(5) {
			k.Sends = append(k.Sends, table.Send{To: near[r.Intn(len(near))], Letter: r.Intn(4)})
		}
		x.Picks = append(x.Picks, k)
	}
	return x
}

// anyHost is one of a that may be, that took few messages or many, and sent few or nearly all that it ever can.
func anyHost(r *rand.Rand, a plain.App) host.Host {
	h := host.Host{Node: r.Intn(a.G.N), Steps: r.Intn(1000)}
	h.State = r.Intn(len(a.T[h.Node].States))
	if r.Intn(4) == 0 {
		h.Steps = 1<<31 - 2
	}
	for range linksAt(a, 1, h.Node) {
		var l []api.Msg
		span, rare := 1+r.Intn(20), 1+r.Intn(3)
		if r.Intn(3) == 0 {
			span = 500
		}
		for seq := 1; seq <= span; seq++ {
			if r.Intn(rare) == 0 {
				l = append(l, api.Msg{Seq: seq, Letter: r.Intn(4)})
			}
		}
		h.In = append(h.In, l)
	}
	for range linksAt(a, 0, h.Node) {
		l := make([]int, r.Intn(8))
		if r.Intn(3) == 0 {
			l = make([]int, 500-len(l))
		}
		for i := range l {
			l[i] = r.Intn(4)
		}
		h.Out = append(h.Out, l)
	}
	return h
}

// numbersOf are all that a host has, so that each can be spoilt.
func numbersOf(h *host.Host) []*int {
	all := []*int{&h.Node, &h.State, &h.Steps}
	for _, l := range h.In {
		for i := range l {
			all = append(all, &l[i].Seq, &l[i].Letter)
		}
	}
	for _, l := range h.Out {
		for i := range l {
			all = append(all, &l[i])
		}
	}
	return all
}

// picks holds that a pick is done as it has to be.
func picks(t *testing.T, a plain.App, h host.Host, k int) (host.Host, []host.Sent) {
	t.Helper()
	was := copyOf(h)
	want, sent, _ := pickedAnew(a, h, k)
	x, s, e := host.Pick(a, h, k)
	if e != api.OK || !equal(x, want) || !slices.Equal(s, sent) || !equal(h, was) || !host.Right(a, x) {
		t.Fatalf("Pick(%v, %d) = %v, %v, %d", was, k, x, s, e)
	}
	return x, s
}

// picksNot holds with which error a pick is not done.
func picksNot(t *testing.T, a plain.App, h host.Host, k int, want api.Errno) {
	t.Helper()
	was := copyOf(h)
	x, s, e := host.Pick(a, h, k)
	if e != want || !isZero(x) || len(s) != 0 || !equal(h, was) {
		t.Fatalf("Pick(%v, %d) = %v, %v, %d, not %d", was, k, x, s, e, want)
	}
}

// takes holds that a message is taken as it has to be.
func takes(t *testing.T, a plain.App, h host.Host, link int, m api.Msg) host.Host {
	t.Helper()
	was := copyOf(h)
	want, _ := takenAnew(a, h, link, m)
	x, e := host.Take(a, h, link, m)
	if e != api.OK || !equal(x, want) || !equal(h, was) || !host.Right(a, x) {
		t.Fatalf("Take(%v, %d, %v) = %v, %d", was, link, m, x, e)
	}
	return x
}

// takesNot holds that a message is refused.
func takesNot(t *testing.T, a plain.App, h host.Host, link int, m api.Msg) {
	t.Helper()
	was := copyOf(h)
	x, e := host.Take(a, h, link, m)
	if e != api.ErrArg || !isZero(x) || !equal(h, was) {
		t.Fatalf("Take(%v, %d, %v) = %v, %d", was, link, m, x, e)
	}
}

func TestExample(t *testing.T) {
	both(func(fifo bool) {
		a := two(fifo)
		h, s, e := host.Pick(a, host.New(a, 0), 0)
		if e != api.OK || !slices.Equal(s, []host.Sent{{Link: 0, M: api.Msg{Seq: 1, Letter: 1}}}) || host.Gave(a, h, 0) != 1 || host.Got(a, h, 1) != 0 {
			t.Error(h, s, e)
		}
		if !equal(h, host.Host{State: 1, Steps: 1, In: make([][]api.Msg, 1), Out: [][]int{{1}}}) {
			t.Error(h)
		}
		x, e := host.Take(a, host.New(a, 1), 0, s[0].M)
		if e != api.OK || !equal(x, host.Host{Node: 1, State: 1, Steps: 1, In: [][]api.Msg{messages(11)}, Out: make([][]int, 1)}) || host.Got(a, x, 0) != 1 || host.Gave(a, x, 1) != 0 {
			t.Error(x, e)
		}
	})
}

func TestP91New(t *testing.T) {
	both(func(fifo bool) {
		for n := 1; n <= 6; n++ {
			a := full(n, fifo)
			for node := range n {
				if h := host.New(a, node); !equal(h, host.Host{Node: node, In: make([][]api.Msg, n-1), Out: make([][]int, n-1)}) || !host.Right(a, h) {
					t.Error(n, h)
				}
			}
		}
		a := three(fifo)
		for node, want := range []host.Host{{State: 1, In: make([][]api.Msg, 1), Out: make([][]int, 1)}, {Node: 1, In: make([][]api.Msg, 2), Out: make([][]int, 2)}, {Node: 2, State: 2, In: make([][]api.Msg, 1), Out: make([][]int, 1)}} {
			if h := host.New(a, node); !equal(h, want) || !host.Right(a, h) {
				t.Error(h, want)
			}
		}
	})
}

// TestP91NewOfNoNode: where there is no such node it is node 0, with its links and its Start.
func TestP91NewOfNoNode(t *testing.T) {
	both(func(fifo bool) {
		for _, a := range []plain.App{three(fifo), two(fifo), full(1, fifo), full(6, fifo)} {
			for _, n := range wrongs(a.G.N) {
				if h := host.New(a, n); !equal(h, host.New(a, 0)) || h.Node != 0 || h.State != a.T[0].Start || !host.Right(a, h) {
					t.Error(n, h)
				}
			}
		}
	})
}

func TestP91RightOfWrongTables(t *testing.T) {
	both(func(fifo bool) {
		for i, spoil := range []func(a *plain.App){
			func(a *plain.App) { a.T[0].Start = 3 },
			func(a *plain.App) { a.T[1].States[0].Mode = 3 },
			func(a *plain.App) { a.T[2].States[1].Picks[0].Next = -1 },
			func(a *plain.App) { a.T[0].States[0].Picks[0].Sends[0].To = 2 },
			func(a *plain.App) { a.T[0].States[2].Waits = nil },
			func(a *plain.App) { a.T = a.T[:2] },
			func(a *plain.App) { a.T = append(a.T, a.T[0]) },
			func(a *plain.App) { a.T = nil },
			func(a *plain.App) { a.G.N = 2 },
			func(a *plain.App) { a.G.Links = a.G.Links[:3] },
			func(a *plain.App) { a.G = graph.Graph{} },
			func(a *plain.App) { *a = plain.App{Fifo: fifo} },
		} {
			a := three(fifo)
			l := []host.Host{host.New(a, 0), host.New(a, 1), host.New(a, 2), {}}
			spoil(&a)
			for _, h := range append(l, host.New(a, 0), host.New(a, 2)) {
				if host.Right(a, h) {
					t.Error(i, h)
				}
			}
		}
	})
}

func TestP91RightOfNodesAndStates(t *testing.T) {
	both(func(fifo bool) {
		a := three(fifo)
		for node, many := range []int{3, 4, 3} {
			h := host.New(a, node)
			for state := range many {
				if h.State = state; !host.Right(a, h) {
					t.Error(h)
				}
			}
			for _, state := range append(wrongs(many), 5, 6, 7, 8) {
				if h.State = state; host.Right(a, h) {
					t.Error(h)
				}
			}
			for _, n := range append(wrongs(3), 5, 6) {
				h := host.New(a, node)
				h.State = 0
				if h.Node = n; host.Right(a, h) {
					t.Error(h)
				}
			}
		}
		// Nodes with unlike links, and unlike states, are none of the others.
		h := host.New(a, 0)
		h.Node = 1
		if host.Right(a, h) {
			t.Error(h)
		}
		h = host.New(a, 1)
		h.Node = 2
		if host.Right(a, h) {
			t.Error(h)
		}
		if h := host.New(full(6, fifo), 5); !host.Right(full(6, fifo), h) || host.Right(full(5, fifo), h) {
			t.Error(h)
		}
	})
}

func TestP91RightOfSteps(t *testing.T) {
	both(func(fifo bool) {
		a := three(fifo)
		for node := range 3 {
			h := host.New(a, node)
			for _, steps := range []int{0, 1, 2, 500, 501, 3000, 1 << 20, 1<<31 - 2, 1<<31 - 1} {
				if h.Steps = steps; !host.Right(a, h) {
					t.Error(h)
				}
			}
			for _, steps := range []int{math.MinInt, -1 << 32, -2, -1, 1 << 31, 1<<31 + 1, 1 << 32, math.MaxInt} {
				if h.Steps = steps; host.Right(a, h) {
					t.Error(h)
				}
			}
		}
	})
}

// TestP91RightOfLinks: it has just its links, of both ways.
func TestP91RightOfLinks(t *testing.T) {
	both(func(fifo bool) {
		for _, a := range []plain.App{full(1, fifo), two(fifo), three(fifo), full(6, fifo)} {
			for node := range a.G.N {
				many := len(linksAt(a, 0, node))
				for in := range 9 {
					for out := range 9 {
						h := host.Host{Node: node, In: make([][]api.Msg, in), Out: make([][]int, out)}
						if host.Right(a, h) != (in == many && out == many) {
							t.Error(a.G.N, node, in, out)
						}
					}
				}
				h := host.New(a, node)
				if h.In = make([][]api.Msg, 1000000); host.Right(a, h) {
					t.Error("many in")
				}
				h = host.New(a, node)
				if h.Out = make([][]int, 1000000); host.Right(a, h) {
					t.Error("many out")
				}
			}
		}
	})
}

func TestP91RightOfMessages(t *testing.T) {
	for i, x := range []struct {
		l    []api.Msg
		want bool
	}{
		{nil, true}, {[]api.Msg{}, true}, {messages(10), true}, {messages(13), true}, {messages(14), false}, {messages(0), false}, {messages(3), false},
		{messages(11, 22, 33), true}, {messages(91, 502), true}, {messages(20, 10), false}, {messages(10, 10), false}, {messages(10, 20, 20), false}, {messages(20, 30, 10), false}, {messages(0, 10), false}, {messages(20, 34, 50), false},
		{messages(4990, 5003), true}, {messages(5003), true}, {messages(5010), false}, {messages(10, 5010), false}, {messages(5000, 5000), false},
		{[]api.Msg{{Seq: -1}}, false}, {[]api.Msg{{Seq: 1, Letter: -1}}, false}, {[]api.Msg{{Seq: math.MinInt}, {Seq: 1}}, false}, {[]api.Msg{{Seq: 1}, {Seq: math.MaxInt}}, false},
		{[]api.Msg{{Seq: 1, Letter: math.MaxInt}}, false}, {[]api.Msg{{Seq: 1, Letter: math.MinInt}}, false}, {[]api.Msg{{Seq: 1, Letter: 1 << 32}}, false}, {[]api.Msg{{Seq: 1<<32 + 1}}, false},
		{every(), true}, {every()[1:], true}, {slices.Concat(every(), messages(5010)), false}, {slices.Repeat(every(), 1000), false},
	} {
		both(func(fifo bool) {
			a := three(fifo)
			for node := range 3 {
				for at := range linksAt(a, 1, node) {
					h := host.New(a, node)
					if h.In[at] = x.l; host.Right(a, h) != x.want {
						t.Errorf("%d: node %d, %d, %d messages", i, node, at, len(x.l))
					}
				}
			}
		})
	}
}

func TestP91RightOfLetters(t *testing.T) {
	for i, x := range []struct {
		l    []int
		want bool
	}{
		{nil, true}, {[]int{}, true}, {[]int{0}, true}, {[]int{3}, true}, {[]int{3, 0, 2, 1, 0, 0}, true},
		{[]int{4}, false}, {[]int{-1}, false}, {[]int{0, 4}, false}, {[]int{4, 0}, false}, {[]int{0, -1, 0}, false}, {[]int{math.MinInt}, false}, {[]int{math.MaxInt}, false}, {[]int{1 << 32}, false},
		{make([]int, 499), true}, {make([]int, 500), true}, {make([]int, 501), false}, {make([]int, 1000000), false}, {slices.Repeat([]int{3}, 500), true}, {append(make([]int, 499), 4), false},
	} {
		both(func(fifo bool) {
			a := three(fifo)
			for node := range 3 {
				for at := range linksAt(a, 0, node) {
					h := host.New(a, node)
					if h.Out[at] = x.l; host.Right(a, h) != x.want {
						t.Errorf("%d: node %d, %d, %d letters", i, node, at, len(x.l))
					}
				}
			}
		})
	}
}

func TestP91RightOfAny(t *testing.T) {
	r := rand.New(rand.NewSource(91))
	wrong := 0
	for range 1000 {
		a := anyApp(r)
		if !table.Right(a.T, a.G) {
			t.Fatal(a)
		}
		h := anyHost(r, a)
		was := copyOf(h)
		if !host.Right(a, h) || !equal(h, was) {
			t.Fatal(a, h)
		}
		for range 20 {
			spoilt := copyOf(h)
			all := numbersOf(&spoilt)
			i := r.Intn(len(all))
			if r.Intn(3) == 0 {
				i = r.Intn(3)
			}
			*all[i] += []int{-500, -4, -2, -1, 1, 2, 4, 500}[r.Intn(8)]
			is := host.Right(a, spoilt)
			if is != mayBe(a, spoilt) {
				t.Fatal(a, spoilt)
			}
			if !is {
				wrong++
			}
		}
	}
	if wrong < 5000 || wrong > 18000 {
		t.Error("wrong of 20000:", wrong)
	}
}

// TestP92PickErrors: what isn't active is told of ahead of picks that are none, and these ahead of links that have had too many.
func TestP92PickErrors(t *testing.T) {
	both(func(fifo bool) {
		a := three(fifo)
		for _, many := range []int{0, 500} {
			h := host.New(a, 0)
			h.Out[0] = make([]int, many)
			for state, mode := range []int{table.Active, table.Passive, table.Blocked} {
				h.State = state
				for _, k := range append(wrongs(2), 0, 1) {
					switch {
					case mode != table.Active:
						picksNot(t, a, h, k, api.ErrIdle)
					case k != 0 && k != 1:
						picksNot(t, a, h, k, api.ErrNone)
					case k == 0 && many == 500:
						picksNot(t, a, h, k, api.ErrBig)
					default:
						picks(t, a, h, k)
					}
				}
			}
			h = host.New(a, 1)
			h.Out = [][]int{make([]int, many), make([]int, many)}
			for _, k := range wrongs(4) {
				picksNot(t, a, h, k, api.ErrNone)
			}
			h.State = 1 // active, without picks
			for _, k := range append(wrongs(1), 0) {
				picksNot(t, a, h, k, api.ErrNone)
			}
			h.State = 2
			picksNot(t, a, h, 0, api.ErrIdle)
		}
	})
}

func TestP92Pick(t *testing.T) {
	both(func(fifo bool) {
		a := three(fifo)
		h := host.Host{Node: 1, Steps: 41, In: [][]api.Msg{messages(20, 73), messages(13)}, Out: [][]int{{3, 1}, {0, 0, 2}}}
		for k, x := range []struct {
			state int
			out   [][]int // to 2, and to 0
			sent  []host.Sent
		}{
			{0, [][]int{{3, 1, 1, 2}, {0, 0, 2, 2, 0}}, []host.Sent{{3, api.Msg{Seq: 4, Letter: 2}}, {1, api.Msg{Seq: 3, Letter: 1}}, {3, api.Msg{Seq: 5, Letter: 0}}, {1, api.Msg{Seq: 4, Letter: 2}}}},
			{1, [][]int{{3, 1}, {0, 0, 2, 3, 1}}, []host.Sent{{3, api.Msg{Seq: 4, Letter: 3}}, {3, api.Msg{Seq: 5, Letter: 1}}}},
			{0, h.Out, nil},
			{2, [][]int{{3, 1, 0}, {0, 0, 2}}, []host.Sent{{1, api.Msg{Seq: 3}}}},
		} {
			got, sent := picks(t, a, h, k)
			if want := (host.Host{Node: 1, State: x.state, Steps: 42, In: h.In, Out: x.out}); !equal(got, want) || !slices.Equal(sent, x.sent) {
				t.Error(k, got, sent)
			}
		}
	})
}

func TestP92PickOfMost(t *testing.T) {
	both(func(fifo bool) {
		a := three(fifo) // of node 1, pick 0 sends two each way, in turn; pick 1 two to 0, pick 3 one to 2
		for sent := 494; sent <= 500; sent++ {
			for other := 494; other <= 500; other++ {
				h := host.New(a, 1)
				h.Out = [][]int{make([]int, other), make([]int, sent)}
				h.In = [][]api.Msg{every(), every()}
				for k, fits := range []bool{sent <= 498 && other <= 498, sent <= 498, true, other <= 499} {
					if !fits {
						picksNot(t, a, h, k, api.ErrBig)
						continue
					}
					x, s := picks(t, a, h, k)
					if len(x.Out[0])+len(x.Out[1]) != sent+other+len(s) {
						t.Error(sent, other, k, s)
					}
				}
			}
		}
	})
}

// TestP92PickOfAll sends all that a link can ever have.
func TestP92PickOfAll(t *testing.T) {
	both(func(fifo bool) {
		a := two(fifo)
		a.T[0].States[0].Picks[0].Next = 0
		h := host.New(a, 0)
		for seq := 1; seq <= 500; seq++ {
			x, s := picks(t, a, h, 0)
			if !slices.Equal(s, []host.Sent{{Link: 0, M: api.Msg{Seq: seq, Letter: 1}}}) || x.Steps != seq || host.Gave(a, x, 0) != seq {
				t.Fatal(s, x.Steps)
			}
			h = x
		}
		picksNot(t, a, h, 0, api.ErrBig)
	})
}

func TestP92PickOfAny(t *testing.T) {
	r := rand.New(rand.NewSource(92))
	counts := map[api.Errno]int{}
	for range 20000 {
		a := anyApp(r)
		h := anyHost(r, a)
		k := r.Intn(7) - 1
		was := copyOf(h)
		want, sent, wrong := pickedAnew(a, h, k)
		x, s, e := host.Pick(a, h, k)
		if !equal(x, want) || !slices.Equal(s, sent) || e != wrong || !equal(h, was) {
			t.Fatalf("Pick(%v, %v, %d) = %v, %v, %d, not %v, %v, %d", a, h, k, x, s, e, want, sent, wrong)
		}
		counts[e]++
	}
	for _, e := range []api.Errno{api.OK, api.ErrIdle, api.ErrNone, api.ErrBig} {
		if counts[e] < 100 {
			t.Error(e, counts[e])
		}
	}
}

// TestP93TakeErrors: the link has to lead to the node, the message to be one, and its Seq to be new there.
func TestP93TakeErrors(t *testing.T) {
	both(func(fifo bool) {
		a := three(fifo)
		for node := range 3 {
			h := host.New(a, node)
			for i := range h.In {
				h.In[i] = messages(31, 52, 90)
			}
			for link := range a.G.Links {
				if a.G.Links[link][1] == node {
					takes(t, a, h, link, api.Msg{Seq: 1})
				} else {
					takesNot(t, a, h, link, api.Msg{Seq: 1})
				}
			}
			for _, link := range append(wrongs(4), 29, 30) {
				takesNot(t, a, h, link, api.Msg{Seq: 1})
			}
			for _, link := range linksAt(a, 1, node) {
				for _, seq := range append(wrongs(501), 0, 502, 1000) {
					takesNot(t, a, h, link, api.Msg{Seq: seq})
				}
				for letter := range 4 {
					takes(t, a, h, link, api.Msg{Seq: 1, Letter: letter})
				}
				for _, letter := range wrongs(4) {
					takesNot(t, a, h, link, api.Msg{Seq: 1, Letter: letter})
				}
				for seq := 1; seq <= 10; seq++ {
					for letter := range 4 { // also where the Letter is another one
						if m := (api.Msg{Seq: seq, Letter: letter}); seq == 3 || seq == 5 || seq == 9 {
							takesNot(t, a, h, link, m)
						} else {
							takes(t, a, h, link, m)
						}
					}
				}
				takes(t, a, h, link, api.Msg{Seq: 500, Letter: 3})
			}
		}
	})
}

// TestP93TakenOfEachLink: what was taken of one link may be taken of another one, too.
func TestP93TakenOfEachLink(t *testing.T) {
	both(func(fifo bool) {
		a := full(6, fifo)
		for node := range 6 {
			h := host.New(a, node)
			for i, link := range linksAt(a, 1, node) {
				h = takes(t, a, h, link, api.Msg{Seq: 7, Letter: i % 4})
				takesNot(t, a, h, link, api.Msg{Seq: 7, Letter: i % 4})
			}
			if h.Steps != 5 || !slices.EqualFunc(h.In, [][]api.Msg{messages(70), messages(71), messages(72), messages(73), messages(70)}, slices.Equal) {
				t.Error(h)
			}
		}
	})
}

// TestP93TakeLeads: it goes where its state takes that letter of that node, and stays where that takes none.
func TestP93TakeLeads(t *testing.T) {
	both(func(fifo bool) {
		a := three(fifo)
		for i, x := range []struct{ node, state, link, letter, next int }{
			{0, 1, 3, 2, 0}, {0, 1, 3, 0, 1}, {0, 2, 3, 0, 1}, {0, 2, 3, 2, 2}, {0, 0, 3, 2, 0},
			{1, 0, 2, 3, 1}, {1, 0, 0, 3, 0}, {1, 1, 2, 3, 0}, {1, 1, 0, 3, 2}, {1, 1, 0, 2, 1}, {1, 2, 0, 0, 0}, {1, 2, 2, 0, 2}, {1, 3, 0, 0, 3},
			{2, 2, 1, 1, 1}, {2, 2, 1, 2, 2}, {2, 2, 1, 3, 2}, {2, 0, 1, 1, 0}, {2, 1, 1, 1, 1},
		} {
			h := host.New(a, x.node)
			h.State, h.Steps = x.state, 6
			if got := takes(t, a, h, x.link, api.Msg{Seq: 3, Letter: x.letter}); got.State != x.next || got.Steps != 7 || host.Got(a, got, x.link) != 1 {
				t.Error(i, got)
			}
		}
	})
}

// TestP93TakeAll: all messages of a link, in whatever order they come, stand by their Seqs; that links are first in, first out, is not the host's to see.
func TestP93TakeAll(t *testing.T) {
	r := rand.New(rand.NewSource(93))
	both(func(fifo bool) {
		a := two(fifo)
		for order := range 4 {
			l := every()
			switch order {
			case 1:
				slices.Reverse(l)
			case 2, 3:
				r.Shuffle(len(l), func(i, k int) { l[i], l[k] = l[k], l[i] })
			}
			h := host.New(a, 1)
			for i, m := range l {
				h = takes(t, a, h, 0, m)
				if host.Got(a, h, 0) != i+1 || h.Steps != i+1 {
					t.Fatal(i, h)
				}
			}
			if !slices.Equal(h.In[0], every()) {
				t.Fatal(order)
			}
			for _, m := range l {
				takesNot(t, a, h, 0, m)
			}
		}
	})
}

func TestP93TakeOfAny(t *testing.T) {
	r := rand.New(rand.NewSource(930))
	counts := map[api.Errno]int{}
	for range 20000 {
		a := anyApp(r)
		h := anyHost(r, a)
		link := r.Intn(len(a.G.Links)+2) - 1
		if l := linksAt(a, 1, h.Node); len(l) > 0 && r.Intn(3) > 0 {
			link = l[r.Intn(len(l))]
		}
		m := api.Msg{Seq: r.Intn(22), Letter: r.Intn(4)}
		switch r.Intn(6) {
		case 0:
			m.Seq = r.Intn(520) - 10
		case 1:
			m.Letter = r.Intn(7) - 2
		}
		was := copyOf(h)
		want, wrong := takenAnew(a, h, link, m)
		x, e := host.Take(a, h, link, m)
		if !equal(x, want) || e != wrong || !equal(h, was) {
			t.Fatalf("Take(%v, %v, %d, %v) = %v, %d, not %v, %d", a, h, link, m, x, e, want, wrong)
		}
		counts[e]++
	}
	if counts[api.OK] < 2000 || counts[api.ErrArg] < 2000 {
		t.Error(counts)
	}
}

func TestP94GotAndGave(t *testing.T) {
	r := rand.New(rand.NewSource(94))
	for range 1000 {
		a := anyApp(r)
		h := anyHost(r, a)
		was := copyOf(h)
		in, out := linksAt(a, 1, h.Node), linksAt(a, 0, h.Node)
		for link := range a.G.Links {
			got, gave := 0, 0
			if i := slices.Index(in, link); i >= 0 {
				got = len(h.In[i])
			}
			if i := slices.Index(out, link); i >= 0 {
				gave = len(h.Out[i])
			}
			if host.Got(a, h, link) != got || host.Gave(a, h, link) != gave {
				t.Fatal(a.G, h, link)
			}
		}
		for _, link := range wrongs(len(a.G.Links)) {
			if host.Got(a, h, link) != 0 || host.Gave(a, h, link) != 0 {
				t.Fatal(a.G, h, link)
			}
		}
		if !equal(h, was) {
			t.Fatal(h, was)
		}
	}
}

// pieceIs holds what a host tells of itself, with logs, and without.
func pieceIs(t *testing.T, h host.Host) {
	t.Helper()
	was := copyOf(h)
	want := piece.Piece{Node: h.Node, State: h.State, Steps: h.Steps, In: make([][]api.Msg, len(h.In))}
	for _, l := range h.Out {
		want.Sent = append(want.Sent, len(l))
	}
	if p := host.Piece(h, false); !piece.Same(p, want) {
		t.Errorf("Piece(%v, false) = %v", h, p)
	}
	want.In, want.Out = was.In, was.Out
	if p := host.Piece(h, true); !piece.Same(p, want) {
		t.Errorf("Piece(%v, true) = %v", h, p)
	}
	if !equal(h, was) {
		t.Error(h, was)
	}
}

func TestP94Piece(t *testing.T) {
	a := three(false)
	h := host.Host{Node: 1, State: 3, Steps: 41, In: [][]api.Msg{messages(20, 73), messages(13)}, Out: [][]int{{3, 1}, {0, 0, 2}}}
	if !host.Right(a, h) {
		t.Fatal(h)
	}
	if p := host.Piece(h, false); !piece.Same(p, piece.Piece{Node: 1, State: 3, Steps: 41, Sent: []int{2, 3}, In: make([][]api.Msg, 2)}) {
		t.Error(p)
	}
	if p := host.Piece(h, true); !piece.Same(p, piece.Piece{Node: 1, State: 3, Steps: 41, Sent: []int{2, 3}, In: [][]api.Msg{messages(20, 73), messages(13)}, Out: [][]int{{3, 1}, {0, 0, 2}}}) {
		t.Error(p)
	}
	for n := 1; n <= 6; n++ {
		for node := range n {
			pieceIs(t, host.New(full(n, true), node))
		}
	}
	r := rand.New(rand.NewSource(940))
	for range 1000 {
		a := anyApp(r)
		h := anyHost(r, a)
		pieceIs(t, h)
		if !piece.Right(host.Piece(h, false)) || !piece.Right(host.Piece(h, true)) {
			t.Fatal(h)
		}
	}
}

// TestP94PieceOfWrong: of hosts that may not be Piece tells the same.
func TestP94PieceOfWrong(t *testing.T) {
	for _, h := range []host.Host{
		{}, {Node: -1}, {Node: 6, State: 9, Steps: -7}, {Node: math.MinInt, State: math.MaxInt, Steps: math.MinInt},
		{In: make([][]api.Msg, 7)}, {Out: make([][]int, 7)}, {In: [][]api.Msg{messages(0, 9999, 10), nil, messages(14)}}, {Out: [][]int{{-1, 4}, nil, make([]int, 501)}},
		{In: [][]api.Msg{slices.Repeat(every(), 100)}, Out: [][]int{make([]int, 100000)}}, {In: make([][]api.Msg, 100000)}, {Out: make([][]int, 100000)},
		{In: [][]api.Msg{{{Seq: math.MinInt, Letter: math.MaxInt}}}, Out: [][]int{{math.MinInt}}},
	} {
		pieceIs(t, h)
	}
}

// walk is a run of the plain system, with a host of each node beside it.
type walk struct {
	t     *testing.T
	a     plain.App
	c     plain.Conf
	hosts []host.Host
	steps []int
}

func newWalk(t *testing.T, a plain.App) *walk {
	w := &walk{t: t, a: a, c: plain.Start(a), steps: make([]int, a.G.N)}
	for n := range a.G.N {
		w.hosts = append(w.hosts, host.New(a, n))
	}
	w.holds()
	return w
}

// pick does one at both, and holds that the host tells of it what the plain system does.
func (w *walk) pick(n, k int) api.Errno {
	was := w.hosts[n]
	d, wrong := plain.Apply(w.a, w.c, plain.Step{Kind: plain.Pick, Node: n, K: k})
	h, sent, e := host.Pick(w.a, was, k)
	if e != wrong {
		w.t.Fatalf("Pick(%v, %d): %d, not %d", was, k, e, wrong)
	}
	if e != api.OK {
		return e
	}
	want := make([][]api.Msg, len(w.c.Links))
	for l, messages := range w.c.Links {
		want[l] = slices.Clone(messages)
	}
	for _, s := range sent {
		want[s.Link] = append(want[s.Link], s.M)
	}
	if !slices.EqualFunc(want, d.Links, slices.Equal) {
		w.t.Fatalf("Pick(%v, %d) sends %v", was, k, sent)
	}
	w.goesTo(n, h, d)
	return e
}

// deliver does one at both.
func (w *walk) deliver(link int, m api.Msg) {
	d, e := plain.Apply(w.a, w.c, plain.Step{Kind: plain.Deliver, Link: link, Seq: m.Seq})
	if e != api.OK {
		w.t.Fatal(w.a, w.c, link, m, e)
	}
	to := w.a.G.Links[link][1]
	h, e := host.Take(w.a, w.hosts[to], link, m)
	if e != api.OK {
		w.t.Fatalf("Take(%v, %d, %v): %d", w.hosts[to], link, m, e)
	}
	w.goesTo(to, h, d)
	if _, e := host.Take(w.a, h, link, m); e != api.ErrArg {
		w.t.Fatal("taken twice", h, link, m)
	}
}

// goesTo holds that what a node took and sent stays.
func (w *walk) goesTo(n int, h host.Host, d plain.Conf) {
	was := w.hosts[n]
	for i, l := range was.Out {
		if len(h.Out[i]) < len(l) || !slices.Equal(h.Out[i][:len(l)], l) {
			w.t.Fatal(was, h)
		}
	}
	for i, l := range was.In {
		for _, m := range l {
			if !slices.Contains(h.In[i], m) {
				w.t.Fatal(was, h)
			}
		}
	}
	w.steps[n]++
	w.c, w.hosts[n] = d, h
	w.holds()
}

// holds compares all hosts with the configuration.
func (w *walk) holds() {
	w.t.Helper()
	for n, h := range w.hosts {
		if h.Node != n || h.State != w.c.States[n] || h.Steps != w.steps[n] || !host.Right(w.a, h) {
			w.t.Fatal(h, w.c)
		}
	}
	for l, ends := range w.a.G.Links {
		from, to := w.hosts[ends[0]], w.hosts[ends[1]]
		sent := w.c.Sent[l]
		if host.Gave(w.a, from, l) != sent || host.Got(w.a, to, l) != sent-len(w.c.Links[l]) || host.Gave(w.a, to, l) != 0 || host.Got(w.a, from, l) != 0 {
			w.t.Fatal(l, from, to, w.c)
		}
		// All that was sent was taken, or is on the link.
		letters := from.Out[slices.Index(linksAt(w.a, 0, from.Node), l)]
		taken := to.In[slices.Index(linksAt(w.a, 1, to.Node), l)]
		for _, m := range slices.Concat(taken, w.c.Links[l]) {
			if letters[m.Seq-1] != m.Letter {
				w.t.Fatal(l, from, to, w.c)
			}
		}
	}
}

// goOn does what the bytes say: a pick of any node, or a delivery that can be, first in, first out or not.
func (w *walk) goOn(acts []byte) (picked, delivered int) {
	for i := 0; i+2 < len(acts); i += 3 {
		x, y := int(acts[i+1]), int(acts[i+2])
		if acts[i]%3 == 0 || len(w.c.Links) == 0 {
			if w.pick(x%w.a.G.N, y%6-1) == api.OK {
				picked++
			}
			continue
		}
		link := x % len(w.c.Links)
		messages := w.c.Links[link]
		if len(messages) == 0 {
			continue
		}
		at := y % len(messages)
		if w.a.Fifo {
			at = 0
		}
		w.deliver(link, messages[at])
		delivered++
	}
	return picked, delivered
}

// TestP95AsThePlainSystem: hosts, each by itself, do what the plain system does.
func TestP95AsThePlainSystem(t *testing.T) {
	r := rand.New(rand.NewSource(95))
	picked, delivered := 0, 0
	for range 400 {
		acts := make([]byte, 1500)
		for i := range acts {
			acts[i] = byte(r.Intn(256))
		}
		p, d := newWalk(t, anyApp(r)).goOn(acts)
		picked, delivered = picked+p, delivered+d
	}
	if picked < 2000 || delivered < 2000 {
		t.Error(picked, delivered)
	}
}

// TestP95UpToTheMost: both find the same link full at the same pick.
func TestP95UpToTheMost(t *testing.T) {
	both(func(fifo bool) {
		a := three(fifo)
		w := newWalk(t, a)
		for {
			if e := w.pick(1, 0); e != api.OK {
				if e != api.ErrBig {
					t.Fatal(e)
				}
				break
			}
		}
		if w.c.Sent[1] != 500 || w.c.Sent[3] != 500 || w.hosts[1].Steps != 250 {
			t.Error(w.c.Sent, w.hosts[1].Steps)
		}
		if e := w.pick(1, 2); e != api.OK { // one that sends nothing
			t.Error(e)
		}
		if e := w.pick(1, 3); e != api.ErrBig {
			t.Error(e)
		}
	})
}

// TestR3EmptyListsAreNone: a host is the same with lists that are nil, and with empty ones.
func TestR3EmptyListsAreNone(t *testing.T) {
	both(func(fifo bool) {
		a := three(fifo)
		h := host.Host{Node: 1, In: [][]api.Msg{{}, make([]api.Msg, 0, 9)}, Out: [][]int{make([]int, 0, 9), {}}}
		if !host.Right(a, h) || host.Got(a, h, 0) != 0 || host.Gave(a, h, 3) != 0 || !piece.Same(host.Piece(h, true), host.Piece(host.New(a, 1), true)) {
			t.Error(h)
		}
		x, s := picks(t, a, h, 0)
		y, _ := picks(t, a, host.New(a, 1), 0)
		if !equal(x, y) || len(s) != 4 {
			t.Error(x, y)
		}
		if !equal(takes(t, a, h, 2, api.Msg{Seq: 4}), takes(t, a, host.New(a, 1), 2, api.Msg{Seq: 4})) {
			t.Error(h)
		}
		one := full(1, fifo)
		for _, h := range []host.Host{{}, {In: [][]api.Msg{}, Out: [][]int{}}} {
			if !host.Right(one, h) {
				t.Error(h)
			}
			picksNot(t, one, h, 0, api.ErrIdle)
			takesNot(t, one, h, 0, api.Msg{Seq: 1})
		}
	})
}

// TestR7HostsAreValues: a host tells the same, whatever is done to it, and to what comes of it.
func TestR7HostsAreValues(t *testing.T) {
	both(func(fifo bool) {
		a := three(fifo)
		h := takes(t, a, host.New(a, 1), 2, api.Msg{Seq: 4})
		b, _ := picks(t, a, h, 0)
		c, _ := picks(t, a, h, 1)
		d, _ := picks(t, a, b, 3)
		e, _ := picks(t, a, b, 1)
		f := takes(t, a, b, 2, api.Msg{Seq: 1, Letter: 1})
		g := takes(t, a, b, 2, api.Msg{Seq: 5, Letter: 2})
		for i, x := range []struct {
			h        host.Host
			steps    int
			in       []api.Msg
			to2, to0 []int
		}{
			{h, 1, messages(40), nil, nil}, {b, 2, messages(40), []int{1, 2}, []int{2, 0}}, {c, 2, messages(40), nil, []int{3, 1}},
			{d, 3, messages(40), []int{1, 2, 0}, []int{2, 0}}, {e, 3, messages(40), []int{1, 2}, []int{2, 0, 3, 1}},
			{f, 3, messages(11, 40), []int{1, 2}, []int{2, 0}}, {g, 3, messages(40, 52), []int{1, 2}, []int{2, 0}},
		} {
			if x.h.Steps != x.steps || len(x.h.In[0]) != 0 || !slices.Equal(x.h.In[1], x.in) || !slices.Equal(x.h.Out[0], x.to2) || !slices.Equal(x.h.Out[1], x.to0) {
				t.Error(i, x.h)
			}
		}
	})
}

// rooms are where lists lie, with the room behind each: the bytes from the first to the last one.
func rooms(in [][]api.Msg, out [][]int) (l [][2]uintptr) {
	l = append(l, roomOf(in), roomOf(out))
	for _, x := range in[:cap(in)] {
		l = append(l, roomOf(x))
	}
	for _, x := range out[:cap(out)] {
		l = append(l, roomOf(x))
	}
	return slices.DeleteFunc(l, func(x [2]uintptr) bool { return x[0] == x[1] })
}

func roomsOf(h host.Host) [][2]uintptr {
	return rooms(h.In, h.Out)
}

func roomsOfPiece(p piece.Piece) [][2]uintptr {
	return append(rooms(p.In, p.Out), roomOf(p.Sent))
}

func roomOf[T any](l []T) [2]uintptr {
	from := uintptr(unsafe.Pointer(unsafe.SliceData(l)))
	var x T
	return [2]uintptr{from, from + uintptr(cap(l))*unsafe.Sizeof(x)}
}

// apart holds that no list shares memory with another one.
func apart(t *testing.T, l ...[][2]uintptr) {
	t.Helper()
	all := slices.DeleteFunc(slices.Concat(l...), func(x [2]uintptr) bool { return x[0] == x[1] })
	slices.SortFunc(all, func(a, b [2]uintptr) int { return int(a[0]) - int(b[0]) })
	for i := 1; i < len(all); i++ {
		if all[i][0] < all[i-1][1] {
			t.Fatal("shared")
		}
	}
}

// off holds that no list of the answer shares memory with one that was handed in.
func off(t *testing.T, in, answer [][2]uintptr) {
	t.Helper()
	for _, x := range in {
		for _, y := range answer {
			if x[0] < y[1] && y[0] < x[1] {
				t.Fatal("shared")
			}
		}
	}
}

// spoil writes over all that a host's lists hold.
func spoil(h host.Host) {
	for _, l := range h.In {
		for i := range l {
			l[i] = api.Msg{Seq: -7, Letter: -7}
		}
	}
	for _, l := range h.Out {
		for i := range l {
			l[i] = -7
		}
	}
	clear(h.In)
	clear(h.Out)
}

// sharing is a host of node 1 whose lists share memory with each other, and with room behind all, and that room.
func sharing() (h host.Host, behind []api.Msg, further []int) {
	behind = append(make([]api.Msg, 0, 30), messages(31, 52, 90, 9991, 9991)...)
	further = []int{3, 1, 2, 9, 9, 9, 9, 9}
	h = host.Host{Node: 1, Steps: 3, In: make([][]api.Msg, 0, 9), Out: make([][]int, 0, 9)}
	h.In = append(h.In, behind[:3], behind[:2])
	h.Out = append(h.Out, further[:3], further[:2])
	return h, behind, further
}

// TestR4PickAndTakeAreNewMemory: what is handed in is neither changed nor kept, nor is the room behind it.
func TestR4PickAndTakeAreNewMemory(t *testing.T) {
	both(func(fifo bool) {
		a := three(fifo)
		for _, do := range []func(h host.Host) (host.Host, []host.Sent){
			func(h host.Host) (host.Host, []host.Sent) { return picks(t, a, h, 0) },
			func(h host.Host) (host.Host, []host.Sent) { return picks(t, a, h, 2) },
			func(h host.Host) (host.Host, []host.Sent) { return takes(t, a, h, 0, api.Msg{Seq: 4, Letter: 2}), nil },
			func(h host.Host) (host.Host, []host.Sent) { return takes(t, a, h, 2, api.Msg{Seq: 500}), nil },
			func(h host.Host) (host.Host, []host.Sent) { return takes(t, a, h, 0, api.Msg{Seq: 1}), nil },
		} {
			h, behind, further := sharing()
			was := copyOf(h)
			x, s := do(h)
			y, u := do(h)
			if !slices.Equal(behind, messages(31, 52, 90, 9991, 9991)) || !slices.Equal(further, []int{3, 1, 2, 9, 9, 9, 9, 9}) {
				t.Fatal("the room behind", behind, further)
			}
			apart(t, roomsOf(x), roomsOf(y), [][2]uintptr{roomOf(s), roomOf(u)})
			off(t, append(roomsOf(h), roomOf(behind), roomOf(further)), slices.Concat(roomsOf(x), roomsOf(y)))
			kept := copyOf(y)
			spoil(x)
			clear(s)
			if !equal(h, was) {
				t.Fatal(h)
			}
			spoil(h)
			if !equal(y, kept) {
				t.Fatal(y)
			}
		}
	})
}

func TestR4PieceIsNewMemory(t *testing.T) {
	for _, logs := range []bool{false, true} {
		h, behind, further := sharing()
		was := copyOf(h)
		p, q := host.Piece(h, logs), host.Piece(h, logs)
		apart(t, roomsOfPiece(p), roomsOfPiece(q))
		off(t, append(roomsOf(h), roomOf(behind), roomOf(further)), slices.Concat(roomsOfPiece(p), roomsOfPiece(q)))
		spoil(host.Host{In: p.In, Out: p.Out})
		clear(p.Sent)
		if !equal(h, was) {
			t.Fatal(h)
		}
		spoil(h)
		if !piece.Same(q, host.Piece(was, logs)) {
			t.Fatal(q)
		}
	}
}

// TestR4ApplicationsStay: neither New nor what is done changes the application, or keeps of it.
func TestR4ApplicationsStay(t *testing.T) {
	a, b := three(false), three(false)
	h := host.New(a, 1)
	apart(t, roomsOf(h), roomsOf(host.New(a, 1)))
	x, _ := picks(t, a, h, 0)
	x = takes(t, a, x, 0, api.Msg{Seq: 1, Letter: 3})
	if !slices.Equal(a.G.Links, b.G.Links) || !slices.Equal(a.T[1].States[0].Picks[0].Sends, b.T[1].States[0].Picks[0].Sends) || !slices.Equal(a.T[1].States[1].Takes, b.T[1].States[1].Takes) {
		t.Error(a)
	}
	was := copyOf(x)
	clear(a.T[1].States[0].Picks[0].Sends)
	clear(a.G.Links)
	clear(a.T)
	if !equal(x, was) {
		t.Error(x, was)
	}
}

func FuzzP95(f *testing.F) {
	f.Add(int64(1), []byte{0, 1, 1, 1, 2, 3, 0, 0, 1, 2, 5, 9})
	f.Add(int64(95), []byte{3, 1, 1, 3, 2, 2, 3, 3, 3, 1, 0, 0, 1, 1, 0, 2, 2, 0})
	f.Fuzz(func(t *testing.T, seed int64, acts []byte) {
		if len(acts) > 3000 {
			t.Skip()
		}
		newWalk(t, anyApp(rand.New(rand.NewSource(seed)))).goOn(acts)
	})
}
