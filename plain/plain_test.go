package plain_test

import (
	"math"
	"math/rand"
	"slices"
	"testing"

	"cameo/api"
	"cameo/graph"
	"cameo/plain"
	"cameo/table"
)

// two are the nodes that the chapter names: 0 sends letter 1 to 1, which waits for that.
func two(fifo bool) plain.App {
	return plain.App{G: graph.Full(2), Fifo: fifo, T: []table.Node{
		{States: []table.State{{Mode: table.Active, Picks: []table.Pick{{Next: 1, Sends: []table.Send{{To: 1, Letter: 1}}}}}, {}}},
		{States: []table.State{{Mode: table.Blocked, Waits: []int{0}, Takes: []table.Take{{From: 0, Letter: 1, Next: 1}}}, {}}},
	}}
}

// three has node 1 between 0 and 2: links 0 and 1 lead from it, 2 and 3 to it. It sends much, and they answer, wait, or rest.
func three(fifo bool) plain.App {
	sends := func(l ...int) (s []table.Send) { // each is a node, and ten times a letter
		for _, x := range l {
			s = append(s, table.Send{To: x % 10, Letter: x / 10})
		}
		return s
	}
	return plain.App{Fifo: fifo, G: graph.Graph{N: 3, Links: [][2]int{{1, 2}, {1, 0}, {0, 1}, {2, 1}}}, T: []table.Node{
		{Start: 1, States: []table.State{
			{Mode: table.Active, Picks: []table.Pick{{Next: 1, Sends: sends(31)}, {Next: 2}}},
			{Takes: []table.Take{{From: 1, Letter: 2, Next: 0}}},
			{Mode: table.Blocked, Waits: []int{1}, Takes: []table.Take{{From: 1, Letter: 0, Next: 1}}},
		}},
		{Start: 0, States: []table.State{
			{Mode: table.Active, Picks: []table.Pick{{Next: 0, Sends: sends(20, 12, 0, 22)}, {Next: 1, Sends: sends(30, 10)}, {Next: 0}, {Next: 2, Sends: sends(2)}}, Takes: []table.Take{{From: 0, Letter: 3, Next: 1}}},
			{Mode: table.Active, Takes: []table.Take{{From: 0, Letter: 3, Next: 0}, {From: 2, Letter: 3, Next: 2}}},
			{Takes: []table.Take{{From: 2, Letter: 0, Next: 0}}},
		}},
		{Start: 2, States: []table.State{
			{},
			{Mode: table.Active, Picks: []table.Pick{{Next: 2, Sends: sends(1, 31)}}},
			{Takes: []table.Take{{From: 1, Letter: 1, Next: 1}, {From: 1, Letter: 2, Next: 2}}},
		}},
	}}
}

// full are n passive nodes with all links there can be.
func full(n int, fifo bool) plain.App {
	a := plain.App{G: graph.Full(n), T: make([]table.Node, n), Fifo: fifo}
	for i := range a.T {
		a.T[i].States = make([]table.State, 1)
	}
	return a
}

func both(f func(fifo bool)) {
	f(true)
	f(false)
}

func pick(node, k int) plain.Step {
	return plain.Step{Kind: plain.Pick, Node: node, K: k}
}

func deliver(link, seq int) plain.Step {
	return plain.Step{Kind: plain.Deliver, Link: link, Seq: seq}
}

// messages are some, by a number each: ten times the Seq, and the Letter.
func messages(l ...int) (m []api.Msg) {
	for _, x := range l {
		m = append(m, api.Msg{Seq: x / 10, Letter: x % 10})
	}
	return m
}

// wrongs are no places of a list of n.
func wrongs(n int) []int {
	return []int{math.MinInt, -1 << 32, -n - 1, -1, n, n + 1, 1 << 32, math.MaxInt}
}

// copyOf is a configuration that is the same, with lists of its own.
func copyOf(c plain.Conf) plain.Conf {
	c.States, c.Links, c.Sent = slices.Clone(c.States), slices.Clone(c.Links), slices.Clone(c.Sent)
	for i, l := range c.Links {
		c.Links[i] = slices.Clone(l)
	}
	return c
}

// equal is the document's Same, said anew.
func equal(a, b plain.Conf) bool {
	if len(a.States) != len(b.States) || len(a.Links) != len(b.Links) || len(a.Sent) != len(b.Sent) {
		return false
	}
	for i, s := range a.States {
		if s != b.States[i] {
			return false
		}
	}
	for i, s := range a.Sent {
		if s != b.Sent[i] {
			return false
		}
	}
	for i, l := range a.Links {
		if !slices.Equal(l, b.Links[i]) {
			return false
		}
	}
	return true
}

func isZero(c plain.Conf) bool {
	return len(c.States) == 0 && len(c.Links) == 0 && len(c.Sent) == 0
}

// model is the plain system, said anew: all its messages lie in one heap, in the order in which they were sent.
type model struct {
	a      plain.App
	states []int
	sent   []int
	heap   []lying
}

type lying struct {
	link int
	m    api.Msg
}

func modelOf(a plain.App, c plain.Conf) model {
	x := model{a: a, states: slices.Clone(c.States), sent: slices.Clone(c.Sent)}
	for l, messages := range c.Links {
		for _, m := range messages {
			x.heap = append(x.heap, lying{l, m})
		}
	}
	return x
}

func (x model) conf() plain.Conf {
	c := plain.Conf{States: slices.Clone(x.states), Sent: slices.Clone(x.sent), Links: make([][]api.Msg, len(x.sent))}
	for _, y := range x.heap {
		c.Links[y.link] = append(c.Links[y.link], y.m)
	}
	return c
}

// step is the model behind s; where that tells an error, what it tells beside is of no use.
func (x model) step(s plain.Step) (model, api.Errno) {
	x.states, x.sent, x.heap = slices.Clone(x.states), slices.Clone(x.sent), slices.Clone(x.heap)
	switch s.Kind {
	case 0:
		return x.picked(s.Node, s.K)
	case 1:
		return x.delivered(s.Link, s.Seq)
	}
	return x, api.ErrArg
}

func (x model) picked(node, k int) (model, api.Errno) {
	if node < 0 || node > len(x.states)-1 {
		return x, api.ErrArg
	}
	state := x.a.T[node].States[x.states[node]]
	if state.Mode != 1 {
		return x, api.ErrIdle
	}
	if k < 0 || k > len(state.Picks)-1 {
		return x, api.ErrNone
	}
	x.states[node] = state.Picks[k].Next
	for _, m := range state.Picks[k].Sends {
		for l, ends := range x.a.G.Links {
			if ends[0] == node && ends[1] == m.To {
				x.sent[l]++
				x.heap = append(x.heap, lying{l, api.Msg{Seq: x.sent[l], Letter: m.Letter}})
			}
		}
	}
	if slices.Max(append(x.sent, 0)) > 500 {
		return x, api.ErrBig
	}
	return x, api.OK
}

func (x model) delivered(link, seq int) (model, api.Errno) {
	if link < 0 || link > len(x.sent)-1 {
		return x, api.ErrArg
	}
	for i, y := range x.heap {
		if y.link != link {
			continue
		}
		if y.m.Seq == seq {
			x.heap = slices.Delete(x.heap, i, i+1)
			x.take(x.a.G.Links[link][0], x.a.G.Links[link][1], y.m.Letter)
			return x, api.OK
		}
		if x.a.Fifo {
			break // another one is the link's first
		}
	}
	return x, api.ErrNone
}

func (x model) take(from, to, letter int) {
	for _, t := range x.a.T[to].States[x.states[to]].Takes {
		if t.From == from && t.Letter == letter {
			x.states[to] = t.Next
			return
		}
	}
}

// can are the steps of the model that tell no error.
func (x model) can() (l []plain.Step) {
	try := func(s plain.Step) {
		if _, e := x.step(s); e == api.OK {
			l = append(l, s)
		}
	}
	for node := range x.states {
		for k := range 9 {
			try(pick(node, k))
		}
	}
	for link := range x.sent {
		for _, y := range x.heap {
			if y.link == link {
				try(deliver(link, y.m.Seq))
			}
		}
	}
	return l
}

// anyApp is one that may be, with 1 to 6 nodes.
func anyApp(r *rand.Rand) plain.App {
	a := plain.App{G: graph.Graph{N: 1 + r.Intn(6)}, Fifo: r.Intn(2) == 0}
	near := make([][]int, a.G.N)
	for x := range a.G.N {
		for y := range x {
			if y == x-1 || r.Intn(3) == 0 {
				a.G.Links = append(a.G.Links, [2]int{x, y}, [2]int{y, x})
				near[x], near[y] = append(near[x], y), append(near[y], x)
			}
		}
	}
	r.Shuffle(len(a.G.Links), func(i, k int) { a.G.Links[i], a.G.Links[k] = a.G.Links[k], a.G.Links[i] })
	for _, l := range near {
		many := 1 + r.Intn(8)
		x := table.Node{Start: r.Intn(many)}
		for s := range many {
			x.States = append(x.States, anyState(r, l, s, many))
		}
		a.T = append(a.T, x)
	}
	return a
}

// anyState is state s of many, of a node that has links with those of near. It waits for one node, if for any, and only that one's messages lead elsewhere then.
func anyState(r *rand.Rand, near []int, s, many int) table.State {
	x := table.State{Mode: r.Intn(3)}
	if len(near) == 0 {
		return table.State{Mode: r.Intn(2)}
	}
	if x.Mode == table.Blocked {
		x.Waits = []int{near[r.Intn(len(near))]}
	}
	for _, from := range near {
		for letter := range 4 {
			t := table.Take{From: from, Letter: letter, Next: r.Intn(many)}
			if x.Mode == table.Blocked && from != x.Waits[0] {
				t.Next = s
			}
			if r.Intn(2) == 0 {
				x.Takes = append(x.Takes, t)
			}
		}
	}
	for x.Mode == table.Active && len(x.Picks) < 1+r.Intn(4) {
		k := table.Pick{Next: r.Intn(many)}
		for range r.Intn(5) {
			k.Sends = append(k.Sends, table.Send{To: near[r.Intn(len(near))], Letter: r.Intn(4)})
		}
		x.Picks = append(x.Picks, k)
	}
	return x
}

// anyConf is one of a that may be, whose links have had few messages, or nearly all that they ever can.
func anyConf(r *rand.Rand, a plain.App) plain.Conf {
	c := plain.Conf{Links: make([][]api.Msg, len(a.G.Links))}
	for _, x := range a.T {
		c.States = append(c.States, r.Intn(len(x.States)))
	}
	for l := range c.Links {
		sent := r.Intn(8)
		if r.Intn(2) == 0 {
			sent = 500 - sent
		}
		for seq := max(1, sent-7); seq <= sent; seq++ {
			if r.Intn(2) == 0 {
				c.Links[l] = append(c.Links[l], api.Msg{Seq: seq, Letter: r.Intn(4)})
			}
		}
		c.Sent = append(c.Sent, sent)
	}
	return c
}

// anyStep is one that can be done, if there is one and chance has it so, else one of numbers about those that c has.
func anyStep(r *rand.Rand, a plain.App, c plain.Conf) plain.Step {
	if l := modelOf(a, c).can(); len(l) > 0 && r.Intn(4) > 0 {
		return l[r.Intn(len(l))]
	}
	s := plain.Step{Kind: r.Intn(2), Node: r.Intn(a.G.N+2) - 1, K: r.Intn(6) - 1, Link: r.Intn(len(a.G.Links)+2) - 1, Seq: r.Intn(510) - 1}
	if r.Intn(9) == 0 {
		s.Kind = r.Intn(7) - 2
	}
	return s
}

// numbersOf are all that a configuration has, so that each can be spoilt.
func numbersOf(c plain.Conf) (all []*int) {
	for i := range c.States {
		all = append(all, &c.States[i])
	}
	for i := range c.Sent {
		all = append(all, &c.Sent[i])
	}
	for _, l := range c.Links {
		for i := range l {
			all = append(all, &l[i].Seq, &l[i].Letter)
		}
	}
	return all
}

// mustApply does a step of which no error is told.
func mustApply(t *testing.T, a plain.App, c plain.Conf, s plain.Step) plain.Conf {
	t.Helper()
	d, e := plain.Apply(a, c, s)
	if e != api.OK {
		t.Fatalf("Apply(%v, %v): %d", c, s, e)
	}
	return d
}

// refuses holds that a step tells an error, and the zero configuration, and changes nothing.
func refuses(t *testing.T, a plain.App, c plain.Conf, s plain.Step, want api.Errno) {
	t.Helper()
	was := copyOf(c)
	if d, e := plain.Apply(a, c, s); e != want || !isZero(d) || !equal(c, was) {
		t.Errorf("Apply(%v, %v): %v, %d, not %d", was, s, d, e, want)
	}
}

func TestKinds(t *testing.T) {
	if plain.Pick != 0 || plain.Deliver != 1 || plain.Kinds != 2 {
		t.Error(plain.Pick, plain.Deliver, plain.Kinds)
	}
}

func TestExample(t *testing.T) {
	both(func(fifo bool) {
		a := two(fifo)
		c := mustApply(t, a, plain.Start(a), pick(0, 0))
		if want := (plain.Conf{States: []int{1, 0}, Links: [][]api.Msg{messages(11), nil}, Sent: []int{1, 0}}); !equal(c, want) {
			t.Error(c)
		}
		c = mustApply(t, a, c, deliver(0, 1))
		if want := (plain.Conf{States: []int{1, 1}, Links: make([][]api.Msg, 2), Sent: []int{1, 0}}); !equal(c, want) {
			t.Error(c)
		}
		if l := plain.Can(a, c); len(l) != 0 {
			t.Error(l)
		}
	})
}

func TestP51Start(t *testing.T) {
	both(func(fifo bool) {
		for n := 1; n <= 6; n++ {
			a := full(n, fifo)
			links := n * (n - 1)
			if c := plain.Start(a); !equal(c, plain.Conf{States: make([]int, n), Links: make([][]api.Msg, links), Sent: make([]int, links)}) || !plain.Right(a, c) {
				t.Error(n, c)
			}
		}
		a := three(fifo)
		if c := plain.Start(a); !equal(c, plain.Conf{States: []int{1, 0, 2}, Links: make([][]api.Msg, 4), Sent: make([]int, 4)}) || !plain.Right(a, c) {
			t.Error(c)
		}
	})
}

func TestP51RightOfWrongTables(t *testing.T) {
	both(func(fifo bool) {
		for i, spoil := range []func(a *plain.App){
			func(a *plain.App) { a.T[0].Start = 3 },
			func(a *plain.App) { a.T[1].States[0].Mode = 3 },
			func(a *plain.App) { a.T[2].States[1].Picks[0].Next = -1 },
			func(a *plain.App) { a.T[0].States[0].Picks[0].Sends[0].To = 2 },
			func(a *plain.App) { a.T[0].States[2].Waits = nil },
			func(a *plain.App) { a.T = a.T[:2] },
			func(a *plain.App) { a.T = append(a.T, a.T[0]) },
			func(a *plain.App) { a.T = nil },
			func(a *plain.App) { a.G.N = 2 },
			func(a *plain.App) { a.G.Links = a.G.Links[:3] },
			func(a *plain.App) { a.G = graph.Graph{} },
			func(a *plain.App) { *a = plain.App{Fifo: fifo} },
		} {
			a := three(fifo)
			c := plain.Start(a)
			spoil(&a)
			for _, c := range []plain.Conf{c, plain.Start(a), {}} {
				if plain.Right(a, c) {
					t.Error(i, c)
				}
			}
		}
	})
}

func TestP51RightOfLists(t *testing.T) {
	both(func(fifo bool) {
		a := three(fifo)
		for states := range 9 {
			for links := range 9 {
				for sent := range 9 {
					c := plain.Conf{States: make([]int, states), Links: make([][]api.Msg, links), Sent: make([]int, sent)}
					if plain.Right(a, c) != (states == 3 && links == 4 && sent == 4) {
						t.Error(states, links, sent)
					}
				}
			}
		}
		if !plain.Right(full(1, fifo), plain.Conf{States: []int{0}}) || plain.Right(full(1, fifo), plain.Conf{}) {
			t.Error("no links")
		}
		if many := slices.Repeat([]int{0}, 1000000); plain.Right(a, plain.Conf{States: many, Links: make([][]api.Msg, 1000000), Sent: many}) {
			t.Error("many")
		}
	})
}

func TestP51RightOfStates(t *testing.T) {
	both(func(fifo bool) {
		a := three(fifo)
		a.T[1].States = append(a.T[1].States, table.State{}) // one more than the others have
		for n, many := range []int{3, 4, 3} {
			c := plain.Start(a)
			for s := range many {
				if c.States[n] = s; !plain.Right(a, c) {
					t.Error(n, s)
				}
			}
			for _, s := range wrongs(many) {
				if c.States[n] = s; plain.Right(a, c) {
					t.Error(n, s)
				}
			}
		}
	})
}

func TestP51RightOfSent(t *testing.T) {
	both(func(fifo bool) {
		a := three(fifo)
		for l := range 4 {
			c := plain.Start(a)
			for _, sent := range []int{0, 1, 2, 20, 21, 200, 499, 500} {
				if c.Sent[l] = sent; !plain.Right(a, c) {
					t.Error(l, sent)
				}
			}
			for _, sent := range wrongs(501) {
				if c.Sent[l] = sent; plain.Right(a, c) {
					t.Error(l, sent)
				}
			}
		}
	})
}

func TestP51RightOfMessages(t *testing.T) {
	every := make([]api.Msg, 500)
	for i := range every {
		every[i] = api.Msg{Seq: i + 1, Letter: i % 4}
	}
	for i, x := range []struct {
		sent int
		l    []api.Msg
		want bool
	}{
		{0, nil, true}, {0, []api.Msg{}, true}, {0, messages(10), false}, {0, messages(0), false},
		{1, messages(10), true}, {1, messages(13), true}, {1, messages(14), false}, {1, messages(20), false}, {1, messages(0), false}, {1, messages(10, 10), false}, {1, messages(10, 20), false},
		{9, messages(11, 22, 93), true}, {9, messages(90), true}, {9, messages(11, 22, 103), false}, {9, messages(0, 22), false}, {9, messages(11, 21, 21), false}, {9, messages(20, 10), false}, {9, messages(20, 30, 10), false}, {9, messages(10, 24, 30), false},
		{9, []api.Msg{{Seq: -1}}, false}, {9, []api.Msg{{Seq: 1, Letter: -1}}, false}, {9, []api.Msg{{Seq: math.MinInt}, {Seq: 1}}, false}, {9, []api.Msg{{Seq: 1}, {Seq: math.MaxInt}}, false},
		{9, []api.Msg{{Seq: 1, Letter: math.MaxInt}}, false}, {9, []api.Msg{{Seq: 1, Letter: math.MinInt}}, false}, {9, []api.Msg{{Seq: 1, Letter: 1 << 32}}, false}, {9, []api.Msg{{Seq: 1<<32 + 1}}, false},
		{500, every, true}, {499, every, false}, {500, every[499:], true}, {501, every[:1], false}, {-1, every[:1], false}, {500, slices.Concat(every, messages(5010)), false}, {500, slices.Repeat(every, 1000), false},
	} {
		both(func(fifo bool) {
			a := three(fifo)
			for l := range 4 {
				c := plain.Start(a)
				c.Sent[l], c.Links[l] = x.sent, x.l
				if plain.Right(a, c) != x.want {
					t.Errorf("%d: link %d, %d sent, %d messages", i, l, x.sent, len(x.l))
				}
			}
		})
	}
}

// mayBe is the document's own rule of a configuration, over a table that may be.
func mayBe(a plain.App, c plain.Conf) bool {
	for n, s := range c.States {
		if s < 0 || s > len(a.T[n].States)-1 {
			return false
		}
	}
	for l, messages := range c.Links {
		for i, m := range messages {
			if m.Seq < 1 || m.Seq > c.Sent[l] || m.Letter < 0 || m.Letter > 3 || i > 0 && messages[i-1].Seq >= m.Seq {
				return false
			}
		}
		if c.Sent[l] < 0 || c.Sent[l] > 500 {
			return false
		}
	}
	return len(c.States) == len(a.T) && len(c.Sent) == len(a.G.Links) && len(c.Links) == len(a.G.Links)
}

func TestP51RightOfAny(t *testing.T) {
	r := rand.New(rand.NewSource(51))
	wrong := 0
	for range 1000 {
		a := anyApp(r)
		if !table.Right(a.T, a.G) {
			t.Fatal(a)
		}
		c := anyConf(r, a)
		if !plain.Right(a, c) {
			t.Fatal(a, c)
		}
		for range 20 {
			spoilt := copyOf(c)
			all := numbersOf(spoilt)
			*all[r.Intn(len(all))] += []int{-500, -4, -2, -1, 1, 2, 4, 500}[r.Intn(8)]
			is := plain.Right(a, spoilt)
			if is != mayBe(a, spoilt) {
				t.Fatal(a, spoilt)
			}
			if !is {
				wrong++
			}
		}
	}
	if wrong < 5000 || wrong > 18000 {
		t.Error("wrong of 20000:", wrong)
	}
}

func TestP51Same(t *testing.T) {
	l := []plain.Conf{
		{}, {States: []int{0}}, {States: []int{1}}, {States: []int{0, 0}}, {States: []int{0, 1}}, {States: []int{1, 0}},
		{Sent: []int{0}}, {Sent: []int{-1}}, {Sent: []int{0, 0}}, {Sent: []int{0, 501}}, {States: []int{0}, Sent: []int{0}},
		{Links: make([][]api.Msg, 1)}, {Links: make([][]api.Msg, 2)}, {Links: [][]api.Msg{messages(11)}}, {Links: [][]api.Msg{messages(12)}}, {Links: [][]api.Msg{messages(21)}},
		{Links: [][]api.Msg{messages(11), nil}}, {Links: [][]api.Msg{nil, messages(11)}}, {Links: [][]api.Msg{messages(11, 21), nil}}, {Links: [][]api.Msg{messages(21, 11), nil}}, {Links: [][]api.Msg{messages(11), messages(21)}},
		{States: []int{9}, Links: [][]api.Msg{messages(0, 0)}, Sent: []int{math.MinInt}}, {States: []int{9}, Links: [][]api.Msg{messages(0, 0)}, Sent: []int{math.MaxInt}},
	}
	for i, a := range l {
		for k, b := range l {
			if plain.Same(a, copyOf(b)) != (i == k) {
				t.Error(a, b)
			}
		}
	}
	if !plain.Same(plain.Conf{States: []int{}, Links: [][]api.Msg{}, Sent: []int{}}, plain.Conf{}) || !plain.Same(plain.Conf{Links: [][]api.Msg{{}, nil}}, plain.Conf{Links: [][]api.Msg{nil, {}}}) {
		t.Error("nil and empty lists")
	}
}

func TestP51SameOfAny(t *testing.T) {
	r := rand.New(rand.NewSource(510))
	for range 200 {
		c := anyConf(r, anyApp(r))
		d := copyOf(c)
		if !plain.Same(c, d) || !plain.Same(c, c) {
			t.Fatal(c)
		}
		for _, x := range numbersOf(d) {
			*x++
			if plain.Same(c, d) || plain.Same(d, c) {
				t.Fatal(c, d)
			}
			*x--
		}
	}
}

func TestP52OtherKinds(t *testing.T) {
	both(func(fifo bool) {
		a := three(fifo)
		c := plain.Start(a)
		c.Sent[0], c.Links[0] = 1, messages(11)
		for _, kind := range wrongs(2) {
			for _, s := range []plain.Step{{}, {Node: 1}, {Node: 1, Seq: 1}, {Node: 9, Link: 9}} {
				s.Kind = kind
				refuses(t, a, c, s, api.ErrArg)
			}
		}
	})
}

func TestP52PickErrors(t *testing.T) {
	both(func(fifo bool) {
		a := three(fifo)
		c := plain.Start(a) // 1 is active
		for _, n := range wrongs(3) {
			for _, k := range []int{0, -1, 9} {
				refuses(t, a, c, pick(n, k), api.ErrArg)
			}
		}
		for state, mode := range []int{table.Active, table.Passive, table.Blocked} {
			c.States[0] = state
			for _, k := range append(wrongs(2), 0, 1) {
				if mode != table.Active {
					refuses(t, a, c, pick(0, k), api.ErrIdle)
				} else if k != 0 && k != 1 {
					refuses(t, a, c, pick(0, k), api.ErrNone)
				} else {
					mustApply(t, a, c, pick(0, k))
				}
			}
		}
		for _, k := range wrongs(4) {
			refuses(t, a, c, pick(1, k), api.ErrNone)
		}
		c.States[1] = 1 // active, without picks
		for _, k := range append(wrongs(1), 0) {
			refuses(t, a, c, pick(1, k), api.ErrNone)
		}
	})
}

func TestP52Pick(t *testing.T) {
	both(func(fifo bool) {
		a := three(fifo)
		c := plain.Start(a)
		c.Sent, c.Links = []int{7, 3, 1, 0}, [][]api.Msg{messages(20, 73), nil, messages(13), nil}
		for i, x := range []struct {
			s    plain.Step
			want plain.Conf
		}{
			// Each message is behind those of its own link; how many these are does not count.
			{pick(1, 0), plain.Conf{States: []int{1, 0, 2}, Sent: []int{9, 5, 1, 0}, Links: [][]api.Msg{messages(20, 73, 81, 92), messages(42, 50), messages(13), nil}}},
			{pick(1, 1), plain.Conf{States: []int{1, 1, 2}, Sent: []int{7, 5, 1, 0}, Links: [][]api.Msg{messages(20, 73), messages(43, 51), messages(13), nil}}},
			{pick(1, 2), c},
			{pick(1, 3), plain.Conf{States: []int{1, 2, 2}, Sent: []int{8, 3, 1, 0}, Links: [][]api.Msg{messages(20, 73, 80), nil, messages(13), nil}}},
			{plain.Step{Kind: plain.Pick, Node: 1, K: 3, Link: -7, Seq: 99}, plain.Conf{States: []int{1, 2, 2}, Sent: []int{8, 3, 1, 0}, Links: [][]api.Msg{messages(20, 73, 80), nil, messages(13), nil}}},
			{plain.Step{Kind: plain.Pick, Node: 1, K: 2, Link: 3, Seq: 1}, c},
		} {
			if d := mustApply(t, a, c, x.s); !equal(d, x.want) || !plain.Same(d, x.want) {
				t.Error(i, d)
			}
		}
	})
}

func TestP52PickOfMost(t *testing.T) {
	both(func(fifo bool) {
		a := three(fifo) // of node 1, pick 0 sends 2 on link 1, one on link 0, and so once more; pick 1 sends 2 on link 1
		for sent := 494; sent <= 500; sent++ {
			for other := 494; other <= 500; other++ {
				c := plain.Start(a)
				c.Sent = []int{other, sent, 500, 500}
				for k, fits := range []bool{sent <= 498 && other <= 498, sent <= 498, true, other <= 499} {
					if !fits {
						refuses(t, a, c, pick(1, k), api.ErrBig)
						continue
					}
					d := mustApply(t, a, c, pick(1, k))
					if !plain.Right(a, d) || d.Sent[0]-other != len(d.Links[0]) || d.Sent[1]-sent != len(d.Links[1]) {
						t.Error(sent, other, k, d)
					}
				}
			}
		}
	})
}

func TestP52DeliverErrors(t *testing.T) {
	both(func(fifo bool) {
		a := three(fifo)
		c := plain.Start(a)
		c.Sent, c.Links = []int{9, 4, 0, 1}, [][]api.Msg{messages(30, 51, 82), messages(11, 22, 33, 40), nil, messages(13)}
		for _, l := range wrongs(4) {
			for _, seq := range []int{0, 1, 3, 9} {
				refuses(t, a, c, deliver(l, seq), api.ErrArg)
			}
		}
		for l, on := range [][]int{{3, 5, 8}, {1, 2, 3, 4}, {}, {1}} {
			for _, seq := range append(wrongs(10), 0, 1, 2, 3, 4, 5, 6, 7, 8, 9) {
				if i := slices.Index(on, seq); i < 0 || fifo && i > 0 {
					refuses(t, a, c, deliver(l, seq), api.ErrNone)
				} else {
					mustApply(t, a, c, deliver(l, seq))
				}
			}
		}
		d := mustApply(t, a, c, deliver(0, 3))
		refuses(t, a, d, deliver(0, 3), api.ErrNone)
	})
}

func TestP52Deliver(t *testing.T) {
	start := plain.Conf{States: []int{1, 0, 2}, Sent: []int{9, 4, 1, 2}, Links: [][]api.Msg{messages(31, 53, 82), messages(22, 32, 40), messages(13), messages(23)}}
	for i, x := range []struct {
		s            plain.Step
		any          bool // where links are not first in, first out
		link         []api.Msg
		node, behind int
	}{
		{deliver(0, 3), false, messages(53, 82), 2, 1},
		{deliver(0, 5), true, messages(31, 82), 2, 2}, // 2 takes no such letter, and stays
		{deliver(0, 8), true, messages(31, 53), 2, 2},
		{deliver(1, 2), false, messages(32, 40), 0, 0},
		{deliver(1, 3), true, messages(22, 40), 0, 0},
		{deliver(1, 4), true, messages(22, 32), 0, 1},
		{deliver(2, 1), false, nil, 1, 1},
		{deliver(3, 2), false, nil, 1, 0}, // 1 takes that letter of 0 alone
		{plain.Step{Kind: plain.Deliver, Link: 2, Seq: 1, Node: -3, K: 99}, false, nil, 1, 1},
	} {
		want := copyOf(start)
		want.Links[x.s.Link], want.States[x.node] = x.link, x.behind
		if d := mustApply(t, three(false), start, x.s); !equal(d, want) {
			t.Error(i, d)
		}
		if x.any {
			refuses(t, three(true), start, x.s, api.ErrNone)
		} else if d := mustApply(t, three(true), start, x.s); !equal(d, want) {
			t.Error(i, d)
		}
	}
}

// TestP52DeliverAll takes messages from a link with all that it can have, in an order of their own where there may be one.
func TestP52DeliverAll(t *testing.T) {
	both(func(fifo bool) {
		a := two(fifo)
		c := plain.Start(a)
		c.Sent[1] = 500
		order := rand.New(rand.NewSource(52)).Perm(500)
		for i := range order {
			c.Links[1] = append(c.Links[1], api.Msg{Seq: i + 1, Letter: i % 4})
			if fifo {
				order[i] = i
			}
		}
		x := modelOf(a, c)
		for _, i := range order {
			c = mustApply(t, a, c, deliver(1, i+1))
			x, _ = x.step(deliver(1, i+1))
			if !equal(c, x.conf()) {
				t.Fatal(c)
			}
		}
		if len(c.Links[1]) != 0 || c.Sent[1] != 500 {
			t.Error(c)
		}
	})
}

func TestP53Run(t *testing.T) {
	both(func(fifo bool) {
		a := three(fifo)
		c := plain.Start(a)
		l := []plain.Step{pick(1, 0), deliver(1, 1), pick(0, 0), deliver(2, 1), deliver(0, 1), pick(2, 0), deliver(3, 1), deliver(3, 2), deliver(0, 2)}
		if d, n, e := plain.Run(a, c, nil); n != 0 || e != api.OK || !equal(d, c) {
			t.Error("no steps", d, n, e)
		}
		want := c
		for i := range l {
			want = mustApply(t, a, want, l[i])
			if d, n, e := plain.Run(a, c, l[:i+1]); n != i+1 || e != api.OK || !equal(d, want) {
				t.Error(i, d, n, e)
			}
			for _, x := range []struct {
				s plain.Step
				e api.Errno
			}{{plain.Step{Kind: 2}, api.ErrArg}, {pick(3, 0), api.ErrArg}, {pick(0, 9), api.ErrIdle}, {deliver(4, 1), api.ErrArg}, {deliver(1, 9), api.ErrNone}} {
				if _, e := plain.Apply(a, want, x.s); e != x.e {
					continue // 0 is active for a while, and has no such pick
				}
				if d, n, e := plain.Run(a, c, slices.Concat(l[:i+1], []plain.Step{x.s, {Kind: -1}, pick(1, 2)})); n != i+1 || e != x.e || !equal(d, want) {
					t.Error(i, x.s, d, n, e)
				}
			}
		}
		if want := (plain.Conf{States: []int{1, 2, 2}, Sent: []int{2, 2, 1, 2}, Links: [][]api.Msg{nil, messages(20), nil, nil}}); !equal(want, mustRun(t, a, c, l)) {
			t.Error(mustRun(t, a, c, l))
		}
	})
}

func mustRun(t *testing.T, a plain.App, c plain.Conf, l []plain.Step) plain.Conf {
	t.Helper()
	d, n, e := plain.Run(a, c, l)
	if n != len(l) || e != api.OK {
		t.Fatal(c, l, n, e)
	}
	return d
}

func TestP53RunOfMost(t *testing.T) {
	both(func(fifo bool) {
		a := three(fifo)
		l := slices.Repeat([]plain.Step{pick(1, 2), pick(1, 0)}, 300) // 500 messages by 250 picks
		d, n, e := plain.Run(a, plain.Start(a), l)
		if n != 501 || e != api.ErrBig || !slices.Equal(d.Sent, []int{500, 500, 0, 0}) || len(d.Links[0]) != 500 || d.Links[1][499] != (api.Msg{Seq: 500}) || !plain.Right(a, d) {
			t.Error(d, n, e)
		}
		if _, n, e := plain.Run(a, d, slices.Repeat(l[:1], 200000)); n != 200000 || e != api.OK {
			t.Error(n, e)
		}
	})
}

func TestP53Can(t *testing.T) {
	c := plain.Conf{States: []int{0, 0, 1}, Sent: []int{9, 500, 1, 2}, Links: [][]api.Msg{messages(31, 53, 82), messages(5000), nil, messages(10, 23)}}
	want := []plain.Step{pick(0, 0), pick(0, 1), pick(1, 2), pick(1, 3), pick(2, 0), deliver(0, 3), deliver(0, 5), deliver(0, 8), deliver(1, 500), deliver(3, 1), deliver(3, 2)}
	if l := plain.Can(three(false), c); !slices.Equal(l, want) {
		t.Error(l)
	}
	want = []plain.Step{pick(0, 0), pick(0, 1), pick(1, 2), pick(1, 3), pick(2, 0), deliver(0, 3), deliver(1, 500), deliver(3, 1)}
	if l := plain.Can(three(true), c); !slices.Equal(l, want) {
		t.Error(l)
	}
	c.States, c.Sent[1], c.Links[1] = []int{1, 0, 0}, 498, nil
	want = []plain.Step{pick(1, 0), pick(1, 1), pick(1, 2), pick(1, 3), deliver(0, 3), deliver(3, 1)}
	if l := plain.Can(three(true), c); !slices.Equal(l, want) {
		t.Error(l)
	}
	if l := plain.Can(full(1, true), plain.Start(full(1, true))); len(l) != 0 {
		t.Error(l)
	}
}

func TestP53CanOfMost(t *testing.T) {
	both(func(fifo bool) {
		a := full(6, fifo)
		c := plain.Start(a)
		var want []plain.Step
		for l := range c.Links {
			c.Sent[l] = 500
			for seq := 1; seq <= 500; seq++ {
				c.Links[l] = append(c.Links[l], api.Msg{Seq: seq, Letter: l % 4})
				if seq == 1 || !fifo {
					want = append(want, deliver(l, seq))
				}
			}
		}
		if l := plain.Can(a, c); !slices.Equal(l, want) {
			t.Errorf("%d can be done, not %d", len(l), len(want))
		}
	})
}

// holdsAgainst holds what is told of a configuration, and of steps from it on, against the model.
func holdsAgainst(t *testing.T, a plain.App, c plain.Conf, l []plain.Step) {
	t.Helper()
	x := modelOf(a, c)
	if can := plain.Can(a, c); !slices.Equal(can, x.can()) {
		t.Fatalf("%v: Can(%v) = %v, not %v", a, c, can, x.can())
	}
	done, told := 0, api.OK
	for at := c; done < len(l); done++ {
		next, e := x.step(l[done])
		d, e2 := plain.Apply(a, at, l[done])
		if e != e2 || e != api.OK && !isZero(d) || e == api.OK && !equal(d, next.conf()) {
			t.Fatalf("%v: Apply(%v, %v) = %v, %d", a, at, l[done], d, e2)
		}
		if told = e; e != api.OK {
			break
		}
		at, x = d, next
	}
	if d, n, e := plain.Run(a, c, l); n != done || e != told || !equal(d, x.conf()) {
		t.Fatalf("%v: Run(%v, %v) = %v, %d, %d", a, c, l, d, n, e)
	}
}

// walk are steps from c on, up to the first one that can't be done, and some behind it.
func walk(r *rand.Rand, a plain.App, c plain.Conf, many int) (l []plain.Step) {
	for range many {
		s := anyStep(r, a, c)
		l = append(l, s)
		if x, e := modelOf(a, c).step(s); e == api.OK {
			c = x.conf()
		}
	}
	return l
}

func TestP52AndP53OfAny(t *testing.T) {
	r := rand.New(rand.NewSource(53))
	for range 400 {
		a := anyApp(r)
		holdsAgainst(t, a, plain.Start(a), walk(r, a, plain.Start(a), 20))
		for range 3 {
			c := anyConf(r, a)
			holdsAgainst(t, a, c, walk(r, a, c, 8))
		}
	}
}

// loads is how many messages are on links.
func loads(c plain.Conf) int {
	return len(slices.Concat(c.Links...))
}

func TestP54StaysRight(t *testing.T) {
	r := rand.New(rand.NewSource(54))
	moves := 0
	for range 300 {
		a := anyApp(r)
		c := anyConf(r, a)
		for range 30 {
			l := plain.Can(a, c)
			for _, s := range l {
				d := mustApply(t, a, c, s)
				if !plain.Right(a, d) || s.Kind == plain.Deliver && loads(d) != loads(c)-1 || s.Kind == plain.Pick && loads(d)-loads(c) != len(a.T[s.Node].States[c.States[s.Node]].Picks[s.K].Sends) {
					t.Fatalf("%v: Apply(%v, %v) = %v", a, c, s, d)
				}
			}
			if len(l) == 0 {
				break
			}
			c = mustApply(t, a, c, l[r.Intn(len(l))])
			moves++
		}
	}
	if moves < 3000 {
		t.Error("few moves:", moves)
	}
}

// ownerOf is whose step s is.
func ownerOf(a plain.App, s plain.Step) int {
	if s.Kind == plain.Pick {
		return s.Node
	}
	return a.G.Links[s.Link][1]
}

func TestP54TurnedRound(t *testing.T) {
	r := rand.New(rand.NewSource(540))
	turned := 0
	for range 150 {
		a := anyApp(r)
		c := anyConf(r, a)
		for _, first := range plain.Can(a, c) {
			between := mustApply(t, a, c, first)
			for _, second := range plain.Can(a, between) {
				if ownerOf(a, first) == ownerOf(a, second) || second.Kind == plain.Deliver && second.Seq > c.Sent[second.Link] {
					continue
				}
				d, n, e := plain.Run(a, c, []plain.Step{second, first})
				if n != 2 || e != api.OK || !plain.Same(d, mustApply(t, a, between, second)) {
					t.Fatalf("%v: %v: %v ahead of %v: %v, %d, %d", a, c, second, first, d, n, e)
				}
				turned++
			}
		}
	}
	if turned < 3000 {
		t.Error("few turned:", turned)
	}
}

// roomy is a configuration whose lists have room behind them, that is full of other things, and those things.
func roomy() (plain.Conf, []int, []api.Msg) {
	numbers := []int{1, 0, 1, 77, 3, 4, 1, 2, 77, 77}
	room := append(messages(12, 30), messages(990, 991, 992, 993, 994, 995, 996)...)
	room = append(room, messages(13, 997, 998, 999)...)
	return plain.Conf{States: numbers[:3], Sent: numbers[4:8], Links: [][]api.Msg{room[:2], room[5:5], room[9:10], nil}}, numbers, room
}

func TestR4ListsAreKept(t *testing.T) {
	both(func(fifo bool) {
		c, numbers, room := roomy()
		a := three(fifo)
		a.G.Links = append(a.G.Links, [2]int{9, 9})[:4]
		was, wasNumbers, wasRoom := copyOf(c), slices.Clone(numbers), slices.Clone(room)
		l := append(plain.Can(a, c), plain.Step{Kind: 7})
		wasSteps := slices.Clone(l)
		if !plain.Right(a, c) || len(l) < 6 {
			t.Fatal(l)
		}
		for _, s := range l {
			plain.Apply(a, c, s)
			plain.Run(a, c, []plain.Step{s, pick(1, 0), pick(1, 0), deliver(0, 1), deliver(0, 3)})
		}
		plain.Run(a, c, l[:len(l)-1])
		plain.Run(a, c, l)
		plain.Same(c, was)
		plain.Start(a)
		if !equal(c, was) || !slices.Equal(numbers, wasNumbers) || !slices.Equal(room, wasRoom) || !slices.Equal(l, wasSteps) || !slices.Equal(a.G.Links[:5], append(three(fifo).G.Links, [2]int{9, 9})) {
			t.Error(c, numbers, room, l)
		}
		if plain.Same(plain.Start(a), c) || !equal(plain.Start(a), plain.Start(three(fifo))) || !slices.Equal(plain.Can(a, c), plain.Can(three(fifo), was)) {
			t.Error("the application has changed")
		}
	})
}

// spoil writes over one of c's lists, and the room behind it, and tells if there is such a list.
func spoil(c plain.Conf, which int) bool {
	spoilInts := func(l []int) {
		for i := range l[:cap(l)] {
			l[:cap(l)][i] = -7
		}
	}
	switch which {
	case 0:
		spoilInts(c.States)
	case 1:
		spoilInts(c.Sent)
	case 2:
		clear(c.Links[:cap(c.Links)])
	default:
		if which-3 >= len(c.Links) {
			return false
		}
		l := c.Links[which-3]
		for i := range l[:cap(l)] {
			l[:cap(l)][i] = api.Msg{Seq: -7, Letter: -7}
		}
	}
	return true
}

// spared is d, but that the list which spoil wrote over is as in c.
func spared(d, c plain.Conf, which int) plain.Conf {
	d.Links = slices.Clone(d.Links)
	switch which {
	case 0:
		d.States = c.States
	case 1:
		d.Sent = c.Sent
	case 2:
		d.Links = c.Links
	default:
		d.Links[which-3] = c.Links[which-3]
	}
	return d
}

// sharesNone holds that no two lists of what ask answers share memory, nor with what it answers another time, nor with c.
func sharesNone(t *testing.T, c plain.Conf, ask func() plain.Conf) {
	t.Helper()
	was := copyOf(c)
	want := copyOf(ask())
	other := ask()
	for which := 0; ; which++ {
		d := ask()
		if !spoil(d, which) {
			break
		}
		if !equal(spared(d, want, which), want) || !equal(other, want) || !equal(c, was) || !equal(ask(), want) {
			t.Error(which, d, other, c)
		}
	}
	for which := 0; spoil(c, which); which++ {
	}
	if !equal(other, want) {
		t.Error(other)
	}
}

func TestR4AnswersAreNewMemory(t *testing.T) {
	both(func(fifo bool) {
		a := three(fifo)
		for _, l := range [][]plain.Step{nil, {pick(0, 0)}, {pick(1, 0)}, {pick(1, 2)}, {deliver(0, 1)}, {deliver(2, 1)}, {pick(1, 0), pick(1, 0), deliver(0, 1), deliver(1, 2), pick(1, 0)}, {pick(1, 0), {Kind: 5}}} {
			c := plain.Conf{States: []int{0, 0, 1}, Sent: []int{3, 4, 1, 2}, Links: [][]api.Msg{messages(12, 30), messages(20), messages(10), nil}}
			was := copyOf(c)
			sharesNone(t, c, func() plain.Conf { d, _, _ := plain.Run(a, c, l); return d })
			if len(l) == 1 {
				sharesNone(t, was, func() plain.Conf { d, _ := plain.Apply(a, was, l[0]); return d })
			}
		}
		c := plain.Start(a)
		sharesNone(t, copyOf(c), func() plain.Conf { return plain.Start(a) })
		x, y := plain.Can(a, c), plain.Can(a, c)
		clear(x[:cap(x)])
		if !slices.Equal(y, plain.Can(a, c)) || len(y) != 4 {
			t.Error(y)
		}
	})
}

func FuzzP52(f *testing.F) {
	f.Add(int64(1), 4)
	f.Add(int64(2), 40)
	f.Fuzz(func(t *testing.T, seed int64, many int) {
		r := rand.New(rand.NewSource(seed))
		a := anyApp(r)
		c := anyConf(r, a)
		if !plain.Right(a, c) {
			t.Fatal(a, c)
		}
		holdsAgainst(t, a, c, walk(r, a, c, max(many, 0)%64))
	})
}
