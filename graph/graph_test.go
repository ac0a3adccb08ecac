package graph_test

import (
	"math"
	"slices"
	"testing"

	"cameo/api"
	"cameo/graph"
)

// both are the links between each of these two nodes, and the other way round.
func both(pairs ...[2]int) [][2]int {
	var links [][2]int
	for _, p := range pairs {
		links = append(links, p, [2]int{p[1], p[0]})
	}
	return links
}

// pairsOf are the pairs of n nodes whose bits are set.
func pairsOf(n, bits int) [][2]int {
	var pairs [][2]int
	for a := range n {
		for b := range a {
			if bits&1 != 0 {
				pairs = append(pairs, [2]int{a, b})
			}
			bits >>= 1
		}
	}
	return pairs
}

// graphs are those that may be of n nodes, whose links stand in an order of their own.
func graphs(n int) []graph.Graph {
	var l []graph.Graph
	for bits := range 1 << (n * (n - 1) / 2) {
		g := graph.Graph{N: n, Links: both(pairsOf(n, bits)...)}
		if !reaches(g) {
			continue
		}
		next := uint64(bits)*2654435761 + 1
		for i := len(g.Links) - 1; i > 0; i-- {
			next = next*6364136223846793005 + 1442695040888963407
			k := int(next >> 33 % uint64(i+1))
			g.Links[i], g.Links[k] = g.Links[k], g.Links[i]
		}
		l = append(l, g)
	}
	return l
}

const never = 1000

// ways are how few links lead from each node to each, found otherwise than Dist does it: by ways over more and more nodes.
func ways(g graph.Graph) [][]int {
	w := make([][]int, g.N)
	for a := range w {
		w[a] = slices.Repeat([]int{never}, g.N)
		w[a][a] = 0
	}
	for _, l := range g.Links {
		if l[0] != l[1] {
			w[l[0]][l[1]] = 1
		}
	}
	for over := range w {
		for a := range w {
			for b := range w {
				w[a][b] = min(w[a][b], w[a][over]+w[over][b])
			}
		}
	}
	return w
}

// reaches tells if there is a way from each node to each.
func reaches(g graph.Graph) bool {
	for _, row := range ways(g) {
		if slices.Contains(row, never) {
			return false
		}
	}
	return true
}

// mayBe is the document's own rule, said one link by one.
func mayBe(g graph.Graph) bool {
	if g.N < 1 || g.N > 6 || len(g.Links) > 30 {
		return false
	}
	for i, l := range g.Links {
		if l[0] < 0 || l[0] >= g.N || l[1] < 0 || l[1] >= g.N || l[0] == l[1] {
			return false
		}
		back := false
		for k, m := range g.Links {
			if i != k && l == m {
				return false
			}
			back = back || l[0] == m[1] && l[1] == m[0]
		}
		if !back {
			return false
		}
	}
	return reaches(g)
}

func TestP31Right(t *testing.T) {
	for i, g := range []graph.Graph{
		{N: 1}, {N: 1, Links: [][2]int{}}, {N: 2, Links: [][2]int{{0, 1}, {1, 0}}}, {N: 2, Links: [][2]int{{1, 0}, {0, 1}}},
		{N: 3, Links: both([2]int{0, 1}, [2]int{1, 2})}, {N: 3, Links: both([2]int{0, 2}, [2]int{2, 1})}, {N: 3, Links: [][2]int{{0, 1}, {2, 1}, {1, 0}, {1, 2}}},
		{N: 4, Links: both([2]int{0, 1}, [2]int{2, 3}, [2]int{3, 0})},
		{N: 6, Links: both([2]int{5, 4}, [2]int{4, 3}, [2]int{3, 2}, [2]int{2, 1}, [2]int{1, 0})},
		{N: 6, Links: both([2]int{3, 0}, [2]int{3, 1}, [2]int{3, 2}, [2]int{3, 4}, [2]int{3, 5})},
		graph.Full(5), graph.Full(6),
	} {
		if !graph.Right(g) {
			t.Error(i, g)
		}
	}
}

func TestP31RightOfNodes(t *testing.T) {
	line := func(n int) [][2]int {
		var pairs [][2]int
		for i := 1; i < n; i++ {
			pairs = append(pairs, [2]int{i - 1, i})
		}
		return both(pairs...)
	}
	for n := 1; n <= 9; n++ {
		if graph.Right(graph.Graph{N: n, Links: line(n)}) != (n <= api.MaxNodes) {
			t.Error("a line of", n)
		}
	}
	for _, n := range []int{math.MinInt, -1, 0, 1, 3, 5, 7, 1 << 40, math.MaxInt} {
		if graph.Right(graph.Graph{N: n, Links: line(4)}) {
			t.Error("a line of 4, of", n)
		}
		if graph.Right(graph.Graph{N: n}) != (n == 1) {
			t.Error("no link, of", n)
		}
	}
}

func TestP31RightOfLinks(t *testing.T) {
	full := graph.Full(6).Links
	for i, g := range []graph.Graph{
		{N: 2},
		{N: 2, Links: [][2]int{{0, 1}}}, {N: 2, Links: [][2]int{{1, 0}}},
		{N: 2, Links: [][2]int{{0, 1}, {0, 1}}}, {N: 2, Links: [][2]int{{0, 1}, {1, 0}, {0, 1}}}, {N: 2, Links: [][2]int{{0, 1}, {1, 0}, {1, 0}, {0, 1}}},
		{N: 1, Links: [][2]int{{0, 0}}}, {N: 2, Links: [][2]int{{0, 1}, {1, 0}, {0, 0}}}, {N: 2, Links: [][2]int{{0, 1}, {1, 0}, {1, 1}}}, {N: 2, Links: [][2]int{{0, 0}, {1, 1}}},
		{N: 2, Links: [][2]int{{0, 1}, {1, 0}, {0, 2}, {2, 0}}}, {N: 2, Links: [][2]int{{0, 1}, {1, 0}, {0, -1}, {-1, 0}}}, {N: 2, Links: [][2]int{{0, 1}, {1, 0}, {5, 7}, {7, 5}}},
		{N: 2, Links: [][2]int{{0, 1}, {1, 0}, {math.MinInt, math.MaxInt}, {math.MaxInt, math.MinInt}}},
		{N: 3, Links: [][2]int{{0, 1}, {1, 2}, {2, 0}}}, {N: 3, Links: [][2]int{{0, 1}, {1, 0}, {1, 2}}}, {N: 3, Links: [][2]int{{0, 1}, {1, 0}, {2, 1}}},
		{N: 3, Links: both([2]int{0, 1})}, {N: 3, Links: both([2]int{1, 2})}, {N: 4, Links: both([2]int{0, 1}, [2]int{2, 3})},
		{N: 6, Links: both([2]int{0, 1}, [2]int{1, 2}, [2]int{2, 0}, [2]int{3, 4}, [2]int{4, 5}, [2]int{5, 3})},
		{N: 6, Links: full[:29]}, {N: 6, Links: full[1:]}, {N: 5, Links: full},
		{N: 6, Links: slices.Concat(full, full[:1])}, {N: 6, Links: slices.Concat(full, full)}, {N: 6, Links: slices.Repeat(full, 1000)},
		{N: 6, Links: slices.Concat(full, both([2]int{0, 6}))}, {N: 7, Links: slices.Concat(full, both([2]int{0, 6}))},
	} {
		if graph.Right(g) {
			t.Error(i, g)
		}
	}
}

// TestP31RightOfEach holds Right against the rule over all graphs of links, right or wrong ones, that are few.
func TestP31RightOfEach(t *testing.T) {
	var links [][2]int
	for a := -1; a <= 3; a++ {
		for b := -1; b <= 3; b++ {
			links = append(links, [2]int{a, b})
		}
	}
	right := 0
	var grow func(l [][2]int)
	grow = func(l [][2]int) {
		for n := range 5 {
			g := graph.Graph{N: n, Links: l}
			if graph.Right(g) != mayBe(g) {
				t.Fatal(g)
			}
			if graph.Right(g) {
				right++
			}
		}
		if len(l) < 4 {
			for _, x := range links {
				grow(append(slices.Clip(l), x))
			}
		}
	}
	grow(nil)
	if want := 1 + 2 + 3*24; right != want { // no link; one pair, in either order; two of three pairs, in any order
		t.Errorf("%d are right, not %d", right, want)
	}
}

func TestP31RightOfPairs(t *testing.T) {
	for n, want := range []int{0, 1, 1, 4, 38, 728, 26704} { // graphs in which each node is reached, by their nodes
		right := 0
		for bits := range 1 << (n * max(n-1, 0) / 2) {
			g := graph.Graph{N: n, Links: both(pairsOf(n, bits)...)}
			if graph.Right(g) {
				right++
			}
		}
		if right != want {
			t.Errorf("%d graphs of %d nodes, not %d", right, n, want)
		}
	}
}

func TestP31RightWithoutOne(t *testing.T) {
	for n := 2; n <= 6; n++ {
		full := graph.Full(n)
		for l := range full.Links {
			g := graph.Graph{N: n, Links: slices.Delete(slices.Clone(full.Links), l, l+1)}
			if graph.Right(g) {
				t.Error("one way alone", n, l)
			}
			g.Links = append(g.Links, g.Links[0])
			if graph.Right(g) {
				t.Error("one twice instead", n, l)
			}
		}
	}
}

func TestP31OutAndIn(t *testing.T) {
	g := graph.Graph{N: 4, Links: [][2]int{{2, 1}, {0, 1}, {3, 1}, {1, 0}, {1, 2}, {1, 3}}}
	for n, want := range [][2][]int{{{1}, {3}}, {{3, 4, 5}, {0, 1, 2}}, {{0}, {4}}, {{2}, {5}}} {
		if l := graph.Out(g, n); !slices.Equal(l, want[0]) {
			t.Error("Out", n, l)
		}
		if l := graph.In(g, n); !slices.Equal(l, want[1]) {
			t.Error("In", n, l)
		}
	}
	if l := graph.Out(graph.Full(3), 1); !slices.Equal(l, []int{2, 3}) {
		t.Error(l)
	}
	if l := graph.In(graph.Full(3), 1); !slices.Equal(l, []int{0, 5}) {
		t.Error(l)
	}
	if graph.Out(graph.Full(1), 0) != nil || graph.In(graph.Full(1), 0) != nil {
		t.Error("links of one node")
	}
}

// wrongNodes are no nodes of a graph of n.
func wrongNodes(n int) []int {
	return []int{math.MinInt, -1 << 32, -n, -1, n, n + 1, 1 << 32, math.MaxInt}
}

func TestP31NoSuchNode(t *testing.T) {
	for n := 1; n <= 6; n++ {
		g := graph.Full(n)
		for _, x := range wrongNodes(n) {
			if graph.Out(g, x) != nil || graph.In(g, x) != nil || graph.Find(g, x, 0) != -1 || graph.Find(g, 0, x) != -1 || graph.Find(g, x, x) != -1 {
				t.Error(n, x)
			}
		}
	}
}

func TestP31Find(t *testing.T) {
	g := graph.Graph{N: 3, Links: [][2]int{{2, 1}, {0, 1}, {1, 0}, {1, 2}}}
	for _, x := range [][3]int{{2, 1, 0}, {0, 1, 1}, {1, 0, 2}, {1, 2, 3}, {0, 2, -1}, {2, 0, -1}, {0, 0, -1}, {1, 1, -1}, {9, 9, -1}} {
		if l := graph.Find(g, x[0], x[1]); l != x[2] {
			t.Errorf("Find(%d, %d) = %d", x[0], x[1], l)
		}
	}
	for n := 1; n <= 6; n++ {
		g := graph.Full(n)
		for l, x := range g.Links {
			if graph.Find(g, x[0], x[1]) != l {
				t.Error(n, l)
			}
		}
		for a := range n {
			if graph.Find(g, a, a) != -1 {
				t.Error(n, a)
			}
		}
	}
}

func TestP31Back(t *testing.T) {
	g := graph.Graph{N: 3, Links: [][2]int{{2, 1}, {0, 1}, {1, 0}, {1, 2}}}
	for l, want := range []int{3, 2, 1, 0} {
		if b := graph.Back(g, l); b != want {
			t.Errorf("Back(%d) = %d", l, b)
		}
	}
	if graph.Back(graph.Full(2), 0) != 1 {
		t.Error("Full(2)")
	}
	for n := 1; n <= 6; n++ {
		for _, l := range []int{math.MinInt, -1 << 32, -1, n * (n - 1), n*(n-1) + 1, 1 << 32, math.MaxInt} {
			if b := graph.Back(graph.Full(n), l); b != -1 {
				t.Errorf("Back(%d) of %d nodes = %d", l, n, b)
			}
		}
	}
}

func TestP32Dist(t *testing.T) {
	line := graph.Graph{N: 6, Links: both([2]int{4, 0}, [2]int{0, 2}, [2]int{2, 5}, [2]int{5, 1}, [2]int{1, 3})} // 4 0 2 5 1 3
	ring := graph.Graph{N: 6, Links: both([2]int{0, 1}, [2]int{1, 2}, [2]int{2, 3}, [2]int{3, 4}, [2]int{4, 5}, [2]int{5, 0})}
	star := graph.Graph{N: 4, Links: both([2]int{2, 0}, [2]int{2, 1}, [2]int{2, 3})}
	for _, x := range []struct {
		g    graph.Graph
		from int
		want []int
	}{
		{graph.Full(1), 0, []int{0}}, {graph.Full(2), 0, []int{0, 1}}, {graph.Full(2), 1, []int{1, 0}}, {graph.Full(6), 3, []int{1, 1, 1, 0, 1, 1}},
		{line, 4, []int{1, 4, 2, 5, 0, 3}}, {line, 3, []int{4, 1, 3, 0, 5, 2}}, {line, 2, []int{1, 2, 0, 3, 2, 1}},
		{ring, 0, []int{0, 1, 2, 3, 2, 1}}, {ring, 4, []int{2, 3, 2, 1, 0, 1}},
		{star, 2, []int{1, 1, 0, 1}}, {star, 3, []int{2, 2, 1, 0}},
	} {
		if d := graph.Dist(x.g, x.from); !slices.Equal(d, x.want) {
			t.Errorf("Dist(%v, %d) = %d", x.g, x.from, d)
		}
	}
}

func TestP32DistOfNoNode(t *testing.T) {
	for n := 1; n <= 6; n++ {
		for _, from := range wrongNodes(n) {
			if d := graph.Dist(graph.Full(n), from); d != nil {
				t.Errorf("Dist(%d) of %d nodes = %d", from, n, d)
			}
		}
	}
}

func TestP32DistOfEach(t *testing.T) {
	for n := 1; n <= 6; n++ {
		for _, g := range graphs(n) {
			for from, want := range ways(g) {
				if d := graph.Dist(g, from); !slices.Equal(d, want) {
					t.Fatalf("Dist(%v, %d) = %d", g, from, d)
				}
			}
		}
	}
}

func TestP33Full(t *testing.T) {
	for n := -3; n <= 9; n++ {
		g := graph.Full(n)
		want := min(max(n, 1), 6)
		var links [][2]int
		for x := range want * want {
			if x/want != x%want {
				links = append(links, [2]int{x / want, x % want})
			}
		}
		if g.N != want || !slices.Equal(g.Links, links) || !graph.Right(g) {
			t.Errorf("Full(%d) = %v", n, g)
		}
	}
	if g := graph.Full(3); !slices.Equal(g.Links, [][2]int{{0, 1}, {0, 2}, {1, 0}, {1, 2}, {2, 0}, {2, 1}}) {
		t.Error(g)
	}
	if graph.Full(math.MinInt).N != 1 || graph.Full(math.MaxInt).N != 6 {
		t.Error("the ends")
	}
}

// checkLinks holds a graph that may be against what follows.
func checkLinks(t *testing.T, g graph.Graph) {
	t.Helper()
	for l, x := range g.Links {
		b := graph.Back(g, l)
		if b == l || graph.Back(g, b) != l || g.Links[b] != [2]int{x[1], x[0]} || b != graph.Find(g, x[1], x[0]) {
			t.Fatalf("Back(%v, %d) = %d", g, l, b)
		}
	}
	all := 0
	for n := range g.N {
		out, in := graph.Out(g, n), graph.In(g, n)
		if len(out) != len(in) || !slices.IsSorted(out) || !slices.IsSorted(in) {
			t.Fatalf("%v: node %d: %d, %d", g, n, out, in)
		}
		for _, l := range out {
			if g.Links[l][0] != n || !slices.Contains(in, graph.Back(g, l)) {
				t.Fatalf("%v: node %d: %d, %d", g, n, out, in)
			}
		}
		all += len(out)
		d := graph.Dist(g, n)
		if len(d) != g.N || slices.Max(d) > g.N-1 || slices.Min(d) != 0 || d[n] != 0 {
			t.Fatalf("Dist(%v, %d) = %d", g, n, d)
		}
	}
	if all != len(g.Links) {
		t.Fatalf("%v: %d links lead from nodes", g, all)
	}
}

func TestP34WhatFollows(t *testing.T) {
	for n := 1; n <= 6; n++ {
		l := graphs(n)
		if len(l) == 0 {
			t.Fatal("no graph of", n)
		}
		for _, g := range l {
			checkLinks(t, g)
		}
	}
}

// asked asks all that a graph can be asked.
func asked(g graph.Graph) {
	graph.Right(g)
	for n := -1; n <= g.N; n++ {
		graph.Out(g, n)
		graph.In(g, n)
		graph.Dist(g, n)
		graph.Find(g, n, 0)
		graph.Find(g, 0, n)
	}
	for l := range g.Links {
		graph.Back(g, l)
	}
}

func TestR4ListsAreKept(t *testing.T) {
	room := append(both([2]int{2, 1}, [2]int{1, 0}), [2]int{7, 8}, [2]int{9, 9})
	was := slices.Clone(room)
	asked(graph.Graph{N: 3, Links: room[:4]})
	asked(graph.Graph{N: 1, Links: room[:0]})
	if !slices.Equal(room, was) {
		t.Error(room)
	}
}

func TestR4AnswersAreNewMemory(t *testing.T) {
	g := graph.Full(4)
	for i, ask := range []func() []int{
		func() []int { return graph.Out(g, 2) },
		func() []int { return graph.In(g, 2) },
		func() []int { return graph.Dist(g, 2) },
	} {
		a, b := ask(), ask()
		was := slices.Clone(b)
		clear(a[:cap(a)])
		if !slices.Equal(b, was) || !slices.Equal(ask(), was) {
			t.Error(i, b)
		}
	}
	h := graph.Full(4)
	clear(h.Links[:cap(h.Links)])
	if !slices.Equal(graph.Full(4).Links, g.Links) || !graph.Right(g) {
		t.Error(g)
	}
}

func FuzzP34(f *testing.F) {
	f.Add(1, []byte{})
	f.Add(2, []byte{0x01, 0x10})
	f.Add(3, []byte{0x01, 0x10, 0x21, 0x12})
	f.Add(3, []byte{0x01, 0x10, 0x21, 0x02})
	f.Fuzz(func(t *testing.T, n int, bytes []byte) {
		g := graph.Graph{N: n}
		for _, b := range bytes {
			g.Links = append(g.Links, [2]int{int(b >> 4), int(b & 15)})
		}
		if graph.Right(g) != mayBe(g) {
			t.Fatal(g)
		}
		if graph.Right(g) {
			checkLinks(t, g)
		}
	})
}
