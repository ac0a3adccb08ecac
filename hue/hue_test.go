package hue_test

import (
	"math"
	"math/rand"
	"slices"
	"testing"
	"unsafe"

	"cameo/api"
	"cameo/graph"
	"cameo/host"
	"cameo/hue"
	"cameo/piece"
	"cameo/plain"
	"cameo/table"
)

// messages are some, by a number each: ten times the Seq, and the Letter.
func messages(l ...int) (m []api.Msg) {
	for _, x := range l {
		m = append(m, api.Msg{Seq: x / 10, Letter: x % 10})
	}
	return m
}

// every are the messages of those letters.
func every(out []int) (l []api.Msg) {
	for i, letter := range out {
		l = append(l, api.Msg{Seq: i + 1, Letter: letter})
	}
	return l
}

// letters are n of them, all four in turn.
func letters(n int) (l []int) {
	for i := range n {
		l = append(l, i%4)
	}
	return l
}

// epochs are some, rising; a hue may be asked for any.
func epochs() []int {
	return []int{math.MinInt, -1 << 32, -201, -1, 0, 1, 2, 3, 199, 200, 201, 1 << 32, 1<<32 + 1, math.MaxInt - 1, math.MaxInt}
}

// hostOf is one that has so many links each way, of which it took and sent some messages.
func hostOf(links int) host.Host {
	h := host.Host{Node: links % 6, State: 7 - links, Steps: 40 + links}
	for i := range links {
		h.In = append(h.In, every(letters(2 * i))[i:])
		h.Out = append(h.Out, letters(3*i))
	}
	return h
}

// twoLinks is a node between two others, that took and sent some messages.
func twoLinks() host.Host {
	return host.Host{Node: 1, State: 2, Steps: 9, In: [][]api.Msg{messages(10, 23), nil}, Out: [][]int{{3, 3, 1}, {0}}}
}

// someHue is one that has some of all.
func someHue(epoch int) hue.Hue {
	return hue.Hue{Epoch: epoch, P: piece.Piece{Node: 4, State: 1, Steps: 3, Sent: []int{2, 5}, In: [][]api.Msg{nil, messages(42, 50)}, Out: [][]int{{1}, {2, 0}}}}
}

func anyHost(r *rand.Rand) host.Host {
	h := host.Host{Node: r.Intn(6), State: r.Intn(8), Steps: r.Intn(1000)}
	links := r.Intn(6)
	for range links {
		h.In = append(h.In, every(letters(r.Intn(5))))
		h.Out = append(h.Out, letters(r.Intn(5)))
	}
	return h
}

// anyHue is one of an epoch from -1 to 4, of any host.
func anyHue(r *rand.Rand) hue.Hue {
	h := anyHost(r)
	return hue.Hue{Epoch: r.Intn(6) - 1, P: toldAnew(h)}
}

// copyOf is a hue that is the same, with lists of its own.
func copyOf(u hue.Hue) hue.Hue {
	u.P = copyOfPiece(u.P)
	return u
}

func copyOfPiece(p piece.Piece) piece.Piece {
	p.Sent, p.In, p.Out = slices.Clone(p.Sent), slices.Clone(p.In), slices.Clone(p.Out)
	for i, l := range p.In {
		p.In[i] = slices.Clone(l)
	}
	for i, l := range p.Out {
		p.Out[i] = slices.Clone(l)
	}
	return p
}

func copyOfHost(h host.Host) host.Host {
	p := copyOfPiece(piece.Piece{In: h.In, Out: h.Out})
	h.In, h.Out = p.In, p.Out
	return h
}

func equal(a, b hue.Hue) bool {
	return a.Epoch == b.Epoch && equalPieces(a.P, b.P)
}

func equalPieces(a, b piece.Piece) bool {
	return a.Node == b.Node && a.State == b.State && a.Steps == b.Steps && slices.Equal(a.Sent, b.Sent) &&
		slices.EqualFunc(a.In, b.In, slices.Equal) && slices.EqualFunc(a.Out, b.Out, slices.Equal)
}

func equalHosts(a, b host.Host) bool {
	return a.Node == b.Node && a.State == b.State && a.Steps == b.Steps &&
		slices.EqualFunc(a.In, b.In, slices.Equal) && slices.EqualFunc(a.Out, b.Out, slices.Equal)
}

// toldAnew is what a host tells with logs, said anew.
func toldAnew(h host.Host) piece.Piece {
	p := piece.Piece{Node: h.Node, State: h.State, Steps: h.Steps, In: h.In, Out: h.Out}
	for _, l := range h.Out {
		p.Sent = append(p.Sent, len(l))
	}
	return copyOfPiece(p)
}

// turnedAnew is the document's Turn, said anew.
func turnedAnew(u hue.Hue, h host.Host, epoch int) (hue.Hue, bool) {
	if epoch > u.Epoch {
		return hue.Hue{Epoch: epoch, P: toldAnew(h)}, true
	}
	return copyOf(u), false
}

// restAnew is the document's Rest, said anew.
func restAnew(out []int, in []api.Msg) (l []api.Msg) {
	for _, x := range every(out) {
		if !slices.ContainsFunc(in, func(y api.Msg) bool { return y.Seq == x.Seq }) {
			l = append(l, x)
		}
	}
	return l
}

// mixedAnew is the document's Mixed, said anew.
func mixedAnew(out []int, in []api.Msg) bool {
	mixed := false
	for i, x := range in {
		mixed = mixed || !slices.Contains(every(out), x)
		for _, y := range in[:i] {
			mixed = mixed || x.Seq == y.Seq
		}
	}
	return mixed
}

// turns holds that a hue turns as it has to.
func turns(t *testing.T, u hue.Hue, h host.Host, epoch int) (hue.Hue, bool) {
	t.Helper()
	was, of := copyOf(u), copyOfHost(h)
	want, turned := turnedAnew(u, h, epoch)
	x, is := hue.Turn(u, h, epoch)
	if !equal(x, want) || is != turned || !equal(u, was) || !equalHosts(h, of) {
		t.Fatalf("Turn(%v, %v, %d) = %v, %v, not %v, %v", was, of, epoch, x, is, want, turned)
	}
	if is && !equalPieces(x.P, host.Piece(of, true)) {
		t.Fatalf("Turn(%v, %v, %d) = %v", was, of, epoch, x)
	}
	return x, is
}

// rests holds what is the rest, and if something is mixed.
func rests(t *testing.T, out []int, in []api.Msg) ([]api.Msg, bool) {
	t.Helper()
	wasOut, wasIn := slices.Clone(out), slices.Clone(in)
	rest, mixed := hue.Rest(out, in), hue.Mixed(out, in)
	if !slices.Equal(rest, restAnew(wasOut, wasIn)) {
		t.Fatalf("Rest(%v, %v) = %v", wasOut, wasIn, rest)
	}
	if mixed != mixedAnew(wasOut, wasIn) {
		t.Fatalf("Mixed(%v, %v) = %v", wasOut, wasIn, mixed)
	}
	if !slices.Equal(out, wasOut) || !slices.Equal(in, wasIn) {
		t.Fatalf("%v, %v were changed to %v, %v", wasOut, wasIn, out, in)
	}
	return rest, mixed
}

func TestExample(t *testing.T) {
	out, in := []int{3, 1, 2}, []api.Msg{{Seq: 2, Letter: 1}}
	if rest := hue.Rest(out, in); !slices.Equal(rest, []api.Msg{{Seq: 1, Letter: 3}, {Seq: 3, Letter: 2}}) || hue.Mixed(out, in) {
		t.Error(rest)
	}
}

func TestP111Turn(t *testing.T) {
	u, is := hue.Turn(hue.Hue{}, twoLinks(), 1)
	first := hue.Hue{Epoch: 1, P: piece.Piece{Node: 1, State: 2, Steps: 9, Sent: []int{3, 1}, In: [][]api.Msg{messages(10, 23), nil}, Out: [][]int{{3, 3, 1}, {0}}}}
	if !is || !equal(u, first) {
		t.Fatal(u, is)
	}
	// Of the same epoch, and of an older one, it stays as it was, whatever the host is by now.
	for _, epoch := range []int{1, 0, -1, math.MinInt} {
		if x, is := hue.Turn(u, hostOf(3), epoch); is || !equal(x, first) {
			t.Error(epoch, x, is)
		}
	}
	// Of a later one all that was is gone.
	for _, epoch := range []int{2, 3, 200, math.MaxInt} {
		if x, is := hue.Turn(u, host.Host{Node: 5}, epoch); !is || !equal(x, hue.Hue{Epoch: epoch, P: piece.Piece{Node: 5}}) {
			t.Error(epoch, x, is)
		}
	}
}

// TestP111TurnOfEpochs: of all two epochs, with all numbers of links.
func TestP111TurnOfEpochs(t *testing.T) {
	for links := range 6 {
		for i, old := range epochs() {
			for j, epoch := range epochs() {
				if x, is := turns(t, someHue(old), hostOf(links), epoch); is != (j > i) || is != (x.P.Steps == 40+links) {
					t.Error(old, epoch, x, is)
				}
				turns(t, hue.Hue{Epoch: old}, hostOf(links), epoch)
			}
		}
	}
	for _, epoch := range epochs() {
		if x, is := turns(t, hue.Hue{}, twoLinks(), epoch); is != (epoch > 0) {
			t.Error(epoch, x, is)
		}
	}
}

func TestP111TurnOfAny(t *testing.T) {
	r := rand.New(rand.NewSource(111))
	turned := 0
	for range 20000 {
		if _, is := turns(t, anyHue(r), anyHost(r), r.Intn(6)-1); is {
			turned++
		}
	}
	if turned < 2000 || turned > 18000 {
		t.Error(turned)
	}
}

// TestP111TurnOfOthers: hosts that may not be tell pieces, too, and hues of pieces that may not be stay, or turn.
func TestP111TurnOfOthers(t *testing.T) {
	odd := []host.Host{
		{}, {Node: -1, State: 9, Steps: -4}, {In: make([][]api.Msg, 1)}, {In: make([][]api.Msg, 3), Out: [][]int{{1, 9, -1}}},
		{In: make([][]api.Msg, 9), Out: make([][]int, 9)}, {In: [][]api.Msg{messages(0, 9999, 10, 10)}}, {Node: math.MinInt, Steps: math.MaxInt, Out: [][]int{make([]int, 501)}},
	}
	for _, h := range odd {
		for _, x := range odd {
			u := hue.Hue{Epoch: 3, P: toldAnew(x)}
			u.P.Sent = append(u.P.Sent, -1, math.MaxInt)
			for epoch := range 6 {
				turns(t, u, h, epoch)
			}
		}
	}
}

func TestP111Done(t *testing.T) {
	for i, old := range epochs() {
		for j, epoch := range epochs() {
			for _, u := range []hue.Hue{{Epoch: old}, someHue(old)} {
				was := copyOf(u)
				if hue.Done(u, epoch) != (i >= j) || !equal(u, was) {
					t.Error(old, epoch)
				}
			}
			// What turned to an epoch has done that, and so has what did not turn.
			if x, _ := hue.Turn(someHue(old), twoLinks(), epoch); !hue.Done(x, epoch) || !hue.Done(x, old) {
				t.Error(old, epoch, x)
			}
		}
	}
	for _, epoch := range epochs() {
		if hue.Done(hue.Hue{}, epoch) != (epoch <= 0) {
			t.Error(epoch)
		}
	}
}

func TestP112RestAndMixed(t *testing.T) {
	out := []int{2, 0, 0, 3, 2}
	for i, x := range []struct {
		in, rest []api.Msg
		mixed    bool
	}{
		{nil, messages(12, 20, 30, 43, 52), false},
		{messages(12), messages(20, 30, 43, 52), false},
		{messages(52), messages(12, 20, 30, 43), false},
		{messages(20, 43), messages(12, 30, 52), false},
		{messages(43, 20), messages(12, 30, 52), false}, // in another order
		{messages(12, 20, 30, 43, 52), nil, false},
		{messages(52, 43, 30, 20, 12), nil, false},
		{messages(22), messages(12, 30, 43, 52), true},                        // another letter: it is none of those sent, yet its Seq was got
		{messages(61), messages(12, 20, 30, 43, 52), true},                    // more than were sent
		{messages(1), messages(12, 20, 30, 43, 52), true},                     // Seq 0
		{messages(20, 20), messages(12, 30, 43, 52), true},                    // twice
		{messages(20, 43, 52, 20), messages(12, 30), true},                    // twice, with others between
		{messages(20, 21), messages(12, 30, 43, 52), true},                    // twice by its Seq, of unlike letters
		{messages(21, 20), messages(12, 30, 43, 52), true},                    // the same, in another order
		{messages(12, 20, 30, 43, 52, 52), nil, true},                         // all, and the last one twice
		{messages(12, 20, 30, 43, 52, 60), nil, true},                         // all, and one more
		{messages(61, 61), messages(12, 20, 30, 43, 52), true},                // twice, and never sent
		{messages(20, 20, 20, 20, 20), messages(12, 30, 43, 52), true},        // as many as were sent
		{messages(12, 20, 30, 43, 50), nil, true},                             // as many as were sent, the last one with another letter
		{messages(12, 12, 20, 30, 43, 43), messages(52), true},                // two of them twice
		{[]api.Msg{{Seq: -1, Letter: 2}}, messages(12, 20, 30, 43, 52), true}, // a Seq below 0
	} {
		rest, mixed := rests(t, out, x.in)
		if !slices.Equal(rest, x.rest) || mixed != x.mixed {
			t.Error(i, x.in, rest, mixed)
		}
	}
	for _, in := range [][]api.Msg{nil, messages(10), messages(10, 10), messages(0)} {
		if rest, mixed := rests(t, nil, in); len(rest) != 0 || mixed != (len(in) > 0) {
			t.Error(in, rest, mixed)
		}
	}
}

// TestP112AllSmall: all of up to 3 letters, of two, and up to 3 messages, of Seqs from -1 to 4.
func TestP112AllSmall(t *testing.T) {
	clean, mixed := 0, 0
	for _, out := range listsOf(3, []int{0, 1}) {
		var seqs []api.Msg
		for seq := -1; seq <= 4; seq++ {
			seqs = append(seqs, api.Msg{Seq: seq}, api.Msg{Seq: seq, Letter: 1})
		}
		for _, in := range listsOf(3, seqs) {
			if _, is := rests(t, out, in); is {
				mixed++
			} else {
				clean++
			}
		}
	}
	// Of n letters there are 2 to the n, and of these n messages 1, 2, 5, and 16 lists without one twice.
	if clean != 1*1+2*2+4*5+8*16 || mixed+clean != 15*(1+12+144+1728) {
		t.Error(clean, mixed)
	}
}

// listsOf are all lists of up to so many of these.
func listsOf[T any](most int, of []T) [][]T {
	all := [][]T{nil}
	from := 0
	for range most {
		to := len(all)
		for _, l := range all[from:to] {
			for _, x := range of {
				all = append(all, append(slices.Clone(l), x))
			}
		}
		from = to
	}
	return all
}

// TestP112FarNumbers: numbers far off those sent are none of these, whatever their lower bits are.
func TestP112FarNumbers(t *testing.T) {
	out := []int{1, 0, 3}
	far := []int{math.MinInt, math.MinInt + 1, math.MinInt + 2, -1<<32 + 1, -1 << 32, -3, -2, -1, 0, 4, 5, 257, 258, 65537, 65538, 1 << 32, 1<<32 + 1, 1<<32 + 3, math.MaxInt - 1, math.MaxInt}
	for _, seq := range far {
		for _, letter := range []int{0, 1, 3} {
			in := []api.Msg{{Seq: seq, Letter: letter}}
			if rest, mixed := rests(t, out, in); len(rest) != 3 || !mixed {
				t.Error(in, rest, mixed)
			}
			if rest, mixed := rests(t, out, append(in, messages(20)...)); !slices.Equal(rest, messages(11, 33)) || !mixed {
				t.Error(in, rest, mixed)
			}
			if rest, mixed := rests(t, out, append(messages(33, 11), in...)); !slices.Equal(rest, messages(20)) || !mixed {
				t.Error(in, rest, mixed)
			}
		}
	}
	for _, letter := range far {
		if letter == 0 {
			continue
		}
		in := []api.Msg{{Seq: 2, Letter: letter}}
		if rest, mixed := rests(t, out, in); !slices.Equal(rest, messages(11, 33)) || !mixed {
			t.Error(in, rest, mixed)
		}
	}
	// Letters that no message may say are told, and held against each other, as they are.
	for _, letter := range append(far, 1, 2, 3) {
		out := []int{letter, 2, letter}
		if rest, mixed := rests(t, out, []api.Msg{{Seq: 3, Letter: letter}}); mixed || !slices.Equal(rest, []api.Msg{{Seq: 1, Letter: letter}, {Seq: 2, Letter: 2}}) {
			t.Error(letter, rest, mixed)
		}
	}
}

// TestP112Many: of 500 letters, the most that a link may have sent, and of more.
func TestP112Many(t *testing.T) {
	r := rand.New(rand.NewSource(1120))
	for _, n := range []int{499, 500, 501, 3000} {
		out := letters(n)
		all := every(out)
		r.Shuffle(n, func(i, j int) { all[i], all[j] = all[j], all[i] })
		for _, got := range []int{0, 1, n / 2, n - 1, n} {
			rest := hue.Rest(out, all[:got])
			want := slices.Clone(all[got:])
			slices.SortFunc(want, func(a, b api.Msg) int { return a.Seq - b.Seq })
			if !slices.Equal(rest, want) || hue.Mixed(out, all[:got]) {
				t.Error(n, got, rest)
			}
			for _, x := range []api.Msg{{Seq: n + 1, Letter: n % 4}, {Seq: 0}, {Seq: n, Letter: n % 4}} { // none of those sent
				in := slices.Insert(slices.Clone(all[:got]), r.Intn(got+1), x)
				if !hue.Mixed(out, in) {
					t.Error(n, got, x)
				}
			}
			if got > 0 && !hue.Mixed(out, slices.Insert(slices.Clone(all[:got]), r.Intn(got+1), all[r.Intn(got)])) {
				t.Error(n, got)
			}
		}
	}
	// Many of the same.
	in := slices.Repeat(messages(10), 300000)
	if rest := hue.Rest([]int{0, 1}, in); !slices.Equal(rest, messages(21)) || !hue.Mixed([]int{0, 1}, in) {
		t.Error(rest)
	}
}

func TestP112OfAny(t *testing.T) {
	r := rand.New(rand.NewSource(112))
	clean := 0
	for range 30000 {
		out, in := anyOutAndIn(r)
		if _, mixed := rests(t, out, in); !mixed {
			clean++
		}
	}
	if clean < 5000 || clean > 25000 {
		t.Error(clean)
	}
}

// anyOutAndIn are letters, and some of their messages, in any order, now and then spoilt.
func anyOutAndIn(r *rand.Rand) ([]int, []api.Msg) {
	out := make([]int, r.Intn(12))
	for i := range out {
		out[i] = r.Intn(4)
	}
	all := every(out)
	r.Shuffle(len(all), func(i, j int) { all[i], all[j] = all[j], all[i] })
	in := all[:r.Intn(len(all)+1)]
	if len(in) > 0 && r.Intn(2) == 0 {
		at := r.Intn(len(in))
		switch r.Intn(4) {
		case 0:
			in[at].Letter = r.Intn(5)
		case 1:
			in[at].Seq = r.Intn(14) - 1
		case 2:
			in = append(slices.Clone(in), in[at])
		default:
			in[at] = in[r.Intn(len(in))]
		}
	}
	return out, in
}

// TestP113OnceToEachColour: whatever epochs come, in whatever order, it turns to none twice, and only to later ones.
func TestP113OnceToEachColour(t *testing.T) {
	r := rand.New(rand.NewSource(1130))
	for range 500 {
		var u hue.Hue
		turned := map[int]int{}
		last := 0
		for step := range 60 {
			epoch := r.Intn(12) - 1
			h := host.Host{Node: 1, Steps: step}
			was := u
			x, is := turns(t, u, h, epoch)
			if is {
				turned[epoch]++
				last = epoch
			} else if !equal(x, was) {
				t.Fatal(x, was)
			}
			if turned[epoch] > 1 || x.Epoch != last || is && x.P.Steps != step {
				t.Fatal(epoch, x, is)
			}
			u = x
		}
	}
}

// parts holds that what was got, and the rest, are all that was sent, each once, if nothing is mixed.
func parts(t *testing.T, out []int, in []api.Msg) bool {
	t.Helper()
	rest, mixed := rests(t, out, in)
	if mixed {
		return false
	}
	both := slices.Concat(rest, in)
	slices.SortFunc(both, func(a, b api.Msg) int { return a.Seq - b.Seq })
	if len(rest) != len(out)-len(in) || !slices.Equal(both, every(out)) {
		t.Fatal(out, in, rest)
	}
	return true
}

func TestP113RestIsWhatIsNotGot(t *testing.T) {
	r := rand.New(rand.NewSource(113))
	clean := 0
	for range 30000 {
		if out, in := anyOutAndIn(r); parts(t, out, in) {
			clean++
		}
	}
	if clean < 5000 {
		t.Error(clean)
	}
	// Of all ways in which some of 9 messages were got.
	out := []int{3, 3, 0, 1, 2, 2, 0, 0, 1}
	for got := range 1 << 9 {
		var in []api.Msg
		for i, x := range every(out) {
			if got>>i&1 == 1 {
				in = append(in, x)
			}
		}
		slices.Reverse(in)
		if !parts(t, out, in) {
			t.Error(in)
		}
	}
}

// talkers are three nodes with links to each other, in any order, that may send all letters to all others.
func talkers() plain.App {
	a := plain.App{G: graph.Full(3)}
	for n := range 3 {
		var picks []table.Pick
		for k := range 4 {
			picks = append(picks, table.Pick{Next: k % 2, Sends: []table.Send{{To: (n + 1) % 3, Letter: k}, {To: (n + 2) % 3, Letter: 3 - k}, {To: (n + 1) % 3, Letter: 1}}[:k%3+1]})
		}
		a.T = append(a.T, table.Node{States: []table.State{{Mode: table.Active, Picks: picks}, {Mode: table.Active, Picks: picks[1:]}}})
	}
	return a
}

// system has hosts, and the plain system beside them.
type system struct {
	t *testing.T
	a plain.App
	h []host.Host
	c plain.Conf
}

func newSystem(t *testing.T) *system {
	x := &system{t: t, a: talkers()}
	x.c = plain.Start(x.a)
	for n := range x.a.G.N {
		x.h = append(x.h, host.New(x.a, n))
	}
	if !table.Right(x.a.T, x.a.G) {
		t.Fatal("a table that may not be")
	}
	return x
}

// goOn does one of the steps that can be done.
func (x *system) goOn(which int) {
	all := plain.Can(x.a, x.c)
	s := all[which%len(all)]
	var e api.Errno
	if s.Kind == plain.Pick {
		x.h[s.Node], _, e = host.Pick(x.a, x.h[s.Node], s.K)
	} else {
		to := x.a.G.Links[s.Link][1]
		at := slices.IndexFunc(x.c.Links[s.Link], func(m api.Msg) bool { return m.Seq == s.Seq })
		x.h[to], e = host.Take(x.a, x.h[to], s.Link, x.c.Links[s.Link][at])
	}
	if e != api.OK {
		x.t.Fatal(s, e)
	}
	x.c, _ = plain.Apply(x.a, x.c, s)
}

// logs are what two hues tell of a link between their nodes.
func (x *system) logs(u []hue.Hue, link int) ([]int, []api.Msg) {
	from, to := x.a.G.Links[link][0], x.a.G.Links[link][1]
	return u[from].P.Out[slices.Index(graph.Out(x.a.G, from), link)], u[to].P.In[slices.Index(graph.In(x.a.G, to), link)]
}

// TestP113OfHosts: of nodes that turn at one moment the rests are what is on the links then, however the system goes on.
func TestP113OfHosts(t *testing.T) {
	r := rand.New(rand.NewSource(1131))
	for range 60 {
		x := newSystem(t)
		u := make([]hue.Hue, len(x.h))
		for epoch := range 4 {
			for range r.Intn(25) {
				x.goOn(r.Intn(1000))
			}
			for n := range u {
				var is bool
				if u[n], is = turns(t, u[n], x.h[n], epoch+1); !is || !piece.Right(u[n].P) {
					t.Fatal(u[n])
				}
			}
			was := x.c
			for range 8 {
				x.goOn(r.Intn(1000))
			}
			for n := range u {
				u[n], _ = turns(t, u[n], x.h[n], epoch+1)
			}
			for link, way := range was.Links {
				out, in := x.logs(u, link)
				if rest := hue.Rest(out, in); !slices.Equal(rest, way) || hue.Mixed(out, in) || len(out) != was.Sent[link] {
					t.Fatal(link, out, in, rest, way)
				}
			}
		}
	}
}

// TestP113OfNewColour: a message of the new colour is taken behind the turn, so that nothing is mixed; ahead of it, it is.
func TestP113OfNewColour(t *testing.T) {
	for _, late := range []bool{false, true} {
		x := newSystem(t)
		x.goOn(0) // 0 sends letter 0 to 1
		u := make([]hue.Hue, 3)
		u[0], _ = hue.Turn(u[0], x.h[0], 1)
		x.goOn(0) // and sends it again, of the new colour, to a node that is of the old one
		link := graph.Find(x.a.G, 0, 1)
		way := x.c.Links[link]
		if len(way) != 2 {
			t.Fatal(way)
		}
		taken, e := host.Take(x.a, x.h[1], link, way[1])
		if e != api.OK {
			t.Fatal(e)
		}
		if late {
			u[1], _ = hue.Turn(u[1], taken, 1)
		} else {
			u[1], _ = hue.Turn(u[1], x.h[1], 1)
		}
		out, in := x.logs(u, link)
		if rest := hue.Rest(out, in); hue.Mixed(out, in) != late || !slices.Equal(rest, way[:1]) {
			t.Error(late, out, in, rest)
		}
	}
}

// TestR3EmptyListsAreNone: lists that are nil, and empty ones, are the same.
func TestR3EmptyListsAreNone(t *testing.T) {
	for _, out := range [][]int{nil, {}, make([]int, 0, 9)} {
		for _, in := range [][]api.Msg{nil, {}, make([]api.Msg, 0, 9)} {
			if rest, mixed := rests(t, out, in); len(rest) != 0 || mixed {
				t.Error(rest, mixed)
			}
		}
	}
	empty := hue.Hue{P: piece.Piece{Sent: []int{}, In: [][]api.Msg{}, Out: [][]int{}}}
	alone := host.Host{In: [][]api.Msg{}, Out: [][]int{}}
	if x, is := turns(t, empty, twoLinks(), 0); is || !equal(x, hue.Hue{}) {
		t.Error(x, is)
	}
	if x, is := turns(t, empty, alone, 1); !is || !equal(x, hue.Hue{Epoch: 1}) {
		t.Error(x, is)
	}
	within := host.Host{In: [][]api.Msg{{}, nil, make([]api.Msg, 0, 9)}, Out: [][]int{nil, {}, make([]int, 0, 9)}}
	if x, is := turns(t, hue.Hue{}, within, 1); !is || !equal(x, hue.Hue{Epoch: 1, P: piece.Piece{Sent: make([]int, 3), In: make([][]api.Msg, 3), Out: make([][]int, 3)}}) {
		t.Error(x, is)
	}
}

// TestR5OneAnswer: the same is told each time.
func TestR5OneAnswer(t *testing.T) {
	out := letters(40)
	in := append(every(out)[5:30], messages(7, 70, 70, 415)...)
	rest := hue.Rest(out, in)
	for range 200 {
		if !slices.Equal(hue.Rest(out, in), rest) || !hue.Mixed(out, in) {
			t.Fatal(rest)
		}
	}
}

// TestR7HuesAreValues: a hue tells the same, whatever comes of it, and of its host.
func TestR7HuesAreValues(t *testing.T) {
	h := twoLinks()
	u, _ := hue.Turn(hue.Hue{}, h, 1)
	stays, _ := hue.Turn(u, host.Host{}, 1)
	h.Out[0][0], h.In[0][0] = 0, api.Msg{}
	later, _ := hue.Turn(u, h, 2)
	stays.P.Out[1][0], stays.P.Sent[0] = 2, 9
	if !equal(u, hue.Hue{Epoch: 1, P: toldAnew(twoLinks())}) || !equal(later, hue.Hue{Epoch: 2, P: toldAnew(h)}) {
		t.Error(u, later)
	}
}

// roomsOf are where a hue's lists lie, with the room behind each: the bytes from the first to the last one.
func roomsOf(u hue.Hue) (l [][2]uintptr) {
	l = append(l, roomOf(u.P.Sent), roomOf(u.P.In), roomOf(u.P.Out))
	for _, x := range u.P.In[:cap(u.P.In)] {
		l = append(l, roomOf(x))
	}
	for _, x := range u.P.Out[:cap(u.P.Out)] {
		l = append(l, roomOf(x))
	}
	return l
}

func roomOf[T any](l []T) [2]uintptr {
	from := uintptr(unsafe.Pointer(unsafe.SliceData(l)))
	var x T
	return [2]uintptr{from, from + uintptr(cap(l))*unsafe.Sizeof(x)}
}

// apart holds that no list shares memory with another one.
func apart(t *testing.T, l ...[][2]uintptr) {
	t.Helper()
	all := slices.DeleteFunc(slices.Concat(l...), func(x [2]uintptr) bool { return x[0] == x[1] })
	slices.SortFunc(all, func(a, b [2]uintptr) int { return int(a[0]) - int(b[0]) })
	for i := 1; i < len(all); i++ {
		if all[i][0] < all[i-1][1] {
			t.Fatal("shared")
		}
	}
}

// off holds that no list of the answer shares memory with one that was handed in.
func off(t *testing.T, in, answer [][2]uintptr) {
	t.Helper()
	for _, x := range in {
		for _, y := range answer {
			if x[0] < y[1] && y[0] < x[1] {
				t.Fatal("shared")
			}
		}
	}
}

// spoil writes over all that a hue's lists hold.
func spoil(u hue.Hue) {
	for _, l := range u.P.In {
		for i := range l {
			l[i] = api.Msg{Seq: -7, Letter: -7}
		}
	}
	for _, l := range u.P.Out {
		clear(l)
	}
	clear(u.P.Sent)
	clear(u.P.In)
	clear(u.P.Out)
}

// lists are what lies behind what shares memory with each other.
type lists struct {
	numbers []int
	got     []api.Msg
}

func (l lists) rooms() [][2]uintptr {
	return [][2]uintptr{roomOf(l.numbers), roomOf(l.got)}
}

// stay holds that the room behind is as it was.
func (l lists) stay(t *testing.T) {
	t.Helper()
	if !slices.Equal(l.numbers, []int{3, 1, 9, 9, 9}) || !slices.Equal(l.got[:6], append(messages(13, 22, 9991, 9991), api.Msg{}, api.Msg{})) {
		t.Fatal("the room behind", l)
	}
}

// sharing is a host of two links with room behind all its lists, and that room.
func sharing() (h host.Host, behind lists) {
	behind = lists{
		numbers: []int{3, 1, 9, 9, 9},
		got:     append(make([]api.Msg, 0, 30), messages(13, 22, 9991, 9991)...),
	}
	h = host.Host{Node: 1, Steps: 4, In: make([][]api.Msg, 0, 9), Out: make([][]int, 0, 9)}
	h.In = append(h.In, behind.got[:2], behind.got[:1])
	h.Out = append(h.Out, behind.numbers[:2], behind.numbers[:1])
	return h, behind
}

// TestR4HuesAreNewMemory: what is handed in is neither changed nor kept, nor is the room behind it.
func TestR4HuesAreNewMemory(t *testing.T) {
	for epoch := range 6 { // of a hue of epoch 3, and a host, both of the same lists
		h, behind := sharing()
		u := hue.Hue{Epoch: 3, P: piece.Piece{Node: 2, Sent: behind.numbers[:2], In: h.In, Out: h.Out}}
		of, was := copyOfHost(h), copyOf(u)
		x, _ := turns(t, u, h, epoch)
		y, _ := turns(t, u, h, epoch)
		behind.stay(t)
		apart(t, roomsOf(x), roomsOf(y))
		off(t, append(roomsOf(u), behind.rooms()...), slices.Concat(roomsOf(x), roomsOf(y)))
		kept := copyOf(y)
		spoil(x)
		if !equal(u, was) || !equalHosts(h, of) {
			t.Fatal(epoch, u, h)
		}
		spoil(u)
		if !equal(y, kept) {
			t.Fatal(epoch, y)
		}
	}
}

// TestR4RestsAreNewMemory: the same of Rest and Mixed.
func TestR4RestsAreNewMemory(t *testing.T) {
	for out := range 5 {
		for in := range 5 {
			_, behind := sharing()
			x, mixed := rests(t, behind.numbers[:out], behind.got[:in])
			y, again := rests(t, behind.numbers[:out], behind.got[:in])
			behind.stay(t)
			rooms := [][2]uintptr{roomOf(x), roomOf(y)}
			apart(t, rooms)
			off(t, behind.rooms(), rooms)
			clear(x[:cap(x)])
			behind.stay(t)
			clear(behind.numbers)
			clear(behind.got)
			if mixed != again || !slices.Equal(y, restAnew([]int{3, 1, 9, 9}[:out], messages(13, 22, 9991, 9991)[:in])) {
				t.Fatal(out, in, y)
			}
		}
	}
}

// TestR4HostsStay: nothing of a host is kept in a hue.
func TestR4HostsStay(t *testing.T) {
	h := twoLinks()
	as := hue.Hue{P: piece.Piece{In: h.In, Out: h.Out}}
	u, _ := turns(t, hue.Hue{}, h, 1)
	x, _ := turns(t, u, h, 1)
	y, _ := turns(t, u, h, 2)
	apart(t, roomsOf(u), roomsOf(x), roomsOf(y))
	off(t, roomsOf(as), slices.Concat(roomsOf(u), roomsOf(x), roomsOf(y)))
	spoil(as)
	want := hue.Hue{Epoch: 1, P: toldAnew(twoLinks())}
	if !equal(u, want) || !equal(x, want) {
		t.Error(u, x)
	}
	spoil(u)
	want.Epoch = 2
	if !equal(y, want) {
		t.Error(y)
	}
}

func FuzzP113(f *testing.F) {
	f.Add([]byte{3, 1, 2}, []byte{2, 1})
	f.Add([]byte{0, 0, 3, 1}, []byte{1, 0, 4, 1, 2, 0, 2, 3})
	f.Fuzz(func(t *testing.T, letters, got []byte) {
		if len(letters) > 100 || len(got) > 200 {
			t.Skip()
		}
		var out []int
		for _, x := range letters {
			out = append(out, int(x%4))
		}
		var in []api.Msg
		for i := 1; i < len(got); i += 2 {
			in = append(in, api.Msg{Seq: int(int8(got[i-1])), Letter: int(got[i] % 4)})
		}
		parts(t, out, in)
	})
}
