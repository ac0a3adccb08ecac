package mark_test

import (
	"math"
	"math/rand"
	"slices"
	"testing"
	"unsafe"

	"cameo/api"
	"cameo/graph"
	"cameo/host"
	"cameo/mark"
	"cameo/piece"
	"cameo/plain"
	"cameo/table"
)

// messages are some, by a number each: ten times the Seq, and the Letter.
func messages(l ...int) (m []api.Msg) {
	for _, x := range l {
		m = append(m, api.Msg{Seq: x / 10, Letter: x % 10})
	}
	return m
}

// every are the messages from 1 to 500.
func every() (l []api.Msg) {
	for i := range 500 {
		l = append(l, api.Msg{Seq: i + 1, Letter: i % 4})
	}
	return l
}

// wrongs are no places of a list of n.
func wrongs(n int) []int {
	return []int{math.MinInt, -1 << 32, -n - 1, -1, n, n + 1, 1 << 32, 1<<32 + 1, math.MaxInt}
}

// epochs are some that may be asked for.
func epochs() []int {
	return []int{1, 2, 3, 199, 200, 201, 1 << 32, 1<<32 + 1, math.MaxInt}
}

// hostOf is one that has so many links each way, of which it took and sent some messages.
func hostOf(links int) host.Host {
	h := host.Host{Node: links % 6, State: 7 - links, Steps: 40 + links}
	for i := range links {
		h.In = append(h.In, every()[i:2*i])
		h.Out = append(h.Out, make([]int, 3*i))
	}
	return h
}

// twoLinks is a node between two others, that took and sent some messages.
func twoLinks() host.Host {
	return host.Host{Node: 1, State: 2, Steps: 9, In: [][]api.Msg{messages(10, 23), nil}, Out: [][]int{{3, 3, 1}, {0}}}
}

func anyHost(r *rand.Rand) host.Host {
	h := host.Host{Node: r.Intn(6), State: r.Intn(8), Steps: r.Intn(1000)}
	links := r.Intn(6)
	for range links {
		h.In = append(h.In, every()[:r.Intn(5)])
		h.Out = append(h.Out, make([]int, r.Intn(5)))
	}
	return h
}

// anyMark is one that has as many places as h, open ones and others, with messages.
func anyMark(r *rand.Rand, h host.Host) mark.Mark {
	m := mark.Mark{Epoch: 1 + r.Intn(4), P: piece.Piece{Node: r.Intn(6), State: r.Intn(8), Steps: r.Intn(1000)}}
	for range h.In {
		m.Open = append(m.Open, r.Intn(2) == 0)
		m.P.Sent = append(m.P.Sent, r.Intn(500))
		m.P.In = append(m.P.In, every()[r.Intn(20):][:r.Intn(5)])
	}
	return m
}

// copyOf is a mark that is the same, with lists of its own.
func copyOf(m mark.Mark) mark.Mark {
	m.Open, m.P = slices.Clone(m.Open), copyOfPiece(m.P)
	return m
}

func copyOfPiece(p piece.Piece) piece.Piece {
	p.Sent, p.In, p.Out = slices.Clone(p.Sent), slices.Clone(p.In), slices.Clone(p.Out)
	for i, l := range p.In {
		p.In[i] = slices.Clone(l)
	}
	for i, l := range p.Out {
		p.Out[i] = slices.Clone(l)
	}
	return p
}

func copyOfHost(h host.Host) host.Host {
	p := copyOfPiece(piece.Piece{In: h.In, Out: h.Out})
	h.In, h.Out = p.In, p.Out
	return h
}

func equal(a, b mark.Mark) bool {
	return a.Epoch == b.Epoch && slices.Equal(a.Open, b.Open) && equalPieces(a.P, b.P)
}

func equalPieces(a, b piece.Piece) bool {
	return a.Node == b.Node && a.State == b.State && a.Steps == b.Steps && slices.Equal(a.Sent, b.Sent) &&
		slices.EqualFunc(a.In, b.In, slices.Equal) && slices.EqualFunc(a.Out, b.Out, slices.Equal)
}

func equalHosts(a, b host.Host) bool {
	return a.Node == b.Node && a.State == b.State && a.Steps == b.Steps &&
		slices.EqualFunc(a.In, b.In, slices.Equal) && slices.EqualFunc(a.Out, b.Out, slices.Equal)
}

// begunAnew is the document's Begin, said anew.
func begunAnew(h host.Host, epoch int) mark.Mark {
	m := mark.Mark{Epoch: epoch, P: piece.Piece{Node: h.Node, State: h.State, Steps: h.Steps}}
	for range h.In {
		m.Open = append(m.Open, true)
		m.P.In = append(m.P.In, nil)
	}
	for _, letters := range h.Out {
		m.P.Sent = append(m.P.Sent, len(letters))
	}
	return m
}

// markedAnew is the document's Marker, said anew.
func markedAnew(m mark.Mark, h host.Host, epoch, at int) (mark.Mark, bool) {
	if at < 0 || at > len(h.In)-1 {
		return m, false
	}
	x := copyOf(m)
	if m.Epoch != epoch {
		x = begunAnew(h, epoch)
	}
	x.Open[at] = false
	return x, m.Epoch != epoch
}

// gotAnew is the document's App, said anew.
func gotAnew(m mark.Mark, at int, x api.Msg) mark.Mark {
	m = copyOf(m)
	for i, open := range m.Open {
		if i == at && open {
			m.P.In[i] = append(m.P.In[i], x)
		}
	}
	return m
}

// doneAnew is the document's Done, said anew.
func doneAnew(m mark.Mark, epoch int) bool {
	open := 0
	for _, is := range m.Open {
		if is {
			open++
		}
	}
	return open == 0 && m.Epoch == epoch
}

// begins holds that a mark begins as it has to.
func begins(t *testing.T, h host.Host, epoch int) mark.Mark {
	t.Helper()
	was := copyOfHost(h)
	m := mark.Begin(h, epoch)
	if !equal(m, begunAnew(was, epoch)) || !equalPieces(m.P, host.Piece(was, false)) || !equalHosts(h, was) {
		t.Fatalf("Begin(%v, %d) = %v", was, epoch, m)
	}
	return m
}

// marks holds what comes of a marker.
func marks(t *testing.T, m mark.Mark, h host.Host, epoch, at int) (mark.Mark, bool) {
	t.Helper()
	was, of := copyOf(m), copyOfHost(h)
	want, first := markedAnew(m, h, epoch, at)
	x, f := mark.Marker(m, h, epoch, at)
	if !equal(x, want) || f != first || !equal(m, was) || !equalHosts(h, of) {
		t.Fatalf("Marker(%v, %v, %d, %d) = %v, %v, not %v, %v", was, of, epoch, at, x, f, want, first)
	}
	return x, f
}

// gets holds what comes of a message.
func gets(t *testing.T, m mark.Mark, at int, x api.Msg) mark.Mark {
	t.Helper()
	was := copyOf(m)
	want := gotAnew(m, at, x)
	y := mark.App(m, at, x)
	if !equal(y, want) || !equal(m, was) {
		t.Fatalf("App(%v, %d, %v) = %v", was, at, x, y)
	}
	return y
}

func TestExample(t *testing.T) {
	h := twoLinks()
	m := mark.Begin(h, 1)
	m = mark.App(m, 0, api.Msg{Seq: 3})
	m, first := mark.Marker(m, h, 1, 0)
	if first || mark.Done(m, 1) {
		t.Error(m, first)
	}
	m = mark.App(m, 0, api.Msg{Seq: 4})
	m, first = mark.Marker(m, h, 1, 1)
	if first || !mark.Done(m, 1) || len(m.P.In) != 2 || !slices.Equal(m.P.In[0], messages(30)) || len(m.P.In[1]) != 0 {
		t.Error(m, first)
	}
}

func TestP101Begin(t *testing.T) {
	m := mark.Begin(twoLinks(), 7)
	if !equal(m, mark.Mark{Epoch: 7, Open: []bool{true, true}, P: piece.Piece{Node: 1, State: 2, Steps: 9, Sent: []int{3, 1}, In: make([][]api.Msg, 2)}}) {
		t.Error(m)
	}
	for links := range 6 {
		for _, epoch := range epochs() {
			if m := begins(t, hostOf(links), epoch); mark.Done(m, epoch) != (links == 0) {
				t.Error(m)
			}
		}
	}
	r := rand.New(rand.NewSource(101))
	for range 1000 {
		begins(t, anyHost(r), 1+r.Intn(300))
	}
}

// TestP101BeginOfOthers: hosts that may not be tell pieces, too.
func TestP101BeginOfOthers(t *testing.T) {
	for _, h := range []host.Host{
		{}, {Node: -1, State: 9, Steps: -4}, {In: make([][]api.Msg, 1)}, {In: make([][]api.Msg, 3), Out: [][]int{{1, 9, -1}}},
		{In: make([][]api.Msg, 9), Out: make([][]int, 9)}, {In: [][]api.Msg{messages(0, 9999, 10)}}, {Node: math.MinInt, Steps: math.MaxInt, Out: [][]int{make([]int, 501)}},
	} {
		begins(t, h, 4)
	}
}

// TestP101Done: of all ways in which links are open, and of all epochs.
func TestP101Done(t *testing.T) {
	for links := range 6 {
		for open := range 1 << links {
			m := begunAnew(hostOf(links), 0)
			for at := range links {
				m.Open[at] = open>>at&1 == 1
				m.P.In[at] = messages(10, 20)
			}
			for _, m.Epoch = range epochs() {
				was := copyOf(m)
				for _, epoch := range epochs() {
					if mark.Done(m, epoch) != (open == 0 && epoch == m.Epoch) || !equal(m, was) {
						t.Error(m, epoch)
					}
				}
			}
		}
	}
	for _, epoch := range epochs() {
		if mark.Done(mark.Mark{}, epoch) {
			t.Error("the zero mark is of none", epoch)
		}
	}
}

// TestP102MarkerBegins: at a mark of another epoch, an older or a newer one, or of none, it is Begin first.
func TestP102MarkerBegins(t *testing.T) {
	for links := 1; links < 6; links++ {
		h := hostOf(links)
		for at := range links {
			for _, epoch := range epochs() {
				for _, other := range epochs() {
					m := mark.App(mark.Begin(hostOf(links), other), links-1, api.Msg{Seq: 30})
					m.P.Steps = 3
					if x, first := marks(t, m, h, epoch, at); first != (epoch != other) || (x.P.Steps == 3) == first || x.Open[at] || mark.Done(x, epoch) != (links == 1) {
						t.Error(m, x, first)
					}
				}
				if x, first := marks(t, mark.Mark{}, h, epoch, at); !first || x.Epoch != epoch || len(x.Open) != links {
					t.Error(x, first)
				}
			}
		}
	}
	// All that was of the older epoch is gone.
	m := mark.Mark{Epoch: 2, Open: []bool{false, true}, P: piece.Piece{Node: 5, State: 7, Steps: 1, Sent: []int{9, 9}, In: [][]api.Msg{messages(43), messages(11, 20)}, Out: [][]int{{1}, {2}}}}
	x, first := marks(t, m, twoLinks(), 3, 1)
	if !first || !equal(x, mark.Mark{Epoch: 3, Open: []bool{true, false}, P: piece.Piece{Node: 1, State: 2, Steps: 9, Sent: []int{3, 1}, In: make([][]api.Msg, 2)}}) {
		t.Error(x, first)
	}
}

// TestP102MarkerCloses: at a mark of that epoch no more than the link is closed, whatever the host is by now.
func TestP102MarkerCloses(t *testing.T) {
	for links := 1; links < 6; links++ {
		for open := range 1 << links {
			for at := range links {
				m := begunAnew(hostOf(links), 6)
				for i := range links {
					m.Open[i] = open>>i&1 == 1
					m.P.In[i] = every()[i : 2*i]
				}
				h := host.Host{Node: 5, State: 7, Steps: 99, In: make([][]api.Msg, links), Out: make([][]int, links)}
				x, first := marks(t, m, h, 6, at)
				if first || mark.Done(x, 6) != (open&^(1<<at) == 0) || !equalPieces(x.P, m.P) {
					t.Error(m, at, x)
				}
				if y, first := marks(t, x, h, 6, at); first || !equal(x, y) { // a second marker of that link
					t.Error(x, y)
				}
			}
		}
	}
}

// TestP102MarkerOfNoPlace: the mark stays as it was, of whatever epoch.
func TestP102MarkerOfNoPlace(t *testing.T) {
	for links := range 6 {
		h := hostOf(links)
		begun := mark.Begin(h, 2)
		further := copyOf(begun)
		for at := range links {
			further.Open[at] = at%2 == 0
			further.P.In[at] = messages(42, 50)
			further.P.Out = append(further.P.Out, []int{at})
		}
		for _, m := range []mark.Mark{{}, begun, further} {
			for _, epoch := range []int{1, 2, 3, 200, math.MaxInt} {
				for _, at := range append(wrongs(links), 6, 29, 30) {
					if x, first := marks(t, m, h, epoch, at); first || !equal(x, m) {
						t.Error(m, epoch, at, x)
					}
				}
			}
		}
	}
}

func TestP102MarkerOfAny(t *testing.T) {
	r := rand.New(rand.NewSource(102))
	begun := 0
	for range 20000 {
		h := anyHost(r)
		m := anyMark(r, h)
		if r.Intn(8) == 0 {
			m = mark.Mark{}
		}
		if _, first := marks(t, m, h, 1+r.Intn(4), r.Intn(8)-1); first {
			begun++
		}
	}
	if begun < 2000 || begun > 18000 {
		t.Error(begun)
	}
}

// TestP103App: a message is put behind those of its link, if that is open; of all ways in which links are.
func TestP103App(t *testing.T) {
	for links := range 6 {
		for open := range 1 << links {
			m := begunAnew(hostOf(links), 6)
			for at := range links {
				m.Open[at] = open>>at&1 == 1
				m.P.In[at] = every()[3:][:at]
			}
			for _, at := range append(wrongs(links), 0, 1, 2, 3, 4, 5) {
				x := gets(t, m, at, api.Msg{Seq: 40, Letter: 2})
				is := at >= 0 && at < links && open>>at&1 == 1
				if equal(x, m) == is {
					t.Error(m, at, x)
				}
				if is && (len(x.P.In[at]) != at+1 || x.P.In[at][at] != api.Msg{Seq: 40, Letter: 2}) {
					t.Error(m, at, x)
				}
			}
		}
	}
	for _, at := range append(wrongs(1), 0) {
		if x := mark.App(mark.Mark{}, at, api.Msg{Seq: 1}); !equal(x, mark.Mark{}) {
			t.Error(at, x)
		}
	}
}

// TestP103AppOfMessages: each message is put behind, whatever its Seq and Letter, one that is there already too, and as many as there are.
func TestP103AppOfMessages(t *testing.T) {
	h := twoLinks()
	for at := range 2 {
		m := mark.Begin(h, 1)
		want := make([][]api.Msg, 2)
		for _, x := range slices.Concat(messages(53, 40, 10, 23, 40, 5003), []api.Msg{{}, {Seq: -1, Letter: 9}, {Seq: math.MaxInt, Letter: math.MinInt}}, every(), every()) {
			m = gets(t, m, at, x)
			want[at] = append(want[at], x)
		}
		if !slices.EqualFunc(m.P.In, want, slices.Equal) || !slices.Equal(m.Open, []bool{true, true}) {
			t.Error(at, m)
		}
	}
}

func TestP103AppOfAny(t *testing.T) {
	r := rand.New(rand.NewSource(103))
	put := 0
	for range 20000 {
		m := anyMark(r, anyHost(r))
		if !equal(m, gets(t, m, r.Intn(8)-1, api.Msg{Seq: 1 + r.Intn(500), Letter: r.Intn(4)})) {
			put++
		}
	}
	if put < 2000 || put > 18000 {
		t.Error(put)
	}
}

// run is what comes by the links of a host, each first in, first out, with a marker in each, and what has to stand in the mark.
type run struct {
	t     *testing.T
	h     host.Host
	epoch int
	m     mark.Mark
	as    piece.Piece // what the host told at the beginning
	begun bool
	ended []bool
	in    [][]api.Msg
}

func newRun(t *testing.T, h host.Host, epoch int, m mark.Mark) *run {
	return &run{t: t, h: h, epoch: epoch, m: m, ended: make([]bool, len(h.In)), in: make([][]api.Msg, len(h.In))}
}

// begin is the node's own.
func (r *run) begin() {
	if r.begun {
		return
	}
	r.m, r.begun, r.as = mark.Begin(r.h, r.epoch), true, host.Piece(r.h, false)
	r.holds()
}

// marker comes by a link, once.
func (r *run) marker(at int) {
	if r.ended[at] {
		return
	}
	m, first := marks(r.t, r.m, r.h, r.epoch, at)
	if first == r.begun {
		r.t.Fatal(r.m, at, first)
	}
	if first {
		r.as = host.Piece(r.h, false)
	}
	r.m, r.begun, r.ended[at] = m, true, true
	r.holds()
}

// message comes by a link, and is taken by the host.
func (r *run) message(at int, x api.Msg) {
	r.m = gets(r.t, r.m, at, x)
	r.h = copyOfHost(r.h)
	r.h.In[at] = append(r.h.In[at], x)
	r.h.Steps++
	if r.begun && !r.ended[at] {
		r.in[at] = append(r.in[at], x)
	}
	r.holds()
}

// holds that the mark has of each link what came behind the beginning and ahead of its marker, and nothing else of what came later.
func (r *run) holds() {
	if !r.begun {
		return
	}
	want := copyOfPiece(r.as)
	want.In = r.in
	if r.m.Epoch != r.epoch || !equalPieces(r.m.P, want) || mark.Done(r.m, r.epoch) != !slices.Contains(r.ended, false) {
		r.t.Fatal(r.m, want)
	}
	for at, open := range r.m.Open {
		if open == r.ended[at] {
			r.t.Fatal(r.m, r.ended)
		}
	}
}

// goOn does what the bytes say.
func (r *run) goOn(acts []byte) {
	for i, x := range acts {
		at := int(x>>3) % len(r.h.In)
		switch x % 8 {
		case 0:
			r.begin()
		case 1:
			r.marker(at)
		default:
			r.message(at, api.Msg{Seq: i + 1, Letter: i % 4})
		}
	}
}

// TestP104AllOrders: of two links with two messages each, one marker, and a beginning by the node itself or none, in all orders.
func TestP104AllOrders(t *testing.T) {
	done := 0
	for acts := range 1 << 14 { // 7 acts, of two bits each
		r := newRun(t, twoLinks(), 4, mark.Mark{})
		for i := range 7 {
			switch acts >> (2 * i) & 3 {
			case 0, 1:
				r.message(acts>>(2*i)&1, api.Msg{Seq: 10 + i})
			case 2:
				r.marker(i % 2)
			default:
				r.begin()
			}
		}
		if mark.Done(r.m, 4) {
			done++
		}
	}
	if done < 1000 || done > 15000 {
		t.Error(done)
	}
}

func TestP104OfAny(t *testing.T) {
	r := rand.New(rand.NewSource(104))
	done := 0
	for range 3000 {
		h := anyHost(r)
		if len(h.In) == 0 {
			continue
		}
		acts := make([]byte, r.Intn(60))
		for i := range acts {
			acts[i] = byte(r.Intn(256))
		}
		x := newRun(t, h, 5+r.Intn(3), anyMark(r, h)) // one of an older epoch is in the way
		x.goOn(acts)
		if mark.Done(x.m, x.epoch) {
			done++
		}
	}
	if done < 500 || done > 2500 {
		t.Error(done)
	}
}

// TestP104DoneStays: behind a marker on each link nothing that comes changes it any more.
func TestP104DoneStays(t *testing.T) {
	for links := range 6 {
		h := hostOf(links)
		m := mark.Begin(h, 3)
		for at := range links {
			m = mark.App(m, at, api.Msg{Seq: 50 + at})
			m, _ = mark.Marker(m, h, 3, at)
		}
		if !mark.Done(m, 3) {
			t.Fatal(m)
		}
		h.Steps, h.State = 1000, 0
		for at := -1; at <= links; at++ {
			if x := gets(t, m, at, api.Msg{Seq: 99}); !equal(x, m) {
				t.Error(m, at, x)
			}
			if x, first := marks(t, m, h, 3, at); first || !equal(x, m) || !mark.Done(x, 3) {
				t.Error(m, at, x)
			}
		}
		for at := range links {
			if !slices.Equal(m.P.In[at], []api.Msg{{Seq: 50 + at}}) {
				t.Error(m)
			}
		}
	}
}

// TestP104OfHosts: what hosts of two nodes tell, and what is on the way between them, is put together by markers that go as messages do.
func TestP104OfHosts(t *testing.T) {
	send := []table.Pick{{Sends: []table.Send{{To: 1, Letter: 3}}}}
	a := plain.App{G: graph.Full(2), Fifo: true, T: []table.Node{{States: []table.State{{Mode: table.Active, Picks: send}}}, {States: []table.State{{}}}}}
	for ahead := range 4 { // so many messages came ahead of the snapshot's beginning at 1, so many behind that
		for behind := range 4 {
			zero, one := host.New(a, 0), host.New(a, 1)
			var way []api.Msg
			for range ahead + behind {
				next, sent, e := host.Pick(a, zero, 0)
				if e != api.OK {
					t.Fatal(e)
				}
				zero, way = next, append(way, sent[0].M)
			}
			for _, x := range way[:ahead] {
				one, _ = host.Take(a, one, 0, x)
			}
			m := mark.Begin(one, 1)
			other, first := mark.Marker(mark.Mark{}, zero, 1, 0) // 1's marker, by the other link
			if !first || !mark.Done(other, 1) {
				t.Fatal(other)
			}
			for _, x := range way[ahead:] {
				one, _ = host.Take(a, one, 0, x)
				m = mark.App(m, 0, x)
			}
			m, first = mark.Marker(m, one, 1, 0)
			if first || !mark.Done(m, 1) || m.P.Steps != ahead || other.P.Sent[0] != ahead+len(m.P.In[0]) || !slices.Equal(m.P.In[0], way[ahead:]) || !piece.Right(m.P) || !piece.Right(other.P) {
				t.Error(ahead, behind, m, other)
			}
		}
	}
}

// TestR3EmptyListsAreNone: a mark is the same with lists that are nil, and with empty ones.
func TestR3EmptyListsAreNone(t *testing.T) {
	empty := mark.Mark{Open: []bool{}, P: piece.Piece{Sent: []int{}, In: [][]api.Msg{}, Out: [][]int{}}}
	if x := gets(t, empty, 0, api.Msg{Seq: 1}); !equal(x, mark.Mark{}) {
		t.Error(x)
	}
	if x, first := marks(t, empty, twoLinks(), 1, 2); first || !equal(x, mark.Mark{}) {
		t.Error(x)
	}
	if x, first := marks(t, empty, twoLinks(), 1, 1); !first || len(x.Open) != 2 {
		t.Error(x)
	}
	h := host.Host{In: [][]api.Msg{{}, make([]api.Msg, 0, 9)}, Out: [][]int{nil, {}}}
	m := begins(t, h, 1)
	m.P.In[0], m.P.In[1] = []api.Msg{}, make([]api.Msg, 0, 9)
	if x := gets(t, m, 1, api.Msg{Seq: 1}); len(x.P.In[0]) != 0 || len(x.P.In[1]) != 1 {
		t.Error(x)
	}
	alone := host.Host{In: [][]api.Msg{}, Out: [][]int{}}
	if m := begins(t, alone, 1); !mark.Done(m, 1) || mark.Done(m, 2) {
		t.Error(m)
	}
	for _, at := range append(wrongs(1), 0) {
		for _, m := range []mark.Mark{{}, {Epoch: 1}, {Epoch: 1, Open: []bool{}}} {
			if x, first := marks(t, m, alone, 1, at); first || !equal(x, m) {
				t.Error(x)
			}
		}
	}
}

// TestR7MarksAreValues: a mark tells the same, whatever comes of it.
func TestR7MarksAreValues(t *testing.T) {
	h := twoLinks()
	m := mark.App(mark.Begin(h, 1), 0, api.Msg{Seq: 3})
	a := mark.App(m, 0, api.Msg{Seq: 4})
	b := mark.App(m, 0, api.Msg{Seq: 5})
	c := mark.App(m, 1, api.Msg{Seq: 6})
	d, _ := mark.Marker(m, h, 1, 0)
	e, _ := mark.Marker(m, h, 2, 1)
	f := mark.App(a, 0, api.Msg{Seq: 7})
	g := mark.App(a, 0, api.Msg{Seq: 8})
	for i, x := range []struct {
		m        mark.Mark
		open     []bool
		in0, in1 []api.Msg
	}{
		{m, []bool{true, true}, messages(30), nil}, {a, []bool{true, true}, messages(30, 40), nil}, {b, []bool{true, true}, messages(30, 50), nil}, {c, []bool{true, true}, messages(30), messages(60)},
		{d, []bool{false, true}, messages(30), nil}, {e, []bool{true, false}, nil, nil}, {f, []bool{true, true}, messages(30, 40, 70), nil}, {g, []bool{true, true}, messages(30, 40, 80), nil},
	} {
		if !slices.Equal(x.m.Open, x.open) || !slices.Equal(x.m.P.In[0], x.in0) || !slices.Equal(x.m.P.In[1], x.in1) {
			t.Error(i, x.m)
		}
	}
}

// roomsOf are where a mark's lists lie, with the room behind each: the bytes from the first to the last one.
func roomsOf(m mark.Mark) (l [][2]uintptr) {
	l = append(l, roomOf(m.Open), roomOf(m.P.Sent), roomOf(m.P.In), roomOf(m.P.Out))
	for _, x := range m.P.In[:cap(m.P.In)] {
		l = append(l, roomOf(x))
	}
	for _, x := range m.P.Out[:cap(m.P.Out)] {
		l = append(l, roomOf(x))
	}
	return l
}

func roomOf[T any](l []T) [2]uintptr {
	from := uintptr(unsafe.Pointer(unsafe.SliceData(l)))
	var x T
	return [2]uintptr{from, from + uintptr(cap(l))*unsafe.Sizeof(x)}
}

// apart holds that no list shares memory with another one.
func apart(t *testing.T, l ...[][2]uintptr) {
	t.Helper()
	all := slices.DeleteFunc(slices.Concat(l...), func(x [2]uintptr) bool { return x[0] == x[1] })
	slices.SortFunc(all, func(a, b [2]uintptr) int { return int(a[0]) - int(b[0]) })
	for i := 1; i < len(all); i++ {
		if all[i][0] < all[i-1][1] {
			t.Fatal("shared")
		}
	}
}

// off holds that no list of the answer shares memory with one that was handed in.
func off(t *testing.T, in, answer [][2]uintptr) {
	t.Helper()
	for _, x := range in {
		for _, y := range answer {
			if x[0] < y[1] && y[0] < x[1] {
				t.Fatal("shared")
			}
		}
	}
}

// spoil writes over all that a mark's lists hold.
func spoil(m mark.Mark) {
	for i := range m.Open {
		m.Open[i] = !m.Open[i]
	}
	for _, l := range m.P.In {
		for i := range l {
			l[i] = api.Msg{Seq: -7, Letter: -7}
		}
	}
	for _, l := range m.P.Out {
		clear(l)
	}
	clear(m.P.Sent)
	clear(m.P.In)
	clear(m.P.Out)
}

// lists are what lies behind a mark whose lists share memory with each other.
type lists struct {
	open    []bool
	numbers []int
	got     []api.Msg
}

func (l lists) rooms() [][2]uintptr {
	return [][2]uintptr{roomOf(l.open), roomOf(l.numbers), roomOf(l.got)}
}

// sharing is a mark of two links with room behind all its lists, and that room.
func sharing() (m mark.Mark, behind lists) {
	behind = lists{
		open:    []bool{true, false, true, true},
		numbers: []int{3, 1, 9, 9, 9},
		got:     append(make([]api.Msg, 0, 30), messages(31, 52, 9991, 9991)...),
	}
	m = mark.Mark{Epoch: 3, Open: behind.open[:2], P: piece.Piece{Node: 1, Steps: 4, Sent: behind.numbers[:2], In: make([][]api.Msg, 0, 9), Out: make([][]int, 0, 9)}}
	m.P.In = append(m.P.In, behind.got[:2], behind.got[:1])
	m.P.Out = append(m.P.Out, behind.numbers[:2], behind.numbers[:1])
	return m, behind
}

// TestR4MarksAreNewMemory: what is handed in is neither changed nor kept, nor is the room behind it.
func TestR4MarksAreNewMemory(t *testing.T) {
	h := twoLinks()
	for i, do := range []func(m mark.Mark) mark.Mark{
		func(m mark.Mark) mark.Mark { x, _ := marks(t, m, h, 3, 0); return x },
		func(m mark.Mark) mark.Mark { x, _ := marks(t, m, h, 3, 1); return x },
		func(m mark.Mark) mark.Mark { x, _ := marks(t, m, h, 3, 2); return x },
		func(m mark.Mark) mark.Mark { x, _ := marks(t, m, h, 4, 1); return x },
		func(m mark.Mark) mark.Mark { x, _ := marks(t, m, h, 4, 2); return x },
		func(m mark.Mark) mark.Mark { return gets(t, m, 0, api.Msg{Seq: 9}) },
		func(m mark.Mark) mark.Mark { return gets(t, m, 1, api.Msg{Seq: 9}) },
		func(m mark.Mark) mark.Mark { return gets(t, m, 2, api.Msg{Seq: 9}) },
		func(m mark.Mark) mark.Mark { return gets(t, m, -1, api.Msg{Seq: 9}) },
	} {
		m, behind := sharing()
		was := copyOf(m)
		x, y := do(m), do(m)
		if !slices.Equal(behind.open, []bool{true, false, true, true}) || !slices.Equal(behind.numbers, []int{3, 1, 9, 9, 9}) || !slices.Equal(behind.got[:6], append(messages(31, 52, 9991, 9991), api.Msg{}, api.Msg{})) {
			t.Fatal("the room behind", i, behind)
		}
		apart(t, roomsOf(x), roomsOf(y))
		off(t, append(roomsOf(m), behind.rooms()...), slices.Concat(roomsOf(x), roomsOf(y)))
		kept := copyOf(y)
		spoil(x)
		if !equal(m, was) {
			t.Fatal(i, m)
		}
		spoil(m)
		if !equal(y, kept) {
			t.Fatal(i, y)
		}
	}
}

// TestR4HostsStay: nothing of a host is kept in a mark.
func TestR4HostsStay(t *testing.T) {
	h := twoLinks()
	in := piece.Piece{In: h.In, Out: h.Out}
	m := begins(t, h, 1)
	x, _ := marks(t, mark.Mark{}, h, 1, 1)
	y, _ := marks(t, m, h, 2, 0)
	apart(t, roomsOf(m), roomsOf(x), roomsOf(y))
	off(t, roomsOf(mark.Mark{P: in}), slices.Concat(roomsOf(m), roomsOf(x), roomsOf(y)))
	spoil(mark.Mark{P: in})
	if want := begunAnew(twoLinks(), 1); !equal(m, want) {
		t.Error(m)
	}
	spoil(m)
	if !equal(y, mark.Mark{Epoch: 2, Open: []bool{false, true}, P: begunAnew(twoLinks(), 2).P}) {
		t.Error(y)
	}
}

func FuzzP104(f *testing.F) {
	f.Add(int64(1), []byte{0, 2, 10, 1, 3, 9, 11})
	f.Add(int64(104), []byte{2, 10, 9, 3, 11, 1, 17, 25, 4})
	f.Fuzz(func(t *testing.T, seed int64, acts []byte) {
		h := anyHost(rand.New(rand.NewSource(seed)))
		if len(acts) > 500 || len(h.In) == 0 {
			t.Skip()
		}
		newRun(t, h, 3, mark.Mark{}).goOn(acts)
	})
}
