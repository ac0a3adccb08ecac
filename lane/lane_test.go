package lane_test

import (
	"math"
	"math/rand"
	"slices"
	"testing"
	"unsafe"

	"cameo/api"
	"cameo/frame"
	"cameo/lane"
	"cameo/piece"
)

// rights is one frame of each kind that may be: together they are too many for a lane.
func rights() []frame.Frame {
	return append(apps(1), controls(6, 0)...)
}

// wrongs are frames that may not be, of each kind, and of none.
func wrongs() []frame.Frame {
	return []frame.Frame{
		{}, {M: api.Msg{Seq: 1, Letter: 4}}, {M: api.Msg{Seq: 501}}, {M: api.Msg{Seq: 1}, Epoch: 201}, {M: api.Msg{Seq: 1}, Path: []int{0}},
		{Kind: frame.Marker}, {Kind: frame.Marker, Epoch: 201}, {Kind: frame.Explore}, {Kind: frame.Yes, Epoch: -1}, {Kind: frame.No, Epoch: 1, Num: 1},
		{Kind: frame.Report, Epoch: 1}, {Kind: frame.Report, Epoch: 1, Pieces: []piece.Piece{{Node: 6}}},
		{Kind: frame.Probe, Num: 1}, {Kind: frame.Probe, Num: 1, Path: []int{6}}, {Kind: frame.Probe, Path: []int{0}},
		{Kind: frame.Kinds}, {Kind: -1}, {Kind: 99, Epoch: 1, M: api.Msg{Seq: 1}}, {Kind: 1 << 32, M: api.Msg{Seq: 1}}, {Kind: math.MinInt}, {Kind: math.MaxInt},
	}
}

func app(seq, letter int) frame.Frame {
	return frame.Frame{M: api.Msg{Seq: seq, Letter: letter}}
}

// control is a frame of a kind that is not App.
func control(kind int) frame.Frame {
	switch kind {
	case frame.Report:
		return frame.Frame{Kind: kind, Epoch: 3, Pieces: []piece.Piece{{Node: 1, Steps: 300, Sent: []int{4, 5}, In: [][]api.Msg{{{Seq: 1, Letter: 3}}, nil}, Out: [][]int{{3, 0}}}, {Node: 2}}}
	case frame.Probe:
		return frame.Frame{Kind: kind, Init: 1, Num: 2, Count: 3, Path: []int{1, 0, 2}}
	}
	return frame.Frame{Kind: kind, Epoch: 3}
}

// apps are so many messages, each another one.
func apps(n int) (l []frame.Frame) {
	for i := range n {
		l = append(l, app(i+1, i%4))
	}
	return l
}

// controls are so many frames of all other kinds in turn, from one of them on.
func controls(n, from int) (l []frame.Frame) {
	for i := range n {
		l = append(l, control(1+(from+i)%6))
	}
	return l
}

// mixed are the frames of all these lists, in some order.
func mixed(r *rand.Rand, l ...[]frame.Frame) []frame.Frame {
	all := slices.Concat(l...)
	r.Shuffle(len(all), func(i, k int) { all[i], all[k] = all[k], all[i] })
	return all
}

// mayBe is the document's 'may be', said anew.
func mayBe(l lane.Lane) bool {
	apps, others := 0, 0
	for _, f := range l.L {
		if !frame.Right(f) {
			return false
		}
		switch f.Kind {
		case 0:
			apps++
		default:
			others++
		}
	}
	return 1 <= l.Cap && l.Cap <= 20 && apps <= l.Cap && others <= 5
}

func equal(a, b lane.Lane) bool {
	return a.Fifo == b.Fifo && a.Cap == b.Cap && slices.EqualFunc(a.L, b.L, frame.Same)
}

func isZero(l lane.Lane) bool {
	return !l.Fifo && l.Cap == 0 && len(l.L) == 0
}

// copyOf is a lane that is the same, with lists of its own.
func copyOf(l lane.Lane) lane.Lane {
	l.L = slices.Clone(l.L)
	for i, f := range l.L {
		l.L[i] = frame.Own(f)
	}
	return l
}

func both(f func(fifo bool)) {
	f(true)
	f(false)
}

// isRight holds what Right tells of a lane, of either kind.
func isRight(t *testing.T, want bool, l lane.Lane) {
	t.Helper()
	both(func(fifo bool) {
		l.Fifo = fifo
		was := copyOf(l)
		if lane.Right(l) != want || mayBe(l) != want || !equal(l, was) {
			t.Errorf("Right(%v) = %v", l, !want)
		}
	})
}

// pushes holds that f goes on l, and how the lane is then.
func pushes(t *testing.T, l lane.Lane, f frame.Frame) lane.Lane {
	t.Helper()
	was, put := copyOf(l), frame.Own(f)
	want := copyOf(l)
	want.L = append(want.L, frame.Own(f))
	x, e := lane.Push(l, f)
	if e != api.OK || !equal(x, want) || !lane.Right(x) || !equal(l, was) || !frame.Same(f, put) {
		t.Fatalf("Push(%v, %v) = %v, %d", was, put, x, e)
	}
	return x
}

// pushesNot holds with which error f does not go on l.
func pushesNot(t *testing.T, l lane.Lane, f frame.Frame, want api.Errno) {
	t.Helper()
	was, put := copyOf(l), frame.Own(f)
	x, e := lane.Push(l, f)
	if e != want || !isZero(x) || !equal(l, was) || !frame.Same(f, put) {
		t.Fatalf("Push(%v, %v) = %v, %d, not %d", was, put, x, e, want)
	}
}

// takes holds that the frame at i is there, and how the lane is without it.
func takes(t *testing.T, l lane.Lane, i int) (frame.Frame, lane.Lane) {
	t.Helper()
	was, want := copyOf(l), copyOf(l)
	want.L = slices.Delete(want.L, i, i+1)
	f, x, e := lane.Take(l, i)
	if e != api.OK || !frame.Same(f, was.L[i]) || !equal(x, want) || !lane.Right(x) || !equal(l, was) {
		t.Fatalf("Take(%v, %d) = %v, %v, %d", was, i, f, x, e)
	}
	return f, x
}

// takesNot holds that no frame is to be had at i.
func takesNot(t *testing.T, l lane.Lane, i int) {
	t.Helper()
	was := copyOf(l)
	f, x, e := lane.Take(l, i)
	if e != api.ErrNone || !frame.Same(f, frame.Frame{}) || !isZero(x) || !equal(l, was) {
		t.Fatalf("Take(%v, %d) = %v, %v, %d", was, i, f, x, e)
	}
}

func TestExamples(t *testing.T) {
	both(func(fifo bool) {
		l := pushes(t, lane.Lane{Fifo: fifo, Cap: 1}, app(1, 0))
		pushesNot(t, l, app(2, 0), api.ErrFull)
		l = pushes(t, l, control(frame.Marker))
		pushesNot(t, l, app(2, 0), api.ErrFull)
	})
}

func TestP81RightOfCap(t *testing.T) {
	for n := -3; n <= 24; n++ {
		isRight(t, n >= 1 && n <= 20, lane.Lane{Cap: n})
		isRight(t, n >= 1 && n <= 20, lane.Lane{Cap: n, L: rights()[:6]})
	}
	for _, n := range []int{math.MinInt, -1 << 32, -20, 100, 1 << 32, 1<<32 + 1, math.MaxInt} {
		isRight(t, false, lane.Lane{Cap: n})
		isRight(t, false, lane.Lane{Cap: n, L: apps(1)})
	}
}

// TestP81RightOfCounts: messages have their room, and all else has its own, in whatever order they are.
func TestP81RightOfCounts(t *testing.T) {
	r := rand.New(rand.NewSource(81))
	for n := 1; n <= 20; n++ {
		for _, many := range []int{0, 1, n - 1, n, n + 1, n + 5, 20, 21, 25, 26} {
			for others := range 9 {
				isRight(t, many <= n && others <= 5, lane.Lane{Cap: n, L: mixed(r, apps(many), controls(others, r.Intn(6)))})
			}
		}
	}
}

// TestP81RightOfOthersTogether: five frames that are no messages, of one kind or of several ones.
func TestP81RightOfOthersTogether(t *testing.T) {
	for kind := 1; kind <= 6; kind++ {
		for n := range 8 {
			isRight(t, n <= 5, lane.Lane{Cap: 20, L: slices.Repeat([]frame.Frame{control(kind)}, n)})
		}
		for other := 1; other <= 6; other++ {
			isRight(t, true, lane.Lane{Cap: 1, L: append(slices.Repeat([]frame.Frame{control(kind)}, 2), slices.Repeat([]frame.Frame{control(other)}, 3)...)})
			isRight(t, false, lane.Lane{Cap: 20, L: append(slices.Repeat([]frame.Frame{control(kind)}, 3), slices.Repeat([]frame.Frame{control(other)}, 3)...)})
		}
	}
	isRight(t, false, lane.Lane{Cap: 20, L: rights()})
}

func TestP81RightOfFrames(t *testing.T) {
	for i, f := range append(wrongs(), rights()...) {
		ok := i >= len(wrongs())
		for many := 1; many <= 4; many++ {
			for at := range many {
				l := lane.Lane{Cap: 5, L: mixed(rand.New(rand.NewSource(int64(i))), apps(2), controls(2, i))[:many]}
				l.L[at] = f
				isRight(t, ok, l)
			}
		}
	}
	// Frames that are the same, and messages that are not in the order of their Seqs, may be on one lane.
	isRight(t, true, lane.Lane{Cap: 3, L: []frame.Frame{app(5, 1), app(2, 3), app(5, 1)}})
	isRight(t, true, lane.Lane{Cap: 20, L: slices.Repeat([]frame.Frame{app(500, 3)}, 20)})
	isRight(t, true, lane.Lane{Cap: 1, L: slices.Repeat([]frame.Frame{control(frame.Report)}, 5)})
}

func TestP81RightOfMany(t *testing.T) {
	for _, f := range []frame.Frame{app(1, 0), control(frame.Marker), {Kind: 99}, {}} {
		for _, n := range []int{1, 20} {
			if lane.Right(lane.Lane{Cap: n, L: slices.Repeat([]frame.Frame{f}, 100000)}) {
				t.Error(f, n)
			}
		}
	}
}

// TestP81PushOfApps: so many messages as there is room, whatever else is there.
func TestP81PushOfApps(t *testing.T) {
	both(func(fifo bool) {
		for n := 1; n <= 20; n++ {
			for _, others := range []int{0, 1, 5} {
				l := lane.Lane{Fifo: fifo, Cap: n, L: controls(others, n)}
				for _, f := range apps(n) {
					l = pushes(t, l, f)
				}
				pushesNot(t, l, app(500, 3), api.ErrFull)
				pushesNot(t, l, l.L[len(l.L)-1], api.ErrFull) // one that is there already, too
				for others < 5 {
					l = pushes(t, l, control(1+others%6))
					others++
				}
				pushesNot(t, l, control(frame.Yes), api.ErrFull)
			}
		}
	})
}

// TestP81PushOfOthers: five of them all together, whatever room there is for messages.
func TestP81PushOfOthers(t *testing.T) {
	both(func(fifo bool) {
		for _, n := range []int{1, 2, 5, 6, 20} {
			for _, many := range []int{0, n - 1, n} {
				for from := range 6 {
					l := lane.Lane{Fifo: fifo, Cap: n, L: apps(many)}
					for _, f := range controls(5, from) {
						l = pushes(t, l, f)
					}
					for kind := 1; kind <= 6; kind++ {
						pushesNot(t, l, control(kind), api.ErrFull)
					}
					if many < n {
						l = pushes(t, l, app(many+1, 0))
					}
				}
			}
		}
	})
}

// TestP81PushOfWrong: a frame that may not be is told of first, also where there is no room.
func TestP81PushOfWrong(t *testing.T) {
	both(func(fifo bool) {
		for _, l := range [][]frame.Frame{nil, apps(1), apps(2), controls(5, 0), append(apps(2), controls(5, 2)...)} {
			for _, f := range wrongs() {
				pushesNot(t, lane.Lane{Fifo: fifo, Cap: 2, L: l}, f, api.ErrForm)
			}
		}
	})
}

func TestP81Take(t *testing.T) {
	r := rand.New(rand.NewSource(810))
	both(func(fifo bool) {
		for _, many := range []int{0, 1, 2, 3, 20} {
			for _, others := range []int{0, 1, 5} {
				l := lane.Lane{Fifo: fifo, Cap: max(many, 1), L: mixed(r, apps(many), controls(others, many))}
				n := len(l.L)
				for i := range n {
					if fifo && i > 0 {
						takesNot(t, l, i)
					} else {
						takes(t, l, i)
					}
				}
				for _, i := range []int{math.MinInt, -1 << 32, -n - 1, -n - 2, -1, n, n + 1, 1 << 32, 1<<32 + 1, math.MaxInt} {
					takesNot(t, l, i)
				}
			}
		}
	})
}

// TestP81TakeMakesRoom: what is gone has left its room to another one of its sort, and to no other.
func TestP81TakeMakesRoom(t *testing.T) {
	both(func(fifo bool) {
		full := lane.Lane{Fifo: fifo, Cap: 2, L: append(apps(2), controls(5, 0)...)}
		_, l := takes(t, full, 0)
		pushesNot(t, l, control(frame.No), api.ErrFull)
		l = pushes(t, l, app(3, 3))
		pushesNot(t, l, app(4, 0), api.ErrFull)
		full.L = append(controls(5, 0), apps(2)...)
		_, l = takes(t, full, 0)
		pushesNot(t, l, app(3, 3), api.ErrFull)
		l = pushes(t, l, control(frame.Probe))
		pushesNot(t, l, control(frame.No), api.ErrFull)
	})
}

func TestP82Fits(t *testing.T) {
	r := rand.New(rand.NewSource(82))
	both(func(fifo bool) {
		for n := 1; n <= 20; n++ {
			for many := range n + 1 {
				l := lane.Lane{Fifo: fifo, Cap: n, L: mixed(r, apps(many), controls(r.Intn(6), many))}
				was := copyOf(l)
				for more := -3; more <= 25; more++ {
					if lane.Fits(l, more) != (more < 1 || many+more <= n) {
						t.Error(n, many, more)
					}
				}
				for _, more := range []int{math.MinInt, math.MinInt + n, -1 << 32, -21} {
					if !lane.Fits(l, more) {
						t.Error(n, many, more)
					}
				}
				for _, more := range []int{1 << 32, 1<<32 + 1, math.MaxInt - 20, math.MaxInt - n, math.MaxInt - 1, math.MaxInt} {
					if lane.Fits(l, more) {
						t.Error(n, many, more)
					}
				}
				if !equal(l, was) {
					t.Error(l, was)
				}
			}
		}
	})
}

func TestP82AppsMsgsAndCount(t *testing.T) {
	r := rand.New(rand.NewSource(820))
	for range 5000 {
		l := lane.Lane{Fifo: r.Intn(2) == 0, Cap: 20}
		var messages []api.Msg
		var counts [7]int
		for _, f := range mixed(r, apps(r.Intn(21)), controls(r.Intn(6), r.Intn(6))) {
			if f.Kind == 0 {
				f.M = api.Msg{Seq: 1 + r.Intn(500), Letter: r.Intn(4)}
				f.Epoch = r.Intn(201)
				messages = append(messages, f.M)
			}
			counts[f.Kind]++
			l.L = append(l.L, f)
		}
		was := copyOf(l)
		if got := lane.Msgs(l); !slices.Equal(got, messages) || lane.Apps(l) != len(messages) {
			t.Fatal(l, got, lane.Apps(l))
		}
		for kind, n := range counts {
			if lane.Count(l, kind) != n {
				t.Fatal(l, kind, lane.Count(l, kind))
			}
		}
		for _, kind := range []int{math.MinInt, -1 << 32, -7, -1, 7, 8, 42, 1 << 32, 1<<32 + 1, math.MaxInt} {
			if lane.Count(l, kind) != 0 {
				t.Fatal(l, kind)
			}
		}
		if !equal(l, was) {
			t.Fatal(l, was)
		}
	}
}

// TestR3EmptyListsAreNone: a lane without frames is the same with a list that is nil, and one that is empty.
func TestR3EmptyListsAreNone(t *testing.T) {
	both(func(fifo bool) {
		for _, list := range [][]frame.Frame{nil, {}, make([]frame.Frame, 0, 5)} {
			l := lane.Lane{Fifo: fifo, Cap: 1, L: list}
			if !lane.Right(l) || lane.Apps(l) != 0 || len(lane.Msgs(l)) != 0 || lane.Count(l, frame.App) != 0 || !lane.Fits(l, 1) || lane.Fits(l, 2) {
				t.Error(l)
			}
			takesNot(t, l, 0)
			takesNot(t, l, -1)
			_, l = takes(t, pushes(t, l, control(frame.Report)), 0)
			takesNot(t, l, 0)
		}
	})
	f := frame.Frame{Kind: frame.Marker, Epoch: 1, Pieces: []piece.Piece{}, Path: []int{}}
	pushes(t, lane.Lane{Cap: 1}, f)
}

// held is a lane as a plain queue, by which what it does is said anew.
type held struct {
	fifo      bool
	room      int
	names     []int // of the frames on it, in the order in which they were pushed
	apps, out int   // how many are messages, and how many are not
}

// fits tells if a frame of the kind goes on it.
func (h *held) fits(kind int) bool {
	if kind == 0 {
		return h.apps < h.room
	}
	return h.out < 5
}

func (h *held) count(kind, by int) {
	if kind == 0 {
		h.apps += by
	} else {
		h.out += by
	}
}

// named is a frame of the kind that tells its name.
func named(kind, name int) frame.Frame {
	switch kind {
	case frame.App:
		return frame.Frame{Epoch: name / 2000, M: api.Msg{Seq: 1 + name/4%500, Letter: name % 4}}
	case frame.Report:
		return frame.Frame{Kind: kind, Epoch: 1, Pieces: []piece.Piece{{Steps: name, Sent: []int{name % 500}}}}
	case frame.Probe:
		return frame.Frame{Kind: kind, Num: 1 + name/500%200, Count: name % 500, Path: []int{name % 6, 1}}
	}
	return frame.Frame{Kind: kind, Epoch: 1 + name%200}
}

// goesOn pushes and takes as bytes say, holds all that is told against a queue, and tells the names that were pushed, and those that were taken.
func goesOn(t *testing.T, fifo bool, room int, acts []byte) (pushed, taken []int) {
	t.Helper()
	l := lane.Lane{Fifo: fifo, Cap: room}
	h := held{fifo: fifo, room: room}
	kinds := []int{} // by names
	for _, act := range acts {
		if act < 140 { // push, messages more often
			kind := max(0, int(act%14)-7)
			f := named(kind, len(kinds))
			x, e := lane.Push(l, f)
			if h.fits(kind) != (e == api.OK) || e != api.OK && (e != api.ErrFull || !isZero(x)) {
				t.Fatalf("Push(%v, %v) = %v, %d", l, f, x, e)
			}
			if e == api.OK {
				l = x
				h.names = append(h.names, len(kinds))
				h.count(kind, 1)
				pushed = append(pushed, len(kinds))
			}
			kinds = append(kinds, kind)
		} else {
			i := int(act-140)%(len(h.names)+2) - 1
			if act%3 == 0 {
				i = 0
			}
			f, x, e := lane.Take(l, i)
			ok := i >= 0 && i < len(h.names) && (i == 0 || !fifo)
			if ok != (e == api.OK) || !ok && (e != api.ErrNone || !isZero(x) || !frame.Same(f, frame.Frame{})) {
				t.Fatalf("Take(%v, %d) = %v, %v, %d", l, i, f, x, e)
			}
			if ok {
				name := h.names[i]
				if !frame.Same(f, named(kinds[name], name)) {
					t.Fatalf("Take(%v, %d) = %v, not %d", l, i, f, name)
				}
				l = x
				h.names = slices.Delete(h.names, i, i+1)
				h.count(kinds[name], -1)
				taken = append(taken, name)
			}
		}
		holds(t, l, h, kinds)
	}
	for len(l.L) > 0 {
		_, l = takes(t, l, 0)
	}
	return pushed, append(taken, h.names...)
}

// holds compares a lane with its queue.
func holds(t *testing.T, l lane.Lane, h held, kinds []int) {
	t.Helper()
	var want []frame.Frame
	var messages []api.Msg
	for _, name := range h.names {
		f := named(kinds[name], name)
		want = append(want, f)
		if f.Kind == 0 {
			messages = append(messages, f.M)
		}
	}
	if !equal(l, lane.Lane{Fifo: h.fifo, Cap: h.room, L: want}) || !lane.Right(l) {
		t.Fatalf("%v, not %v", l, want)
	}
	if lane.Apps(l) != h.apps || len(l.L)-lane.Apps(l) != h.out || !slices.Equal(lane.Msgs(l), messages) {
		t.Fatal(l, lane.Apps(l), lane.Msgs(l))
	}
	if !lane.Fits(l, h.room-h.apps) || lane.Fits(l, h.room-h.apps+1) {
		t.Fatal(l, h.room)
	}
}

// TestP83TakenOnce: what was pushed is taken, each just once, and where it is first in, first out, in that order.
func TestP83TakenOnce(t *testing.T) {
	r := rand.New(rand.NewSource(83))
	both(func(fifo bool) {
		otherOrder := false
		for range 300 {
			acts := make([]byte, 300)
			for i := range acts {
				acts[i] = byte(r.Intn(256))
			}
			pushed, taken := goesOn(t, fifo, 1+r.Intn(20), acts)
			otherOrder = otherOrder || !slices.Equal(pushed, taken)
			slices.Sort(taken)
			if !slices.Equal(pushed, taken) || len(taken) < 30 {
				t.Fatal(pushed, taken)
			}
		}
		if otherOrder == fifo {
			t.Error("order:", fifo)
		}
	})
}

// TestR7LanesAreValues: a lane tells the same, whatever is pushed on it, or taken from it, and from what comes of it.
func TestR7LanesAreValues(t *testing.T) {
	both(func(fifo bool) {
		l := lane.Lane{Fifo: fifo, Cap: 4, L: append(apps(2), controls(3, 4)...)}
		was := copyOf(l)
		a := pushes(t, l, app(3, 1))
		b := pushes(t, l, app(4, 2))
		_, c := takes(t, l, 0)
		_, d := takes(t, a, 0)
		e := pushes(t, pushes(t, c, app(5, 3)), control(frame.Yes))
		for _, x := range []struct {
			l    lane.Lane
			seqs []int
		}{{l, []int{1, 2}}, {a, []int{1, 2, 3}}, {b, []int{1, 2, 4}}, {c, []int{2}}, {d, []int{2, 3}}, {e, []int{2, 5}}} {
			var seqs []int
			for _, m := range lane.Msgs(x.l) {
				seqs = append(seqs, m.Seq)
			}
			if !slices.Equal(seqs, x.seqs) {
				t.Error(x.l, x.seqs)
			}
		}
		if !equal(l, was) {
			t.Error(l, was)
		}
	})
}

// rooms are where the lists of frames lie, with the room behind each: the bytes from the first to the last one.
func rooms(frames ...frame.Frame) (l [][2]uintptr) {
	for _, f := range frames {
		l = append(l, roomOf(f.Path), roomOf(f.Pieces))
		for _, p := range f.Pieces[:cap(f.Pieces)] {
			l = append(l, roomOf(p.Sent), roomOf(p.In), roomOf(p.Out))
			for _, x := range p.In[:cap(p.In)] {
				l = append(l, roomOf(x))
			}
			for _, x := range p.Out[:cap(p.Out)] {
				l = append(l, roomOf(x))
			}
		}
	}
	return slices.DeleteFunc(l, func(x [2]uintptr) bool { return x[0] == x[1] })
}

// roomsOf are those of a lane: its list's, and those of all frames that lie in it, and in the room behind.
func roomsOf(l lane.Lane) [][2]uintptr {
	all := rooms(l.L[:cap(l.L)]...)
	if list := roomOf(l.L); list[0] != list[1] {
		all = append(all, list)
	}
	return all
}

func roomOf[T any](l []T) [2]uintptr {
	from := uintptr(unsafe.Pointer(unsafe.SliceData(l)))
	var x T
	return [2]uintptr{from, from + uintptr(cap(l))*unsafe.Sizeof(x)}
}

// apart holds that no list shares memory with another one.
func apart(t *testing.T, l ...[][2]uintptr) {
	t.Helper()
	all := slices.Concat(l...)
	slices.SortFunc(all, func(a, b [2]uintptr) int { return int(a[0]) - int(b[0]) })
	for i := 1; i < len(all); i++ {
		if all[i][0] < all[i-1][1] {
			t.Fatal("shared")
		}
	}
}

// off holds that no list of the answer shares memory with one that was handed in.
func off(t *testing.T, in, answer [][2]uintptr) {
	t.Helper()
	for _, x := range in {
		for _, y := range answer {
			if x[0] < y[1] && y[0] < x[1] {
				t.Fatal("shared")
			}
		}
	}
}

// spoil writes over all that frames' lists hold.
func spoil(l []frame.Frame) {
	for _, f := range l {
		for i := range f.Path {
			f.Path[i] = -7
		}
		for _, p := range f.Pieces {
			for i := range p.Sent {
				p.Sent[i] = -7
			}
			for _, x := range p.In {
				clear(x)
			}
			for _, x := range p.Out {
				clear(x)
			}
			clear(p.In)
			clear(p.Out)
		}
		clear(f.Pieces)
	}
	clear(l)
}

// sharing is a lane whose frames share their lists with each other, and with room behind all.
func sharing(fifo bool) lane.Lane {
	report, probe := control(frame.Report), control(frame.Probe)
	report.Pieces = append(make([]piece.Piece, 0, 6), report.Pieces...)
	report.Pieces[1].Sent = report.Pieces[0].Sent[:1]
	probe.Path = append(make([]int, 0, 6), probe.Path...)
	l := lane.Lane{Fifo: fifo, Cap: 3, L: make([]frame.Frame, 0, 30)}
	l.L = append(l.L, report, probe, app(1, 1), report, probe)
	return l
}

func TestR4PushIsNewMemory(t *testing.T) {
	both(func(fifo bool) {
		for _, f := range []frame.Frame{sharing(fifo).L[0], app(2, 2)} {
			l := sharing(fifo)
			was, put := copyOf(l), frame.Own(f)
			if f.Kind == frame.Report {
				f = l.L[0]
			}
			behind := l.L[:cap(l.L)]
			for i := len(l.L); i < cap(l.L); i++ {
				behind[i] = app(99, 1)
			}
			a := pushes(t, l, f)
			b := pushes(t, l, f)
			for _, x := range behind[len(l.L):] {
				if !frame.Same(x, app(99, 1)) {
					t.Fatal("the room behind", x)
				}
			}
			apart(t, roomsOf(a), roomsOf(b))
			off(t, slices.Concat(roomsOf(l), rooms(f)), slices.Concat(roomsOf(a), roomsOf(b)))
			spoil(a.L)
			if !equal(l, was) || !frame.Same(f, put) {
				t.Fatal(l, f)
			}
			spoil(l.L)
			spoil([]frame.Frame{f})
			was.L = append(was.L, put)
			if !equal(b, was) {
				t.Fatal(b)
			}
		}
	})
}

func TestR4TakeIsNewMemory(t *testing.T) {
	both(func(fifo bool) {
		for i := range 5 {
			if fifo && i > 0 {
				continue
			}
			l := sharing(fifo)
			was := copyOf(l)
			behind := l.L[:cap(l.L)]
			behind[len(l.L)] = app(99, 1)
			f, a := takes(t, l, i)
			g, b := takes(t, l, i)
			if !frame.Same(behind[len(l.L)], app(99, 1)) {
				t.Fatal("the room behind")
			}
			apart(t, roomsOf(a), rooms(f), roomsOf(b), rooms(g))
			off(t, roomsOf(l), slices.Concat(roomsOf(a), rooms(f), roomsOf(b), rooms(g)))
			spoil(a.L)
			spoil([]frame.Frame{f})
			if !equal(l, was) {
				t.Fatal(l)
			}
			spoil(l.L)
			rest := slices.Delete(copyOf(was).L, i, i+1)
			if !frame.Same(g, was.L[i]) || !slices.EqualFunc(b.L, rest, frame.Same) {
				t.Fatal(g, b)
			}
		}
	})
}

func TestR4MsgsIsNewMemory(t *testing.T) {
	l := lane.Lane{Cap: 3, L: append(apps(3), controls(2, 4)...)}
	was := copyOf(l)
	a, b := lane.Msgs(l), lane.Msgs(l)
	apart(t, [][2]uintptr{roomOf(a), roomOf(b)}, roomsOf(l))
	clear(a)
	if !equal(l, was) || !slices.Equal(b, lane.Msgs(was)) {
		t.Error(l, b)
	}
}

func FuzzP83(f *testing.F) {
	f.Add(true, 1, []byte{0, 1, 8, 9, 10, 11, 12, 13, 141, 142, 143})
	f.Add(false, 20, []byte{0, 14, 28, 13, 13, 141, 144, 7, 150, 151, 152, 255})
	f.Fuzz(func(t *testing.T, fifo bool, room int, acts []byte) {
		if room < 1 || room > 20 || len(acts) > 1000 {
			t.Skip()
		}
		pushed, taken := goesOn(t, fifo, room, acts)
		if !fifo {
			slices.Sort(taken)
		}
		if !slices.Equal(pushed, taken) {
			t.Fatal(pushed, taken)
		}
	})
}
