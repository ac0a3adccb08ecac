package frame_test

import (
	"math"
	"math/rand"
	"slices"
	"strings"
	"testing"
	"unsafe"

	"cameo/api"
	"cameo/frame"
	"cameo/piece"
	"cameo/word"
)

// The kinds by their numbers, which frames' bytes have.
const (
	app = iota
	marker
	explore
	yes
	no
	report
	probe
)

// numbersOf are all of a frame's, Kind first, so that each can be spoilt.
func numbersOf(f *frame.Frame) []*int {
	return []*int{&f.Kind, &f.Epoch, &f.M.Seq, &f.M.Letter, &f.Init, &f.Num, &f.Count}
}

// bounds are, kind by kind, those of a frame's numbers behind Kind: the document's, said anew.
var bounds = [7][6][2]int{
	app:     {{0, 200}, {1, 500}, {0, 3}},
	marker:  {{1, 200}},
	explore: {{1, 200}},
	yes:     {{1, 200}},
	no:      {{1, 200}},
	report:  {{1, 200}},
	probe:   {3: {0, 5}, 4: {1, 200}, 5: {0, 500}},
}

// mayBe is the document's 'may be', said anew.
func mayBe(f frame.Frame) bool {
	if f.Kind < 0 || f.Kind > 6 {
		return false
	}
	for i, n := range numbersOf(&f)[1:] {
		if *n < bounds[f.Kind][i][0] || *n > bounds[f.Kind][i][1] {
			return false
		}
	}
	if f.Kind == report && (len(f.Pieces) < 1 || len(f.Pieces) > 6) || f.Kind != report && len(f.Pieces) > 0 {
		return false
	}
	if f.Kind == probe && (len(f.Path) < 1 || len(f.Path) > 6) || f.Kind != probe && len(f.Path) > 0 {
		return false
	}
	for _, p := range f.Pieces {
		if !piece.Right(p) {
			return false
		}
	}
	for _, n := range f.Path {
		if n < 0 || n > 5 {
			return false
		}
	}
	return true
}

// bytesOf are the bytes of a frame that may be: the document's, said anew.
func bytesOf(f frame.Frame) string {
	s := word.Put(f.Kind)
	switch f.Kind {
	case app:
		s += word.Put(f.Epoch) + word.Put(f.M.Seq) + word.Put(f.M.Letter)
	case marker, explore, yes, no:
		s += word.Put(f.Epoch)
	case report:
		s += word.Put(f.Epoch) + word.Put(len(f.Pieces))
		for _, p := range f.Pieces {
			t, _ := piece.Encode(p)
			s += word.Put(len(t)) + t
		}
	case probe:
		s += word.Put(f.Init) + word.Put(f.Num) + word.Put(f.Count) + word.Put(len(f.Path))
		for _, n := range f.Path {
			s += word.Put(n)
		}
	}
	return s
}

// equal is the document's Same, said anew.
func equal(a, b frame.Frame) bool {
	for i, n := range numbersOf(&a) {
		if *n != *numbersOf(&b)[i] {
			return false
		}
	}
	if len(a.Pieces) != len(b.Pieces) || len(a.Path) != len(b.Path) {
		return false
	}
	for i, p := range a.Pieces {
		if !piece.Same(p, b.Pieces[i]) {
			return false
		}
	}
	for i, n := range a.Path {
		if n != b.Path[i] {
			return false
		}
	}
	return true
}

// copyOf is a frame that is the same, with lists of its own.
func copyOf(f frame.Frame) frame.Frame {
	f.Pieces, f.Path = slices.Clone(f.Pieces), slices.Clone(f.Path)
	for i, p := range f.Pieces {
		p.Sent, p.In, p.Out = slices.Clone(p.Sent), slices.Clone(p.In), slices.Clone(p.Out)
		for k, l := range p.In {
			p.In[k] = slices.Clone(l)
		}
		for k, l := range p.Out {
			p.Out[k] = slices.Clone(l)
		}
		f.Pieces[i] = p
	}
	return f
}

// somePiece is one that may be, and has of all.
func somePiece() piece.Piece {
	return piece.Piece{Node: 1, State: 2, Steps: 300, Sent: []int{3, 500}, In: [][]api.Msg{{{Seq: 1, Letter: 1}, {Seq: 500, Letter: 3}}, nil}, Out: [][]int{{3, 0}, {1}}}
}

// greatPiece is the greatest there is.
func greatPiece() piece.Piece {
	p := piece.Piece{Node: 5, State: 7, Steps: math.MaxInt32, Sent: slices.Repeat([]int{500}, 5)}
	for range 5 {
		var l []api.Msg
		for seq := 1; seq <= 500; seq++ {
			l = append(l, api.Msg{Seq: seq, Letter: 3})
		}
		p.In = append(p.In, l)
		p.Out = append(p.Out, slices.Repeat([]int{3}, 500))
	}
	return p
}

// least is the frame of a kind with the least of all, greatest the one with the greatest.
func least(kind int) frame.Frame {
	f := frame.Frame{Kind: kind}
	for i, b := range bounds[kind] {
		*numbersOf(&f)[i+1] = b[0]
	}
	if kind == report {
		f.Pieces = []piece.Piece{{}}
	}
	if kind == probe {
		f.Path = []int{0}
	}
	return f
}

func greatest(kind int) frame.Frame {
	f := frame.Frame{Kind: kind}
	for i, b := range bounds[kind] {
		*numbersOf(&f)[i+1] = b[1]
	}
	if kind == report {
		f.Pieces = slices.Repeat([]piece.Piece{greatPiece()}, 6)
	}
	if kind == probe {
		f.Path = slices.Repeat([]int{5}, 6)
	}
	return f
}

// all are frames that may be, each another one.
func all() (l []frame.Frame) {
	for kind := range 7 {
		l = append(l, least(kind), greatest(kind))
	}
	return append(l, frame.Frame{Kind: report, Epoch: 2, Pieces: []piece.Piece{somePiece(), {Node: 1}, somePiece()}}, frame.Frame{Kind: probe, Init: 1, Num: 2, Count: 3, Path: []int{1, 0, 2, 1}}, frame.Frame{Epoch: 5, M: api.Msg{Seq: 300, Letter: 2}})
}

// anyFrame is one that may be.
func anyFrame(r *rand.Rand) frame.Frame {
	f := frame.Frame{Kind: r.Intn(7)}
	for i, b := range bounds[f.Kind] {
		*numbersOf(&f)[i+1] = b[0] + r.Intn(b[1]-b[0]+1)
	}
	many := 1 + r.Intn(6)
	for range many {
		if f.Kind == report {
			f.Pieces = append(f.Pieces, []piece.Piece{{}, {Node: r.Intn(6), Steps: r.Intn(1 << r.Intn(32))}, {Sent: make([]int, r.Intn(6)), Out: [][]int{{r.Intn(4)}}}, somePiece()}[r.Intn(4)])
		}
		if f.Kind == probe {
			f.Path = append(f.Path, r.Intn(6))
		}
	}
	return f
}

// may holds that a frame may be, and has bytes, of which it is the frame.
func may(t *testing.T, f frame.Frame) {
	t.Helper()
	was := copyOf(f)
	s, e := frame.Encode(f)
	if !frame.Right(f) || e != api.OK || s != bytesOf(was) || !equal(f, was) {
		t.Errorf("%v: %q, %d", was, s, e)
	}
	if g, e := frame.Decode(s); e != api.OK || !equal(g, was) {
		t.Errorf("Decode(%q) = %v, %d, not %v", s, g, e, was)
	}
}

// mayNot holds that a frame may not be, and has no bytes.
func mayNot(t *testing.T, f frame.Frame) {
	t.Helper()
	was := copyOf(f)
	if s, e := frame.Encode(f); frame.Right(f) || s != "" || e != api.ErrForm || !equal(f, was) {
		t.Errorf("%v may be: %q, %d", was, s, e)
	}
	if g := frame.Own(f); !equal(g, was) || !frame.Same(g, f) {
		t.Errorf("Own(%v) = %v", was, g)
	}
}

func mayIf(t *testing.T, ok bool, f frame.Frame) {
	t.Helper()
	if ok {
		may(t, f)
	} else {
		mayNot(t, f)
	}
}

// isNone holds that bytes are no frame's.
func isNone(t *testing.T, s string) {
	t.Helper()
	if f, e := frame.Decode(s); e != api.ErrForm || !equal(f, frame.Frame{}) {
		t.Errorf("Decode(%q) = %v, %d", s[:min(len(s), 200)], f, e)
	}
}

func TestExamples(t *testing.T) {
	for _, x := range []struct {
		f frame.Frame
		s string
	}{
		{frame.Frame{Kind: frame.Marker, Epoch: 3}, "\x01\x03"},
		{frame.Frame{Kind: frame.App, Epoch: 0, M: api.Msg{Seq: 2, Letter: 1}}, "\x00\x00\x02\x01"},
	} {
		if s, e := frame.Encode(x.f); s != x.s || e != api.OK {
			t.Errorf("%q, %d", s, e)
		}
		if f, e := frame.Decode(x.s); e != api.OK || !equal(f, x.f) {
			t.Error(f, e)
		}
	}
}

func TestKinds(t *testing.T) {
	if l := []int{frame.App, frame.Marker, frame.Explore, frame.Yes, frame.No, frame.Report, frame.Probe, frame.Kinds}; !slices.Equal(l, []int{0, 1, 2, 3, 4, 5, 6, 7}) {
		t.Error(l)
	}
}

func TestP71RightOfKinds(t *testing.T) {
	for _, f := range all() {
		may(t, f)
		for _, f.Kind = range []int{math.MinInt, -1 << 32, -7, -1, 7, 8, 128, 1 << 32, 1<<32 + f.Kind, math.MaxInt} {
			mayNot(t, f)
		}
		for f.Kind = range 7 { // another kind has other fields
			mayIf(t, mayBe(f), f)
		}
	}
	for kind := range 7 {
		mayNot(t, frame.Frame{Kind: kind}) // each kind has something that is not 0
	}
	for _, kind := range []int{-1, 7} {
		mayNot(t, frame.Frame{Kind: kind})
	}
}

// TestP71RightOfNumbers: each number has its bounds, by the kind, whatever the others are; one that is not named is 0.
func TestP71RightOfNumbers(t *testing.T) {
	for _, base := range all() {
		if base.Kind == report && base.Epoch == 200 {
			base.Pieces = base.Pieces[:1] // six great ones take long
		}
		for i, b := range bounds[base.Kind] {
			from, to := b[0], b[1]
			f := base
			n := numbersOf(&f)[i+1]
			for _, *n = range []int{from, min(from+1, to), (from + to) / 2, max(to-1, from), to} {
				may(t, f)
			}
			for _, *n = range []int{math.MinInt, -1 << 32, -to - 1, -1, from - 1, to + 1, to + 2, 1000, 1 << 32, 1<<32 + to, math.MaxInt} {
				mayNot(t, f)
			}
		}
	}
}

func TestP71RightOfCounts(t *testing.T) {
	for kind := range 7 {
		for pieces := range 9 {
			for path := range 9 {
				f := least(kind)
				f.Pieces, f.Path = make([]piece.Piece, pieces), make([]int, path)
				mayIf(t, kind == report && pieces >= 1 && pieces <= 6 && path == 0 || kind == probe && pieces == 0 && path >= 1 && path <= 6 || kind < report && pieces+path == 0, f)
			}
		}
	}
	for _, f := range []frame.Frame{{Kind: report, Epoch: 1, Pieces: make([]piece.Piece, 100000)}, {Kind: probe, Num: 1, Path: make([]int, 1000000)}} {
		if s, e := frame.Encode(f); frame.Right(f) || s != "" || e != api.ErrForm {
			t.Error(f.Kind)
		}
	}
}

func TestP71RightOfPieces(t *testing.T) {
	for _, p := range []piece.Piece{
		{}, somePiece(), greatPiece(), {Node: 5}, {Sent: []int{500}},
		{Node: 6}, {Node: -1}, {State: 8}, {Steps: -1}, {Steps: 1 << 31}, {Sent: []int{501}}, {Sent: make([]int, 6)}, {In: make([][]api.Msg, 6)}, {In: [][]api.Msg{{{Seq: 0}}}}, {In: [][]api.Msg{{{Seq: 2}, {Seq: 1}}}}, {Out: [][]int{{4}}}, {Out: make([][]int, 6)},
	} {
		for many := 1; many <= 6; many++ {
			for at := range many {
				f := frame.Frame{Kind: report, Epoch: 7, Pieces: make([]piece.Piece, many)}
				f.Pieces[(at+1)%many] = somePiece()
				f.Pieces[at] = p
				mayIf(t, piece.Right(p), f)
			}
		}
	}
	may(t, frame.Frame{Kind: report, Epoch: 1, Pieces: slices.Repeat([]piece.Piece{{Node: 3}}, 6)}) // of one node, too
}

func TestP71RightOfPath(t *testing.T) {
	for many := 1; many <= 6; many++ {
		for at := range many {
			for _, n := range []int{0, 1, 2, 3, 4, 5, -1, 6, 7, 128, math.MinInt, -1 << 32, 1 << 32, 1<<32 + 5, math.MaxInt} {
				f := frame.Frame{Kind: probe, Num: 200, Path: []int{5, 0, 1, 4, 4, 2}[:many]}
				f.Path[at] = n
				mayIf(t, n >= 0 && n <= 5, f)
			}
		}
	}
	may(t, frame.Frame{Kind: probe, Init: 3, Num: 1, Path: []int{2, 2, 2, 2, 2, 2}}) // the same ones, and none that is Init
}

// TestP71RightOfAny spoils a field or two of a frame, and holds Right against the bounds of its own.
func TestP71RightOfAny(t *testing.T) {
	r := rand.New(rand.NewSource(71))
	var count [2]int
	for range 20000 {
		f := anyFrame(r)
		for range 1 + r.Intn(2) {
			switch r.Intn(8) {
			case 0:
				f.Path = make([]int, r.Intn(8))
			case 1:
				f.Pieces = make([]piece.Piece, r.Intn(8))
			case 2:
				f.Path = append(f.Path, r.Intn(8)-1)
			case 3:
				f.Pieces = append(f.Pieces, piece.Piece{Node: r.Intn(8) - 1})
			default:
				*numbersOf(&f)[r.Intn(7)] = []int{-1, 0, 0, 0, 1, 2, 3, 4, 5, 6, 7, 200, 201, 500, 501, math.MaxInt32 + 1}[r.Intn(16)]
			}
		}
		ok := mayBe(f)
		mayIf(t, ok, f)
		if ok {
			count[1]++
		} else {
			count[0]++
		}
	}
	if min(count[0], count[1]) < 2000 {
		t.Error("few of one kind:", count)
	}
}

// same holds what Same tells of two, turned round too.
func same(t *testing.T, a, b frame.Frame, want bool) {
	t.Helper()
	if frame.Same(a, b) != want || frame.Same(b, a) != want {
		t.Errorf("Same(%v, %v) = %v", a, b, !want)
	}
}

// TestP71SameOfNumbers changes each number of frames that may be, and of ones that may not.
func TestP71SameOfNumbers(t *testing.T) {
	odd := frame.Frame{Kind: -5, Epoch: -1, M: api.Msg{Seq: -2, Letter: 99}, Pieces: []piece.Piece{{Node: 77}}, Init: 8, Num: math.MaxInt - 1, Count: -3, Path: []int{-9, 1000}}
	for _, f := range append(all(), odd, frame.Frame{}, frame.Frame{Kind: 7}) {
		same(t, f, copyOf(f), true)
		g := copyOf(f)
		l := numbersOf(&g)
		for i := range g.Pieces {
			p := &g.Pieces[i]
			l = append(l, &p.Node, &p.State, &p.Steps)
			if len(p.Sent) > 0 {
				l = append(l, &p.Sent[len(p.Sent)-1], &p.In[0][0].Seq, &p.In[0][1].Letter, &p.Out[1][0])
			}
		}
		for i := range g.Path {
			l = append(l, &g.Path[i])
		}
		for _, n := range l {
			for _, by := range []int{1, -1, 1 << 8, 1 << 32} {
				*n += by
				same(t, f, g, false)
				*n -= by
			}
		}
		same(t, f, g, true)
	}
}

func TestP71SameOfLists(t *testing.T) {
	l := []frame.Frame{
		{}, {Kind: probe}, {Kind: report},
		{Path: []int{0}}, {Path: []int{0, 0}}, {Path: []int{0, 1}}, {Path: []int{1, 0}}, {Path: []int{1}}, {Path: make([]int, 9)}, {Path: []int{1, 0, 1}},
		{Pieces: []piece.Piece{{}}}, {Pieces: []piece.Piece{{}, {}}}, {Pieces: []piece.Piece{{Node: 1}}}, {Pieces: []piece.Piece{{Node: 1}, {}}}, {Pieces: []piece.Piece{{}, {Node: 1}}}, {Pieces: []piece.Piece{{Sent: []int{0}}}}, {Pieces: []piece.Piece{{Out: [][]int{nil}}}}, {Pieces: []piece.Piece{{In: [][]api.Msg{nil}}}}, {Pieces: make([]piece.Piece, 9)},
		{Path: []int{0}, Pieces: []piece.Piece{{}}},
	}
	l = append(l, all()...)
	for i, a := range l {
		for k, b := range l {
			same(t, a, b, i == k)
		}
	}
}

func TestR3EmptyListsAreNone(t *testing.T) {
	same(t, frame.Frame{}, frame.Frame{Pieces: []piece.Piece{}, Path: []int{}}, true)
	a := frame.Frame{Kind: report, Epoch: 1, Pieces: []piece.Piece{{Sent: []int{}, In: [][]api.Msg{{}}, Out: [][]int{}}}, Path: []int{}}
	b := frame.Frame{Kind: report, Epoch: 1, Pieces: []piece.Piece{{In: [][]api.Msg{nil}}}}
	same(t, a, b, true)
	may(t, a)
	may(t, b)
	for _, f := range all() {
		if f.Kind != report {
			f.Pieces = []piece.Piece{}
		}
		if f.Kind != probe {
			f.Path = []int{}
		}
		may(t, f)
	}
}

func TestP72Encode(t *testing.T) {
	for i, x := range []struct {
		f frame.Frame
		s string
	}{
		{frame.Frame{M: api.Msg{Seq: 1}}, "\x00\x00\x01\x00"},
		{frame.Frame{Epoch: 1, M: api.Msg{Seq: 2, Letter: 3}}, "\x00\x01\x02\x03"},
		{frame.Frame{Epoch: 200, M: api.Msg{Seq: 500, Letter: 3}}, "\x00\xc8\x01\xf4\x03\x03"},
		{frame.Frame{Kind: marker, Epoch: 1}, "\x01\x01"},
		{frame.Frame{Kind: explore, Epoch: 127}, "\x02\x7f"},
		{frame.Frame{Kind: yes, Epoch: 128}, "\x03\x80\x01"},
		{frame.Frame{Kind: no, Epoch: 200}, "\x04\xc8\x01"},
		{frame.Frame{Kind: report, Epoch: 1, Pieces: []piece.Piece{{}}}, "\x05\x01\x01\x06\x00\x00\x00\x00\x00\x00"},
		{frame.Frame{Kind: report, Epoch: 200, Pieces: []piece.Piece{{Node: 2, State: 1, Steps: 300}, {Sent: []int{7, 8}}}}, "\x05\xc8\x01\x02\x07\x02\x01\xac\x02\x00\x00\x00\x08\x00\x00\x00\x02\x07\x08\x00\x00"},
		{frame.Frame{Kind: report, Epoch: 2, Pieces: []piece.Piece{{Out: [][]int{make([]int, 128)}}}}, "\x05\x02\x01\x88\x01\x00\x00\x00\x00\x00\x01\x80\x01" + strings.Repeat("\x00", 128)},
		{frame.Frame{Kind: report, Epoch: 1, Pieces: make([]piece.Piece, 6)}, "\x05\x01\x06" + strings.Repeat("\x06\x00\x00\x00\x00\x00\x00", 6)},
		{frame.Frame{Kind: probe, Num: 1, Path: []int{0}}, "\x06\x00\x01\x00\x01\x00"},
		{frame.Frame{Kind: probe, Init: 5, Num: 200, Count: 500, Path: []int{5, 4, 3, 2, 1, 0}}, "\x06\x05\xc8\x01\xf4\x03\x06\x05\x04\x03\x02\x01\x00"},
	} {
		if s, e := frame.Encode(x.f); s != x.s || e != api.OK {
			t.Errorf("%d: %q, %d, not %q", i, s, e, x.s)
		}
		if f, e := frame.Decode(x.s); e != api.OK || !equal(f, x.f) {
			t.Errorf("%d: %v, %d", i, f, e)
		}
	}
}

func TestP72DecodeOfParts(t *testing.T) {
	for _, f := range all() {
		s := bytesOf(f)
		for cut := 0; cut < len(s); cut += 1 + len(s)/500 {
			isNone(t, s[:cut])
		}
		isNone(t, s[:len(s)-1])
		for _, behind := range []string{"\x00", "\x01", "\x80", "\x80\x00", "\xff\xff\xff\xff\x08", s} {
			isNone(t, s+behind)
		}
		isNone(t, "\x07"+s)
		isNone(t, "\x80"+s)
	}
}

func TestP72DecodeWrong(t *testing.T) {
	none := "\x06\x00\x00\x00\x00\x00\x00" // a piece of nothing, with how many bytes it has
	for _, s := range []string{
		"", "\x00", "\x80", "\x05", "\x06", "\xff\xff\xff\xff\xff",
		"\x07", "\x07\x01", "\x08\x01", "\x7f\x01", "\x80\x01\x01", "\xff\xff\xff\xff\x07\x01", "\x81\x00\x01", "\xff\xff\xff\xff\x08\x01", // no kind
		"\x00\xc9\x01\x01\x00", "\x00\x00\x00\x00", "\x00\x00\xf5\x03\x00", "\x00\x00\x01\x04", "\x00\x00\x01", "\x00\x80\x00\x01\x00", "\x00\x00\x81\x00\x00", "\x00\x00\x01\x80\x00", // no message
		"\x01\x00", "\x02\x00", "\x03\x00", "\x04\x00", "\x01\xc9\x01", "\x02\xc9\x01", "\x03\xc9\x01", "\x04\xc9\x01", "\x01\x81\x00", "\x01\x01\x00", "\x01\x80",
		"\x05\x00\x01" + none, "\x05\xc9\x01\x01" + none, "\x05\x01\x00", "\x05\x01", "\x05\x01\x01", "\x05\x01\x01\x00", "\x05\x01\x02" + none, "\x05\x01\x01" + none + none, "\x05\x01\x07" + strings.Repeat(none, 7), "\x05\x01\x07" + strings.Repeat(none, 6), "\x05\x01\x06" + strings.Repeat(none, 7), "\x05\x01\x00" + none,
		"\x05\x01\x81\x00" + none, "\x05\x01\x01\x86\x00\x00\x00\x00\x00\x00\x00", // not the fewest bytes
		"\x05\x01\x01\x05\x00\x00\x00\x00\x00\x00", "\x05\x01\x01\x05\x00\x00\x00\x00\x00", "\x05\x01\x01\x07\x00\x00\x00\x00\x00\x00", "\x05\x01\x01\x07\x00\x00\x00\x00\x00\x00\x00", "\x05\x01\x01\x08\x00\x00\x00\x00\x00\x00", // texts that are too short, or too long
		"\x05\x01\x01\x06\x06\x00\x00\x00\x00\x00", "\x05\x01\x01\x06\x00\x08\x00\x00\x00\x00", "\x05\x01\x02" + none + "\x06\x06\x00\x00\x00\x00\x00", "\x05\x01\x02\x06\x06\x00\x00\x00\x00\x00" + none, // no pieces
		"\x05\x01\x01\xff\xff\xff\xff\x07", "\x05\x01\x01\xff\xff\xff\xff\x08\x00\x00\x00\x00\x00\x00", "\x05\x01\x01\x80",
		"\x06\x06\x01\x00\x01\x00", "\x06\x00\x00\x00\x01\x00", "\x06\x00\xc9\x01\x00\x01\x00", "\x06\x00\x01\xf5\x03\x01\x00", "\x06\x00\x01\x00\x00", "\x06\x00\x01\x00\x01", "\x06\x00\x01\x00\x01\x06", "\x06\x00\x01\x00\x02\x00", "\x06\x00\x01\x00\x01\x00\x00", "\x06\x00\x01\x00\x00\x00", // no probe
		"\x06\x00\x01\x00\x07" + strings.Repeat("\x00", 7), "\x06\x00\x01\x00\x07" + strings.Repeat("\x00", 6), "\x06\x00\x01\x00\x06" + strings.Repeat("\x00", 7), "\x06\x00\x01\x00\x81\x00\x00", "\x06\x80\x00\x01\x00\x01\x00", "\x06\x00\x81\x00\x00\x01\x00", "\x06\x00\x01\x00\x01\x85\x00",
	} {
		isNone(t, s)
	}
}

// TestP72DecodeOfMuch: counts that are great, and bytes that are many, are told of at once.
func TestP72DecodeOfMuch(t *testing.T) {
	for _, n := range []int{7, 128, 501, 1 << 20, word.Max} {
		for _, ahead := range []string{"\x05\x01", "\x05\x01\x01", "\x06\x00\x01\x00", "\x06\x00\x01\x00\x01", "", "\x01\x00", "\x00\x00"} {
			isNone(t, ahead+word.Put(n))
			isNone(t, ahead+word.Put(n)+"\x00\x00\x00")
		}
	}
	for _, s := range []string{"\x00", "\x01", "\x05", "\x06", "\x80", "\xff\xff\xff\xff\x07"} {
		isNone(t, strings.Repeat(s, 20000000))
	}
	text := word.Text(strings.Repeat("\x00", 20000000))
	isNone(t, "\x05\x01\x01"+text)
	isNone(t, "\x05\x01\x06"+strings.Repeat(text, 6))
}

// parsed is the frame of bytes, if they are those of one that may be, said anew: each number is held against its bounds where it stands.
func parsed(s string) (f frame.Frame, ok bool) {
	ok = true
	read := func(from, to int) int {
		n, to2, e := word.Get(s, 0)
		if e != api.OK || n < from || n > to {
			ok = false
			return 0
		}
		s = s[to2:]
		return n
	}
	if f.Kind = read(0, 6); !ok {
		return f, false
	}
	for i, b := range bounds[f.Kind] {
		if b[1] > 0 {
			*numbersOf(&f)[i+1] = read(b[0], b[1])
		}
	}
	switch f.Kind {
	case report:
		for n := read(1, 6); n > 0 && ok; n-- {
			size := read(0, len(s))
			p, e := piece.Decode(s[:min(size, len(s))])
			ok = ok && size <= len(s) && e == api.OK
			s = s[min(size, len(s)):]
			f.Pieces = append(f.Pieces, p)
		}
	case probe:
		for n := read(1, 6); n > 0 && ok; n-- {
			f.Path = append(f.Path, read(0, 5))
		}
	}
	return f, ok && s == ""
}

// decodesAs holds what is told of bytes against what they make.
func decodesAs(t *testing.T, s string) bool {
	t.Helper()
	f, e := frame.Decode(s)
	want, ok := parsed(s)
	if !ok {
		want = frame.Frame{}
	}
	if ok != (e == api.OK) || !ok && e != api.ErrForm || !equal(f, want) {
		t.Fatalf("Decode(%q) = %v, %d, not %v, %v", s, f, e, want, ok)
	}
	if u, e := frame.Encode(f); ok && (u != s || e != api.OK || !frame.Right(f)) {
		t.Fatalf("Encode(%v) = %q, %d, not %q", f, u, e, s)
	}
	return ok
}

// TestP73BytesOfOneFrameOrNone goes through all strings of few bytes, of those that make a difference.
func TestP73BytesOfOneFrameOrNone(t *testing.T) {
	for _, x := range []struct {
		ahead, bytes string
		most, want   int
	}{
		{"", "\x00\x01\x02\x03\x04\x05\x06\x07\x80\xc8", 5, 100},
		{"\x00", "\x00\x01\x03\x04\x7f\x80\xc8\xf4", 5, 100},
		{"\x06\x00", "\x00\x01\x02\x05\x06\x80", 7, 300},
		{"\x05\x01", "\x00\x01\x06\x80", 9, 4},
	} {
		count := 0
		var grow func(s []byte)
		grow = func(s []byte) {
			if decodesAs(t, string(s)) {
				count++
			}
			if len(s) == len(x.ahead)+x.most {
				return
			}
			for i := range len(x.bytes) {
				grow(append(s, x.bytes[i]))
			}
		}
		grow(append(make([]byte, 0, 20), x.ahead...))
		if count < x.want {
			t.Errorf("%q: few frames: %d", x.ahead, count)
		}
	}
}

func TestP73DecodedAsEncoded(t *testing.T) {
	r := rand.New(rand.NewSource(73))
	seen := map[string]frame.Frame{}
	for range 10000 {
		f := anyFrame(r)
		may(t, f)
		s, _ := frame.Encode(f)
		if g, was := seen[s]; was && !equal(f, g) {
			t.Fatal("two frames of the same bytes:", f, g)
		}
		seen[s] = f
	}
	if len(seen) < 3000 {
		t.Error("few frames:", len(seen))
	}
}

// TestP73OfAny spoils bytes of frames.
func TestP73OfAny(t *testing.T) {
	r := rand.New(rand.NewSource(730))
	var count [2]int
	for range 50000 {
		s := []byte(bytesOf(anyFrame(r)))
		at := r.Intn(len(s))
		switch r.Intn(5) {
		case 0:
			s[at] = []byte{0, 1, 2, 3, 4, 5, 6, 7, 0x7f, 0x80, 0xc8, 0xff}[r.Intn(12)]
		case 1:
			s = slices.Delete(s, at, at+1)
		case 2:
			s = slices.Insert(s, at, byte(r.Intn(9)))
		case 3:
			s[at] ^= 1 << r.Intn(8)
		case 4:
			s[at]++
		}
		if decodesAs(t, string(s)) {
			count[1]++
		} else {
			count[0]++
		}
	}
	if min(count[0], count[1]) < 5000 {
		t.Error("few of one kind:", count)
	}
}

// rooms are where the lists of a frame lie, with the room behind each: the bytes from the first to the last one.
func rooms(f frame.Frame) (l [][2]uintptr) {
	l = append(l, roomOf(f.Path), roomOf(f.Pieces))
	for _, p := range f.Pieces[:cap(f.Pieces)] {
		l = append(l, roomOf(p.Sent), roomOf(p.In), roomOf(p.Out))
		for _, x := range p.In[:cap(p.In)] {
			l = append(l, roomOf(x))
		}
		for _, x := range p.Out[:cap(p.Out)] {
			l = append(l, roomOf(x))
		}
	}
	return slices.DeleteFunc(l, func(x [2]uintptr) bool { return x[0] == x[1] })
}

func roomOf[T any](l []T) [2]uintptr {
	from := uintptr(unsafe.Pointer(unsafe.SliceData(l)))
	var x T
	return [2]uintptr{from, from + uintptr(cap(l))*unsafe.Sizeof(x)}
}

// apart holds that none of these frames' lists shares memory with another one.
func apart(t *testing.T, l ...frame.Frame) {
	t.Helper()
	var all [][2]uintptr
	for _, f := range l {
		all = append(all, rooms(f)...)
	}
	slices.SortFunc(all, func(a, b [2]uintptr) int { return int(a[0]) - int(b[0]) })
	for i := 1; i < len(all); i++ {
		if all[i][0] < all[i-1][1] {
			t.Fatal("shared", l)
		}
	}
}

// spoil writes over all that a frame's lists hold, the room behind them too.
func spoil(f frame.Frame) {
	for i := range f.Path[:cap(f.Path)] {
		f.Path[:cap(f.Path)][i] = -7
	}
	for _, p := range f.Pieces {
		for i := range p.Sent {
			p.Sent[i] = -7
		}
		for _, l := range p.In {
			clear(l)
		}
		for _, l := range p.Out {
			clear(l)
		}
		clear(p.In)
		clear(p.Out)
	}
	clear(f.Pieces)
}

// TestR4ListsAreKept: neither the lists that are handed in are changed, nor the room behind them.
func TestR4ListsAreKept(t *testing.T) {
	for _, kind := range []int{report, probe, app, 9} {
		path := []int{1, 2, 3, 77, 78}
		pieces := []piece.Piece{somePiece(), {Node: 4}, {Node: 77}}
		f := frame.Frame{Kind: kind, Epoch: 1, Pieces: pieces[:2], Path: path[:3]}
		if kind == report {
			f.Path = path[:0]
		}
		if kind == probe {
			f.Epoch, f.Num, f.Pieces = 0, 1, pieces[:0]
		}
		was := copyOf(f)
		if frame.Right(f) != (kind == report || kind == probe) {
			t.Error(kind)
		}
		frame.Encode(f)
		g := frame.Own(f)
		if !frame.Same(f, g) || !equal(f, was) || !equal(g, was) {
			t.Error(f, g)
		}
		spoil(g)
		if !slices.Equal(path, []int{1, 2, 3, 77, 78}) || !slices.EqualFunc(pieces, []piece.Piece{somePiece(), {Node: 4}, {Node: 77}}, piece.Same) {
			t.Error(path, pieces)
		}
	}
}

func TestR4OwnIsNewMemory(t *testing.T) {
	sent := []int{1, 2, 3}
	shared := frame.Frame{Kind: report, Epoch: 1, Pieces: []piece.Piece{{Sent: sent, Out: [][]int{sent, sent[:1]}}, {Sent: sent}}, Path: sent[:2]}
	wrong := frame.Frame{Kind: 99, Pieces: make([]piece.Piece, 9, 20), Path: make([]int, 9, 20)}
	for _, f := range append(all(), frame.Frame{}, shared, wrong, frame.Frame{Pieces: make([]piece.Piece, 0, 4), Path: make([]int, 0, 4)}) {
		was := copyOf(f)
		a, b := frame.Own(f), frame.Own(f)
		apart(t, a, b)
		for _, x := range rooms(f) {
			for _, y := range append(rooms(a), rooms(b)...) {
				if x[0] < y[1] && y[0] < x[1] {
					t.Fatal("shared", f)
				}
			}
		}
		spoil(a)
		if !equal(f, was) || !equal(b, was) || !frame.Same(b, f) {
			t.Error(f, b)
		}
		spoil(f)
		if !equal(b, was) {
			t.Error(b)
		}
	}
}

func TestR4DecodeIsNewMemory(t *testing.T) {
	for _, f := range all() {
		s := bytesOf(f)
		a, _ := frame.Decode(s)
		b, _ := frame.Decode(s)
		apart(t, a, b)
		spoil(a)
		if c, e := frame.Decode(s); e != api.OK || !equal(b, f) || !equal(c, f) {
			t.Error(b, c, e)
		}
	}
}

func FuzzP73(f *testing.F) {
	for _, x := range all() {
		if s := bytesOf(x); len(s) < 1000 {
			f.Add(s)
		}
	}
	f.Fuzz(func(t *testing.T, s string) {
		decodesAs(t, s)
	})
}
