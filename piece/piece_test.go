package piece_test

import (
	"math"
	"math/rand"
	"slices"
	"strings"
	"testing"
	"unsafe"

	"cameo/api"
	"cameo/piece"
	"cameo/word"
)

// messages are some, by a number each: ten times the Seq, and the Letter.
func messages(l ...int) (m []api.Msg) {
	for _, x := range l {
		m = append(m, api.Msg{Seq: x / 10, Letter: x % 10})
	}
	return m
}

// some is a piece that may be, and has of all.
func some() piece.Piece {
	return piece.Piece{Node: 1, State: 2, Steps: 300, Sent: []int{3, 0, 500}, In: [][]api.Msg{messages(11, 30, 5003), nil, messages(20)}, Out: [][]int{{3, 0, 3}, {}, {1}}}
}

// most is the greatest piece there is.
func most() piece.Piece {
	p := piece.Piece{Node: 5, State: 7, Steps: math.MaxInt32, Sent: slices.Repeat([]int{500}, 5)}
	for range 5 {
		var l []api.Msg
		for seq := 1; seq <= 500; seq++ {
			l = append(l, api.Msg{Seq: seq, Letter: 3})
		}
		p.In = append(p.In, l)
		p.Out = append(p.Out, slices.Repeat([]int{3}, 500))
	}
	return p
}

// copyOf is a piece that is the same, with lists of its own.
func copyOf(p piece.Piece) piece.Piece {
	p.Sent, p.In, p.Out = slices.Clone(p.Sent), slices.Clone(p.In), slices.Clone(p.Out)
	for i, l := range p.In {
		p.In[i] = slices.Clone(l)
	}
	for i, l := range p.Out {
		p.Out[i] = slices.Clone(l)
	}
	return p
}

// flat are all numbers of a piece, with how long its lists are ahead of each: the document's bytes, said anew.
func flat(p piece.Piece) (l []int) {
	put := func(n ...int) { l = append(l, n...) }
	put(p.Node, p.State, p.Steps)
	put(len(p.Sent))
	for i := range p.Sent {
		put(p.Sent[i])
	}
	put(len(p.In))
	for i := range p.In {
		put(len(p.In[i]))
		for k := range p.In[i] {
			put(p.In[i][k].Seq)
			put(p.In[i][k].Letter)
		}
	}
	put(len(p.Out))
	for i := range p.Out {
		put(len(p.Out[i]))
		for k := range p.Out[i] {
			put(p.Out[i][k])
		}
	}
	return l
}

// equal is the document's Same, said anew: the numbers and the lengths of the lists make a piece.
func equal(a, b piece.Piece) bool {
	return slices.Equal(flat(a), flat(b))
}

func isZero(p piece.Piece) bool {
	return p.Node == 0 && p.State == 0 && p.Steps == 0 && len(p.Sent)+len(p.In)+len(p.Out) == 0
}

// parsed is the piece of numbers, if they make one that may be, said anew: each number is held against its bounds where it stands.
func parsed(l []int) (p piece.Piece, ok bool) {
	ok = true
	read := func(from, to int) int {
		if !ok || len(l) == 0 || l[0] < from || l[0] > to {
			ok = false
			return 0
		}
		n := l[0]
		l = l[1:]
		return n
	}
	p.Node, p.State, p.Steps = read(0, 5), read(0, 7), read(0, math.MaxInt32)
	for n := read(0, 5); n > 0; n-- {
		p.Sent = append(p.Sent, read(0, 500))
	}
	for n := read(0, 5); n > 0; n-- {
		var in []api.Msg
		last := 0
		for m := read(0, 500); m > 0; m-- {
			last = read(last+1, 500)
			in = append(in, api.Msg{Seq: last, Letter: read(0, 3)})
		}
		p.In = append(p.In, in)
	}
	for n := read(0, 5); n > 0; n-- {
		var out []int
		for m := read(0, 500); m > 0; m-- {
			out = append(out, read(0, 3))
		}
		p.Out = append(p.Out, out)
	}
	return p, ok && len(l) == 0
}

// anyPiece is one that may be, of links that had few messages, or now and then many.
func anyPiece(r *rand.Rand) piece.Piece {
	many := func() int {
		if r.Intn(20) == 0 {
			return r.Intn(501)
		}
		return r.Intn(4)
	}
	p := piece.Piece{Node: r.Intn(6), State: r.Intn(8), Steps: r.Intn(1 << r.Intn(32))}
	for range r.Intn(6) {
		p.Sent = append(p.Sent, many())
	}
	for range r.Intn(6) {
		var in []api.Msg
		last := 0
		for range many() {
			if last += 1 + r.Intn(1+r.Intn(200)); last <= 500 {
				in = append(in, api.Msg{Seq: last, Letter: r.Intn(4)})
			}
		}
		p.In = append(p.In, in)
	}
	for range r.Intn(6) {
		out := make([]int, many())
		for i := range out {
			out[i] = r.Intn(4)
		}
		p.Out = append(p.Out, out)
	}
	return p
}

// numbersOf are all numbers of a piece, so that each can be spoilt.
func numbersOf(p *piece.Piece) []*int {
	all := []*int{&p.Node, &p.State, &p.Steps}
	for i := range p.Sent {
		all = append(all, &p.Sent[i])
	}
	for _, l := range p.In {
		for i := range l {
			all = append(all, &l[i].Seq, &l[i].Letter)
		}
	}
	for _, l := range p.Out {
		for i := range l {
			all = append(all, &l[i])
		}
	}
	return all
}

// may holds that a piece may be, and has bytes, of which it is the piece.
func may(t *testing.T, p piece.Piece) {
	t.Helper()
	was := copyOf(p)
	s, e := piece.Encode(p)
	if !piece.Right(p) || e != api.OK || s != word.Puts(flat(was)) || !equal(p, was) {
		t.Errorf("%v: %q, %d", was, s, e)
	}
	if q, e := piece.Decode(s); e != api.OK || !equal(q, was) {
		t.Errorf("Decode(%q) = %v, %d, not %v", s, q, e, was)
	}
}

// mayNot holds that a piece may not be, and has no bytes.
func mayNot(t *testing.T, p piece.Piece) {
	t.Helper()
	was := copyOf(p)
	if s, e := piece.Encode(p); piece.Right(p) || s != "" || e != api.ErrForm || !equal(p, was) {
		t.Errorf("%v may be: %q, %d", was, s, e)
	}
	if q := piece.Own(p); !equal(q, was) || !piece.Same(q, p) {
		t.Errorf("Own(%v) = %v", was, q)
	}
}

func mayIf(t *testing.T, ok bool, p piece.Piece) {
	t.Helper()
	if ok {
		may(t, p)
	} else {
		mayNot(t, p)
	}
}

// isNone holds that bytes are no piece's.
func isNone(t *testing.T, s string) {
	t.Helper()
	if p, e := piece.Decode(s); e != api.ErrForm || !isZero(p) {
		t.Errorf("Decode(%q) = %v, %d", s[:min(len(s), 200)], p, e)
	}
}

// wrongs are numbers that are not in 0 to n.
func wrongs(n int) []int {
	return []int{math.MinInt, -1 << 32, -n - 1, -1, n + 1, n + 2, 1 << 32, 1<<32 + 1, math.MaxInt}
}

func TestExample(t *testing.T) {
	p := piece.Piece{Node: 1, State: 2, Steps: 3}
	if s, e := piece.Encode(p); s != "\x01\x02\x03\x00\x00\x00" || e != api.OK {
		t.Errorf("%q, %d", s, e)
	}
	if q, e := piece.Decode("\x01\x02\x03\x00\x00\x00"); e != api.OK || !equal(p, q) {
		t.Error(q, e)
	}
}

func TestP61RightOfNumbers(t *testing.T) {
	for _, base := range []piece.Piece{{}, some()} {
		for i, top := range []int{5, 7, math.MaxInt32} {
			p := copyOf(base)
			n := numbersOf(&p)[i]
			for _, *n = range []int{0, 1, 2, 3, 4, 5, top - 1, top} {
				may(t, p)
			}
			for _, *n = range wrongs(top) {
				mayNot(t, p)
			}
		}
	}
	p := piece.Piece{Steps: 6}
	p.State = 6
	may(t, p) // nodes have other bounds than states
	p.Node = 6
	mayNot(t, p)
}

func TestP61RightOfSent(t *testing.T) {
	for links := range 6 {
		p := piece.Piece{Sent: make([]int, links)}
		may(t, p)
		for i := range links {
			for _, p.Sent[i] = range []int{1, 20, 21, 127, 128, 499, 500} {
				may(t, p)
			}
			for _, p.Sent[i] = range wrongs(500) {
				mayNot(t, p)
			}
			p.Sent[i] = i // what is sent on links needs not rise, or may
		}
	}
	may(t, piece.Piece{Sent: []int{500, 3, 3, 1, 0}})
}

func TestP61RightOfLists(t *testing.T) {
	for n := range 9 {
		for _, p := range []piece.Piece{{Sent: make([]int, n)}, {In: make([][]api.Msg, n)}, {Out: make([][]int, n)}} {
			mayIf(t, n <= 5, p)
		}
	}
	for sent := range 6 { // each has its own length
		for in := range 6 {
			for out := range 6 {
				may(t, piece.Piece{Sent: make([]int, sent), In: make([][]api.Msg, in), Out: make([][]int, out)})
			}
		}
	}
	many := 1000000
	for i, p := range []piece.Piece{{Sent: make([]int, many)}, {In: make([][]api.Msg, many)}, {Out: make([][]int, many)}, {In: [][]api.Msg{make([]api.Msg, many)}}, {Out: [][]int{make([]int, many)}}} {
		if s, e := piece.Encode(p); piece.Right(p) || s != "" || e != api.ErrForm {
			t.Error(i)
		}
	}
}

func TestP61RightOfIn(t *testing.T) {
	whole := most().In[0]
	for _, x := range []struct {
		l    []api.Msg
		want bool
	}{
		{nil, true}, {[]api.Msg{}, true}, {messages(10), true}, {messages(11, 22, 33), true}, {messages(13, 23, 5003), true}, {messages(5000), true}, {messages(210, 4990, 5000), true}, {whole, true}, {whole[499:], true}, {whole[:499], true},
		{messages(0), false}, {messages(1), false}, {messages(0, 10), false}, {messages(5010), false}, {messages(10, 5010), false}, {messages(5000, 5010), false},
		{messages(10, 10), false}, {messages(11, 12), false}, {messages(20, 10), false}, {messages(10, 30, 20), false}, {messages(10, 20, 30, 30), false}, {messages(5000, 10), false},
		{messages(14), false}, {messages(19), false}, {messages(10, 24), false}, {messages(14, 20), false},
		{[]api.Msg{{Seq: -1}}, false}, {[]api.Msg{{Seq: -1}, {Seq: 1}}, false}, {[]api.Msg{{Seq: math.MinInt}}, false}, {[]api.Msg{{Seq: math.MaxInt}}, false}, {[]api.Msg{{Seq: math.MaxInt}, {Seq: math.MinInt}}, false}, {[]api.Msg{{Seq: 1<<32 + 1}}, false},
		{[]api.Msg{{Seq: 1, Letter: -1}}, false}, {[]api.Msg{{Seq: 1, Letter: math.MinInt}}, false}, {[]api.Msg{{Seq: 1, Letter: math.MaxInt}}, false}, {[]api.Msg{{Seq: 1, Letter: 1 << 32}}, false},
		{slices.Concat(whole, messages(5010)), false}, {slices.Concat(whole, messages(5000)), false}, {slices.Repeat(whole, 2), false}, {make([]api.Msg, 500), false},
	} {
		for at := range 5 {
			p := piece.Piece{In: [][]api.Msg{messages(10), nil, whole, messages(5003), messages(10)}}
			p.In[at] = x.l
			for _, p.In = range [][][]api.Msg{p.In, {x.l}, p.In[:at+1], p.In[at:]} {
				mayIf(t, x.want, p)
			}
		}
	}
}

func TestP61RightOfOut(t *testing.T) {
	for _, x := range []struct {
		l    []int
		want bool
	}{
		{nil, true}, {[]int{}, true}, {[]int{0}, true}, {[]int{3}, true}, {[]int{3, 0, 2, 2, 1}, true}, {make([]int, 499), true}, {make([]int, 500), true}, {most().Out[0], true},
		{make([]int, 501), false}, {make([]int, 1000), false}, {[]int{4}, false}, {[]int{-1}, false}, {[]int{0, 1, 2, 3, 4}, false}, {[]int{-1, 0}, false}, {[]int{0, -1, 0}, false},
		{[]int{math.MinInt}, false}, {[]int{math.MaxInt}, false}, {[]int{1 << 32}, false}, {append(make([]int, 499), 4), false},
	} {
		for at := range 5 {
			p := piece.Piece{Out: [][]int{{0}, nil, {3, 3}, make([]int, 500), {1}}}
			p.Out[at] = x.l
			for _, p.Out = range [][][]int{p.Out, {x.l}, p.Out[:at+1], p.Out[at:]} {
				mayIf(t, x.want, p)
			}
		}
	}
}

// TestP61RightOfAny spoils a number of a piece, and holds Right against the bounds of its own.
func TestP61RightOfAny(t *testing.T) {
	r := rand.New(rand.NewSource(61))
	var count [2]int
	for range 4000 {
		p := anyPiece(r)
		all := numbersOf(&p)
		*all[r.Intn(len(all))] = []int{-1, 0, 1, 3, 4, 5, 6, 7, 8, 500, 501, math.MaxInt32, math.MaxInt32 + 1}[r.Intn(13)]
		_, ok := parsed(flat(p))
		mayIf(t, ok, p)
		if ok {
			count[1]++
		} else {
			count[0]++
		}
	}
	if min(count[0], count[1]) < 500 {
		t.Error("few of one kind:", count)
	}
}

// same holds what Same tells of two, turned round too.
func same(t *testing.T, a, b piece.Piece, want bool) {
	t.Helper()
	wasA, wasB := copyOf(a), copyOf(b)
	if piece.Same(a, b) != want || piece.Same(b, a) != want || !equal(a, wasA) || !equal(b, wasB) {
		t.Errorf("Same(%v, %v) is not %v", a, b, want)
	}
}

func TestP61SameOfNumbers(t *testing.T) {
	for _, p := range []piece.Piece{{}, some(), {In: most().In[:1]}, {Out: most().Out[:1]}} {
		same(t, p, p, true)
		same(t, p, copyOf(p), true)
		same(t, p, piece.Own(p), true)
		for i := range numbersOf(&p) {
			q := copyOf(p)
			n := numbersOf(&q)[i]
			for _, by := range []int{1, -1, 1 << 32, math.MinInt} {
				*n += by
				same(t, p, q, false)
				*n -= by
			}
			same(t, p, q, true)
		}
	}
}

func TestP61SameOfLists(t *testing.T) {
	all := []piece.Piece{
		{}, {Node: 1}, {State: 1}, {Steps: 1}, {Node: 1, State: 1},
		{Sent: []int{0}}, {Sent: []int{0, 0}}, {Sent: []int{0, 1}}, {Sent: []int{1, 0}}, {Sent: []int{-5}}, {Sent: make([]int, 7)},
		{In: [][]api.Msg{nil}}, {In: [][]api.Msg{nil, nil}}, {In: [][]api.Msg{messages(10)}}, {In: [][]api.Msg{messages(10), nil}}, {In: [][]api.Msg{nil, messages(10)}}, {In: [][]api.Msg{messages(10, 20)}}, {In: [][]api.Msg{messages(10), messages(20)}}, {In: [][]api.Msg{messages(11)}}, {In: [][]api.Msg{messages(20, 10)}}, {In: make([][]api.Msg, 9)},
		{Out: [][]int{nil}}, {Out: [][]int{nil, nil}}, {Out: [][]int{{0}}}, {Out: [][]int{{0}, nil}}, {Out: [][]int{nil, {0}}}, {Out: [][]int{{0, 1}}}, {Out: [][]int{{0}, {1}}}, {Out: [][]int{{1, 0}}}, {Out: [][]int{make([]int, 501)}},
		{Sent: []int{0}, In: [][]api.Msg{nil}}, {Sent: []int{0}, Out: [][]int{nil}}, {In: [][]api.Msg{nil}, Out: [][]int{nil}}, some(), most(),
	}
	for i, a := range all {
		for k, b := range all {
			same(t, a, b, i == k)
		}
	}
}

func TestR3EmptyListsAreNone(t *testing.T) {
	same(t, piece.Piece{}, piece.Piece{Sent: []int{}, In: [][]api.Msg{}, Out: [][]int{}}, true)
	a := piece.Piece{In: [][]api.Msg{nil, {}, messages(10)}, Out: [][]int{nil, {}, {2}}}
	b := piece.Piece{Sent: []int{}, In: [][]api.Msg{{}, nil, messages(10)}, Out: [][]int{{}, nil, {2}}}
	same(t, a, b, true)
	may(t, a)
	may(t, b)
	s, _ := piece.Encode(a)
	if u, e := piece.Encode(b); u != s || e != api.OK {
		t.Errorf("%q, not %q", u, s)
	}
}

func TestP62Encode(t *testing.T) {
	for i, x := range []struct {
		p piece.Piece
		s string
	}{
		{piece.Piece{}, "\x00\x00\x00\x00\x00\x00"},
		{piece.Piece{Node: 5, State: 7, Steps: math.MaxInt32}, "\x05\x07\xff\xff\xff\xff\x07\x00\x00\x00"},
		{piece.Piece{Sent: []int{0, 1, 127, 128, 500}}, "\x00\x00\x00\x05\x00\x01\x7f\x80\x01\xf4\x03\x00\x00"},
		{piece.Piece{In: make([][]api.Msg, 5)}, "\x00\x00\x00\x00\x05\x00\x00\x00\x00\x00\x00"},
		{piece.Piece{In: [][]api.Msg{messages(12, 1283)}}, "\x00\x00\x00\x00\x01\x02\x01\x02\x80\x01\x03\x00"},
		{piece.Piece{Out: make([][]int, 5)}, "\x00\x00\x00\x00\x00\x05\x00\x00\x00\x00\x00"},
		{piece.Piece{Out: [][]int{{0, 1, 2, 3}, {3}}}, "\x00\x00\x00\x00\x00\x02\x04\x00\x01\x02\x03\x01\x03"},
		{piece.Piece{Out: [][]int{make([]int, 128)}}, "\x00\x00\x00\x00\x00\x01\x80\x01" + strings.Repeat("\x00", 128)},
		{some(), "\x01\x02\xac\x02\x03\x03\x00\xf4\x03\x03\x03\x01\x01\x03\x00\xf4\x03\x03\x00\x01\x02\x00\x03\x03\x03\x00\x03\x00\x01\x01"},
	} {
		if s, e := piece.Encode(x.p); s != x.s || e != api.OK {
			t.Errorf("%d: %q, %d, not %q", i, s, e, x.s)
		}
		if p, e := piece.Decode(x.s); e != api.OK || !equal(p, x.p) {
			t.Errorf("%d: %v, %d", i, p, e)
		}
	}
	may(t, most())
}

func TestP62DecodeOfParts(t *testing.T) {
	for _, p := range []piece.Piece{{}, some(), {Node: 5, State: 7, Steps: math.MaxInt32, Sent: []int{500}}, {Out: [][]int{make([]int, 500)}}, {In: most().In[:1]}} {
		s, _ := piece.Encode(p)
		for cut := range len(s) {
			isNone(t, s[:cut])
		}
		for _, behind := range []string{"\x00", "\x01", "\x80", "\x80\x00", "\xff\xff\xff\xff\x08", s} {
			isNone(t, s+behind)
		}
		isNone(t, "\x09"+s)
		isNone(t, "\x80"+s)
	}
}

func TestP62DecodeWrong(t *testing.T) {
	for _, s := range []string{
		"", "\x00", "\x80", "\xff\xff\xff\xff\xff",
		"\x80\x00\x00\x00\x00\x00\x00", "\x00\x00\x80\x00\x00\x00\x00", "\x00\x00\x00\x00\x00\x80\x00", "\x00\x00\x00\x01\x81\x00\x00\x00", // not the fewest bytes
		"\x00\x00\xff\xff\xff\xff\x08\x00\x00\x00", "\x00\x00\xff\xff\xff\xff\xff\x00\x00\x00", "\x00\x00\x00\x00\x00\x80", // no numbers
		"\x06\x00\x00\x00\x00\x00", "\x00\x08\x00\x00\x00\x00", "\x80\x01\x00\x00\x00\x00\x00",
		"\x00\x00\x00\x01\xf5\x03\x00\x00", "\x00\x00\x00\x06\x00\x00\x00\x00\x00\x00\x00\x00", "\x00\x00\x00\x02\x00\x00\x00",
		"\x00\x00\x00\x00\x06\x00\x00\x00\x00\x00\x00\x00", "\x00\x00\x00\x00\x01\x01\x00\x00\x00", "\x00\x00\x00\x00\x01\x01\xf5\x03\x00\x00", "\x00\x00\x00\x00\x01\x01\x01\x04\x00", "\x00\x00\x00\x00\x01\x02\x01\x00\x01\x00\x00", "\x00\x00\x00\x00\x01\x02\x02\x00\x01\x00\x00", "\x00\x00\x00\x00\x01\x02\x01\x00\x00",
		"\x00\x00\x00\x00\x00\x06\x00\x00\x00\x00\x00\x00", "\x00\x00\x00\x00\x00\x01\x01\x04", "\x00\x00\x00\x00\x00\x01\x02\x01", "\x00\x00\x00\x00\x00\x02\x00", "\x00\x00\x00\x00\x00\x01",
		"\x00\x00\x00\x00\x00\x01\xf5\x03" + strings.Repeat("\x00", 501), "\x00\x00\x00\x00\x01\xf5\x03" + strings.Repeat("\x01\x00", 501) + "\x00",
	} {
		isNone(t, s)
	}
}

// TestP62DecodeOfMuch: counts that are great, and bytes that are many, are told of at once.
func TestP62DecodeOfMuch(t *testing.T) {
	for ahead := 3; ahead <= 7; ahead++ {
		for _, n := range []int{6, 501, 1 << 20, word.Max} {
			isNone(t, strings.Repeat("\x00", min(ahead, 5))+strings.Repeat("\x01", max(ahead-5, 0))+word.Put(n))
			isNone(t, strings.Repeat("\x00", ahead)+word.Put(n)+"\x00\x00\x00")
			isNone(t, strings.Repeat("\x00", 4)+"\x01"+word.Put(n)+"\x01\x00\x00")
		}
	}
	for _, s := range []string{"\x00", "\x01", "\x80", "\xff\xff\xff\xff\x07"} {
		isNone(t, strings.Repeat(s, 20000000))
	}
}

// decodesAs holds what is told of bytes against what their numbers make.
func decodesAs(t *testing.T, s string) bool {
	t.Helper()
	p, e := piece.Decode(s)
	l, e2 := word.All(s)
	want, ok := parsed(l)
	if ok = ok && e2 == api.OK; !ok {
		want = piece.Piece{}
	}
	if ok != (e == api.OK) || !ok && e != api.ErrForm || !equal(p, want) {
		t.Fatalf("Decode(%q) = %v, %d, not %v, %v", s, p, e, want, ok)
	}
	if u, e := piece.Encode(p); ok && (u != s || e != api.OK || !piece.Right(p)) {
		t.Fatalf("Encode(%v) = %q, %d, not %q", p, u, e, s)
	}
	return ok
}

// TestP63BytesOfOnePieceOrNone goes through all strings of few bytes, of those that make a difference.
func TestP63BytesOfOnePieceOrNone(t *testing.T) {
	count := 0
	var grow func(s []byte)
	grow = func(s []byte) {
		if decodesAs(t, string(s)) {
			count++
		}
		if len(s) == 11 {
			return
		}
		for _, b := range []byte{0, 1, 2, 4, 0x80} {
			if len(s) > 2 || b == 0 { // node, state and steps are asked elsewhere
				grow(append(s, b))
			}
		}
	}
	grow(make([]byte, 0, 11))
	if count < 500 {
		t.Error("few pieces:", count)
	}
}

func TestP63DecodedAsEncoded(t *testing.T) {
	r := rand.New(rand.NewSource(63))
	seen := map[string]piece.Piece{}
	for range 4000 {
		p := anyPiece(r)
		may(t, p)
		s, _ := piece.Encode(p)
		if q, was := seen[s]; was && !equal(p, q) {
			t.Fatal("two pieces of the same bytes:", p, q)
		}
		seen[s] = p
	}
	if len(seen) < 2000 {
		t.Error("few pieces:", len(seen))
	}
}

// TestP63OfAny spoils numbers, and bytes, of pieces.
func TestP63OfAny(t *testing.T) {
	r := rand.New(rand.NewSource(630))
	var count [2]int
	for range 20000 {
		l := flat(anyPiece(r))
		at := r.Intn(len(l))
		switch r.Intn(4) {
		case 0:
			l[at] = []int{0, 1, 2, 3, 4, 5, 6, 7, 8, 500, 501, math.MaxInt32}[r.Intn(12)]
		case 1:
			l = slices.Delete(l, at, at+1)
		case 2:
			l = slices.Insert(l, at, r.Intn(9))
		case 3:
			l[at] = max(l[at]+r.Intn(3)-1, 0)
		}
		s := []byte(word.Puts(l))
		if r.Intn(4) == 0 && len(s) > 0 {
			s[r.Intn(len(s))] ^= 1 << r.Intn(8)
		}
		if decodesAs(t, string(s)) {
			count[1]++
		} else {
			count[0]++
		}
	}
	if min(count[0], count[1]) < 2000 {
		t.Error("few of one kind:", count)
	}
}

// rooms are where the lists of a piece lie, with the room behind each: the bytes from the first to the last one.
func rooms(p piece.Piece) (l [][2]uintptr) {
	l = append(l, roomOf(p.Sent), roomOf(p.In), roomOf(p.Out))
	for _, x := range p.In[:cap(p.In)] {
		l = append(l, roomOf(x))
	}
	for _, x := range p.Out[:cap(p.Out)] {
		l = append(l, roomOf(x))
	}
	return slices.DeleteFunc(l, func(x [2]uintptr) bool { return x[0] == x[1] })
}

func roomOf[T any](l []T) [2]uintptr {
	from := uintptr(unsafe.Pointer(unsafe.SliceData(l)))
	var x T
	return [2]uintptr{from, from + uintptr(cap(l))*unsafe.Sizeof(x)}
}

// apart holds that none of these pieces' lists shares memory with another one.
func apart(t *testing.T, l ...piece.Piece) {
	t.Helper()
	var all [][2]uintptr
	for _, p := range l {
		all = append(all, rooms(p)...)
	}
	slices.SortFunc(all, func(a, b [2]uintptr) int { return int(a[0]) - int(b[0]) })
	for i := 1; i < len(all); i++ {
		if all[i][0] < all[i-1][1] {
			t.Fatal("shared", l)
		}
	}
}

// roomy is a piece whose lists have room behind them that others have, too, and what they all have.
func roomy() (piece.Piece, []int, []api.Msg, [][]api.Msg, [][]int) {
	numbers := []int{3, 1, 77, 2, 0, 77, 1, 77}
	all := messages(11, 30, 991, 20, 992)
	in := [][]api.Msg{all[:2], all[2:2], all[3:4], messages(993)}
	out := [][]int{numbers[3:5], numbers[6:7], numbers[7:7], {994}}
	return piece.Piece{Node: 3, Steps: 9, Sent: numbers[:2], In: in[:3], Out: out[:3]}, numbers, all, in, out
}

func TestR4ListsAreKept(t *testing.T) {
	p, numbers, all, in, out := roomy()
	for _, spoil := range []int{0, 7} { // it may be, and it may not
		p.Node = spoil
		was := copyOf(p)
		s, _ := piece.Encode(p)
		piece.Decode(s)
		q := piece.Own(p)
		if piece.Right(p) != (spoil == 0) || !piece.Same(p, q) || !equal(p, was) || !equal(q, was) {
			t.Error(p, q)
		}
		if !slices.Equal(numbers, []int{3, 1, 77, 2, 0, 77, 1, 77}) || !slices.Equal(all, messages(11, 30, 991, 20, 992)) || !slices.Equal(in[3], messages(993)) || !slices.Equal(out[3], []int{994}) {
			t.Error(numbers, all, in, out)
		}
	}
}

func TestR4OwnIsNewMemory(t *testing.T) {
	few, _, _, _, _ := roomy()
	wrong := piece.Piece{Node: -1, Sent: make([]int, 9, 20), In: slices.Repeat([][]api.Msg{messages(0, 0)}, 8), Out: [][]int{{9, -9}}}
	shared := piece.Piece{Sent: []int{1, 2, 3}}
	shared.Out = [][]int{shared.Sent, shared.Sent, shared.Sent[:1]}
	m := messages(10, 20)
	shared.In = [][]api.Msg{m, m[1:], m}
	for _, p := range []piece.Piece{{}, few, some(), most(), wrong, shared, {Sent: make([]int, 0, 4), In: make([][]api.Msg, 0, 4), Out: [][]int{make([]int, 0, 4)}}} {
		was := copyOf(p)
		a, b := piece.Own(p), piece.Own(p)
		apart(t, a, b)
		for _, x := range rooms(p) {
			for _, y := range append(rooms(a), rooms(b)...) {
				if x[0] < y[1] && y[0] < x[1] {
					t.Fatal("shared", p)
				}
			}
		}
		for _, n := range numbersOf(&a) {
			*n = -7
		}
		clear(a.In)
		clear(a.Out)
		if !equal(p, was) || !equal(b, was) || !piece.Same(b, p) {
			t.Error(p, b)
		}
		for _, n := range numbersOf(&p) {
			*n = -7
		}
		if !equal(b, was) {
			t.Error(b)
		}
	}
}

func TestR4DecodeIsNewMemory(t *testing.T) {
	for _, p := range []piece.Piece{{}, some(), most(), {In: make([][]api.Msg, 5), Out: make([][]int, 5)}} {
		s, _ := piece.Encode(p)
		a, _ := piece.Decode(s)
		b, _ := piece.Decode(s)
		apart(t, p, a, b)
		for _, n := range numbersOf(&a) {
			*n = -7
		}
		if c, e := piece.Decode(s); e != api.OK || !equal(b, p) || !equal(c, p) {
			t.Error(b, c, e)
		}
	}
}

func FuzzP63(f *testing.F) {
	for _, p := range []piece.Piece{{}, {Node: 5, State: 7, Steps: 300, Sent: []int{500}}, some()} {
		s, _ := piece.Encode(p)
		f.Add(s)
	}
	f.Fuzz(func(t *testing.T, s string) {
		decodesAs(t, s)
	})
}
