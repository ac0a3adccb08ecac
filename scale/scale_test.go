package scale_test

import (
	"math"
	"math/big"
	"slices"
	"testing"

	"cameo/api"
	"cameo/scale"
)

// with is the number of these bits.
func with(bits uint64) float64 {
	return math.Float64frombits(bits)
}

var (
	inf    = math.Inf(1)
	minus0 = math.Copysign(0, -1)
	tiny   = math.SmallestNonzeroFloat64
	normal = with(1 << 52) // the least that is not subnormal
)

// ordered are numbers in the order of all, each with its kind: the edges of each kind among them.
var ordered = []struct {
	x    float64
	kind int
}{
	{with(0xffffffffffffffff), 0}, {with(0xfffc000000000000), 0}, {with(0xfff8000000000001), 0}, {with(0xfff8000000000000), 0}, {with(0xfff4000000000000), 0}, {with(0xfff0000000000001), 0},
	{-inf, 1},
	{-math.MaxFloat64, 2}, {-1e300, 2}, {-1 << 53, 2}, {-2.5, 2}, {with(0xbff0000000000001), 2}, {-1, 2}, {-0.5, 2}, {-1e-300, 2}, {-normal, 2}, {math.Nextafter(-normal, 0), 2}, {-2 * tiny, 2}, {-tiny, 2},
	{minus0, 3},
	{0, 4},
	{tiny, 5}, {2 * tiny, 5}, {math.Nextafter(normal, 0), 5}, {normal, 5}, {1e-300, 5}, {0.5, 5}, {1, 5}, {with(0x3ff0000000000001), 5}, {2.5, 5}, {1 << 53, 5}, {1e300, 5}, {math.MaxFloat64, 5},
	{inf, 6},
	{with(0x7ff0000000000001), 0}, {with(0x7ff4000000000000), 0}, {with(0x7ff8000000000000), 0}, {with(0x7ff8000000000001), 0}, {with(0x7ffc000000000000), 0}, {with(0x7fffffffffffffff), 0},
}

// numbers are those of ordered.
func numbers() []float64 {
	var l []float64
	for _, o := range ordered {
		l = append(l, o.x)
	}
	return l
}

// turned is l from its end on.
func turned[T any](l []T) []T {
	l = slices.Clone(l)
	slices.Reverse(l)
	return l
}

// chance hands out numbers of any bits, the same ones in each run.
func chance() func() float64 {
	n := uint64(1)
	return func() float64 {
		n ^= n << 13
		n ^= n >> 7
		n ^= n << 17
		return with(n)
	}
}

func TestP21Kind(t *testing.T) {
	for _, o := range ordered {
		if k := scale.Kind(o.x); k != o.kind {
			t.Errorf("Kind(%v, bits %x) = %d, not %d", o.x, math.Float64bits(o.x), k, o.kind)
		}
	}
}

func TestP21KindOfAny(t *testing.T) {
	next := chance()
	for range 20000 {
		x := next()
		want := 4
		switch {
		case x != x:
			want = 0
		case x < -math.MaxFloat64:
			want = 1
		case x < 0:
			want = 2
		case x > math.MaxFloat64:
			want = 6
		case x > 0:
			want = 5
		case math.Float64bits(x) != 0:
			want = 3
		}
		if k := scale.Kind(x); k != want {
			t.Fatalf("Kind(%v) = %d, not %d", x, k, want)
		}
	}
}

func TestP22CapOfWhole(t *testing.T) {
	for n := 1; n <= 40; n++ {
		x := float64(n)
		want := min(n, api.MaxCap)
		for _, part := range []float64{x, math.Nextafter(x, inf), x + 0.25, x + 0.5, x + 0.75, math.Nextafter(x+1, 0)} {
			if c, e := scale.Cap(part); c != want || e != api.OK {
				t.Errorf("Cap(%v) = %d, %d, not %d", part, c, e, want)
			}
		}
	}
}

func TestP22CapOfGreat(t *testing.T) {
	for _, x := range []float64{1 << 31, 1<<53 + 2, 1 << 62, 1 << 63, 1 << 64, 1e300, math.MaxFloat64, inf} {
		if c, e := scale.Cap(x); c != api.MaxCap || e != api.OK {
			t.Errorf("Cap(%v) = %d, %d", x, c, e)
		}
	}
}

func TestP22CapWrong(t *testing.T) {
	wrong := []float64{math.Nextafter(1, 0), 0.99, 0.5, -1 << 63, -1 << 64, -1.5, -20}
	for _, o := range ordered {
		if o.kind == 0 || o.x < 1 {
			wrong = append(wrong, o.x)
		}
	}
	for _, x := range wrong {
		if c, e := scale.Cap(x); c != 0 || e != api.ErrArg {
			t.Errorf("Cap(%v) = %d, %d", x, c, e)
		}
	}
}

func TestP22Ratio(t *testing.T) {
	for _, x := range []struct {
		a, b int
		want float64
	}{
		{1, 4, 0.25}, {3, 4, 0.75}, {-3, 4, -0.75}, {3, -4, -0.75}, {-3, -4, 0.75}, {7, 7, 1}, {1, 3, 1.0 / 3}, {20, 6, 10.0 / 3}, {0, 7, 0}, {0, -7, minus0},
		{1, 0, inf}, {5, 0, inf}, {math.MaxInt, 0, inf}, {-1, 0, -inf}, {-5, 0, -inf}, {math.MinInt, 0, -inf},
		{math.MaxInt, 1, 1 << 63}, {math.MinInt, 1, -1 << 63}, {math.MinInt, -1, 1 << 63}, {math.MaxInt, math.MinInt, -1}, {1, math.MinInt, -1.0 / (1 << 63)},
		{1<<53 + 1, 1, 1 << 53}, {1<<53 + 3, 1, 1<<53 + 4}, {1<<53 + 1, 1 << 53, 1}, {1 << 53, 1<<53 + 1, 1}, {0, math.MinInt, minus0}, {0, math.MaxInt, 0},
	} {
		if r := scale.Ratio(x.a, x.b); math.Float64bits(r) != math.Float64bits(x.want) {
			t.Errorf("Ratio(%d, %d) = %v, not %v", x.a, x.b, r, x.want)
		}
	}
}

// TestP22RatioIsRounded: of small numbers the ratio is the float that is next to the true one.
func TestP22RatioIsRounded(t *testing.T) {
	for a := -60; a <= 60; a++ {
		for b := -60; b <= 60; b++ {
			if b == 0 {
				continue
			}
			want, _ := big.NewRat(int64(a), int64(b)).Float64()
			if r := scale.Ratio(a, b); r != want {
				t.Fatalf("Ratio(%d, %d) = %v, not %v", a, b, r, want)
			}
		}
	}
}

// TestP22RatioIsRoundedTwice: what is divided are floats, not the numbers that they were of.
func TestP22RatioIsRoundedTwice(t *testing.T) {
	unlike := 0
	for i := range 1000 {
		a, b := 1<<53+2*i+1, i+3
		want, _ := new(big.Rat).Quo(new(big.Rat).SetFloat64(float64(a)), new(big.Rat).SetFloat64(float64(b))).Float64()
		if r := scale.Ratio(a, b); r != want {
			t.Fatalf("Ratio(%d, %d) = %v, not %v", a, b, r, want)
		}
		if once, _ := big.NewRat(int64(a), int64(b)).Float64(); once != want {
			unlike++
		}
	}
	if unlike == 0 {
		t.Error("no ratio that tells the two ways apart")
	}
}

// TestP22RatioOfNothing: 0 by 0 is no number, and stands at the same place in the order on each machine (R5).
func TestP22RatioOfNothing(t *testing.T) {
	r := scale.Ratio(0, 0)
	if scale.Kind(r) != 0 || !scale.Less(inf, r) {
		t.Errorf("Ratio(0, 0) = %v, bits %x", r, math.Float64bits(r))
	}
}

func TestP23Less(t *testing.T) {
	l := numbers()
	for i, a := range l {
		for k, b := range l {
			if got := scale.Less(a, b); got != (i < k) {
				t.Errorf("Less(%v, %v) = %v, of the places %d and %d", a, b, got, i, k)
			}
		}
	}
}

// ahead is the order of all in the document's own words.
func ahead(a, b float64) bool {
	x, y := math.Float64bits(a), math.Float64bits(b)
	switch aMinus, bMinus := x>>63 == 1, y>>63 == 1; {
	case aMinus != bMinus:
		return aMinus
	case aMinus:
		return x > y
	}
	return x < y
}

func TestP23LessOfAny(t *testing.T) {
	next := chance()
	for range 20000 {
		a, b := next(), next()
		if scale.Less(a, b) != ahead(a, b) || scale.Less(b, a) != ahead(b, a) || scale.Less(a, a) {
			t.Fatalf("Less of bits %x, %x", math.Float64bits(a), math.Float64bits(b))
		}
	}
}

func TestP23Rank(t *testing.T) {
	nan, minusNaN := with(0x7ff8000000000001), with(0xfff8000000000001)
	for _, x := range []struct {
		l    []float64
		want []int
	}{
		{nil, nil}, {[]float64{}, nil}, {[]float64{7}, []int{0}}, {[]float64{nan}, []int{0}},
		{[]float64{2, -inf, 0, minus0}, []int{1, 3, 2, 0}},
		{[]float64{1, 1, 1}, []int{0, 1, 2}}, {[]float64{nan, nan, nan}, []int{0, 1, 2}}, {[]float64{0, minus0, 0, minus0}, []int{1, 3, 0, 2}},
		{[]float64{3, 2, 1, 0}, []int{3, 2, 1, 0}}, {[]float64{2, 1, 2, 1, 2}, []int{1, 3, 0, 2, 4}},
		{[]float64{nan, inf, minusNaN, -inf, nan, minusNaN}, []int{2, 5, 3, 1, 0, 4}},
		{[]float64{with(0x7ff8000000000002), nan, with(0xfff8000000000002), minusNaN}, []int{2, 3, 1, 0}},
	} {
		if r := scale.Rank(x.l); !slices.Equal(r, x.want) {
			t.Errorf("Rank(%v) = %d, not %d", x.l, r, x.want)
		}
	}
}

func TestP23RankOfOrdered(t *testing.T) {
	var up []int
	for i := range ordered {
		up = append(up, i)
	}
	if r := scale.Rank(numbers()); !slices.Equal(r, up) {
		t.Errorf("Rank of numbers in order = %d", r)
	}
	if r := scale.Rank(turned(numbers())); !slices.Equal(r, turned(up)) {
		t.Errorf("Rank of numbers in the other order = %d", r)
	}
}

// checkRank holds a rank against its two rules: it has each place once, and no two that stand the wrong way round.
func checkRank(t *testing.T, l []float64) {
	r := scale.Rank(l)
	sorted := slices.Sorted(slices.Values(r))
	for i, p := range sorted {
		if i != p {
			t.Fatalf("the places %d", r)
		}
	}
	if len(r) != len(l) {
		t.Fatalf("%d places of %d numbers", len(r), len(l))
	}
	for i := 1; i < len(r); i++ {
		a, b := r[i-1], r[i]
		same := math.Float64bits(l[a]) == math.Float64bits(l[b])
		if !same && !ahead(l[a], l[b]) || same && a > b {
			t.Fatalf("place %d ahead of %d: %v, %v", a, b, l[a], l[b])
		}
	}
}

func TestP23RankOfMany(t *testing.T) {
	next := chance()
	for size := range 70 {
		var any, few []float64
		for range size {
			any = append(any, next())
			few = append(few, ordered[math.Float64bits(next())%uint64(len(ordered))].x)
		}
		checkRank(t, any)
		checkRank(t, few)
	}
	l := slices.Repeat([]float64{1, 0, minus0, inf, with(0x7ff8000000000001)}, 2000)
	checkRank(t, l)
	checkRank(t, slices.Repeat([]float64{5}, 5000))
}

func TestP23RankKeepsItsList(t *testing.T) {
	room := []float64{3, minus0, 0, 9}
	scale.Rank(room[:3])
	for i, x := range []float64{3, minus0, 0, 9} {
		if math.Float64bits(room[i]) != math.Float64bits(x) {
			t.Error(room)
		}
	}
}

func TestP23RankIsNewMemory(t *testing.T) {
	l := []float64{3, 1, 2}
	a := scale.Rank(l)
	b := scale.Rank(l)
	clear(a[:cap(a)])
	if !slices.Equal(b, []int{1, 2, 0}) || !slices.Equal(scale.Rank(l), b) {
		t.Error(b)
	}
}

// checkOrder holds two numbers against what follows of the order.
func checkOrder(t *testing.T, a, b float64) {
	t.Helper()
	same := math.Float64bits(a) == math.Float64bits(b)
	one, other := scale.Less(a, b), scale.Less(b, a)
	if one && other || same == (one || other) {
		t.Errorf("Less(%v, %v) = %v, the other way round %v", a, b, one, other)
	}
	if a < b && !one || b < a && !other {
		t.Errorf("Less(%v, %v) = %v is not what < tells", a, b, one)
	}
}

func TestP24JustOneIsAhead(t *testing.T) {
	l := numbers()
	next := chance()
	for range 200 {
		l = append(l, next())
	}
	for _, a := range l {
		for _, b := range l {
			checkOrder(t, a, b)
		}
	}
}

func TestP24AheadOfAhead(t *testing.T) {
	l := numbers()
	next := chance()
	for range 20 {
		l = append(l, next())
	}
	for _, a := range l {
		for _, b := range l {
			for _, c := range l {
				if scale.Less(a, b) && scale.Less(b, c) && !scale.Less(a, c) {
					t.Errorf("%v is ahead of %v, that of %v, but not the first of the last", a, b, c)
				}
			}
		}
	}
}

func FuzzP24(f *testing.F) {
	for i, o := range ordered {
		f.Add(math.Float64bits(o.x), math.Float64bits(ordered[len(ordered)-1-i].x))
		f.Add(math.Float64bits(o.x), math.Float64bits(o.x))
	}
	f.Fuzz(func(t *testing.T, x, y uint64) {
		a, b := with(x), with(y)
		checkOrder(t, a, b)
		checkRank(t, []float64{a, b, b, a})
		if c, e := scale.Cap(a); (e == api.OK) != (a >= 1) || (c == 0) != (e != api.OK) || c < 0 || c > api.MaxCap {
			t.Fatalf("Cap(%v) = %d, %d", a, c, e)
		}
	})
}
