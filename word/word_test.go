package word_test

import (
	"math"
	"slices"
	"strings"
	"testing"
	"unsafe"

	"cameo/api"
	"cameo/word"
)

// spelt are numbers with their bytes: the edges of each length, and what counts as 0 or as Max.
var spelt = []struct {
	n     int
	bytes string
}{
	{math.MinInt, "\x00"}, {-1 << 31, "\x00"}, {-128, "\x00"}, {-1, "\x00"},
	{0, "\x00"}, {1, "\x01"}, {5, "\x05"}, {126, "\x7e"}, {127, "\x7f"},
	{128, "\x80\x01"}, {129, "\x81\x01"}, {255, "\xff\x01"}, {256, "\x80\x02"}, {300, "\xac\x02"}, {1<<14 - 1, "\xff\x7f"},
	{1 << 14, "\x80\x80\x01"}, {1<<21 - 1, "\xff\xff\x7f"},
	{1 << 21, "\x80\x80\x80\x01"}, {1<<28 - 1, "\xff\xff\xff\x7f"},
	{1 << 28, "\x80\x80\x80\x80\x01"}, {1 << 30, "\x80\x80\x80\x80\x04"}, {7 << 28, "\x80\x80\x80\x80\x07"},
	{1<<31 - 2, "\xfe\xff\xff\xff\x07"}, {1<<31 - 1, "\xff\xff\xff\xff\x07"},
	{1 << 31, "\xff\xff\xff\xff\x07"}, {1<<31 + 1, "\xff\xff\xff\xff\x07"}, {1 << 32, "\xff\xff\xff\xff\x07"}, {math.MaxInt, "\xff\xff\xff\xff\x07"},
}

// wrong are bytes at whose beginning no number stands, with the first error.
var wrong = []struct {
	bytes string
	e     api.Errno
}{
	{"", api.ErrShort}, {"\x80", api.ErrShort}, {"\xff", api.ErrShort}, {"\x80\x80", api.ErrShort}, {"\xff\xff\xff", api.ErrShort}, {"\x80\x80\x80\x80", api.ErrShort}, {"\xff\xff\xff\xff", api.ErrShort},
	{"\x80\x00", api.ErrForm}, {"\xff\x00", api.ErrForm}, {"\x80\x80\x00", api.ErrForm}, {"\xff\xff\xff\x00", api.ErrForm}, {"\x80\x80\x80\x80\x00", api.ErrForm}, {"\xff\xff\xff\xff\x00", api.ErrForm}, {"\x81\x00\x01", api.ErrForm},
	{"\x80\x80\x80\x80\x08", api.ErrBig}, {"\xff\xff\xff\xff\x08", api.ErrBig}, {"\x80\x80\x80\x80\x10", api.ErrBig}, {"\xff\xff\xff\xff\x7f", api.ErrBig},
	{"\x80\x80\x80\x80\x80", api.ErrBig}, {"\x80\x80\x80\x80\x81", api.ErrBig}, {"\xff\xff\xff\xff\x87", api.ErrBig}, {"\xff\xff\xff\xff\xff", api.ErrBig}, {"\x80\x80\x80\x80\x80\x00", api.ErrBig}, {"\x80\x80\x80\x80\x80\x01", api.ErrBig},
}

// cut is what a number counts as.
func cut(n int) int {
	return min(max(n, 0), word.Max)
}

// samples are numbers all over the range, those beside each power of 2 among them.
func samples() []int {
	l := []int{0, word.Max}
	for n := 1; n <= word.Max; n *= 2 {
		l = append(l, n-1, n, min(n+1, word.Max))
	}
	for n := 3; n <= word.Max; n += n/50 + 1 {
		l = append(l, n)
	}
	slices.Sort(l)
	return slices.Compact(l)
}

func TestP11Max(t *testing.T) {
	if word.Max != math.MaxInt32 {
		t.Fatal(word.Max)
	}
}

func TestP11Put(t *testing.T) {
	for _, x := range spelt {
		if s := word.Put(x.n); s != x.bytes {
			t.Errorf("Put(%d) = %q, not %q", x.n, s, x.bytes)
		}
	}
}

func TestP11PutIsShort(t *testing.T) {
	for _, n := range samples() {
		s := word.Put(n)
		fewest := 1
		for n>>(7*fewest) > 0 {
			fewest++
		}
		if len(s) != fewest {
			t.Errorf("Put(%d) has %d bytes, not %d", n, len(s), fewest)
		}
		for i := range len(s) {
			if s[i]>>7 == 1 != (i < len(s)-1) || int(s[i]&0x7f) != n>>(7*i)&0x7f {
				t.Errorf("Put(%d) = %q: byte %d", n, s, i)
			}
		}
	}
}

func TestP11Get(t *testing.T) {
	for _, x := range spelt {
		for _, ahead := range []string{"", "\x01", "\x80", "\xff\xff\xff\xff\xff"} {
			for _, behind := range []string{"", "\x00", "\x80", "\xff\xff\xff\xff\xff"} {
				at := len(ahead)
				n, to, e := word.Get(ahead+x.bytes+behind, at)
				if n != cut(x.n) || to != at+len(x.bytes) || e != api.OK {
					t.Errorf("Get(%q, %d) = %d, %d, %d", ahead+x.bytes+behind, at, n, to, e)
				}
			}
		}
	}
}

func TestP11GetWrong(t *testing.T) {
	for _, x := range wrong {
		for _, ahead := range []string{"", "\x00", "\x80\x80", "abc"} {
			n, to, e := word.Get(ahead+x.bytes, len(ahead))
			if n != 0 || to != 0 || e != x.e {
				t.Errorf("Get(%q, %d) = %d, %d, %d, not error %d", ahead+x.bytes, len(ahead), n, to, e, x.e)
			}
		}
	}
}

// TestP11GetFirstFault: what stands behind the byte that is wrong makes no difference.
func TestP11GetFirstFault(t *testing.T) {
	for _, x := range wrong {
		if x.e == api.ErrShort {
			continue
		}
		for _, behind := range []string{"\x00", "\x01", "\x80", "\xff\xff"} {
			if n, to, e := word.Get(x.bytes+behind, 0); n != 0 || to != 0 || e != x.e {
				t.Errorf("Get(%q, 0) = %d, %d, %d, not error %d", x.bytes+behind, n, to, e, x.e)
			}
		}
	}
}

func TestP11GetPlaces(t *testing.T) {
	for _, x := range []struct {
		s  string
		at int
		n  int
		to int
		e  api.Errno
	}{
		{"", math.MinInt, 0, 0, api.ErrArg}, {"", -1, 0, 0, api.ErrArg}, {"", 0, 0, 0, api.ErrShort}, {"", 1, 0, 0, api.ErrArg}, {"", math.MaxInt, 0, 0, api.ErrArg},
		{"ab", -1, 0, 0, api.ErrArg}, {"ab", 0, 'a', 1, api.OK}, {"ab", 1, 'b', 2, api.OK}, {"ab", 2, 0, 0, api.ErrShort}, {"ab", 3, 0, 0, api.ErrArg}, {"ab", math.MaxInt, 0, 0, api.ErrArg},
		{"\xac\x02", 0, 300, 2, api.OK}, {"\xac\x02", 1, 2, 2, api.OK}, {"\x80\x00", 1, 0, 2, api.OK}, {"\x80\x00", 3, 0, 0, api.ErrArg},
	} {
		if n, to, e := word.Get(x.s, x.at); n != x.n || to != x.to || e != x.e {
			t.Errorf("Get(%q, %d) = %d, %d, %d", x.s, x.at, n, to, e)
		}
	}
}

func TestP12Puts(t *testing.T) {
	for _, x := range []struct {
		l []int
		s string
	}{
		{nil, ""}, {[]int{}, ""}, {[]int{0}, "\x00"}, {[]int{0, 0}, "\x00\x00"}, {[]int{300, 5}, "\xac\x02\x05"},
		{[]int{-7, math.MaxInt, 128}, "\x00\xff\xff\xff\xff\x07\x80\x01"},
	} {
		if s := word.Puts(x.l); s != x.s {
			t.Errorf("Puts(%d) = %q", x.l, s)
		}
	}
	var want string
	for _, n := range samples() {
		want += word.Put(n)
	}
	if word.Puts(samples()) != want {
		t.Error("Puts is not Put of each")
	}
}

func TestP12PutsKeepsItsList(t *testing.T) {
	room := []int{-1, 200, math.MaxInt, 9}
	word.Puts(room[:3])
	if !slices.Equal(room, []int{-1, 200, math.MaxInt, 9}) {
		t.Error(room)
	}
}

func TestP12All(t *testing.T) {
	for _, l := range [][]int{nil, {0}, {0, 0, 0}, {3, 200, 0}, {word.Max, 1, word.Max}, {127, 128, 16383, 16384}, samples()} {
		if got, e := word.All(word.Puts(l)); e != api.OK || !slices.Equal(got, l) {
			t.Errorf("All of Puts(%d) = %d, %d", l, got, e)
		}
	}
}

func TestP12AllWrong(t *testing.T) {
	for _, x := range wrong {
		if x.bytes == "" {
			continue
		}
		for _, ahead := range []string{"", "\x01", word.Puts([]int{7, 0, word.Max})} {
			if l, e := word.All(ahead + x.bytes); len(l) != 0 || e != x.e {
				t.Errorf("All(%q) = %d, %d, not error %d", ahead+x.bytes, l, e, x.e)
			}
		}
	}
	for _, x := range []struct {
		s string
		e api.Errno
	}{
		{"\x80\x00\x80", api.ErrForm}, {"\x01\x80\x00\xff\xff\xff\xff\x08", api.ErrForm}, {"\xff\xff\xff\xff\x08\x80\x00", api.ErrBig}, {"\x01\xac", api.ErrShort},
	} {
		if l, e := word.All(x.s); len(l) != 0 || e != x.e {
			t.Errorf("All(%q) = %d, %d, not error %d", x.s, l, e, x.e)
		}
	}
}

func TestP12AllIsNewMemory(t *testing.T) {
	s := word.Puts([]int{1, 2, 3})
	a, _ := word.All(s)
	b, _ := word.All(s)
	clear(a[:cap(a)])
	if !slices.Equal(b, []int{1, 2, 3}) {
		t.Error(b)
	}
}

func TestP13Text(t *testing.T) {
	long := strings.Repeat("\x00\xff", 100)
	for _, x := range []struct{ s, text string }{
		{"", "\x00"}, {"a", "\x01a"}, {"\x00", "\x01\x00"}, {"\xff\xfe", "\x02\xff\xfe"}, {"é", "\x02é"},
		{long[:127], "\x7f" + long[:127]}, {long[:128], "\x80\x01" + long[:128]}, {long, "\xc8\x01" + long},
	} {
		if s := word.Text(x.s); s != x.text {
			t.Errorf("Text(%q) = %q", x.s, s)
		}
	}
}

func TestP13Take(t *testing.T) {
	long := strings.Repeat("xyz", 70000)
	for _, x := range []struct {
		s        string
		at, most int
		t        string
		to       int
	}{
		{"\x00", 0, 0, "", 1}, {"\x00", 0, -1, "", 1}, {"\x00", 0, math.MinInt, "", 1}, {"\x00", 0, math.MaxInt, "", 1},
		{"\x02abc", 0, 2, "ab", 3}, {"\x02abc", 0, 9, "ab", 3}, {"\x02abc", 0, math.MaxInt, "ab", 3}, {"\x02ab", 0, 2, "ab", 3},
		{"z\x02\x00\xff", 1, 2, "\x00\xff", 4}, {"\x01\x01\x01", 1, 1, "\x01", 3},
		{word.Text(long), 0, len(long), long, len(long) + 3}, {"z" + word.Text(long) + "z", 1, word.Max, long, len(long) + 4},
	} {
		if s, to, e := word.Take(x.s, x.at, x.most); s != x.t || to != x.to || e != api.OK {
			t.Errorf("Take(%.20q, %d, %d) = %.20q, %d, %d", x.s, x.at, x.most, s, to, e)
		}
	}
}

func TestP13TakeWrong(t *testing.T) {
	for _, x := range []struct {
		s        string
		at, most int
		e        api.Errno
	}{
		{"\x01a", -1, 9, api.ErrArg}, {"\x01a", 3, 9, api.ErrArg}, {"\x01a", math.MaxInt, -1, api.ErrArg}, {"\x01a", math.MinInt, 0, api.ErrArg},
		{"", 0, 9, api.ErrShort}, {"\x01a", 2, 9, api.ErrShort},
		{"\x01a", 0, 0, api.ErrBig}, {"\x01a", 0, -1, api.ErrBig}, {"\x01a", 0, math.MinInt, api.ErrBig}, {"\x03abc", 0, 2, api.ErrBig},
		{"\x05a", 0, 4, api.ErrBig}, {"\x05a", 0, 5, api.ErrShort}, {"\x01", 0, 1, api.ErrShort}, {"\x02a", 0, math.MaxInt, api.ErrShort},
		{word.Put(word.Max), 0, word.Max - 1, api.ErrBig}, {word.Put(word.Max), 0, word.Max, api.ErrShort}, {word.Put(word.Max) + "abc", 0, math.MaxInt, api.ErrShort},
	} {
		if s, to, e := word.Take(x.s, x.at, x.most); s != "" || to != 0 || e != x.e {
			t.Errorf("Take(%q, %d, %d) = %q, %d, %d, not error %d", x.s, x.at, x.most, s, to, e, x.e)
		}
	}
	for _, x := range wrong {
		for _, most := range []int{-1, 0, 9, math.MaxInt} {
			if s, to, e := word.Take("z"+x.bytes, 1, most); s != "" || to != 0 || e != x.e {
				t.Errorf("Take(%q, 1, %d) = %q, %d, %d, not error %d", "z"+x.bytes, most, s, to, e, x.e)
			}
		}
	}
}

// TestP13TakeIsNewMemory: bytes that are told share no memory with those that they were taken of.
func TestP13TakeIsNewMemory(t *testing.T) {
	s := strings.Clone("\x03abcd")
	got, _, _ := word.Take(s, 0, 9)
	if got != "abc" || unsafe.StringData(got) == unsafe.StringData(s[1:]) {
		t.Error("shared", got)
	}
}

func TestP13TextsInARow(t *testing.T) {
	l := []string{"", "a", strings.Repeat("\x80", 127), strings.Repeat("\x00", 128), "\xff\xff\xff\xff\xff", strings.Repeat("ab", 9000)}
	var s string
	for _, x := range l {
		s += word.Text(x)
	}
	at := 0
	for _, x := range l {
		got, to, e := word.Take(s, at, len(x))
		if got != x || e != api.OK || to != at+len(word.Text(x)) {
			t.Fatal(at, len(x), to, e)
		}
		at = to
	}
	if at != len(s) {
		t.Error("left", len(s)-at)
	}
}

func TestP14GotAsItWasPut(t *testing.T) {
	for _, n := range append(samples(), -1, math.MinInt, word.Max+1, math.MaxInt) {
		for _, x := range [][2]string{{"", ""}, {"\x80\xff", ""}, {"", "\x00"}, {"\x05", "\xff\x80"}, {"\x80\x80\x80\x80\x80", "\x80\x00"}} {
			got, to, e := word.Get(x[0]+word.Put(n)+x[1], len(x[0]))
			if got != cut(n) || to != len(x[0])+len(word.Put(n)) || e != api.OK {
				t.Fatal(n, x, got, to, e)
			}
		}
	}
}

// check holds one string against what has to be so of each: what is got is what is put as just these bytes, or there is nothing.
func check(t *testing.T, s string) {
	n, to, e := word.Get(s, 0)
	switch {
	case e == api.OK && (n < 0 || n > word.Max || to < 1 || to > len(s) || word.Put(n) != s[:to]):
		t.Fatalf("Get(%q, 0) = %d, %d", s, n, to)
	case e != api.OK && (n != 0 || to != 0):
		t.Fatalf("Get(%q, 0) = %d, %d, %d", s, n, to, e)
	}
}

func TestP14BytesOfOneNumberOrNone(t *testing.T) {
	check(t, "")
	for a := range 256 {
		check(t, string([]byte{byte(a)}))
		for b := range 256 {
			check(t, string([]byte{byte(a), byte(b)}))
		}
	}
	edges := []byte{0x00, 0x01, 0x07, 0x08, 0x0f, 0x7f, 0x80, 0x81, 0x87, 0x88, 0xff}
	var grow func(s []byte)
	grow = func(s []byte) {
		check(t, string(s))
		if len(s) == 6 {
			return
		}
		for _, b := range edges {
			grow(append(s, b))
		}
	}
	grow(make([]byte, 0, 6))
}

func TestP14NoneBeginsAnother(t *testing.T) {
	var l []string
	for _, n := range samples() {
		l = append(l, word.Put(n))
	}
	slices.Sort(l)
	for i := 1; i < len(l); i++ { // what begins another one stands right ahead of one that it begins
		if strings.HasPrefix(l[i], l[i-1]) {
			t.Errorf("%q begins %q", l[i-1], l[i])
		}
	}
}

func FuzzP14(f *testing.F) {
	for _, x := range wrong {
		f.Add(x.bytes)
	}
	for _, x := range spelt {
		f.Add(x.bytes)
	}
	f.Fuzz(func(t *testing.T, s string) {
		check(t, s)
		if l, e := word.All(s); e == api.OK && word.Puts(l) != s || e != api.OK && l != nil {
			t.Fatalf("All(%q) = %d, %d", s, l, e)
		}
		if x, to, e := word.Take(s, 0, word.Max); e == api.OK && word.Text(x) != s[:to] || e != api.OK && (x != "" || to != 0) {
			t.Fatalf("Take(%q) = %q, %d, %d", s, x, to, e)
		}
	})
}
