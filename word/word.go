// Package word is layer 1, numbers as bytes: see shared/doc/01-word.md.
package word

import (
	"strings"

	"cameo/api"
)

// Max is the greatest number.
const Max = 1<<31 - 1

// How a number is laid out: the bits of it that one byte carries, the sign that another byte follows, and how many bytes Max has.
const (
	bits    = 7
	low     = 1<<bits - 1
	more    = 1 << bits
	longest = 5
)

// Put are n's bytes, n being cut to 0 and to Max.
func Put(n int) string {
	return Puts([]int{n})
}

// Get is the number at a place, and the place behind it.
func Get(s string, at int) (n, to int, e api.Errno) {
	e = guard(func() { n, to = numberAt(s, at) })
	return n, to, e
}

// Puts are the bytes of all numbers, one behind the other.
func Puts(l []int) string {
	var b strings.Builder
	for _, n := range l {
		spell(n, func(x byte) { b.WriteByte(x) })
	}
	return b.String()
}

// All are the numbers that s is made of.
func All(s string) (l []int, e api.Errno) {
	e = guard(func() { l = numbers(s) })
	return l, e
}

// Text is s with how long it is ahead.
func Text(s string) string {
	return Put(len(s)) + s
}

// Take is the text at a place, of most bytes at most, and the place behind it.
func Take(s string, at, most int) (t string, to int, e api.Errno) {
	e = guard(func() { t, to = textAt(s, at, most) })
	return t, to, e
}

// guard tells by which error work ended. Work sets its results last of all, so that an error leaves them zero.
func guard(work func()) (e api.Errno) {
	defer func() {
		switch p := recover().(type) {
		case nil:
		case api.Errno:
			e = p
		default:
			panic(p) // a fault of the program, which must not pass for one of the bytes
		}
	}()
	work()
	return api.OK
}

// spell hands n's bytes to put, those of its lowest bits first.
func spell(n int, put func(byte)) {
	n = min(max(n, 0), Max)
	for ; n > low; n >>= bits {
		put(byte(n&low | more))
	}
	put(byte(n))
}

// bytesFrom hands out s's bytes from at on, one a call.
func bytesFrom(s string, at int) func() byte {
	return func() byte {
		if at >= len(s) {
			panic(api.ErrShort)
		}
		b := s[at]
		at++
		return b
	}
}

// number is the one that next's bytes make, and how many of them.
func number(next func() byte) (n, size int) {
	for {
		b := next()
		n |= int(b&low) << (bits * size)
		size++
		last := b&more == 0
		if n > Max || size == longest && !last {
			panic(api.ErrBig)
		}
		if last && size > 1 && b == 0 {
			panic(api.ErrForm)
		}
		if last {
			return n, size
		}
	}
}

func numberAt(s string, at int) (n, to int) {
	if at < 0 || at > len(s) {
		panic(api.ErrArg)
	}
	n, size := number(bytesFrom(s, at))
	return n, at + size
}

func numbers(s string) []int {
	var l []int
	next := bytesFrom(s, 0)
	for at := 0; at < len(s); {
		n, size := number(next)
		l = append(l, n)
		at += size
	}
	return l
}

func textAt(s string, at, most int) (t string, to int) {
	size, from := numberAt(s, at)
	if size > max(most, 0) {
		panic(api.ErrBig)
	}
	if size > len(s)-from {
		panic(api.ErrShort)
	}
	to = from + size
	// A part of s would keep all of s alive, and share its memory.
	return strings.Clone(s[from:to]), to
}
