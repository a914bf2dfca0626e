// Package class is layer 1: see shared/doc/01-class.md.
package class

import (
	"iter"
	"math/bits"

	"seedling/api"
)

// set is a class, with the methods that a type of package api can't be given here.
type set api.Class

// with is the set, and a byte.
func (s set) with(b byte) set {
	s[b/64] |= 1 << (b % 64)
	return s
}

// or is what is in one of two sets.
func (s set) or(x set) set {
	for i := range s {
		s[i] |= x[i]
	}
	return s
}

// and is what is in both of two sets.
func (s set) and(x set) set {
	for i := range s {
		s[i] &= x[i]
	}
	return s
}

// bytes goes through the set's bytes, rising.
func (s set) bytes() iter.Seq[byte] {
	return func(yield func(byte) bool) {
		for i, word := range s {
			for ; word != 0; word &= word - 1 {
				if !yield(byte(64*i + bits.TrailingZeros64(word))) {
					return
				}
			}
		}
	}
}

// fold puts classes together, one behind the other, with what there is at first.
func fold(first api.Class, together func(set, set) set, l []api.Class) api.Class {
	s := set(first)
	for _, c := range l {
		s = together(s, set(c))
	}
	return api.Class(s)
}

// Of is the class of bytes.
func Of(bytes ...byte) api.Class {
	var s set
	for _, b := range bytes {
		s = s.with(b)
	}
	return api.Class(s)
}

// Range is that of all from one to another one.
func Range(from, to byte) api.Class {
	var s set
	// The number is no byte: behind 255 there is no greater byte at which to end.
	for n := int(from); n <= int(to); n++ {
		s = s.with(byte(n))
	}
	return api.Class(s)
}

// Has says whether a byte is in a class.
func Has(c api.Class, b byte) bool { return c[b/64]>>(b%64)&1 == 1 }

// Len is how many are.
func Len(c api.Class) int {
	n := 0
	for _, word := range c {
		n += bits.OnesCount64(word)
	}
	return n
}

// Not is those that are not.
func Not(c api.Class) api.Class {
	for i := range c {
		c[i] = ^c[i]
	}
	return c
}

// Or is what is in one of some.
func Or(l ...api.Class) api.Class { return fold(api.Class{}, set.or, l) }

// And is what is in all of some.
func And(l ...api.Class) api.Class { return fold(Not(api.Class{}), set.and, l) }

// Runs are a class's runs.
func Runs(c api.Class) [][2]byte {
	var l [][2]byte
	for b := range set(c).bytes() {
		// b-1 does not wrap round: bytes rise, so that behind a run there is no 0.
		if n := len(l); n > 0 && l[n-1][1] == b-1 {
			l[n-1][1] = b
		} else {
			l = append(l, [2]byte{b, b})
		}
	}
	return l
}

// From is the class of runs.
func From(runs ...[2]byte) api.Class {
	var c api.Class
	for _, r := range runs {
		c = Or(c, Range(r[0], r[1]))
	}
	return c
}

// Next is the least byte in it from a number on.
func Next(c api.Class, from int) (byte, bool) {
	for b := range set(c).bytes() {
		if int(b) >= from {
			return b, true
		}
	}
	return 0, false
}
