// Package octets is layer 1: numbers as octets and digits, and what octets have in common (shared/doc/01-octets.md).
package octets

import (
	"iter"
	"math/bits"
	"strconv"

	"transept/api"
)

const (
	octetBits  = 8
	maxOctets  = 8 // a uint64 has no more
	maxCutSize = 1 << 16
)

// places hands out, for each octet of a number of size octets, where it stands and by how many bits it is shifted:
// Put and Get range over the same places, so that one undoes the other.
func places(size int) iter.Seq2[int, int] {
	return func(yield func(at int, shift int) bool) {
		for at := range size {
			if !yield(at, octetBits*(size-1-at)) {
				return
			}
		}
	}
}

// Put answers n as size octets, the highest first.
func Put(n uint64, size int) ([]byte, api.Errno) {
	if size < 1 || size > maxOctets {
		return nil, api.ErrRange
	}
	if n>>(octetBits*size) != 0 {
		return nil, api.ErrRange
	}
	b := make([]byte, size)
	for at, shift := range places(size) {
		b[at] = byte(n >> shift)
	}
	return b, api.OK
}

// Get answers the number that 1 to 8 octets are, the highest first.
func Get(b []byte) (uint64, api.Errno) {
	if len(b) < 1 || len(b) > maxOctets {
		return 0, api.ErrCount
	}
	var n uint64
	for at, shift := range places(len(b)) {
		n |= uint64(b[at]) << shift
	}
	return n, api.OK
}

// Decimal answers n's decimal digits, with - ahead below 0.
func Decimal(n int) string {
	return strconv.Itoa(n)
}

// Turn answers the octets in the other order, and the bits of each in the other order, too.
func Turn(b []byte) []byte {
	turned := make([]byte, len(b))
	for at := range len(b) {
		turned[len(b)-1-at] = bits.Reverse8(b[at])
	}
	return turned
}

// Weight answers how many bits are 1.
func Weight(b []byte) int {
	ones := 0
	for _, o := range b {
		ones += bits.OnesCount8(o)
	}
	return ones
}

// Apart answers in how many bits two lists of as many octets are not alike.
func Apart(a []byte, b []byte) (int, api.Errno) {
	if len(a) != len(b) {
		return 0, api.ErrCount
	}
	unlike := 0
	for at := range len(a) {
		unlike += bits.OnesCount8(a[at] ^ b[at])
	}
	return unlike, api.OK
}

// Cut answers b in pieces of size octets; the last one may be shorter.
func Cut(b []byte, size int) ([][]byte, api.Errno) {
	if size < 1 || size > maxCutSize {
		return nil, api.ErrRange
	}
	pieces := make([][]byte, (len(b)+size-1)/size)
	for i := range pieces {
		from := i * size
		to := min(from+size, len(b))
		// Each piece has memory of its own: pieces of one copy would share it.
		pieces[i] = make([]byte, to-from)
		copy(pieces[i], b[from:to])
	}
	return pieces, api.OK
}
