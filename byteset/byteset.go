// Package byteset: sets of bytes, for the layers that tell which bytes of a text stay.
package byteset

// Alnum are the letters and the digits.
const Alnum = "ABCDEFGHIJKLMNOPQRSTUVWXYZ" + "abcdefghijklmnopqrstuvwxyz" + "0123456789"

// Set is a set of bytes: a bit for each of the 256.
type Set [4]uint64

// Of gives the set of the bytes of a text.
func Of(text string) Set {
	var set Set
	for i := range len(text) {
		set[text[i]>>6] |= 1 << (text[i] & 63)
	}
	return set
}

// Has tells whether c is in the set.
func (set Set) Has(c byte) bool {
	return set[c>>6]>>(c&63)&1 == 1
}
