// Package keys is layer 1: what rows are called. See doc/01-keys.md.
package keys

import (
	"strconv"

	"concordat/api"
)

// A key that begins with the bar is reserved; a marker begins with the bar, so that no client's key can be one.
const (
	bar         = '_'
	markerStart = "_m"
)

// Check tells whether a text may be a key. (P1.1)
func Check(k string) bool {
	if len(k) < 1 || len(k) > api.MaxKey {
		return false
	}
	may := mayStand()
	// All that may stand is ASCII: a byte that is no part of such a rune shows up here as one that may not.
	for _, r := range k {
		if !may(r) {
			return false
		}
	}
	return true
}

// Reserved tells whether a text is a key that clients may not touch. (P1.1)
func Reserved(k string) bool {
	return Check(k) && k[0] == bar
}

// In tells whether a text, by bytes, stands from one to another one, both in it. (P1.2)
func In(k, from, to string) bool {
	return from <= k && k <= to
}

// Marker tells the key of a global transaction's marker. (P1.3)
func Marker(g uint32) string {
	return markerStart + strconv.FormatUint(uint64(g), 10)
}

// mayStand answers what tells of a rune whether it may stand in a key.
func mayStand() func(r rune) bool {
	letter, digit := between('a', 'z'), between('0', '9')
	return func(r rune) bool {
		return letter(r) || digit(r) || r == bar
	}
}

// between answers what tells of a rune whether it is from one to another one, both in it.
func between(first, last rune) func(r rune) bool {
	return func(r rune) bool {
		return first <= r && r <= last
	}
}
