// Package fix: numbers in parts: see doc/01-fix.md.
package fix

import "musterfield/api"

// Sums and products are worked out as int64, because an int may be too small
// for them: of two kept numbers the product is less than 2^62.

// Keep: P1.1.
func Keep(n int) int { return keep(int64(n)) }

// Add: P1.1.
func Add(a, b int) int { return keep(kept(a) + kept(b)) }

// Mul: P1.1.
func Mul(a, b int) int { return keep(floorDiv(kept(a)*kept(b), api.One)) }

// Div: P1.2.
func Div(a, b int) (int, api.Errno) {
	if b == 0 {
		return 0, api.ErrArg
	}
	return keep(floorDiv(kept(a)*api.One, kept(b))), api.OK
}

// Root: P1.2.
func Root(a int) (int, api.Errno) {
	if a < 0 {
		return 0, api.ErrArg
	}
	return int(floorRoot(kept(a) * api.One)), api.OK
}

func keep(n int64) int {
	return int(min(max(n, -api.Most), api.Most))
}

func kept(n int) int64 { return int64(keep(int64(n))) }

// floorDiv rounds down where Go's own division rounds towards 0; b is not 0.
func floorDiv(a, b int64) int64 {
	q := a / b
	if a%b != 0 && (a < 0) != (b < 0) {
		q--
	}
	return q
}

// floorRoot finds the root bit by bit, from the highest on: a root by floats
// could be one off. n is from 0 to Most*One, so that its root is below 2^24.
func floorRoot(n int64) int64 {
	root := int64(0)
	for bit := int64(1) << 23; bit > 0; bit >>= 1 {
		if next := root | bit; next*next <= n {
			root = next
		}
	}
	return root
}
