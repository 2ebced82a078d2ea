package fix

import (
	"math"
	"math/big"
	"testing"

	"musterfield/api"
)

// edges are numbers at which a bound, a sign or a rounding changes, and
// numbers far outside the bounds.
func edges() []int {
	list := []int{math.MinInt, math.MinInt + 1, math.MaxInt - 1, math.MaxInt}
	for _, n := range []int{0, 3, 7, 255, 256, 257, api.One / 2, api.One, 3 * api.One, 92681, 11863283, api.Most, 1 << 40, 1 << 47, 1 << 62} {
		for off := -2; off <= 2; off++ {
			list = append(list, n+off, -n+off)
		}
	}
	return list
}

func bigKept(n *big.Int) *big.Int {
	most := big.NewInt(api.Most)
	least := big.NewInt(-api.Most)
	switch {
	case n.Cmp(most) > 0:
		return most
	case n.Cmp(least) < 0:
		return least
	}
	return n
}

func bigOf(n int) *big.Int { return bigKept(big.NewInt(int64(n))) }

// bigFloorDiv rounds down: Euclid's division does so only for b above 0.
func bigFloorDiv(a, b *big.Int) *big.Int {
	if b.Sign() < 0 {
		a, b = new(big.Int).Neg(a), new(big.Int).Neg(b)
	}
	return new(big.Int).Div(a, b)
}

func wantAdd(a, b int) int {
	return int(bigKept(new(big.Int).Add(bigOf(a), bigOf(b))).Int64())
}

func wantMul(a, b int) int {
	product := new(big.Int).Mul(bigOf(a), bigOf(b))
	return int(bigKept(bigFloorDiv(product, big.NewInt(api.One))).Int64())
}

func wantDiv(a, b int) (int, api.Errno) {
	if b == 0 {
		return 0, api.ErrArg
	}
	top := new(big.Int).Mul(bigOf(a), big.NewInt(api.One))
	return int(bigKept(bigFloorDiv(top, bigOf(b))).Int64()), api.OK
}

func wantRoot(a int) (int, api.Errno) {
	if a < 0 {
		return 0, api.ErrArg
	}
	square := new(big.Int).Mul(bigOf(a), big.NewInt(api.One))
	return int(new(big.Int).Sqrt(square).Int64()), api.OK
}

// P1.1.

func TestKeep(t *testing.T) {
	for _, c := range [][2]int{
		{0, 0}, {1, 1}, {-1, -1}, {98304, 98304},
		{api.Most - 1, api.Most - 1}, {api.Most, api.Most}, {api.Most + 1, api.Most},
		{-api.Most + 1, -api.Most + 1}, {-api.Most, -api.Most}, {-api.Most - 1, -api.Most}, {-api.Most - 2, -api.Most},
		{1 << 32, api.Most}, {-1 << 32, -api.Most},
		{math.MaxInt, api.Most}, {math.MinInt, -api.Most},
	} {
		if got := Keep(c[0]); got != c[1] {
			t.Errorf("Keep(%d) = %d, want %d", c[0], got, c[1])
		}
	}
}

func TestAdd(t *testing.T) {
	for _, c := range [][3]int{
		{0, 0, 0}, {api.One, api.One / 2, 98304}, {-1, api.One / 2, api.One/2 - 1}, {-3, -4, -7},
		{api.Most, 0, api.Most}, {api.Most, 1, api.Most}, {api.Most - 1, 1, api.Most}, {api.Most, -1, api.Most - 1},
		{-api.Most, 0, -api.Most}, {-api.Most, -1, -api.Most}, {-api.Most, 1, -api.Most + 1},
		{api.Most, api.Most, api.Most}, {-api.Most, -api.Most, -api.Most}, {api.Most, -api.Most, 0},
		// Each is kept ahead of the sum.
		{1 << 40, -1, api.Most - 1}, {-1, 1 << 40, api.Most - 1}, {1 << 40, -1 << 50, 0},
		{-1 << 31, 1, -api.Most + 1}, {-1 << 40, 1, -api.Most + 1},
		{math.MaxInt, math.MaxInt, api.Most}, {math.MinInt, math.MinInt, -api.Most}, {math.MaxInt, math.MinInt, 0},
	} {
		if got := Add(c[0], c[1]); got != c[2] {
			t.Errorf("Add(%d, %d) = %d, want %d", c[0], c[1], got, c[2])
		}
	}
}

func TestMul(t *testing.T) {
	for _, c := range [][3]int{
		{0, 0, 0}, {3 * api.One, api.One / 2, 98304}, {api.One / 2, 3 * api.One, 98304}, {-2 * api.One, 3 * api.One, -6 * api.One}, {-2 * api.One, -3 * api.One, 6 * api.One},
		// Rounded down, also below 0.
		{1, 1, 0}, {-1, 1, -1}, {1, -1, -1}, {-1, -1, 0}, {api.One - 1, 1, 0}, {-api.One, 1, -1}, {-api.One - 1, 1, -2},
		{api.Most, api.One, api.Most}, {-api.Most, api.One, -api.Most}, {api.Most, api.One + 1, api.Most},
		{api.Most, api.One - 1, 2147450879}, {-api.Most, api.One - 1, -2147450880},
		{api.Most, api.Most, api.Most}, {-api.Most, api.Most, -api.Most}, {-api.Most, -api.Most, api.Most},
		// Each is kept ahead of the product.
		{1 << 40, 1, 32767}, {1, 1 << 40, 32767}, {-1 << 40, 1, -32768}, {1 << 32, 1 << 32, api.Most}, {1 << 31, 1, 32767},
		{math.MaxInt, 1, 32767}, {math.MinInt, 1, -32768}, {math.MinInt, -1, 32767},
		{math.MaxInt, math.MaxInt, api.Most}, {math.MinInt, math.MinInt, api.Most}, {math.MaxInt, math.MinInt, -api.Most}, {math.MaxInt, 0, 0},
	} {
		if got := Mul(c[0], c[1]); got != c[2] {
			t.Errorf("Mul(%d, %d) = %d, want %d", c[0], c[1], got, c[2])
		}
	}
}

// P1.2.

func TestDiv(t *testing.T) {
	for _, c := range [][3]int{
		{0, 5, 0}, {0, -5, 0}, {3 * api.One, 2 * api.One, 98304}, {6 * api.One, -3 * api.One, -2 * api.One}, {-6 * api.One, -3 * api.One, 2 * api.One},
		// Rounded down, on whichever side the sign is.
		{api.One, 3 * api.One, 21845}, {-api.One, 3 * api.One, -21846}, {api.One, -3 * api.One, -21846}, {-api.One, -3 * api.One, 21845},
		{7, -2, -229376}, {1, api.Most, 0}, {-1, api.Most, -1}, {1, -api.Most, -1}, {-1, -api.Most, 0},
		{32767, 1, 32767 * api.One}, {32768, 1, api.Most}, {-32767, 1, -32767 * api.One}, {-32768, 1, -api.Most},
		{api.Most, 1, api.Most}, {api.Most, -1, -api.Most}, {-api.Most, 1, -api.Most}, {-api.Most, -1, api.Most},
		{api.Most, api.Most, api.One}, {api.Most, api.One, api.Most}, {api.Most, -api.One, -api.Most},
		// Each is kept ahead of the division.
		{1 << 40, api.Most, api.One}, {api.Most, 1 << 40, api.One}, {1 << 40, 1 << 50, api.One}, {-1 << 31, api.Most, -api.One}, {1, 1 << 40, 0}, {api.One, 1 << 62, 2},
		{math.MaxInt, math.MaxInt, api.One}, {math.MinInt, math.MinInt, api.One}, {math.MaxInt, math.MinInt, -api.One}, {math.MinInt, -1, api.Most},
	} {
		if got, err := Div(c[0], c[1]); got != c[2] || err != api.OK {
			t.Errorf("Div(%d, %d) = %d, %d, want %d, OK", c[0], c[1], got, err, c[2])
		}
	}
}

func TestDivByNothing(t *testing.T) {
	for _, a := range edges() {
		if got, err := Div(a, 0); got != 0 || err != api.ErrArg {
			t.Errorf("Div(%d, 0) = %d, %d, want 0, ErrArg", a, got, err)
		}
	}
}

func TestRoot(t *testing.T) {
	for _, c := range [][2]int{
		{0, 0}, {1, 256}, {2, 362}, {3, 443}, {4, 512}, {api.One / 4, api.One / 2}, {api.One, api.One}, {2 * api.One, 92681}, {4 * api.One, 2 * api.One}, {9 * api.One, 3 * api.One},
		{api.One - 1, api.One - 1}, {api.One + 1, api.One},
		{api.Most - 1, 11863283}, {api.Most, 11863283},
		{api.Most + 1, 11863283}, {1 << 40, 11863283}, {math.MaxInt, 11863283},
	} {
		if got, err := Root(c[0]); got != c[1] || err != api.OK {
			t.Errorf("Root(%d) = %d, %d, want %d, OK", c[0], got, err, c[1])
		}
	}
}

func TestRootBelowNothing(t *testing.T) {
	for _, a := range []int{-1, -2, -api.One, -api.Most, -api.Most - 1, -1 << 40, math.MinInt} {
		if got, err := Root(a); got != 0 || err != api.ErrArg {
			t.Errorf("Root(%d) = %d, %d, want 0, ErrArg", a, got, err)
		}
	}
}

func TestRootIsGreatest(t *testing.T) {
	check := func(a int) {
		r, err := Root(a)
		if err != api.OK || r < 0 || r*r > a*api.One || (r+1)*(r+1) <= a*api.One {
			t.Fatalf("Root(%d) = %d, %d", a, r, err)
		}
	}
	for a := range 100000 {
		check(a)
		check(api.Most - a)
	}
	for a := 0; a <= api.Most; a += 99991 {
		check(a)
	}
	// Around every square that is told in whole parts.
	for r := 0; r*r/api.One < api.Most; r += 256 {
		a := r * r / api.One
		check(a)
		check(a + 1)
		check(max(a-1, 0))
	}
}

// P1, and P1.1 and P1.2 beside numbers that know no bounds.

func TestEdgesAgainstBigNumbers(t *testing.T) {
	for _, a := range edges() {
		if got, want := Keep(a), int(bigOf(a).Int64()); got != want {
			t.Errorf("Keep(%d) = %d, want %d", a, got, want)
		}
		got, err := Root(a)
		if want, wantErr := wantRoot(a); got != want || err != wantErr {
			t.Errorf("Root(%d) = %d, %d, want %d, %d", a, got, err, want, wantErr)
		}
		for _, b := range edges() {
			checkPair(t, a, b)
		}
	}
}

func checkPair(t *testing.T, a, b int) {
	t.Helper()
	if got, want := Add(a, b), wantAdd(a, b); got != want {
		t.Errorf("Add(%d, %d) = %d, want %d", a, b, got, want)
	}
	if got, want := Mul(a, b), wantMul(a, b); got != want {
		t.Errorf("Mul(%d, %d) = %d, want %d", a, b, got, want)
	}
	got, err := Div(a, b)
	if want, wantErr := wantDiv(a, b); got != want || err != wantErr {
		t.Errorf("Div(%d, %d) = %d, %d, want %d, %d", a, b, got, err, want, wantErr)
	}
}

// P2: the numbers of package fix share no memory; what is left to hold is
// that nothing is kept from call to call.

func answers(a, b int) [7]int {
	quotient, divErr := Div(a, b)
	root, rootErr := Root(a)
	return [7]int{Keep(a), Add(a, b), Mul(a, b), quotient, int(divErr), root, int(rootErr)}
}

func TestNothingIsKeptBetweenCalls(t *testing.T) {
	list := edges()
	first := map[[2]int][7]int{}
	for _, a := range list {
		for _, b := range list {
			first[[2]int{a, b}] = answers(a, b)
		}
	}
	for i := len(list) - 1; i >= 0; i-- {
		for k := len(list) - 1; k >= 0; k-- {
			a, b := list[k], list[i]
			if got, want := answers(a, b), first[[2]int{a, b}]; got != want {
				t.Fatalf("of %d and %d: first %v, then %v", a, b, want, got)
			}
		}
	}
}
