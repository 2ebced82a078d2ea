package luck

import (
	"math"
	"math/big"
	"slices"
	"testing"

	"musterfield/api"
)

// seeds are numbers at which a bit or a carry changes, and some in between.
func seeds() []uint32 {
	list := []uint32{123456789, 1013904223, 1664525, 2868466484, 4276115653, 634785765}
	for bit := range 32 {
		list = append(list, 1<<bit-1, 1<<bit, ^uint32(0)-1<<bit, ^uint32(0)-1<<bit+1)
	}
	// Those behind which the upper sixteen bits are all alike.
	for _, next := range []uint32{0, 65535, 65536, 0xFFFEFFFF, 0xFFFF0000, 0xFFFFFFFF} {
		list = append(list, bigSkip(next, 1<<32-1))
	}
	return list
}

// wrongBelow and wrongAbove are far off too, also such as would be in bounds
// if only their lower bits were looked at.
func wrongBelow(least int) []int {
	return []int{least - 1, least - 2, -52, -65536, -1<<32 + 1, -1<<32 + 4, -1 << 32, -1 << 40, math.MinInt + 4, math.MinInt + 1, math.MinInt}
}

func wrongAbove(most int) []int {
	return []int{most + 1, most + 2, 1<<32 + 1, 1<<32 + 4, 1<<40 + 4, 1 << 40, 1 << 48, 1 << 62, math.MaxInt - 1, math.MaxInt}
}

var word = new(big.Int).Lsh(big.NewInt(1), 32)

func bigNext(s uint32) uint32 {
	n := new(big.Int).Mul(big.NewInt(1664525), big.NewInt(int64(s)))
	n.Add(n, big.NewInt(1013904223))
	return uint32(n.Mod(n, word).Uint64())
}

// bigSkip sums the row of powers up by its closed form: with f to the n as p,
// s behind n steps is p times s, and the addend times (p - 1) by (f - 1).
func bigSkip(s uint32, n int) uint32 {
	less := big.NewInt(1664525 - 1)
	p := new(big.Int).Exp(big.NewInt(1664525), big.NewInt(int64(n)), new(big.Int).Mul(word, less))
	row := new(big.Int).Sub(p, big.NewInt(1))
	row.Div(row, less).Mul(row, big.NewInt(1013904223))
	sum := p.Mul(p, big.NewInt(int64(s))).Add(p, row)
	return uint32(sum.Mod(sum, word).Uint64())
}

// wantPick is Pick by plain division, for an n within bounds.
func wantPick(s uint32, n int) (int, uint32) {
	next := bigNext(s)
	return int(uint64(next) / 65536 * uint64(n) / 65536), next
}

func wantDeal(s uint32, n int) ([]int, uint32) {
	var cards []int
	for i := range n {
		cards = append(cards, i)
	}
	for k := n - 1; k >= 1; k-- {
		at, next := wantPick(s, k+1)
		s = next
		held := cards[k]
		cards[k] = cards[at]
		cards[at] = held
	}
	return cards, s
}

// P2.1.

func TestNext(t *testing.T) {
	for _, c := range [][2]uint32{
		{0, 1013904223}, {1, 1015568748}, {1013904223, 1196435762}, {1196435762, 3519870697}, {3519870697, 2868466484},
		{123456789, 920370032}, {1 << 31, 3161387871}, {math.MaxUint32, 1012239698}, {634785765, 0},
	} {
		if got := Next(c[0]); got != c[1] {
			t.Errorf("Next(%d) = %d, want %d", c[0], got, c[1])
		}
	}
	for _, s := range seeds() {
		if got, want := Next(s), bigNext(s); got != want {
			t.Errorf("Next(%d) = %d, want %d", s, got, want)
		}
	}
}

func TestBack(t *testing.T) {
	for _, c := range [][2]uint32{
		{1196435762, 1013904223}, {1013904223, 0}, {0, 634785765}, {1, 615934122}, {1015568748, 1},
		{123456789, 2790922510}, {1 << 31, 2782269413}, {math.MaxUint32, 653637408}, {1012239698, math.MaxUint32},
	} {
		if got := Back(c[0]); got != c[1] {
			t.Errorf("Back(%d) = %d, want %d", c[0], got, c[1])
		}
	}
}

func TestBackUndoesNext(t *testing.T) {
	check := func(s uint32) {
		if got := Back(Next(s)); got != s {
			t.Fatalf("Back(Next(%d)) = %d", s, got)
		}
		if got := Next(Back(s)); got != s {
			t.Fatalf("Next(Back(%d)) = %d", s, got)
		}
	}
	for _, s := range seeds() {
		check(s)
	}
	for i := range uint32(100000) {
		check(i)
		check(i * 42949)
		check(-i)
	}
}

func checkSkip(t *testing.T, s uint32, n int, want uint32) {
	t.Helper()
	if got, err := Skip(s, n); got != want || err != api.OK {
		t.Errorf("Skip(%d, %d) = %d, %d, want %d, OK", s, n, got, err, want)
	}
}

func TestSkip(t *testing.T) {
	for _, c := range []struct {
		s    uint32
		n    int
		want uint32
	}{
		{0, 0, 0}, {7, 0, 7}, {math.MaxUint32, 0, math.MaxUint32},
		{0, 1, 1013904223}, {0, 2, 1196435762}, {0, 3, 3519870697}, {0, 4, 2868466484},
		{1, 65536, 946405377}, {0, 1000000, 4074525504},
		{99, 1<<31 - 1, 915956756}, {12345, 1 << 31, 2147495993}, {99, 1<<31 + 1, 3326175846}, {math.MaxUint32, 3000000000, 3497696767},
		{0, 1<<32 - 1, 634785765}, {0, 1 << 32, 0}, {7, 1 << 32, 7}, {math.MaxUint32, 1 << 32, math.MaxUint32},
	} {
		checkSkip(t, c.s, c.n, c.want)
	}
}

func TestSkipIsManyNexts(t *testing.T) {
	for _, first := range []uint32{0, 1, 123456789, math.MaxUint32} {
		s := first
		for n := range 100000 {
			checkSkip(t, first, n, s)
			s = Next(s)
		}
	}
}

func TestSkipOfAnySize(t *testing.T) {
	for _, s := range seeds() {
		checkSkip(t, s, 1<<32-1, Back(s))
		checkSkip(t, s, 1<<32, s)
		for bit := range 32 {
			for _, n := range []int{1<<bit - 1, 1 << bit, 1<<bit + 1, 1<<32 - 1<<bit, 987654321 << bit & math.MaxUint32} {
				checkSkip(t, s, n, bigSkip(s, n))
			}
		}
	}
}

func TestSkipOutOfBounds(t *testing.T) {
	for _, s := range seeds() {
		for _, n := range append(wrongBelow(0), wrongAbove(1<<32)...) {
			if got, err := Skip(s, n); got != 0 || err != api.ErrArg {
				t.Errorf("Skip(%d, %d) = %d, %d, want 0, ErrArg", s, n, got, err)
			}
		}
	}
}

// P2.2.

func checkPick(t *testing.T, s uint32, n, want int, wantNext uint32) {
	t.Helper()
	if got, next, err := Pick(s, n); got != want || next != wantNext || err != api.OK {
		t.Errorf("Pick(%d, %d) = %d, %d, %d, want %d, %d, OK", s, n, got, next, err, want, wantNext)
	}
}

func TestPick(t *testing.T) {
	// Behind the first comes the least, behind the last the greatest number.
	least, greatest := uint32(634785765), uint32(653637408)
	for _, c := range []struct {
		s       uint32
		n, want int
		next    uint32
	}{
		{0, 6, 1, 1013904223}, {0, 1, 0, 1013904223}, {0, 65536, 15470, 1013904223},
		{1, 2, 0, 1015568748}, {1, 65536, 15496, 1015568748},
		{12345, 100, 2, 87628868}, {12345, 65535, 1336, 87628868},
		{math.MaxUint32, 52, 12, 1012239698}, {math.MaxUint32, 65536, 15445, 1012239698},
		{least, 1, 0, 0}, {least, 6, 0, 0}, {least, 65536, 0, 0},
		{greatest, 1, 0, math.MaxUint32}, {greatest, 6, 5, math.MaxUint32}, {greatest, 65535, 65534, math.MaxUint32}, {greatest, 65536, 65535, math.MaxUint32},
	} {
		checkPick(t, c.s, c.n, c.want, c.next)
	}
}

func TestPickOfAnySize(t *testing.T) {
	for _, s := range seeds() {
		for n := 1; n <= 65536; n += 1 + n/16 {
			want, next := wantPick(s, n)
			checkPick(t, s, n, want, next)
		}
		for _, n := range []int{65534, 65535, 65536} {
			want, next := wantPick(s, n)
			checkPick(t, s, n, want, next)
		}
	}
}

func TestPickOutOfBounds(t *testing.T) {
	for _, s := range seeds() {
		for _, n := range append(wrongBelow(1), wrongAbove(65536)...) {
			if got, same, err := Pick(s, n); got != 0 || same != s || err != api.ErrArg {
				t.Errorf("Pick(%d, %d) = %d, %d, %d, want 0, %d, ErrArg", s, n, got, same, err, s)
			}
		}
	}
}

// P2.3.

func checkDeal(t *testing.T, s uint32, n int, want []int, wantNext uint32) {
	t.Helper()
	if got, next, err := Deal(s, n); !slices.Equal(got, want) || next != wantNext || err != api.OK {
		t.Errorf("Deal(%d, %d) = %v, %d, %d, want %v, %d, OK", s, n, got, next, err, want, wantNext)
	}
}

func TestDeal(t *testing.T) {
	checkDeal(t, 0, 0, nil, 0)
	checkDeal(t, 9, 0, nil, 9)
	checkDeal(t, 9, 1, []int{0}, 9)
	checkDeal(t, 0, 2, []int{1, 0}, 1013904223)
	checkDeal(t, 7, 3, []int{2, 1, 0}, 3923423697)
	checkDeal(t, 0, 4, []int{2, 1, 3, 0}, 3519870697)
	checkDeal(t, 2026, 13, []int{1, 2, 8, 7, 10, 9, 4, 3, 5, 6, 11, 12, 0}, 717351974)
	checkDeal(t, 0, 52, []int{
		4, 39, 43, 6, 11, 8, 1, 49, 46, 5, 20, 50, 47, 41, 2, 9, 23, 17, 36, 48, 27, 26, 3, 38, 45, 35,
		44, 37, 7, 51, 31, 16, 21, 13, 10, 42, 19, 0, 34, 24, 30, 33, 25, 22, 28, 15, 29, 18, 32, 40, 14, 12,
	}, 594074265)
	checkDeal(t, math.MaxUint32, 52, []int{
		35, 49, 27, 24, 7, 4, 13, 3, 17, 0, 33, 23, 20, 38, 28, 51, 31, 47, 45, 8, 18, 16, 11, 15, 37, 50,
		42, 44, 5, 21, 48, 26, 39, 40, 10, 19, 1, 29, 36, 25, 2, 14, 22, 43, 32, 46, 41, 34, 30, 6, 9, 12,
	}, 4063032388)
}

func TestDealOfAnySize(t *testing.T) {
	for _, s := range seeds() {
		for n := range 53 {
			want, next := wantDeal(s, n)
			checkDeal(t, s, n, want, next)
			if after, _ := Skip(s, max(n-1, 0)); next != after {
				t.Errorf("Deal(%d, %d) tells %d, want %d", s, n, next, after)
			}
		}
	}
}

func TestDealHasEachCardOnce(t *testing.T) {
	for _, s := range seeds() {
		for n := range 53 {
			cards, _, _ := Deal(s, n)
			slices.Sort(cards)
			for i, card := range cards {
				if card != i {
					t.Fatalf("Deal(%d, %d), sorted: %v", s, n, cards)
				}
			}
		}
	}
}

func TestDealOutOfBounds(t *testing.T) {
	for _, s := range seeds() {
		for _, n := range append(wrongBelow(0), wrongAbove(52)...) {
			if got, same, err := Deal(s, n); len(got) != 0 || same != s || err != api.ErrArg {
				t.Errorf("Deal(%d, %d) = %v, %d, %d, want no cards, %d, ErrArg", s, n, got, same, err, s)
			}
		}
	}
}

// P1.

func TestEachCallAnswers(t *testing.T) {
	sizes := append(wrongBelow(0), wrongAbove(52)...)
	sizes = append(sizes, 0, 1, 2, 51, 52, 53, 65535, 65536, 65537, 1<<31-1, 1<<31, 1<<32-1, 1<<32)
	for _, s := range seeds() {
		for _, n := range sizes {
			a := answersOf(s, n)
			checkErr(t, "Skip", n, a.skipErr, n >= 0 && n <= 1<<32)
			checkErr(t, "Pick", n, a.pickErr, n >= 1 && n <= 65536)
			checkErr(t, "Deal", n, a.dealErr, n >= 0 && n <= 52)
		}
	}
}

func checkErr(t *testing.T, call string, n int, err api.Errno, inBounds bool) {
	t.Helper()
	want := api.ErrArg
	if inBounds {
		want = api.OK
	}
	if err != want {
		t.Errorf("%s of %d: error %d, want %d", call, n, err, want)
	}
}

// P2.

// spoil writes over a list and over the room behind it.
func spoil(list []int) {
	list = list[:cap(list)]
	for i := range list {
		list[i] = -1
	}
}

func TestCardsAreNewMemory(t *testing.T) {
	for n := range 53 {
		want, _ := wantDeal(5, n)
		first, _, _ := Deal(5, n)
		second, _, _ := Deal(5, n)
		spoil(first)
		if !slices.Equal(second, want) {
			t.Errorf("Deal(5, %d) shares memory with the one before: %v", n, second)
		}
		spoil(second)
		if third, _, _ := Deal(5, n); !slices.Equal(third, want) {
			t.Errorf("Deal(5, %d) behind spoiled ones: %v, want %v", n, third, want)
		}
	}
}

// answers are held as values, so that they can be compared.
type answers struct {
	next, back, skipped, picked, dealt uint32
	place                              int
	cards                              [52]int
	count                              int
	skipErr, pickErr, dealErr          api.Errno
}

func answersOf(s uint32, n int) answers {
	a := answers{next: Next(s), back: Back(s)}
	a.skipped, a.skipErr = Skip(s, n)
	a.place, a.picked, a.pickErr = Pick(s, n)
	var cards []int
	cards, a.dealt, a.dealErr = Deal(s, n)
	a.count = len(cards)
	copy(a.cards[:], cards)
	return a
}

func TestNothingIsKeptBetweenCalls(t *testing.T) {
	type given struct {
		s uint32
		n int
	}
	var asked []given
	var told []answers
	for _, s := range seeds() {
		for _, n := range []int{-1, 0, 1, 2, 13, 52, 53, 65536, 65537, 1 << 32, 1<<32 + 1} {
			asked = append(asked, given{s, n})
			told = append(told, answersOf(s, n))
		}
	}
	for i := len(asked) - 1; i >= 0; i-- {
		if got := answersOf(asked[i].s, asked[i].n); got != told[i] {
			t.Fatalf("of %v: first %v, then %v", asked[i], told[i], got)
		}
	}
}
