package mark

import (
	"math"
	"math/big"
	"slices"
	"testing"
)

// numbers have few bits, or many, or are such that the promise's own numbers
// lead them around the end of 64 bits.
func numbers() []uint64 {
	list := []uint64{
		0, 3, 5, 6, 7, 255, 300, 1234567, math.MaxUint64, 0xAAAAAAAAAAAAAAAA, 0x5555555555555555, 0xFFFFFFFF00000000,
		7046029254386353130, 7046029254386353131, 7046029254386353132, 11400714819323198485, 13787848793156543929, 10723151780598845931,
	}
	for bit := range 64 {
		list = append(list, 1<<bit, 1<<bit-1, ^uint64(1<<bit))
	}
	return list
}

// lists are of no number, of one and of many, also with numbers in them twice.
func lists() [][]uint64 {
	all := numbers()
	list := [][]uint64{nil, {}, {0}, {1}, {math.MaxUint64}, {0, 0}, {1, 1, 1}, {0, 1}, {1, 0}, {3, 1, 2}, {5, 6, 5, 6, 5}, {math.MaxUint64, 0, math.MaxUint64}}
	for n := 2; n < len(all); n += n {
		list = append(list, all[:n], all[len(all)-n:], all[n:n+2])
	}
	return append(list, all, append(slices.Clone(all), all[40:]...))
}

// wantMix is the promise word by word, with whole numbers of any size, of which
// what is above 64 bits is taken off by dividing.
func wantMix(n uint64) uint64 {
	number := kept(new(big.Int).Add(whole(n), whole(11400714819323198485)))
	number = kept(new(big.Int).Mul(oneWithItself(number, 30), whole(13787848793156543929)))
	number = kept(new(big.Int).Mul(oneWithItself(number, 27), whole(10723151780598845931)))
	return oneWithItself(number, 31).Uint64()
}

func whole(n uint64) *big.Int { return new(big.Int).SetUint64(n) }

func kept(n *big.Int) *big.Int {
	return new(big.Int).Mod(n, new(big.Int).Lsh(big.NewInt(1), 64))
}

func oneWithItself(n *big.Int, down uint) *big.Int {
	return new(big.Int).Xor(n, new(big.Int).Rsh(n, down))
}

// wantMark finds each bit of a mark by itself: it is as in m, and the other way
// if an odd count of the numbers' mixes have it.
func wantMark(m uint64, l ...uint64) uint64 {
	var mixes []uint64
	for _, n := range l {
		mixes = append(mixes, wantMix(n))
	}
	var made uint64
	for bit := range 64 {
		count := m >> bit % 2
		for _, mix := range mixes {
			count += mix >> bit % 2
		}
		made += count % 2 << bit
	}
	return made
}

// P5.1.

func TestMix(t *testing.T) {
	for n, want := range map[uint64]uint64{
		0: 16294208416658607535, 1: 10451216379200822465, 2: 10905525725756348110, 3: 2092789425003139053, 7: 7191089600892374487,
		255: 3714432240112385972, 65536: 696566373075308979, 1<<31 - 1: 7060015453088402407, 1 << 32: 14135772400868000056,
		1<<63 - 1: 3055647633038352039, 1 << 63: 5196802822362493915, math.MaxUint64 - 1: 17519071339639777313, math.MaxUint64: 16490336266968443936,
		7046029254386353130: 13029008266876403067, 7046029254386353131: 0, 7046029254386353132: 6238072747940578789,
		11400714819323198485: 7960286522194355700, 1234567: 6457827717110365317,
	} {
		if got := Mix(n); got != want {
			t.Errorf("Mix(%d) = %d, want %d", n, got, want)
		}
	}
}

func TestMixOfAnyNumber(t *testing.T) {
	list := numbers()
	for n := range uint64(20000) {
		list = append(list, n, n*n*n*n, n*0x123456789ABCDEF, math.MaxUint64-n)
	}
	for _, n := range list {
		if got, want := Mix(n), wantMix(n); got != want {
			t.Errorf("Mix(%d) = %d, want %d", n, got, want)
		}
	}
}

// P5.2.

func TestTurn(t *testing.T) {
	for _, c := range []struct{ m, n, want uint64 }{
		{0, 0, 16294208416658607535}, {0, 1, 10451216379200822465}, {math.MaxUint64, 0, 2152535657050944080}, {1, 2, 10905525725756348111},
		{1 << 63, math.MaxUint64, 7266964230113668128}, {10905525725756348110, 2, 0}, {12345, 7046029254386353131, 12345},
	} {
		if got := Turn(c.m, c.n); got != c.want {
			t.Errorf("Turn(%d, %d) = %d, want %d", c.m, c.n, got, c.want)
		}
	}
}

func TestTurnOfAnyMark(t *testing.T) {
	for _, m := range numbers() {
		for _, n := range numbers() {
			got := Turn(m, n)
			if want := wantMark(m, n); got != want {
				t.Fatalf("Turn(%d, %d) = %d, want %d", m, n, got, want)
			}
			if back := Turn(got, n); back != m {
				t.Fatalf("%d, turned by %d twice, is %d", m, n, back)
			}
		}
	}
}

func TestOf(t *testing.T) {
	for _, c := range []struct {
		l    []uint64
		want uint64
	}{
		{nil, 0}, {[]uint64{}, 0}, {[]uint64{0}, 16294208416658607535}, {[]uint64{3}, 2092789425003139053},
		{[]uint64{3, 1, 2}, 1970620426532193762}, {[]uint64{1, 2, 3}, 1970620426532193762}, {[]uint64{1, 3}, 10088407348185125676},
		{[]uint64{7, 3}, 9133569426840584762}, {[]uint64{1, 1}, 0}, {[]uint64{1, 1, 1}, 10451216379200822465}, {[]uint64{1, 3, 1}, 2092789425003139053},
		{[]uint64{0, math.MaxUint64}, 502671764077732239}, {[]uint64{7046029254386353131}, 0},
	} {
		if got := Of(c.l); got != c.want {
			t.Errorf("Of(%v) = %d, want %d", c.l, got, c.want)
		}
	}
}

func TestOfAnyList(t *testing.T) {
	for _, l := range lists() {
		want := wantMark(0, l...)
		if got := Of(l); got != want {
			t.Errorf("Of(%v) = %d, want %d", l, got, want)
		}
		back := slices.Clone(l)
		slices.Reverse(back)
		if got := Of(back); got != want {
			t.Errorf("Of(%v) = %d, the other way around it is %d", back, got, want)
		}
	}
}

func TestOfLongList(t *testing.T) {
	var want uint64
	long := make([]uint64, 1000000)
	for i := range long {
		long[i] = uint64(i) * 0x123456789ABCDEF
		want = Turn(want, long[i])
	}
	if got := Of(long); got != want {
		t.Errorf("Of of %d numbers = %d, want %d", len(long), got, want)
	}
}

func TestChange(t *testing.T) {
	for _, c := range []struct {
		m       uint64
		out, in []uint64
		want    uint64
	}{
		{1970620426532193762, []uint64{1, 2}, []uint64{7}, 9133569426840584762},
		{0, nil, nil, 0}, {math.MaxUint64, []uint64{}, nil, math.MaxUint64}, {7, nil, []uint64{}, 7},
		{0, []uint64{5}, nil, 7134611160154358618}, {0, nil, []uint64{5}, 7134611160154358618},
		{1, []uint64{5}, []uint64{5}, 1}, {1, []uint64{5, 5}, []uint64{6}, 13647215125184110593}, {1, []uint64{6}, []uint64{5, 5}, 13647215125184110593},
		{math.MaxUint64, []uint64{0}, []uint64{math.MaxUint64}, 17944072309631819376},
		{1 << 63, []uint64{math.MaxUint64, 1}, []uint64{0, 0, 2}, 7100884984951481903},
	} {
		if got := Change(c.m, c.out, c.in); got != c.want {
			t.Errorf("Change(%d, %v, %v) = %d, want %d", c.m, c.out, c.in, got, c.want)
		}
	}
}

func TestChangeOfAnyLists(t *testing.T) {
	for i, out := range lists() {
		for k, in := range lists() {
			m := numbers()[(i*7+k)%len(numbers())]
			want := wantMark(m, slices.Concat(out, in)...)
			if got := Change(m, out, in); got != want {
				t.Errorf("Change(%d, %v, %v) = %d, want %d", m, out, in, got, want)
			}
		}
	}
}

// The lists may be one and the same, or overlap.
func TestChangeOfSharedLists(t *testing.T) {
	all := numbers()
	for n := range all {
		if got := Change(12345, all[:n], all[:n]); got != 12345 {
			t.Errorf("%d numbers out and in: %d, want 12345", n, got)
		}
		if got, want := Change(12345, all[:n], all[n/2:]), wantMark(12345, slices.Concat(all[:n], all[n/2:])...); got != want {
			t.Errorf("%d numbers out, and from %d on in: %d, want %d", n, n/2, got, want)
		}
	}
}

// What a set has lost and won is told by its mark as if it had always been so.
func TestChangeIsMarkOfWhatIsLeft(t *testing.T) {
	all := numbers()
	slices.Sort(all)
	all = slices.Compact(all)
	for n := range all {
		kept, out, in := all[:n/2], all[n/2:n], all[n:]
		if got, want := Change(Of(all[:n]), out, in), Of(slices.Concat(kept, in)); got != want {
			t.Errorf("%d stay, %d go, %d come: %d, want %d", len(kept), len(out), len(in), got, want)
		}
	}
}

// P1.

// asked is what each call is given; told is what they answer.
type asked struct {
	m, n    uint64
	out, in []uint64
}

type told struct{ mix, turn, of, change uint64 }

func ask(q asked) told {
	return told{Mix(q.n), Turn(q.m, q.n), Of(q.out), Change(q.m, q.out, q.in)}
}

func questions() []asked {
	var list []asked
	for i, out := range lists() {
		for k, in := range lists() {
			m, n := numbers()[(i*5+k)%len(numbers())], numbers()[(i+k*3)%len(numbers())]
			list = append(list, asked{m, n, out, in})
		}
	}
	return list
}

// Whatever is given, an answer is the one that the promises ask for.
func TestEachCallAnswers(t *testing.T) {
	for _, q := range questions() {
		want := told{wantMix(q.n), wantMark(q.m, q.n), wantMark(0, q.out...), wantMark(q.m, slices.Concat(q.out, q.in)...)}
		if got := ask(q); got != want {
			t.Errorf("of %d, %d, %v and %v: %v, want %v", q.m, q.n, q.out, q.in, got, want)
		}
	}
}

// P2.

// roomy is l, with room behind it that has something in it.
func roomy(l []uint64) []uint64 {
	wide := append(slices.Clone(l), 11, 12, 13)
	return wide[:len(l)]
}

func TestListsAreNotChanged(t *testing.T) {
	for _, q := range questions() {
		out, in := roomy(q.out), roomy(q.in)
		wholeOut, wholeIn := slices.Clone(out[:len(out)+3]), slices.Clone(in[:len(in)+3])
		ask(asked{q.m, q.n, out, in})
		if !slices.Equal(out[:len(out)+3], wholeOut) || !slices.Equal(in[:len(in)+3], wholeIn) {
			t.Fatalf("of %d, %d, %v and %v: left %v and %v", q.m, q.n, wholeOut, wholeIn, out[:len(out)+3], in[:len(in)+3])
		}
	}
}

func TestRoomBehindListIsNotMarked(t *testing.T) {
	for _, q := range questions() {
		if got, want := ask(asked{q.m, q.n, roomy(q.out), roomy(q.in)}), ask(q); got != want {
			t.Fatalf("of %d, %d, %v and %v: %v, with room behind the lists %v", q.m, q.n, q.out, q.in, want, got)
		}
	}
}

func TestNothingIsKeptBetweenCalls(t *testing.T) {
	list := questions()
	answers := make([]told, len(list))
	for i, q := range list {
		answers[i] = ask(q)
	}
	for i := len(list) - 1; i >= 0; i-- {
		if got := ask(list[i]); got != answers[i] {
			t.Fatalf("of %d, %d, %v and %v: first %v, then %v", list[i].m, list[i].n, list[i].out, list[i].in, answers[i], got)
		}
	}
}

// A list that has become another one in the same memory is marked anew.
func TestListsAreNotKept(t *testing.T) {
	l := make([]uint64, 3)
	for i := range uint64(100) {
		l[0], l[1], l[2] = i, i*i, ^i
		if got, want := Of(l), wantMark(0, i, i*i, ^i); got != want {
			t.Errorf("Of(%v) = %d, want %d", l, got, want)
		}
		if got, want := Change(i, l[:1], l[1:]), wantMark(i, i, i*i, ^i); got != want {
			t.Errorf("Change(%d, %v, %v) = %d, want %d", i, l[:1], l[1:], got, want)
		}
	}
}
