package tree

import (
	"fmt"
	"math"
	"slices"
	"strings"
	"testing"

	"musterfield/api"
	"musterfield/mark"
)

// texts are n texts: short and long ones, some of them empty, some there twice,
// with bytes that are no UTF-8.
func texts(n int) []string {
	few := []string{"", "a", "b", "ab", "\x00", "\x00\x00", "\xff", "\x80\xfe\x00é", "musterfield", "", "a", strings.Repeat("\xff\x00", 70)}
	list := make([]string, n)
	for i := range list {
		list[i] = fmt.Sprint(i)
		if i%5 < 2 {
			list[i] = few[i%len(few)]
		}
	}
	return list
}

// letters are n texts of one letter each.
func letters(n int) []string { return strings.Split("abcdefghijklmnopqrstuvwxyz"[:n], "") }

// figures are n texts, each of its own number.
func figures(n int) []string {
	list := make([]string, n)
	for i := range list {
		list[i] = fmt.Sprint(i)
	}
	return list
}

// marks have few bits, or many, or halves that tell apart which way they turn.
func marks() []uint64 {
	list := []uint64{0, 3, 255, math.MaxUint64, 0xAAAAAAAAAAAAAAAA, 0xFFFFFFFF, 0xFFFFFFFF00000000, 0x100000001, 0x123456789ABCDEF0, 7046029254386353131}
	for bit := range 64 {
		list = append(list, 1<<bit, 1<<bit-1, ^uint64(1<<bit))
	}
	return list
}

// far are numbers that are no place and no count, near to the bounds and far.
func far() []int {
	return []int{-1, -2, -256, -257, -1 << 31, -1 << 32, -1<<32 + 1, math.MinInt + 1, math.MinInt, 257, 258, 512, 513, 1 << 16, 1 << 31, 1 << 32, 1<<32 + 1, math.MaxInt - 1, math.MaxInt}
}

// levels are all marks of a tree, level by level from the leaves on: each pairs
// neighbours, and who is left over at the end goes up as it is. That is not how
// the promise parts the texts, but it comes to the same tree.
func levels(l []string) [][]uint64 {
	var level []uint64
	for _, s := range l {
		level = append(level, Leaf(s))
	}
	all := [][]uint64{level}
	for len(level) > 1 {
		var next []uint64
		for i := 0; i < len(level); i += 2 {
			if i+1 < len(level) {
				next = append(next, Pair(level[i], level[i+1]))
			} else {
				next = append(next, level[i])
			}
		}
		all, level = append(all, next), next
	}
	return all
}

func wantRoot(l []string) uint64 {
	all := levels(l)
	if top := all[len(all)-1]; len(top) == 1 {
		return top[0]
	}
	return 0
}

func wantTrail(l []string, at int) []uint64 {
	var made []uint64
	for _, level := range levels(l) {
		if beside := at ^ 1; beside < len(level) {
			made = append(made, level[beside])
		}
		at /= 2
	}
	return made
}

// wantHolds goes up by the trail from the leaf on, with the place and the last
// place of each level.
func wantHolds(root uint64, s string, at, n int, trail []uint64) bool {
	m, last := Leaf(s), n-1
	for ; last > 0; at, last = at/2, last/2 {
		if at%2 == 0 && at == last {
			continue
		}
		if len(trail) == 0 {
			return false
		}
		if at%2 == 1 {
			m = Pair(trail[0], m)
		} else {
			m = Pair(m, trail[0])
		}
		trail = trail[1:]
	}
	return len(trail) == 0 && m == root
}

// upBy is what s comes to by all marks of the trail, however many there are.
func upBy(s string, at int, trail []uint64) uint64 {
	m := Leaf(s)
	for _, other := range trail {
		if at%2 == 1 {
			m = Pair(other, m)
		} else {
			m = Pair(m, other)
		}
		at /= 2
	}
	return m
}

func wantGrows(l []string, n int) []uint64 {
	var made []uint64
	from := 0
	for size := 256; size >= 1; size /= 2 {
		if from+size <= n {
			made = append(made, wantRoot(l[from:from+size]))
			from += size
		}
	}
	return made
}

// P6.1.

func TestLeaf(t *testing.T) {
	for s, want := range map[string]uint64{
		"": 16294208416658607535, "a": 6774081908283191102, "b": 3918140811610257722, "ab": 3919545202882969959, "ba": 15860018276981490173,
		"abc": 6069894065622405329, "\x00": 6791897765849424158, "\x00\x00": 1825907084063272085, "\xff": 13753104245733065366,
		"\xff\xff\xff": 17179851949299114214, "\x80\xfe\x00é": 16780772490617755737, "musterfield": 8877341138194781465,
		strings.Repeat("\x00", 300): 16806152264142113932,
	} {
		if got := Leaf(s); got != want {
			t.Errorf("Leaf(%.40q) = %d, want %d", s, got, want)
		}
	}
}

func TestLeafOfEachByte(t *testing.T) {
	var all []byte
	for b := range 256 {
		all = append(all, byte(b))
		if got, want := Leaf(string([]byte{byte(b)})), mark.Mix(mark.Mix(1)^uint64(b)); got != want {
			t.Errorf("Leaf of the byte %d = %d, want %d", b, got, want)
		}
	}
	if got, want := Leaf(string(all)), uint64(7584174697847793738); got != want {
		t.Errorf("Leaf of all bytes = %d, want %d", got, want)
	}
}

func TestLeafOfLongText(t *testing.T) {
	long := []byte(strings.Repeat("musterfield\xff", 100000))
	want := mark.Mix(uint64(len(long)))
	for _, b := range long {
		want = mark.Mix(want ^ uint64(b))
	}
	if got := Leaf(string(long)); got != want {
		t.Errorf("Leaf of %d bytes = %d, want %d", len(long), got, want)
	}
}

func TestPair(t *testing.T) {
	for _, c := range []struct{ a, b, want uint64 }{
		{0, 0, 6791897765849424158}, {1, 0, 12035550249420947055}, {0, 1, 18078528397443222654}, {1, 1, 1246065779571429743},
		{0, 1 << 32, 3259556482872597323}, {1 << 32, 0, 8900858891303283264}, {1<<32 + 1, 1, 627405149472732430},
		{math.MaxUint64, math.MaxUint64, 11917333196513764506}, {math.MaxUint64, 0, 11285384103112802858}, {0, math.MaxUint64, 86066801628284986},
		{1 << 63, 1 << 31, 978509654991664193}, {0x123456789ABCDEF0, 0xFEDCBA9876543210, 517091733587603360},
		{6774081908283191102, 3918140811610257722, 7344993136695394356}, {3918140811610257722, 6774081908283191102, 14409581271073557835},
	} {
		if got := Pair(c.a, c.b); got != c.want {
			t.Errorf("Pair(%d, %d) = %d, want %d", c.a, c.b, got, c.want)
		}
	}
}

func TestPairOfAnyMarks(t *testing.T) {
	for _, a := range marks() {
		for _, b := range marks() {
			upper, lower := b/(1<<32), b%(1<<32)
			want := mark.Mix(mark.Mix(a^(lower*(1<<32)+upper)^1) ^ b)
			if got := Pair(a, b); got != want {
				t.Fatalf("Pair(%d, %d) = %d, want %d", a, b, got, want)
			}
		}
	}
}

// P6.2.

func checkRoot(t *testing.T, l []string, want uint64, wantErr api.Errno) {
	t.Helper()
	if got, err := Root(l); got != want || err != wantErr {
		t.Errorf("Root of %d texts = %d, %d, want %d, %d", len(l), got, err, want, wantErr)
	}
}

func TestRoot(t *testing.T) {
	for n, want := range []uint64{
		0, 6774081908283191102, 7344993136695394356, 15213144942392608054, 5415725071442177158,
		8513957490629673785, 13914360015588104001, 8322629473076412688, 8273030888797319790, 6066403374339001426,
	} {
		checkRoot(t, letters(n), want, api.OK)
	}
	for n, want := range map[int]uint64{
		31: 8381856271275075035, 32: 956594637707716303, 33: 10430665085822497693, 100: 10134939258770378991, 127: 8867676035669414535,
		128: 13932717975804031526, 129: 18423520369748133775, 200: 2668171460324313394, 255: 15617453779850654962, 256: 17833932754706235306,
	} {
		checkRoot(t, figures(n), want, api.OK)
	}
}

func TestRootOfNothing(t *testing.T) {
	checkRoot(t, nil, 0, api.OK)
	checkRoot(t, []string{}, 0, api.OK)
	checkRoot(t, []string{""}, 16294208416658607535, api.OK)
	checkRoot(t, []string{"", ""}, 7115121961847385136, api.OK)
	checkRoot(t, make([]string, 256), 2746189400702283952, api.OK)
}

func TestRootOfSeven(t *testing.T) {
	l := letters(7)
	leaf := func(i int) uint64 { return Leaf(l[i]) }
	first := Pair(Pair(leaf(0), leaf(1)), Pair(leaf(2), leaf(3)))
	checkRoot(t, l, Pair(first, Pair(Pair(leaf(4), leaf(5)), leaf(6))), api.OK)
}

func TestRootOfEachCount(t *testing.T) {
	for n := range 257 {
		checkRoot(t, texts(n), wantRoot(texts(n)), api.OK)
	}
}

func TestRootOfTooMany(t *testing.T) {
	for _, n := range []int{257, 258, 512, 513, 1000, 65536, 65537, 1000000} {
		checkRoot(t, make([]string, n), 0, api.ErrLarge)
	}
}

// P6.3.

func checkTrail(t *testing.T, l []string, at int, want []uint64, wantErr api.Errno) {
	t.Helper()
	if got, err := Trail(l, at); !slices.Equal(got, want) || err != wantErr {
		t.Errorf("Trail of %d texts, at %d = %d, %d, want %d, %d", len(l), at, got, err, want, wantErr)
	}
}

func TestTrail(t *testing.T) {
	l := letters(5)
	a, b, c, d, e := Leaf("a"), Leaf("b"), Leaf("c"), Leaf("d"), Leaf("e")
	ab, cd := Pair(a, b), Pair(c, d)
	checkTrail(t, l, 0, []uint64{b, cd, e}, api.OK)
	checkTrail(t, l, 1, []uint64{a, cd, e}, api.OK)
	checkTrail(t, l, 2, []uint64{d, ab, e}, api.OK)
	checkTrail(t, l, 3, []uint64{c, ab, e}, api.OK)
	checkTrail(t, l, 4, []uint64{Pair(ab, cd)}, api.OK)
	checkTrail(t, l[:4], 3, []uint64{c, ab}, api.OK)
	checkTrail(t, l[:3], 2, []uint64{ab}, api.OK)
	checkTrail(t, l[:2], 0, []uint64{b}, api.OK)
	checkTrail(t, l[:1], 0, nil, api.OK)
	checkTrail(t, []string{""}, 0, nil, api.OK)
}

func TestTrailOfEachPlace(t *testing.T) {
	for n := range 257 {
		l := texts(n)
		for at := range l {
			checkTrail(t, l, at, wantTrail(l, at), api.OK)
		}
	}
}

func TestTrailOfWrongPlace(t *testing.T) {
	for _, n := range []int{0, 1, 2, 3, 5, 8, 255, 256} {
		for _, at := range append(far(), n, n+1) {
			checkTrail(t, texts(n), at, nil, api.ErrNone)
		}
	}
	checkTrail(t, nil, 0, nil, api.ErrNone)
}

// That there are too many is told first, whatever the place.
func TestTrailOfTooMany(t *testing.T) {
	for _, n := range []int{257, 258, 512, 65536} {
		for _, at := range append(far(), 0, 1, 255, 256, n-1, n) {
			checkTrail(t, make([]string, n), at, nil, api.ErrLarge)
		}
	}
}

func checkHolds(t *testing.T, root uint64, s string, at, n int, trail []uint64, want bool, wantErr api.Errno) {
	t.Helper()
	if got, err := Holds(root, s, at, n, trail); got != want || err != wantErr {
		t.Errorf("Holds(%d, %.40q, %d, %d, %d) = %v, %d, want %v, %d", root, s, at, n, trail, got, err, want, wantErr)
	}
}

func TestHolds(t *testing.T) {
	a, b, c, d, e := Leaf("a"), Leaf("b"), Leaf("c"), Leaf("d"), Leaf("e")
	ab, cd := Pair(a, b), Pair(c, d)
	const root = 8513957490629673785 // of a to e
	checkHolds(t, root, "a", 0, 5, []uint64{b, cd, e}, true, api.OK)
	checkHolds(t, root, "b", 1, 5, []uint64{a, cd, e}, true, api.OK)
	checkHolds(t, root, "c", 2, 5, []uint64{d, ab, e}, true, api.OK)
	checkHolds(t, root, "d", 3, 5, []uint64{c, ab, e}, true, api.OK)
	checkHolds(t, root, "e", 4, 5, []uint64{Pair(ab, cd)}, true, api.OK)
	checkHolds(t, root+1, "c", 2, 5, []uint64{d, ab, e}, false, api.OK)
	checkHolds(t, root, "d", 2, 5, []uint64{d, ab, e}, false, api.OK)
	checkHolds(t, root, "c", 3, 5, []uint64{d, ab, e}, false, api.OK)
	checkHolds(t, root, "c", 4, 5, []uint64{d, ab, e}, false, api.OK)
	checkHolds(t, root, "c", 2, 5, []uint64{e, ab, d}, false, api.OK)
	checkHolds(t, root, "c", 2, 4, []uint64{d, ab, e}, false, api.OK)
	checkHolds(t, ab, "a", 0, 2, []uint64{b}, true, api.OK)
	checkHolds(t, ab, "b", 0, 2, []uint64{a}, false, api.OK)
}

func TestHoldsOfOneText(t *testing.T) {
	checkHolds(t, 6774081908283191102, "a", 0, 1, nil, true, api.OK)
	checkHolds(t, 6774081908283191102, "a", 0, 1, []uint64{}, true, api.OK)
	checkHolds(t, 6774081908283191102, "b", 0, 1, nil, false, api.OK)
	checkHolds(t, 6774081908283191102, "a", 0, 1, []uint64{0}, false, api.OK)
	checkHolds(t, 6774081908283191102, "a", 0, 1, []uint64{6774081908283191102}, false, api.OK)
	checkHolds(t, 0, "a", 0, 1, nil, false, api.OK)
	checkHolds(t, 0, "", 0, 1, nil, false, api.OK)
	checkHolds(t, 16294208416658607535, "", 0, 1, nil, true, api.OK)
}

// What Trail tells leads to what Root tells; with one bit of the root or of a
// mark wrong, or with another text, it doesn't.
func TestHoldsOfEachTrail(t *testing.T) {
	for n := range 257 {
		l := texts(n)
		root, _ := Root(l)
		for at, s := range l {
			trail, _ := Trail(l, at)
			checkHolds(t, root, s, at, n, trail, true, api.OK)
			checkHolds(t, root, s+"\x00", at, n, trail, false, api.OK)
			checkHolds(t, root^1<<(at%64), s, at, n, trail, false, api.OK)
			for i := range trail {
				wrong := slices.Clone(trail)
				wrong[i] ^= 1 << ((at + i) % 64)
				checkHolds(t, root, s, at, n, wrong, false, api.OK)
			}
		}
	}
}

// One mark too few or too many, at either end, or many: even if the root is
// what all of the marks, or some of them, would come to.
func TestHoldsOfWrongCount(t *testing.T) {
	for _, n := range []int{1, 2, 3, 4, 5, 7, 8, 9, 31, 64, 65, 100, 255, 256} {
		l := texts(n)
		root, _ := Root(l)
		for at, s := range l {
			trail, _ := Trail(l, at)
			above := slices.Concat(trail, []uint64{12345})
			checkHolds(t, root, s, at, n, above, false, api.OK)
			checkHolds(t, Pair(root, 12345), s, at, n, above, false, api.OK)
			checkHolds(t, Pair(12345, root), s, at, n, above, false, api.OK)
			checkHolds(t, root, s, at, n, slices.Concat([]uint64{12345}, trail), false, api.OK)
			checkHolds(t, root, s, at, n, make([]uint64, 1000), false, api.OK)
			for k := range trail {
				checkHolds(t, root, s, at, n, trail[:k], false, api.OK)
				checkHolds(t, root, s, at, n, trail[k+1:], false, api.OK)
				checkHolds(t, upBy(s, at, trail[:k]), s, at, n, trail[:k], false, api.OK)
			}
		}
	}
}

// With each count and each place the answer is what the way up tells: another
// count may part the texts alike on the way of a text, and then it holds.
func TestHoldsOfOtherPlaces(t *testing.T) {
	for _, count := range []int{1, 2, 3, 5, 6, 8, 11, 17} {
		l := figures(count)
		root, _ := Root(l)
		for i, s := range l {
			trail, _ := Trail(l, i)
			for n := 1; n <= 34; n++ {
				for at := range n {
					checkHolds(t, root, s, at, n, trail, wantHolds(root, s, at, n, trail), api.OK)
				}
			}
		}
	}
	l := letters(4)
	root, _ := Root(l)
	trail, _ := Trail(l, 0)
	checkHolds(t, root, "a", 0, 3, trail, true, api.OK)
	checkHolds(t, root, "a", 0, 2, trail, false, api.OK)
	checkHolds(t, root, "a", 0, 5, trail, false, api.OK)
	checkHolds(t, root, "a", 1, 4, trail, false, api.OK)
}

func TestHoldsOutOfBounds(t *testing.T) {
	trail, _ := Trail(letters(5), 2)
	const root = 8513957490629673785
	for _, n := range append(far(), 0) {
		for _, at := range append(far(), 0, 1, 2, n-1, n, n+1) {
			checkHolds(t, root, "c", at, n, trail, false, api.ErrArg)
			checkHolds(t, root, "c", at, n, nil, false, api.ErrArg)
		}
	}
	for _, n := range []int{1, 2, 3, 5, 8, 255, 256} {
		for _, at := range append(far(), n, n+1) {
			checkHolds(t, root, "c", at, n, trail, false, api.ErrArg)
			checkHolds(t, root, "c", at, n, make([]uint64, 1000), false, api.ErrArg)
		}
	}
	checkHolds(t, 0, "", 0, 0, nil, false, api.ErrArg)
}

// P6.4.

func checkGrows(t *testing.T, l []string, n int, want []uint64, wantErr api.Errno) {
	t.Helper()
	if got, err := Grows(l, n); !slices.Equal(got, want) || err != wantErr {
		t.Errorf("Grows of %d texts, %d = %d, %d, want %d, %d", len(l), n, got, err, want, wantErr)
	}
}

func TestGrows(t *testing.T) {
	l := letters(8)
	a, b, c, d, e, f, g := Leaf("a"), Leaf("b"), Leaf("c"), Leaf("d"), Leaf("e"), Leaf("f"), Leaf("g")
	four := Pair(Pair(a, b), Pair(c, d))
	checkGrows(t, l, 0, nil, api.OK)
	checkGrows(t, l, 1, []uint64{a}, api.OK)
	checkGrows(t, l, 2, []uint64{Pair(a, b)}, api.OK)
	checkGrows(t, l, 3, []uint64{Pair(a, b), c}, api.OK)
	checkGrows(t, l, 4, []uint64{four}, api.OK)
	checkGrows(t, l, 5, []uint64{four, e}, api.OK)
	checkGrows(t, l, 6, []uint64{four, Pair(e, f)}, api.OK)
	checkGrows(t, l, 7, []uint64{four, Pair(e, f), g}, api.OK)
	checkGrows(t, l, 8, []uint64{8273030888797319790}, api.OK)
	checkGrows(t, nil, 0, nil, api.OK)
	checkGrows(t, []string{}, 0, nil, api.OK)
	checkGrows(t, make([]string, 256), 256, []uint64{2746189400702283952}, api.OK)
}

func TestGrowsOfEachCount(t *testing.T) {
	for _, count := range []int{1, 2, 3, 4, 7, 8, 63, 64, 65, 200, 255, 256} {
		l := texts(count)
		for n := range count + 1 {
			checkGrows(t, l, n, wantGrows(l, n), api.OK)
		}
	}
}

// The marks of the first texts are enough to come to the root of these.
func TestGrowsLeadsToRoot(t *testing.T) {
	l := texts(256)
	for n := 1; n <= len(l); n++ {
		made, _ := Grows(l, n)
		top := made[len(made)-1]
		for i := len(made) - 2; i >= 0; i-- {
			top = Pair(made[i], top)
		}
		checkRoot(t, l[:n], top, api.OK)
	}
}

func TestGrowsOutOfBounds(t *testing.T) {
	for _, count := range []int{0, 1, 2, 3, 5, 8, 255, 256} {
		for _, n := range append(far(), count+1, count+2) {
			checkGrows(t, texts(count), n, nil, api.ErrArg)
		}
	}
}

// The room behind a list is no text of it, even if n would reach there.
func TestGrowsNotIntoRoomBehind(t *testing.T) {
	l := texts(20)
	for n := 6; n <= 21; n++ {
		checkGrows(t, l[:5], n, nil, api.ErrArg)
	}
}

// That there are too many is told first, whatever n is.
func TestGrowsOfTooMany(t *testing.T) {
	for _, count := range []int{257, 258, 512, 65536} {
		for _, n := range append(far(), 0, 1, 255, 256, count, count+1) {
			checkGrows(t, make([]string, count), n, nil, api.ErrLarge)
		}
	}
}

// P1.

// asked is what each call is given; told is what they answer.
type asked struct {
	l     []string
	at, n int
	root  uint64
	trail []uint64
}

type told struct {
	leaf, pair, root                      uint64
	trail, grows                          []uint64
	holds                                 bool
	rootErr, trailErr, holdsErr, growsErr api.Errno
}

func (q asked) text() string { return strings.Join(q.l[:min(2, len(q.l))], "") }

func ask(q asked) told {
	r := told{leaf: Leaf(q.text()), pair: Pair(q.root, Leaf(q.text()))}
	r.root, r.rootErr = Root(q.l)
	r.trail, r.trailErr = Trail(q.l, q.at)
	r.holds, r.holdsErr = Holds(q.root, q.text(), q.at, q.n, q.trail)
	r.grows, r.growsErr = Grows(q.l, q.n)
	return r
}

func same(a, b told) bool {
	return a.leaf == b.leaf && a.pair == b.pair && a.root == b.root && slices.Equal(a.trail, b.trail) && slices.Equal(a.grows, b.grows) && a.holds == b.holds &&
		a.rootErr == b.rootErr && a.trailErr == b.trailErr && a.holdsErr == b.holdsErr && a.growsErr == b.growsErr
}

func (q asked) String() string {
	return fmt.Sprintf("%d texts, at %d, n %d, root %d, %d marks", len(q.l), q.at, q.n, q.root, len(q.trail))
}

func questions() []asked {
	var list []asked
	trails := [][]uint64{nil, {}, {0}, {1, 2, 3}, marks()[:8], marks()[:9], marks()}
	places := append(far(), 0, 1, 2, 3, 4, 7, 127, 128, 255, 256)
	for _, count := range []int{0, 1, 2, 3, 5, 8, 100, 255, 256, 257, 1000} {
		l := texts(count)
		for i, at := range places {
			for k, n := range places {
				list = append(list, asked{l, at, n, marks()[(i+k)%len(marks())], trails[(i+k)%len(trails)]})
			}
		}
		for at := 0; at < min(count, 256); at += 1 + count/7 {
			list = append(list, asked{l, at, count, wantRoot(l), wantTrail(l, at)})
		}
	}
	return list
}

// wantTold is what the promises ask for.
func wantTold(q asked) told {
	r := told{leaf: Leaf(q.text()), pair: Pair(q.root, Leaf(q.text()))}
	large := len(q.l) > 256
	r.rootErr = firstError(large, false, api.OK)
	r.trailErr = firstError(large, q.at < 0 || q.at >= len(q.l), api.ErrNone)
	r.holdsErr = firstError(false, q.n < 1 || q.n > 256 || q.at < 0 || q.at >= q.n, api.ErrArg)
	r.growsErr = firstError(large, q.n < 0 || q.n > len(q.l), api.ErrArg)
	if r.rootErr == api.OK {
		r.root = wantRoot(q.l)
	}
	if r.trailErr == api.OK {
		r.trail = wantTrail(q.l, q.at)
	}
	if r.holdsErr == api.OK {
		r.holds = wantHolds(q.root, q.text(), q.at, q.n, q.trail)
	}
	if r.growsErr == api.OK {
		r.grows = wantGrows(q.l, q.n)
	}
	return r
}

func firstError(large, wrong bool, err api.Errno) api.Errno {
	if large {
		return api.ErrLarge
	}
	if wrong {
		return err
	}
	return api.OK
}

// Whatever is given, an answer is the one that the promises ask for.
func TestEachCallAnswers(t *testing.T) {
	for _, q := range questions() {
		if got, want := ask(q), wantTold(q); !same(got, want) {
			t.Errorf("of %v: %v, want %v", q, got, want)
		}
	}
}

// P2.

// roomy is q, its lists with room behind them that has something in it.
func roomy(q asked) asked {
	q.l = append(slices.Clone(q.l), "x", "y", "z")[:len(q.l)]
	q.trail = append(slices.Clone(q.trail), 11, 12, 13)[:len(q.trail)]
	return q
}

func TestListsAreNotChanged(t *testing.T) {
	for _, q := range questions() {
		q = roomy(q)
		l, trail := q.l[:len(q.l)+3], q.trail[:len(q.trail)+3]
		oldTexts, oldMarks := slices.Clone(l), slices.Clone(trail)
		ask(q)
		if !slices.Equal(l, oldTexts) || !slices.Equal(trail, oldMarks) {
			t.Fatalf("of %v: left %q and %d", q, l, trail)
		}
	}
}

func TestRoomBehindListsIsNotSeen(t *testing.T) {
	for _, q := range questions() {
		if got, want := ask(roomy(q)), ask(q); !same(got, want) {
			t.Fatalf("of %v: %v, with room behind the lists %v", q, want, got)
		}
	}
}

// spoil changes a list that was answered, and the room behind it.
func spoil(l []uint64) {
	l = l[:cap(l)]
	for i := range l {
		l[i] = ^l[i]
	}
}

// Who changes an answer changes neither what was handed in nor another answer.
func TestAnswersAreNewMemory(t *testing.T) {
	for _, q := range questions() {
		q = roomy(q)
		trail := slices.Clone(q.trail[:len(q.trail)+3])
		want, first, second := wantTold(q), ask(q), ask(q)
		spoil(first.trail)
		spoil(first.grows)
		if !same(second, want) {
			t.Fatalf("of %v: %v, want %v", q, second, want)
		}
		spoil(second.trail)
		if !slices.Equal(second.grows, want.grows) || !slices.Equal(q.trail[:len(q.trail)+3], trail) {
			t.Fatalf("of %v: Trail's answer shares memory", q)
		}
		if third := ask(q); !same(third, want) {
			t.Fatalf("of %v: %v behind spoilt answers, want %v", q, third, want)
		}
	}
}

func TestNothingIsKeptBetweenCalls(t *testing.T) {
	list := questions()
	answers := make([]told, len(list))
	for i, q := range list {
		answers[i] = ask(q)
	}
	for i := len(list) - 1; i >= 0; i-- {
		if got := ask(list[i]); !same(got, answers[i]) {
			t.Fatalf("of %v: first %v, then %v", list[i], answers[i], got)
		}
	}
}

// Lists that have become other ones in the same memory are read anew.
func TestListsAreNotKept(t *testing.T) {
	l, trail := make([]string, 5), make([]uint64, 3)
	for i := range 100 {
		for k := range l {
			l[k] = fmt.Sprint(i * k)
		}
		checkRoot(t, l, wantRoot(l), api.OK)
		checkTrail(t, l, i%5, wantTrail(l, i%5), api.OK)
		checkGrows(t, l, i%6, wantGrows(l, i%6), api.OK)
		copy(trail, wantTrail(l, i%4))
		checkHolds(t, wantRoot(l), l[i%4], i%4, 5, trail, true, api.OK)
		trail[i%3]++
		checkHolds(t, wantRoot(l), l[i%4], i%4, 5, trail, false, api.OK)
	}
}
