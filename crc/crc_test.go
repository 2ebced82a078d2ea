package crc

import (
	"hash/crc32"
	"math"
	"strings"
	"testing"

	"musterfield/api"
)

// texts are short and long, with each byte in them, also such bytes as are no
// UTF-8 and such as are 0.
func texts() []string {
	list := []string{"", "a", "abc", "1234", "56789", "123456789", "musterfield", "\x00\x00", "\x00\x00\x00", "\x00\x00\x00\x00", "\xff\xff\xff\xff", "\x80\xfe\x00é", "\xed\xa0\x80", "é\u2028\U0001F600"}
	for b := range 256 {
		list = append(list, string([]byte{byte(b)}))
	}
	all := strings.Join(list, "")
	for n := 5; n < len(all); n += n / 3 {
		list = append(list, all[:n], all[len(all)-n:])
	}
	return append(list, strings.Repeat("\x00", 1000), strings.Repeat("\xff", 1000), strings.Repeat(all, 7))
}

// sums have few bits, or many, or are what a text leads to.
func sums() []uint32 {
	list := []uint32{0, math.MaxUint32, 3988292384, 306674911, 3421780262, 123456789, 0xAAAAAAAA, 0x55555555}
	for bit := range 32 {
		list = append(list, 1<<bit, 1<<bit-1, ^uint32(1<<bit))
	}
	return list
}

// wantMore is the promise word by word, with bits as a list, the lowest first,
// so that nothing of the numbers' own ways is taken for granted.
func wantMore(sum uint32, s string) uint32 {
	bits := turned(bitsOf(sum))
	mixed := bitsOf(3988292384)
	for _, b := range []byte(s) {
		for i, bit := range bitsOf(uint32(b)) {
			bits[i] = bits[i] != bit
		}
		for range 8 {
			out := bits[0]
			copy(bits[:], bits[1:])
			bits[31] = false
			for i := range bits {
				bits[i] = bits[i] != (out && mixed[i])
			}
		}
	}
	return numberOf(turned(bits))
}

func bitsOf(n uint32) [32]bool {
	var bits [32]bool
	for i := range bits {
		bits[i] = n%2 == 1
		n /= 2
	}
	return bits
}

func numberOf(bits [32]bool) uint32 {
	var n uint32
	for i := 31; i >= 0; i-- {
		n *= 2
		if bits[i] {
			n++
		}
	}
	return n
}

func turned(bits [32]bool) [32]bool {
	for i := range bits {
		bits[i] = !bits[i]
	}
	return bits
}

// zeros is the sum behind n bytes more that are 0, by the library's own sums,
// which are fast enough for texts of some length.
func zeros(sum uint32, n int) uint32 {
	return crc32.Update(sum, crc32.IEEETable, make([]byte, n))
}

// P4.1.

func TestOf(t *testing.T) {
	for s, want := range map[string]uint32{
		"": 0, "a": 3904355907, "abc": 891568578, "123456789": 3421780262, "1234": 2615402659, "56789": 320708720,
		"\x00": 3523407757, "\x00\x00\x00\x00": 558161692, "\xff": 4278190080, "\xff\xff\xff\xff": 4294967295,
		"musterfield": 52443576, "The quick brown fox jumps over the lazy dog": 1095738169, "\x80\xfe\x00é": 1587591642,
	} {
		if got := Of(s); got != want {
			t.Errorf("Of(%q) = %d, want %d", s, got, want)
		}
	}
}

func TestOfAnyText(t *testing.T) {
	for _, s := range texts() {
		got := Of(s)
		if want := wantMore(0, s); got != want {
			t.Errorf("Of(%.40q) = %d, want %d", s, got, want)
		}
		if want := crc32.ChecksumIEEE([]byte(s)); got != want {
			t.Errorf("Of(%.40q) = %d, the library says %d", s, got, want)
		}
	}
}

func TestOfLongText(t *testing.T) {
	long := strings.Repeat(strings.Join(texts(), "-"), 200)
	if got, want := Of(long), crc32.ChecksumIEEE([]byte(long)); got != want {
		t.Errorf("Of of %d bytes = %d, want %d", len(long), got, want)
	}
}

func TestMore(t *testing.T) {
	for _, c := range []struct {
		sum  uint32
		s    string
		want uint32
	}{
		{0, "", 0}, {1, "", 1}, {math.MaxUint32, "", math.MaxUint32}, {0, "a", 3904355907}, {2615402659, "56789", 3421780262},
		{1, "a", 2679148245}, {math.MaxUint32, "\x00", math.MaxUint32}, {math.MaxUint32, "\xff", 3539800178}, {math.MaxUint32, "abc", 899311407},
		{3988292384, "musterfield", 1676105304}, {1 << 31, "\x80", 1060793517},
	} {
		if got := More(c.sum, c.s); got != c.want {
			t.Errorf("More(%d, %q) = %d, want %d", c.sum, c.s, got, c.want)
		}
	}
}

func TestMoreOfAnySum(t *testing.T) {
	for _, sum := range sums() {
		for b := range 256 {
			s := string([]byte{byte(b)})
			if got, want := More(sum, s), wantMore(sum, s); got != want {
				t.Errorf("More(%d, %q) = %d, want %d", sum, s, got, want)
			}
		}
		for _, s := range texts() {
			if got, want := More(sum, s), crc32.Update(sum, crc32.IEEETable, []byte(s)); got != want {
				t.Errorf("More(%d, %.40q) = %d, want %d", sum, s, got, want)
			}
		}
	}
}

func TestMoreGoesOn(t *testing.T) {
	s := strings.Join(texts()[:40], "")
	for i := range len(s) + 1 {
		if got, want := More(Of(s[:i]), s[i:]), Of(s); got != want {
			t.Errorf("%d bytes, and the others: %d, want %d", i, got, want)
		}
	}
}

// P4.2.

func checkJoin(t *testing.T, a, b uint32, n int, want uint32) {
	t.Helper()
	if got, err := Join(a, b, n); got != want || err != api.OK {
		t.Errorf("Join(%d, %d, %d) = %d, %d, want %d, OK", a, b, n, got, err, want)
	}
}

// Of long texts all but the first bytes are 0: their sums were found by taking
// all of these bytes.
func TestJoin(t *testing.T) {
	for _, c := range []struct {
		a, b uint32
		n    int
		want uint32
	}{
		{0, 0, 0, 0}, {52443576, 0, 0, 52443576}, {0, 52443576, 11, 52443576}, {2615402659, 320708720, 5, 3421780262},
		{52443576, 3411291409, 1000000007, 530078438},
		{52443576, 1533330096, 1 << 30, 1538051294}, {52443576, 423114947, 1<<30 + 1, 3006446738},
		{52443576, 16331846, 1<<31 - 1, 855289798}, {0, 16331846, 1<<31 - 1, 16331846},
	} {
		checkJoin(t, c.a, c.b, c.n, c.want)
	}
}

func TestJoinIsSumOfBoth(t *testing.T) {
	list := texts()
	for _, first := range list {
		for _, second := range list[:60] {
			checkJoin(t, Of(first), Of(second), len(second), Of(first+second))
		}
		second := list[len(list)-1]
		checkJoin(t, Of(first), Of(second), len(second), More(Of(first), second))
	}
}

// Any number is what Of tells of some text of four bytes.
func TestJoinOfAnySums(t *testing.T) {
	for _, a := range sums() {
		for _, second := range texts() {
			checkJoin(t, a, Of(second), len(second), More(a, second))
		}
	}
}

func TestJoinOfEachLength(t *testing.T) {
	var b, both uint32 = 0, 52443576
	for n := range 5000 {
		checkJoin(t, 52443576, b, n, both)
		next := string([]byte{byte(n * 7)})
		b, both = More(b, next), More(both, next)
	}
}

func TestJoinOfLongTexts(t *testing.T) {
	for bit := 12; bit <= 24; bit++ {
		for _, n := range []int{1<<bit - 1, 1 << bit, 1<<bit + 1, 1<<bit + 1<<(bit/2)} {
			for _, a := range []uint32{1, 52443576, 1 << 31, math.MaxUint32} {
				checkJoin(t, a, zeros(0, n), n, zeros(a, n))
			}
		}
	}
}

// With lengths that no test could wait for: to move on by two lengths, one
// behind the other, is to move on by both. And as 2^32 - 1 bytes that are 0
// lead back to where they began, so do twice 2^31 - 1 of them and one more.
func TestJoinOfLengthsBehindOneAnother(t *testing.T) {
	move := func(a uint32, n int) uint32 {
		got, err := Join(a, 0, n)
		if err != api.OK {
			t.Fatalf("Join(%d, 0, %d): error %d", a, n, err)
		}
		return got
	}
	for _, a := range sums() {
		for bit := range 31 {
			first, second := 1<<bit, 1<<31-1-1<<bit
			if got, want := move(move(a, first), second), move(a, 1<<31-1); got != want {
				t.Errorf("of %d, behind %d and %d bytes: %d, want %d", a, first, second, got, want)
			}
		}
		if got := move(move(move(a, 1<<31-1), 1<<31-1), 1); got != a {
			t.Errorf("of %d, all the way around: %d", a, got)
		}
	}
}

func TestJoinOutOfBounds(t *testing.T) {
	wrong := []int{
		-1, -2, -5, -1<<31 + 1, -1 << 31, -1<<32 + 5, -1 << 32, -1 << 40, math.MinInt + 5, math.MinInt + 1, math.MinInt,
		1 << 31, 1<<31 + 1, 1<<32 - 1, 1 << 32, 1<<32 + 5, 1 << 40, 1 << 62, math.MaxInt - 1, math.MaxInt,
	}
	for _, a := range sums() {
		for _, b := range sums() {
			for _, n := range wrong {
				if got, err := Join(a, b, n); got != 0 || err != api.ErrArg {
					t.Fatalf("Join(%d, %d, %d) = %d, %d, want 0, ErrArg", a, b, n, got, err)
				}
			}
		}
	}
}

// P4.3.

func checkOpen(t *testing.T, s, want string, wantErr api.Errno) {
	t.Helper()
	if got, err := Open(s); got != want || err != wantErr {
		t.Errorf("Open(%.40q) = %.40q, %d, want %.40q, %d", s, got, err, want, wantErr)
	}
}

func TestSeal(t *testing.T) {
	for s, want := range map[string]string{
		"": "\x00\x00\x00\x00", "a": "a\x43\xbe\xb7\xe8", "abc": "abc\xc2\x41\x24\x35", "123456789": "123456789\x26\x39\xf4\xcb",
		"\x00": "\x00\x8d\xef\x02\xd2", "\xff": "\xff\x00\x00\x00\xff", "\xff\xff\xff\xff": "\xff\xff\xff\xff\xff\xff\xff\xff",
	} {
		if got := Seal(s); got != want {
			t.Errorf("Seal(%q) = %q, want %q", s, got, want)
		}
		checkOpen(t, want, s, api.OK)
	}
}

func TestSealOfAnyText(t *testing.T) {
	for _, s := range texts() {
		n := wantMore(0, s)
		want := s + string([]byte{byte(n % 256), byte(n / 256 % 256), byte(n / 65536 % 256), byte(n / 16777216)})
		if got := Seal(s); got != want {
			t.Errorf("Seal(%.40q) = %.80q, want %.80q", s, got, want)
		}
		checkOpen(t, want, s, api.OK)
		twice := Seal(want)
		checkOpen(t, twice, want, api.OK)
	}
}

func TestOpenOfShortText(t *testing.T) {
	for _, s := range []string{"", "a", "ab", "abc", "\x00", "\x00\x00", "\x00\x00\x00", "\xff\xff\xff", "é", "é\xff"} {
		checkOpen(t, s, "", api.ErrShort)
	}
}

func TestOpenOfWrongSum(t *testing.T) {
	for _, s := range []string{
		"abcd", "\x00\x00\x00\x01", "\x01\x00\x00\x00", "\xff\xff\xff\xff", "éé", "\x00\x00\x00\x00\x00",
		"123456789", "123456789\xcb\xf4\x39\x26", "123456789\x26\x39\xf4\xcc", "123456789\x27\x39\xf4\xcb", "123456789\xd9\xc6\x0b\x34",
		"123456789\x26\x39\xf4\xcb\x00", "\x00123456789\x26\x39\xf4\xcb", "123456780\x26\x39\xf4\xcb", "\x26\x39\xf4\xcb123456789",
	} {
		checkOpen(t, s, "", api.ErrSum)
	}
}

// A sum tells each bit that is wrong, and each byte that is missing.
func TestOpenOfSpoiltText(t *testing.T) {
	for _, s := range texts()[:60] {
		whole := Seal(s)
		for i := range len(whole) {
			for bit := range 8 {
				spoilt := []byte(whole)
				spoilt[i] ^= 1 << bit
				checkOpen(t, string(spoilt), "", api.ErrSum)
			}
		}
	}
	whole := Seal("musterfield, a field on which players muster troops")
	for n := range len(whole) {
		want := api.ErrSum
		if n < 4 {
			want = api.ErrShort
		}
		checkOpen(t, whole[:n], "", want)
	}
}

// P1.

// asked is what each call is given; told is what they answer.
type asked struct {
	sum, b uint32
	n      int
	s      string
}

type told struct {
	of, more, join   uint32
	seal, open       string
	joinErr, openErr api.Errno
}

func ask(q asked) told {
	r := told{of: Of(q.s), more: More(q.sum, q.s), seal: Seal(q.s)}
	r.join, r.joinErr = Join(q.sum, q.b, q.n)
	r.open, r.openErr = Open(q.s)
	return r
}

func questions() []asked {
	var list []asked
	sizes := []int{math.MinInt, -1 << 32, -1, 0, 1, 2, 3, 4, 255, 65536, 1<<31 - 2, 1<<31 - 1, 1 << 31, 1 << 32, math.MaxInt}
	for i, s := range append(texts(), Seal(""), Seal("abc"), Seal(Seal("abc"))) {
		for k, sum := range sums() {
			list = append(list, asked{sum, sums()[(i+k)%len(sums())], sizes[(i+k)%len(sizes)], s})
		}
	}
	return list
}

// Whatever is given, an answer is one that the promises know.
func TestEachCallAnswers(t *testing.T) {
	for _, q := range questions() {
		r := ask(q)
		if want := q.n < 0 || q.n > 1<<31-1; (r.joinErr == api.ErrArg) != want || !want && r.joinErr != api.OK {
			t.Errorf("Join(%d, %d, %d): error %d", q.sum, q.b, q.n, r.joinErr)
		}
		if r.openErr == api.OK && Seal(r.open) != q.s {
			t.Errorf("Open(%.40q) = %.40q, which Seal makes %.40q", q.s, r.open, Seal(r.open))
		}
		if want := len(q.s) < 4; (r.openErr == api.ErrShort) != want || !want && r.openErr != api.OK && r.openErr != api.ErrSum {
			t.Errorf("Open(%.40q): error %d", q.s, r.openErr)
		}
	}
}

// P2.

func TestNothingIsKeptBetweenCalls(t *testing.T) {
	list := questions()
	answers := make([]told, len(list))
	for i, q := range list {
		answers[i] = ask(q)
	}
	for i := len(list) - 1; i >= 0; i-- {
		if got := ask(list[i]); got != answers[i] {
			t.Fatalf("of %d, %d, %d and %.40q: first %v, then %v", list[i].sum, list[i].b, list[i].n, list[i].s, answers[i], got)
		}
	}
}
