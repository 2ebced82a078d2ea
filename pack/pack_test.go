package pack

import (
	"encoding/binary"
	"fmt"
	"math"
	"math/big"
	"slices"
	"strings"
	"testing"

	"musterfield/api"
)

// numbers are small and great, and all near to where a digit or a bit more is
// needed.
func numbers() []uint64 {
	list := []uint64{3, 100, 300, 1000, 1001, 123456789, 0x123456789ABCDEF0, 0xAAAAAAAAAAAAAAAA}
	for bit := range 64 {
		power := uint64(1) << bit
		list = append(list, power, power-1, power+1, power*3, -power, -power-1)
	}
	return list
}

// ints are numbers of both sides of 0, up to the ends.
func ints() []int {
	var list []int
	for _, n := range numbers() {
		list = append(list, int(n), -int(n))
	}
	return append(list, math.MinInt, math.MinInt+1, math.MaxInt-1, math.MaxInt)
}

// many are n numbers, of one byte and of ten, and of all sizes between.
func many(n int) []int {
	all := ints()
	list := make([]int, n)
	for i := range list {
		list[i] = all[i%len(all)]
	}
	return list
}

// rests are what may stand behind a number: whatever it is, it isn't looked at.
func rests() []string {
	return []string{"", "\x00", "\x01", "\x7f", "\x80", "\xff", "yz", "\x80\x00", "é", "\x00\xff\xff", strings.Repeat("\x80", 10), strings.Repeat("\xff", 300)}
}

// wantPut finds the digits by numbers of any size.
func wantPut(n uint64) string {
	left, digit := new(big.Int).SetUint64(n), new(big.Int)
	var digits []byte
	for len(digits) == 0 || left.Sign() > 0 {
		left.QuoRem(left, big.NewInt(128), digit)
		digits = append(digits, byte(digit.Int64()))
	}
	for i := range digits[:len(digits)-1] {
		digits[i] += 128
	}
	return string(digits)
}

// wantGet is the promise word by word, by numbers of any size.
func wantGet(s string) (uint64, string, api.Errno) {
	end := slices.IndexFunc([]byte(s), func(b byte) bool { return b < 128 })
	if len(s) >= 10 && (end < 0 || end >= 10) {
		return 0, "", api.ErrForm
	}
	if end < 0 {
		return 0, "", api.ErrShort
	}
	n := new(big.Int)
	for i := end; i >= 0; i-- {
		n.Mul(n, big.NewInt(128))
		n.Add(n, big.NewInt(int64(s[i]%128)))
	}
	if !n.IsUint64() || wantPut(n.Uint64()) != s[:end+1] {
		return 0, "", api.ErrForm
	}
	return n.Uint64(), s[end+1:], api.OK
}

// wantFold is the promise word by word, by numbers of any size.
func wantFold(n int) uint64 {
	twice := new(big.Int).Mul(big.NewInt(int64(n)), big.NewInt(2))
	if n < 0 {
		twice.Neg(twice).Sub(twice, big.NewInt(1))
	}
	return twice.Uint64()
}

func wantPutAll(l []int) (string, api.Errno) {
	if len(l) > 1000 {
		return "", api.ErrLarge
	}
	made := wantPut(uint64(len(l)))
	for _, n := range l {
		made += wantPut(wantFold(n))
	}
	return made, api.OK
}

func wantGetAll(s string) ([]int, api.Errno) {
	count, rest, err := wantGet(s)
	if err == api.OK && count > 1000 {
		err = api.ErrLarge
	}
	var l []int
	for err == api.OK && len(l) < int(count) {
		var n uint64
		n, rest, err = wantGet(rest)
		k := int(n >> 1)
		if n%2 == 1 {
			k = ^k
		}
		l = append(l, k)
	}
	if err == api.OK && rest != "" {
		err = api.ErrForm
	}
	if err != api.OK {
		return nil, err
	}
	return l, api.OK
}

// P7.1.

func TestPut(t *testing.T) {
	for n, want := range map[uint64]string{
		0: "\x00", 1: "\x01", 2: "\x02", 100: "\x64", 126: "\x7e", 127: "\x7f", 128: "\x80\x01", 129: "\x81\x01", 255: "\xff\x01", 256: "\x80\x02",
		300: "\xac\x02", 16383: "\xff\x7f", 16384: "\x80\x80\x01", 16385: "\x81\x80\x01", 1<<21 - 1: "\xff\xff\x7f", 1 << 21: "\x80\x80\x80\x01",
		math.MaxUint32: "\xff\xff\xff\xff\x0f", 1 << 32: "\x80\x80\x80\x80\x10", 1<<56 - 1: "\xff\xff\xff\xff\xff\xff\xff\x7f",
		1 << 56: "\x80\x80\x80\x80\x80\x80\x80\x80\x01", 1<<63 - 1: "\xff\xff\xff\xff\xff\xff\xff\xff\x7f",
		1 << 63: "\x80\x80\x80\x80\x80\x80\x80\x80\x80\x01", math.MaxUint64: "\xff\xff\xff\xff\xff\xff\xff\xff\xff\x01",
	} {
		if got := Put(n); got != want {
			t.Errorf("Put(%d) = %x, want %x", n, got, want)
		}
	}
}

func TestPutOfAnyNumber(t *testing.T) {
	list := numbers()
	for n := range uint64(70000) {
		list = append(list, n)
	}
	for _, n := range list {
		got := Put(n)
		if want := wantPut(n); got != want {
			t.Fatalf("Put(%d) = %x, want %x", n, got, want)
		}
		if want := string(binary.AppendUvarint(nil, n)); got != want {
			t.Fatalf("Put(%d) = %x, the library says %x", n, got, want)
		}
	}
}

// P7.2.

func checkGet(t *testing.T, s string, want uint64, wantRest string, wantErr api.Errno) {
	t.Helper()
	if got, rest, err := Get(s); got != want || rest != wantRest || err != wantErr {
		t.Errorf("Get(%x) = %d, %x, %d, want %d, %x, %d", s, got, rest, err, want, wantRest, wantErr)
	}
}

func TestGet(t *testing.T) {
	checkGet(t, "\x00", 0, "", api.OK)
	checkGet(t, "\x00\x00", 0, "\x00", api.OK)
	checkGet(t, "\x7f\x80", 127, "\x80", api.OK)
	checkGet(t, "\xac\x02", 300, "", api.OK)
	checkGet(t, "\xac\x02\xac\x02", 300, "\xac\x02", api.OK)
	checkGet(t, "\xac\x02yz", 300, "yz", api.OK)
	checkGet(t, "\x80\x80\x01\x00", 16384, "\x00", api.OK)
	checkGet(t, "\xff\xff\xff\xff\xff\xff\xff\xff\x7f", 1<<63-1, "", api.OK)
	checkGet(t, "\x80\x80\x80\x80\x80\x80\x80\x80\x80\x01", 1<<63, "", api.OK)
	checkGet(t, "\xff\xff\xff\xff\xff\xff\xff\xff\xff\x01\xff", math.MaxUint64, "\xff", api.OK)
}

func TestGetOfAnyNumber(t *testing.T) {
	for _, n := range numbers() {
		for _, rest := range rests() {
			checkGet(t, wantPut(n)+rest, n, rest, api.OK)
		}
	}
}

func TestGetOfShortText(t *testing.T) {
	checkGet(t, "", 0, "", api.ErrShort)
	for n := range 10 {
		checkGet(t, strings.Repeat("\x80", n), 0, "", api.ErrShort)
		checkGet(t, strings.Repeat("\xff", n), 0, "", api.ErrShort)
	}
	for _, n := range numbers() {
		s := wantPut(n)
		for i := range len(s) {
			checkGet(t, s[:i], 0, "", api.ErrShort)
		}
	}
}

// That ten bytes are 128 or more is told ahead of there being no other byte,
// and whatever stands behind them.
func TestGetOfTenGreatBytes(t *testing.T) {
	for _, great := range []string{"\x80", "\x81", "\xfe", "\xff"} {
		for n := 10; n <= 30; n++ {
			for _, rest := range rests() {
				checkGet(t, strings.Repeat(great, n)+rest, 0, "", api.ErrForm)
			}
		}
		checkGet(t, strings.Repeat(great, 100000), 0, "", api.ErrForm)
	}
}

// A last digit that is 0 is one too many, but for 0 itself.
func TestGetOfTooManyDigits(t *testing.T) {
	for n := 1; n < 10; n++ {
		for _, great := range []string{"\x80", "\x81", "\xff"} {
			for _, rest := range rests() {
				checkGet(t, strings.Repeat(great, n)+"\x00"+rest, 0, "", api.ErrForm)
			}
		}
	}
}

// The tenth digit has room for one bit.
func TestGetOfTenDigits(t *testing.T) {
	for _, great := range []string{"\x80", "\x81", "\xc0", "\xff"} {
		nine := strings.Repeat(great, 9)
		var low uint64
		for i := range 9 {
			low |= uint64(great[0]-128) << (7 * i)
		}
		checkGet(t, nine+"\x01", 1<<63|low, "", api.OK)
		for last := range 128 {
			if last != 1 {
				checkGet(t, nine+string([]byte{byte(last)}), 0, "", api.ErrForm)
				checkGet(t, nine+string([]byte{byte(last)})+"yz", 0, "", api.ErrForm)
			}
		}
	}
}

func TestGetOfEachShortText(t *testing.T) {
	for a := range 256 {
		one := string([]byte{byte(a)})
		want, rest, err := wantGet(one)
		checkGet(t, one, want, rest, err)
		for b := range 256 {
			two := string([]byte{byte(a), byte(b)})
			want, rest, err = wantGet(two)
			checkGet(t, two, want, rest, err)
		}
	}
}

// Texts of bytes next to the bounds, of each length up to eleven.
func TestGetOfEdgyTexts(t *testing.T) {
	list := []string{""}
	for range 8 {
		var longer []string
		for _, s := range list {
			for _, b := range []string{"\x00", "\x01", "\x7f", "\x80", "\xff"} {
				if strings.ContainsAny(s, "\x00\x01\x7f") && b != "\x7f" {
					continue
				}
				longer = append(longer, s+b)
			}
		}
		for _, s := range longer {
			for _, ahead := range []string{"", "\x80\x80\x80", "\x80\xff\x81"} {
				want, rest, err := wantGet(ahead + s)
				checkGet(t, ahead+s, want, rest, err)
			}
		}
		list = longer
	}
}

// P7.3.

func TestFold(t *testing.T) {
	for n, want := range map[int]uint64{
		0: 0, -1: 1, 1: 2, -2: 3, 2: 4, -64: 127, 64: 128, 100: 200, -100: 199, 1 << 31: 1 << 32, -1 << 31: 1<<32 - 1,
		1 << 62: 1 << 63, -1 << 62: 1<<63 - 1, -1<<62 - 1: 1<<63 + 1,
		math.MaxInt: math.MaxUint64 - 1, math.MinInt: math.MaxUint64, math.MaxInt - 1: math.MaxUint64 - 3, math.MinInt + 1: math.MaxUint64 - 2,
	} {
		if got := Fold(n); got != want {
			t.Errorf("Fold(%d) = %d, want %d", n, got, want)
		}
		if got := Unfold(want); got != n {
			t.Errorf("Unfold(%d) = %d, want %d", want, got, n)
		}
	}
}

func TestFoldOfAnyNumber(t *testing.T) {
	list := ints()
	for n := -3000; n <= 3000; n++ {
		list = append(list, n)
	}
	for _, n := range list {
		want := wantFold(n)
		if got := Fold(n); got != want {
			t.Errorf("Fold(%d) = %d, want %d", n, got, want)
		}
		if got := Unfold(want); got != n {
			t.Errorf("Unfold(%d) = %d, want %d", want, got, n)
		}
	}
}

// Each number is Fold of one.
func TestUnfoldOfAnyNumber(t *testing.T) {
	for _, n := range numbers() {
		if got := wantFold(Unfold(n)); got != n {
			t.Errorf("Unfold(%d) = %d, of which Fold is %d", n, Unfold(n), got)
		}
	}
}

// P7.4.

func checkPutAll(t *testing.T, l []int, want string, wantErr api.Errno) {
	t.Helper()
	if got, err := PutAll(l); got != want || err != wantErr {
		t.Errorf("PutAll of %s = %.60x, %d, want %.60x, %d", brief(l), got, err, want, wantErr)
	}
}

func checkGetAll(t *testing.T, s string, want []int, wantErr api.Errno) {
	t.Helper()
	if got, err := GetAll(s); !slices.Equal(got, want) || err != wantErr {
		t.Errorf("GetAll(%.60x) = %s, %d, want %s, %d", s, brief(got), err, brief(want), wantErr)
	}
}

func TestAll(t *testing.T) {
	for _, c := range []struct {
		l []int
		s string
	}{
		{nil, "\x00"}, {[]int{}, "\x00"}, {[]int{0}, "\x01\x00"}, {[]int{0, 0, 0}, "\x03\x00\x00\x00"}, {[]int{0, -1, 100}, "\x03\x00\x01\xc8\x01"},
		{[]int{100, -1, 0}, "\x03\xc8\x01\x01\x00"}, {[]int{-64, 64}, "\x02\x7f\x80\x01"}, {[]int{150, -150}, "\x02\xac\x02\xab\x02"},
		{[]int{math.MaxInt}, "\x01\xfe\xff\xff\xff\xff\xff\xff\xff\xff\x01"}, {[]int{math.MinInt}, "\x01\xff\xff\xff\xff\xff\xff\xff\xff\xff\x01"},
		{make([]int, 127), "\x7f" + strings.Repeat("\x00", 127)}, {make([]int, 128), "\x80\x01" + strings.Repeat("\x00", 128)},
		{make([]int, 999), "\xe7\x07" + strings.Repeat("\x00", 999)}, {make([]int, 1000), "\xe8\x07" + strings.Repeat("\x00", 1000)},
	} {
		checkPutAll(t, c.l, c.s, api.OK)
		checkGetAll(t, c.s, c.l, api.OK)
	}
}

func TestAllOfEachCount(t *testing.T) {
	for n := range 1001 {
		l := many(n)
		s, _ := wantPutAll(l)
		checkPutAll(t, l, s, api.OK)
		checkGetAll(t, s, l, api.OK)
	}
}

func TestPutAllOfTooMany(t *testing.T) {
	for _, n := range []int{1001, 1002, 1024, 2000, 2024, 65536, 65537, 1000000} {
		checkPutAll(t, make([]int, n), "", api.ErrLarge)
		checkPutAll(t, many(n), "", api.ErrLarge)
	}
}

func TestGetAllOfWrongCount(t *testing.T) {
	checkGetAll(t, "", nil, api.ErrShort)
	checkGetAll(t, "\x83", nil, api.ErrShort)
	checkGetAll(t, "\xe9", nil, api.ErrShort)
	checkGetAll(t, strings.Repeat("\xff", 9), nil, api.ErrShort)
	checkGetAll(t, strings.Repeat("\xff", 10), nil, api.ErrForm)
	checkGetAll(t, strings.Repeat("\xff", 9)+"\x02", nil, api.ErrForm)
	checkGetAll(t, "\x80\x00", nil, api.ErrForm)
	checkGetAll(t, "\x81\x00\x00", nil, api.ErrForm)
	checkGetAll(t, "\xe8\x87\x00"+strings.Repeat("\x00", 1000), nil, api.ErrForm)
	// The form of the count is told ahead of its size.
	checkGetAll(t, "\xe9\x87\x00"+strings.Repeat("\x00", 1001), nil, api.ErrForm)
}

// That there are too many is told ahead of whatever is wrong behind the count,
// and of none being there.
func TestGetAllOfTooMany(t *testing.T) {
	list := []uint64{1001, 1002, 1024, 2000, 65535, 65536, 65537, 1 << 31, 1 << 32, 1<<32 + 1, 1 << 63, 1<<63 + 1, math.MaxUint64 - 1, math.MaxUint64}
	for _, n := range list {
		for _, rest := range rests() {
			checkGetAll(t, wantPut(n)+rest, nil, api.ErrLarge)
		}
		checkGetAll(t, wantPut(n)+strings.Repeat("\x00", int(min(n, 3000))), nil, api.ErrLarge)
	}
}

func TestGetAllOfShortText(t *testing.T) {
	for _, n := range []int{1, 2, 3, 127, 128, 1000} {
		s, _ := wantPutAll(many(n))
		for i := range len(s) {
			checkGetAll(t, s[:i], nil, api.ErrShort)
		}
	}
	checkGetAll(t, "\x02\x00", nil, api.ErrShort)
	checkGetAll(t, "\xe8\x07"+strings.Repeat("\x00", 999), nil, api.ErrShort)
}

func TestGetAllOfWrongForm(t *testing.T) {
	ten := strings.Repeat("\x80", 10)
	for _, wrong := range []string{"\x80\x00", "\xff\x00", "\x80\x80\x00", ten, ten + "\x01", strings.Repeat("\xff", 9) + "\x02", strings.Repeat("\xff", 9) + "\x7f"} {
		for _, n := range []int{1, 2, 3, 200, 1000} {
			for _, at := range []int{0, n / 2, n - 1} {
				ahead := wantPut(uint64(n)) + strings.Repeat("\x05", at)
				checkGetAll(t, ahead+wrong+strings.Repeat("\x05", n-1-at), nil, api.ErrForm)
				// What is wrong first is told, also where the others are missing.
				checkGetAll(t, ahead+wrong, nil, api.ErrForm)
			}
		}
	}
	checkGetAll(t, "\x02\x80\x00\x80", nil, api.ErrForm)
	checkGetAll(t, "\x02\x00\x80", nil, api.ErrShort)
	checkGetAll(t, "\x02\x00"+ten[:9], nil, api.ErrShort)
}

func TestGetAllOfBytesLeft(t *testing.T) {
	for _, n := range []int{0, 1, 2, 3, 127, 128, 999, 1000} {
		s, _ := wantPutAll(many(n))
		for _, rest := range rests() {
			if rest != "" {
				checkGetAll(t, s+rest, nil, api.ErrForm)
			}
		}
	}
}

// With any byte put to another one, a text is either refused or what PutAll
// writes of another list.
func TestGetAllOfSpoiltText(t *testing.T) {
	for _, n := range []int{1, 5, 130} {
		s, _ := wantPutAll(many(n))
		for i := range len(s) {
			for _, b := range []byte{0, 1, 2, 127, 128, 129, 255, s[i] ^ 128, s[i] + 1} {
				spoilt := s[:i] + string([]byte{b}) + s[i+1:]
				want, err := wantGetAll(spoilt)
				checkGetAll(t, spoilt, want, err)
				if err == api.OK {
					checkPutAll(t, want, spoilt, api.OK)
				}
			}
		}
	}
}

// P1.

// asked is what each call is given; told is what they answer.
type asked struct {
	n uint64
	s string
	l []int
}

type told struct {
	put, rest, putAll            string
	get, fold                    uint64
	unfold                       int
	getAll                       []int
	getErr, putAllErr, getAllErr api.Errno
}

func ask(q asked) told {
	r := told{put: Put(q.n), fold: Fold(int(q.n)), unfold: Unfold(q.n)}
	r.get, r.rest, r.getErr = Get(q.s)
	r.putAll, r.putAllErr = PutAll(q.l)
	r.getAll, r.getAllErr = GetAll(q.s)
	return r
}

// wantTold is what the promises ask for.
func wantTold(q asked) told {
	r := told{put: wantPut(q.n), fold: wantFold(int(q.n)), unfold: int(q.n >> 1)}
	if q.n%2 == 1 {
		r.unfold = ^r.unfold
	}
	r.get, r.rest, r.getErr = wantGet(q.s)
	r.putAll, r.putAllErr = wantPutAll(q.l)
	r.getAll, r.getAllErr = wantGetAll(q.s)
	return r
}

func same(a, b told) bool {
	return a.put == b.put && a.rest == b.rest && a.putAll == b.putAll && a.get == b.get && a.fold == b.fold && a.unfold == b.unfold &&
		slices.Equal(a.getAll, b.getAll) && a.getErr == b.getErr && a.putAllErr == b.putAllErr && a.getAllErr == b.getAllErr
}

func (q asked) String() string {
	return fmt.Sprintf("%d, %.60x and %d numbers", q.n, q.s, len(q.l))
}

func (r told) String() string {
	return fmt.Sprintf("Put %x, Fold %d, Unfold %d, Get %d, %.60x, %d, PutAll %.60x, %d, GetAll %s, %d",
		r.put, r.fold, r.unfold, r.get, r.rest, r.getErr, r.putAll, r.putAllErr, brief(r.getAll), r.getAllErr)
}

// brief tells of a long list only how it begins.
func brief(l []int) string {
	return fmt.Sprintf("%d numbers, %d", len(l), l[:min(8, len(l))])
}

func questions() []asked {
	texts := append(rests(), "\x03\x00\x01\xc8\x01", "\x03\x00\x01\xc8", "\x03\x00\x01\xc8\x01x", "\xe9\x07", strings.Repeat("\x80", 9), strings.Repeat("\xff", 9)+"\x01\x00")
	for _, n := range []int{0, 1, 2, 7, 128, 1000} {
		s, _ := wantPutAll(many(n))
		texts = append(texts, s, s+"\x00", s[:len(s)-1])
	}
	lists := [][]int{nil, {}, {0}, {-1, 5}, many(7), many(128), many(999), many(1000), many(1001), many(5000)}
	var list []asked
	for i, n := range numbers() {
		list = append(list, asked{n, texts[i%len(texts)], lists[i%len(lists)]})
	}
	return list
}

// Whatever is given, an answer is the one that the promises ask for.
func TestEachCallAnswers(t *testing.T) {
	for _, q := range questions() {
		if got, want := ask(q), wantTold(q); !same(got, want) {
			t.Errorf("of %v: %v, want %v", q, got, want)
		}
	}
}

// P2.

// roomy is l with room behind it that has something in it.
func roomy(l []int) []int { return append(slices.Clone(l), 11, 12, 13)[:len(l)] }

func TestListsAreNotChanged(t *testing.T) {
	for _, q := range questions() {
		want := ask(q)
		q.l = roomy(q.l)
		whole := q.l[:len(q.l)+3]
		old := slices.Clone(whole)
		if got := ask(q); !same(got, want) {
			t.Fatalf("of %v: %v, with room behind the list %v", q, want, got)
		}
		if !slices.Equal(whole, old) {
			t.Fatalf("of %v: left %d", q, whole)
		}
	}
}

// Who changes an answer, and the room behind it, changes no other answer.
func TestAnswersAreNewMemory(t *testing.T) {
	for _, q := range questions() {
		want, first, second := wantTold(q), ask(q), ask(q)
		spoilt := first.getAll[:cap(first.getAll)]
		for i := range spoilt {
			spoilt[i] = ^spoilt[i]
		}
		if !same(second, want) {
			t.Fatalf("of %v: %v, want %v", q, second, want)
		}
		if third := ask(q); !same(third, want) {
			t.Fatalf("of %v: %v behind a spoilt answer, want %v", q, third, want)
		}
	}
}

func TestNothingIsKeptBetweenCalls(t *testing.T) {
	list := questions()
	answers := make([]told, len(list))
	for i, q := range list {
		answers[i] = ask(q)
	}
	for i := len(list) - 1; i >= 0; i-- {
		if got := ask(list[i]); !same(got, answers[i]) {
			t.Fatalf("of %v: first %v, then %v", list[i], answers[i], got)
		}
	}
}

// A list that has become another one in the same memory is read anew, and what
// was answered of it stays as it was.
func TestListsAreNotKept(t *testing.T) {
	l := make([]int, 5)
	first, _ := PutAll(l)
	for i := range 100 {
		for k := range l {
			l[k] = i*k - 100
		}
		want, _ := wantPutAll(l)
		checkPutAll(t, l, want, api.OK)
	}
	if want := "\x05\x00\x00\x00\x00\x00"; first != want {
		t.Errorf("of five times 0, later on: %x, want %x", first, want)
	}
}
