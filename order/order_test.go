package order

import (
	"encoding/binary"
	"fmt"
	"hash/crc32"
	"math"
	"reflect"
	"slices"
	"strings"
	"testing"

	"musterfield/api"
	"musterfield/crc"
	"musterfield/field"
	"musterfield/pack"
	"musterfield/troop"
)

// read is the field of some rows.
func read(rows ...string) api.Field {
	f, err := field.Read(strings.Join(rows, "\n") + "\n")
	if err != api.OK {
		panic(fmt.Sprint(rows, " are no field"))
	}
	return f
}

func at(x, y int) api.Cell { return api.Cell{X: x, Y: y} }

func cellOf(f api.Field, i int) api.Cell { return at(i%f.Wide, i/f.Wide) }

// filled is a field of these sides with the same sort of place all over.
func filled(wide, high, place int) api.Field {
	return api.Field{Wide: wide, High: high, Places: slices.Repeat([]int{place}, wide*high)}
}

func hit(by, who, what int) api.Order { return api.Order{By: by, Kind: 1, Who: who, What: what} }

func goTo(by, who, x, y int) api.Order { return api.Order{By: by, Kind: 2, Who: who, At: at(x, y)} }

func mine(by, who, x, y int) api.Order { return api.Order{By: by, Kind: 3, Who: who, At: at(x, y)} }

func drop(by, who int) api.Order { return api.Order{By: by, Kind: 4, Who: who} }

func made(by, what int) api.Order { return api.Order{By: by, Kind: 5, What: what} }

// numbersOf are the six numbers of an order, as they stand in a text.
func numbersOf(o *api.Order) []*int {
	return []*int{&o.By, &o.Kind, &o.Who, &o.At.X, &o.At.Y, &o.What}
}

// put is o with one of its six numbers put to n.
func put(o api.Order, number, n int) api.Order {
	*numbersOf(&o)[number] = n
	return o
}

func worker(id, owner, x, y, load int) api.Troop {
	return api.Troop{Id: id, Owner: owner, Kind: api.KWorker, Cell: at(x, y), Life: 10, Load: load}
}

func soldier(id, owner, x, y int) api.Troop {
	return api.Troop{Id: id, Owner: owner, Kind: api.KSoldier, Cell: at(x, y), Life: 20}
}

// world is one of as many players as bases, with a 7 in each mine, and of troops
// whose Ids are below 1000.
func world(f api.Field, bases []api.Cell, troops ...api.Troop) api.World {
	w := api.World{Field: f, Bases: bases, Stocks: make([]int, len(bases)), Mines: make([]int, len(f.Places)), Troops: troops, NextId: 1000, Now: 5}
	for i, place := range f.Places {
		if place == api.GOre {
			w.Mines[i] = 7
		}
	}
	return w
}

// bare is the least world.
func bare() api.World { return world(filled(1, 1, api.GPlain), nil) }

// small is a world with something of all that a world has. Player 2 has no
// troop.
func small() api.World {
	return world(read("..o.#", ".#t.o", "....."), []api.Cell{at(0, 0), at(4, 2), at(2, 1)},
		worker(2, 0, 1, 0, 3), soldier(5, 1, 2, 1), soldier(6, 0, 3, 1), worker(12, 1, 4, 2, 0))
}

// crowd is a world of n troops, row by row, ten a row: of eight players in turn,
// and every other one a soldier.
func crowd(n int) api.World {
	w := world(filled(12, 12, api.GOre), nil)
	for i := range 8 {
		w.Bases, w.Stocks = append(w.Bases, at(11, i)), append(w.Stocks, i)
	}
	for i := range n {
		one := worker(3*i+2, i%8, i%10, i/10, i%6)
		if i%2 == 0 {
			one = soldier(3*i+2, i%8, i%10, i/10)
		}
		w.Troops = append(w.Troops, one)
	}
	return w
}

// with is w, in memory of its own, changed.
func with(w api.World, change func(w *api.World)) api.World {
	w = troop.Copy(w)
	change(&w)
	return w
}

// dice are numbers that another salt makes others.
type dice uint32

func (d *dice) below(n int) int {
	*d = *d*1664525 + 1013904223
	return int(*d>>8) % n
}

// thrown is a world of these sides; another salt makes another one.
func thrown(wide, high, salt int) api.World {
	d := dice(salt)
	f := filled(wide, high, api.GPlain)
	for i := range f.Places {
		f.Places[i] = []int{0, 0, 1, 2, 3}[d.below(5)]
	}
	w := world(f, nil)
	players := d.below(9)
	for i, place := range f.Places {
		if place != api.GRock && len(w.Bases) < players && d.below(2) == 0 {
			w.Bases, w.Stocks = append(w.Bases, cellOf(f, i)), append(w.Stocks, d.below(1000))
		}
	}
	id := 0
	for i, place := range f.Places {
		if place == api.GRock || d.below(3) > 0 || len(w.Troops) == api.MaxTroops || len(w.Bases) == 0 {
			continue
		}
		id += 1 + d.below(3)
		one := api.Troop{Id: id, Owner: d.below(len(w.Bases)), Kind: 1 + d.below(2), Cell: cellOf(f, i)}
		one.Life, one.Load = 1+d.below(10*one.Kind), (2-one.Kind)*d.below(6)
		w.Troops = append(w.Troops, one)
	}
	w.NextId = id + 1 + d.below(3)
	return w
}

// saidOf are n right orders, many of them of a troop of w by its owner; some
// are of nobody, of another player, or by no player.
func saidOf(w api.World, n, salt int) []api.Order {
	d := dice(salt)
	var l []api.Order
	for range n {
		o := api.Order{By: d.below(8), Kind: 1 + d.below(5), Who: d.below(max(w.NextId, 1) + 2), At: at(d.below(44)-2, d.below(44)-2), What: d.below(9)}
		if i := d.below(len(w.Troops) + 1); i < len(w.Troops) && d.below(5) > 0 {
			o.By, o.Who = w.Troops[i].Owner&7, w.Troops[i].Id
		}
		if d.below(9) == 0 {
			o.By, o.Who = d.below(8), []int{0, 999999, 1000000}[d.below(3)]
		}
		for number := range 6 {
			if !isOfUse(o.Kind, number) {
				o = put(o, number, 0)
			}
		}
		l = append(l, o)
	}
	return l
}

// wild are numbers that no number of an order may be.
func wild() []int {
	return []int{-1001, -1002, -65536, 1000001, 1000002, 1 << 24, -1 << 32, 1 << 32, 1<<32 + 1, 1<<32 + 2, 1<<62 + 2,
		math.MinInt, math.MinInt + 1, math.MinInt + 2, math.MaxInt - 1, math.MaxInt}
}

// brief tells of a great world only how it begins.
func brief(w api.World) string {
	return fmt.Sprintf("%d x %d, %d places %d, bases %d, %d stocks, %d mines, %d troops %+v, next %d, now %d", w.Field.Wide, w.Field.High,
		len(w.Field.Places), w.Field.Places[:min(15, len(w.Field.Places))], w.Bases[:min(9, len(w.Bases))], len(w.Stocks),
		len(w.Mines), len(w.Troops), w.Troops[:min(6, len(w.Troops))], w.NextId, w.Now)
}

func briefOrders(l []api.Order) string { return fmt.Sprint(len(l), " orders ", l[:min(12, len(l))]) }

// What the promises ask for, word by word.

// isOfUse tells whether a Kind of the five has a use for one of the six numbers.
func isOfUse(kind, number int) bool {
	return []string{"", "bkw--?", "bkwxy-", "bkwxy-", "bkw---", "bk---?"}[kind][number] != '-'
}

func wantCheck(o api.Order) api.Errno {
	least, most := []int{0, 1, 0, -1000, -1000, 0}, []int{7, 5, 1000000, 1000, 1000, 1000000}
	for i, n := range numbersOf(&o) {
		if *n < least[i] || *n > most[i] {
			return api.ErrArg
		}
	}
	for i, n := range numbersOf(&o) {
		if !isOfUse(o.Kind, i) && *n != 0 {
			return api.ErrForm
		}
	}
	return api.OK
}

func wantAll(l []api.Order) api.Errno {
	if len(l) > 100 {
		return api.ErrLarge
	}
	i := slices.IndexFunc(l, func(o api.Order) bool { return wantCheck(o) != api.OK })
	if i < 0 {
		return api.OK
	}
	return wantCheck(l[i])
}

// textOf is what these numbers are written as, by the library.
func textOf(numbers ...int) string {
	text := binary.AppendUvarint(nil, uint64(len(numbers)))
	for _, n := range numbers {
		text = binary.AppendVarint(text, int64(n))
	}
	return sealed(string(text))
}

func sealed(text string) string {
	return string(binary.LittleEndian.AppendUint32([]byte(text), crc32.ChecksumIEEE([]byte(text))))
}

func flat(l []api.Order) []int {
	var numbers []int
	for i := range l {
		for _, n := range numbersOf(&l[i]) {
			numbers = append(numbers, *n)
		}
	}
	return numbers
}

func wantWrite(l []api.Order) (string, api.Errno) {
	if err := wantAll(l); err != api.OK {
		return "", err
	}
	return textOf(flat(l)...), api.OK
}

func wantRead(s string) ([]api.Order, api.Errno) {
	text, err := crc.Open(s)
	if err != api.OK {
		return nil, err
	}
	numbers, err := pack.GetAll(text)
	if err != api.OK {
		return nil, err
	}
	var l []api.Order
	for i, n := range numbers {
		if i%6 == 0 {
			l = append(l, api.Order{})
		}
		l[i/6] = put(l[i/6], i%6, n)
	}
	if len(numbers) != 6*len(l) {
		return nil, api.ErrForm
	}
	if err := wantAll(l); err != api.OK {
		return nil, err
	}
	return l, api.OK
}

// What becomes of an order.
const (
	said     = "said"
	noTroop  = "of a troop that isn't there"
	notOwn   = "of another's troop"
	noPlayer = "of no player"
)

func verdict(o api.Order, w api.World) string {
	if o.By >= len(w.Bases) {
		return noPlayer
	}
	if o.Kind == 5 {
		return said
	}
	for _, t := range w.Troops {
		if t.Id == o.Who && t.Owner == o.By {
			return said
		}
		if t.Id == o.Who {
			return notOwn
		}
	}
	return noTroop
}

// wantSplit goes through the orders once for each of the lists.
func wantSplit(l []api.Order, w api.World) (blows []api.Blow, goes []api.Go, deeds []api.Deed, _ api.Errno) {
	if err := wantAll(l); err != api.OK {
		return nil, nil, nil, err
	}
	if err := troop.Check(w); err != api.OK {
		return nil, nil, nil, err
	}
	l = slices.DeleteFunc(slices.Clone(l), func(o api.Order) bool { return verdict(o, w) != said })
	for _, o := range l {
		if o.Kind == 1 {
			blows = append(blows, api.Blow{By: o.Who, At: o.What})
		}
	}
	for _, o := range l {
		if o.Kind == 2 {
			goes = append(goes, api.Go{Id: o.Who, To: o.At})
		}
	}
	for _, o := range l {
		d := api.Deed{Kind: o.Kind - 2, Who: o.Who, At: o.At, What: o.What}
		if o.Kind == 5 {
			d.Who = o.By
		}
		if o.Kind > 2 {
			deeds = append(deeds, d)
		}
	}
	return blows, goes, deeds, api.OK
}

// P16.1.

func checkCheck(t *testing.T, o api.Order, want api.Errno) {
	t.Helper()
	if err := Check(o); err != want {
		t.Errorf("Check of %+v = %d, want %d", o, err, want)
	}
}

// fullest are orders of each Kind with all that it has use for.
func fullest() []api.Order {
	return []api.Order{hit(7, 1000000, 999999), goTo(6, 5, -1000, 1000), mine(1, 999999, 1000, -1000), drop(3, 7), made(7, 1000000)}
}

func TestCheck(t *testing.T) {
	for _, o := range fullest() {
		checkCheck(t, o, api.OK)
	}
	for kind := 1; kind < 6; kind++ {
		checkCheck(t, api.Order{Kind: kind}, api.OK)
	}
	checkCheck(t, api.Order{}, api.ErrArg)
	// A troop may hit itself, and what is made may be of no Kind, as far as this
	// is asked.
	checkCheck(t, hit(0, 3, 3), api.OK)
	checkCheck(t, made(0, 3), api.OK)
}

// Each number, of each Kind: one that is out of its bounds is told ahead of one
// that there is no use for.
func TestCheckBounds(t *testing.T) {
	least, most := []int{0, 1, 0, -1000, -1000, 0}, []int{7, 5, 1000000, 1000, 1000, 1000000}
	for _, o := range fullest() {
		for number := range 6 {
			for _, n := range append(wild(), least[number]-1, most[number]+1) {
				checkCheck(t, put(o, number, n), api.ErrArg)
				for other := range 6 {
					if other != number && other != 1 {
						checkCheck(t, put(put(o, number, n), other, 1), api.ErrArg)
						checkCheck(t, put(put(o, number, n), other, math.MinInt), api.ErrArg)
					}
				}
			}
		}
	}
}

func TestCheckForm(t *testing.T) {
	for _, o := range fullest() {
		for number, values := range [][]int{{0, 1, 7}, nil, {1, 2, 256, 65536, 1000000}, {-1000, -1, 1, 1000}, {-1000, -1, 1, 1000}, {1, 2, 256, 65536, 1000000}} {
			want := api.ErrForm
			if isOfUse(o.Kind, number) {
				want = api.OK
			}
			for _, n := range values {
				checkCheck(t, put(o, number, n), want)
			}
			if number != 1 {
				checkCheck(t, put(o, number, 0), api.OK)
			}
		}
	}
	// By name.
	checkCheck(t, api.Order{Kind: 1, Who: 2, What: 3, At: at(0, 1)}, api.ErrForm)
	checkCheck(t, api.Order{Kind: 1, Who: 2, What: 3, At: at(-1, 0)}, api.ErrForm)
	checkCheck(t, api.Order{Kind: 2, Who: 2, What: 3, At: at(0, 1)}, api.ErrForm)
	checkCheck(t, api.Order{Kind: 3, Who: 2, What: 3, At: at(0, 1)}, api.ErrForm)
	checkCheck(t, api.Order{Kind: 4, Who: 2, What: 3}, api.ErrForm)
	checkCheck(t, api.Order{Kind: 4, Who: 2, At: at(1, 0)}, api.ErrForm)
	checkCheck(t, api.Order{Kind: 5, Who: 2, What: 1}, api.ErrForm)
	checkCheck(t, api.Order{Kind: 5, What: 1, At: at(0, 1)}, api.ErrForm)
}

// thrownOrder has numbers of which each may be one or the other side of a bound,
// or 0.
func thrownOrder(d *dice) api.Order {
	o := api.Order{By: d.below(8), Kind: 1 + d.below(5)}
	for number, values := range [][]int{{-1, 8, 7}, {0, 6, 5}, {-1, 1000001, 1000000}, {-1001, 1001, -1000}, {-1001, 1001, 1000}, {-1, 1000001, 1000000}} {
		switch d.below(40) {
		case 0:
			o = put(o, number, values[d.below(2)])
		case 1, 2, 3, 4:
			o = put(o, number, values[2])
		case 5, 6, 7, 8:
			o = put(o, number, 1+d.below(5))
		}
	}
	return o
}

func TestCheckOfManyOrders(t *testing.T) {
	tried := map[string]int{}
	d := dice(1)
	for range 100000 {
		o := thrownOrder(&d)
		want := wantCheck(o)
		checkCheck(t, o, want)
		tried[fmt.Sprint(o.Kind, want)]++
	}
	for kind := 1; kind < 6; kind++ {
		for _, err := range []api.Errno{api.OK, api.ErrArg, api.ErrForm} {
			if n := tried[fmt.Sprint(kind, err)]; n < 1000 {
				t.Errorf("%d orders of Kind %d come to %d", n, kind, err)
			}
		}
	}
}

// P16.2.

// checkWritten has l be written as the text, and read back from it.
func checkWritten(t *testing.T, l []api.Order, want string) {
	t.Helper()
	if got, err := Write(l); got != want || err != api.OK {
		t.Errorf("Write of %s = %x, %d, want %x, 0", briefOrders(l), got, err, want)
	}
	if got, err := Read(want); !slices.Equal(got, l) || err != api.OK {
		t.Errorf("Read of %x = %s, %d, want %s, 0", want, briefOrders(got), err, briefOrders(l))
	}
}

// checkWriteError has l be written as nothing, and not be read from the text
// that it would have.
func checkWriteError(t *testing.T, l []api.Order, want api.Errno) {
	t.Helper()
	if got, err := Write(l); got != "" || err != want {
		t.Errorf("Write of %s = %x, %d, want nothing, %d", briefOrders(l), got, err, want)
	}
	checkReadError(t, textOf(flat(l)...), want)
}

func checkReadError(t *testing.T, s string, want api.Errno) {
	t.Helper()
	if got, err := Read(s); got != nil || err != want {
		t.Errorf("Read of %x = %s, %d, want nothing, %d", s, briefOrders(got), err, want)
	}
}

func TestWrite(t *testing.T) {
	checkWritten(t, nil, "\x00\x8d\xef\x02\xd2")
	checkWritten(t, []api.Order{}, sealed("\x00"))
	checkWritten(t, []api.Order{hit(0, 1, 2)}, sealed("\x06\x00\x02\x02\x00\x00\x04"))
	checkWritten(t, []api.Order{goTo(1, 3, -1, 2)}, sealed("\x06\x02\x04\x06\x01\x04\x00"))
	checkWritten(t, []api.Order{mine(7, 300, -1000, 1000)}, sealed("\x06\x0e\x06\xd8\x04\xcf\x0f\xd0\x0f\x00"))
	checkWritten(t, []api.Order{drop(2, 1000000)}, sealed("\x06\x04\x08\x80\x89\x7a\x00\x00\x00"))
	checkWritten(t, []api.Order{made(3, 2), hit(0, 1, 2)}, sealed("\x0c\x06\x0a\x00\x00\x00\x04\x00\x02\x02\x00\x00\x04"))
	checkWritten(t, fullest(), textOf(7, 1, 1000000, 0, 0, 999999, 6, 2, 5, -1000, 1000, 0, 1, 3, 999999, 1000, -1000, 0, 3, 4, 7, 0, 0, 0, 7, 5, 0, 0, 0, 1000000))
	// The same order twice, and in another order, is another text.
	checkWritten(t, []api.Order{drop(1, 2), drop(1, 2)}, textOf(1, 4, 2, 0, 0, 0, 1, 4, 2, 0, 0, 0))
	checkWritten(t, []api.Order{drop(2, 1), drop(1, 2)}, textOf(2, 4, 1, 0, 0, 0, 1, 4, 2, 0, 0, 0))
	checkWritten(t, []api.Order{drop(1, 2), drop(2, 1)}, textOf(1, 4, 2, 0, 0, 0, 2, 4, 1, 0, 0, 0))
}

func TestWriteLimit(t *testing.T) {
	for _, n := range []int{1, 2, 21, 22, 42, 43, 50, 99, 100} {
		l := saidOf(small(), n, n)
		checkWritten(t, l, textOf(flat(l)...))
		l = slices.Repeat([]api.Order{goTo(7, 1000000, -1000, -1000)}, n)
		checkWritten(t, l, textOf(flat(l)...))
	}
	for _, n := range []int{101, 102, 150, 166} {
		checkWriteError(t, saidOf(small(), n, n), api.ErrLarge)
		// That they are too many is told ahead of what is wrong with one.
		checkWriteError(t, make([]api.Order, n), api.ErrLarge)
		checkWriteError(t, slices.Repeat([]api.Order{{Kind: 5, Who: 1}}, n), api.ErrLarge)
	}
	// Of these there are more numbers than a list may have.
	for _, n := range []int{167, 256, 356, 65536} {
		checkWriteError(t, saidOf(small(), n, n), api.ErrLarge)
		checkWriteError(t, make([]api.Order, n), api.ErrLarge)
	}
}

// The first order that is wrong is told of.
func TestWriteErrors(t *testing.T) {
	form, arg := api.Order{Kind: 5, Who: 1}, api.Order{Kind: 6, Who: 1}
	checkWriteError(t, []api.Order{form}, api.ErrForm)
	checkWriteError(t, []api.Order{arg}, api.ErrArg)
	checkWriteError(t, []api.Order{form, arg}, api.ErrForm)
	checkWriteError(t, []api.Order{arg, form}, api.ErrArg)
	for _, n := range []int{1, 2, 50, 99} {
		l := saidOf(small(), n, n)
		checkWriteError(t, append(slices.Clone(l), form), api.ErrForm)
		checkWriteError(t, append(slices.Clone(l), arg), api.ErrArg)
		checkWriteError(t, append([]api.Order{arg}, l...), api.ErrArg)
		for i := range l {
			bad := slices.Clone(l)
			bad[n-1], bad[i] = arg, form
			checkWriteError(t, bad, api.ErrForm)
			bad[n-1], bad[i] = form, arg
			checkWriteError(t, bad, api.ErrArg)
		}
	}
	for number := range 6 {
		for _, n := range wild() {
			checkWriteError(t, []api.Order{drop(0, 1), put(drop(0, 2), number, n)}, api.ErrArg)
		}
	}
}

// What is wrong with a text is told from its outside to its inside.
func TestReadErrors(t *testing.T) {
	for _, s := range []string{"", "\x00", "\x00\x00\x00", "abc"} {
		checkReadError(t, s, api.ErrShort)
	}
	good := textOf(0, 4, 1, 0, 0, 0)
	for i := range len(good) {
		spoilt := []byte(good)
		spoilt[i] ^= 16
		checkReadError(t, string(spoilt), api.ErrSum)
		if i > 0 && len(good)-i > 3 {
			checkReadError(t, good[i:], api.ErrSum)
		}
	}
	checkReadError(t, good+"\x00", api.ErrSum)
	checkReadError(t, good+good, api.ErrSum)
	// The sum of no bytes is 0: of the text that has them none are left to be a
	// number.
	checkReadError(t, "\x00\x00\x00\x00", api.ErrShort)
	checkReadError(t, sealed("\x80"), api.ErrShort)
	checkReadError(t, sealed("\x06\x00\x08\x02\x00\x00"), api.ErrShort)
	checkReadError(t, sealed("\x80\x00"), api.ErrForm)
	checkReadError(t, sealed("\x06\x00\x08\x02\x00\x00\x80\x00"), api.ErrForm)
	checkReadError(t, sealed("\x06\x00\x08\x02\x00\x00\x00\x00"), api.ErrForm)
	checkReadError(t, sealed("\x00\x00"), api.ErrForm)
	checkReadError(t, sealed(strings.Repeat("\xff", 10)), api.ErrForm)
	checkReadError(t, sealed("\xe9\x07"), api.ErrLarge)
	checkReadError(t, textOf(make([]int, 1001)...), api.ErrLarge)
	checkReadError(t, textOf(make([]int, 1002)...), api.ErrLarge)
}

// Numbers that aren't six for each order are told of ahead of what is wrong with
// the orders, and with how many there are.
func TestReadNumbersOfOrders(t *testing.T) {
	all := flat(slices.Repeat([]api.Order{drop(0, 1)}, 167))
	for n := range 1001 {
		s, zeros := textOf(all[:n]...), textOf(make([]int, n)...)
		switch {
		case n%6 != 0:
			checkReadError(t, s, api.ErrForm)
			checkReadError(t, zeros, api.ErrForm)
		case n > 600:
			checkReadError(t, s, api.ErrLarge)
			checkReadError(t, zeros, api.ErrLarge)
		case n > 0:
			checkWritten(t, slices.Repeat([]api.Order{drop(0, 1)}, n/6), s)
			checkReadError(t, zeros, api.ErrArg)
		}
	}
}

// Texts with a byte, or the sum and a byte, put to another one.
func TestReadOfManyTexts(t *testing.T) {
	tried := map[api.Errno]int{}
	d := dice(2)
	for salt := range 20000 {
		bytes := []byte(textOf(flat(saidOf(small(), salt%4, salt))...))
		bytes = bytes[:len(bytes)-4]
		for range d.below(4) {
			i := d.below(len(bytes))
			bytes[i] = []byte{bytes[i] + 1, bytes[i] ^ 1, bytes[i] ^ 128, 0, 6, 12}[d.below(6)]
		}
		s := sealed(string(bytes))
		if d.below(20) == 0 {
			s = s[:len(s)-1] + string(rune('0'+d.below(10)))
		}
		want, wantErr := wantRead(s)
		if got, err := Read(s); !slices.Equal(got, want) || err != wantErr {
			t.Errorf("Read of %x = %s, %d, want %s, %d", s, briefOrders(got), err, briefOrders(want), wantErr)
		}
		// There is one text alone for some orders.
		if text, err := Write(want); wantErr == api.OK && (text != s || err != api.OK) {
			t.Errorf("Read of %x are orders that are written as %x, %d", s, text, err)
		}
		tried[wantErr]++
	}
	for _, err := range []api.Errno{api.OK, api.ErrArg, api.ErrShort, api.ErrForm, api.ErrSum} {
		if tried[err] < 100 {
			t.Errorf("%d texts come to %d", tried[err], err)
		}
	}
}

// P16.3.

func checkSplit(t *testing.T, l []api.Order, w api.World, blows []api.Blow, goes []api.Go, deeds []api.Deed) {
	t.Helper()
	gotBlows, gotGoes, gotDeeds, err := Split(l, w)
	if !slices.Equal(gotBlows, blows) || !slices.Equal(gotGoes, goes) || !slices.Equal(gotDeeds, deeds) || err != api.OK {
		t.Errorf("Split of %s, %s = %v, %v, %v, %d, want %v, %v, %v, 0", briefOrders(l), brief(w), gotBlows, gotGoes, gotDeeds, err, blows, goes, deeds)
	}
}

// checkNothing has none of the orders be of anybody who may say them.
func checkNothing(t *testing.T, w api.World, l ...api.Order) {
	t.Helper()
	checkSplit(t, l, w, nil, nil, nil)
}

func checkBlow(t *testing.T, w api.World, o api.Order, by, at int) {
	t.Helper()
	checkSplit(t, []api.Order{o}, w, []api.Blow{{By: by, At: at}}, nil, nil)
}

func checkGo(t *testing.T, w api.World, o api.Order, id, x, y int) {
	t.Helper()
	checkSplit(t, []api.Order{o}, w, nil, []api.Go{{Id: id, To: at(x, y)}}, nil)
}

func checkDeed(t *testing.T, w api.World, o api.Order, kind, who, x, y, what int) {
	t.Helper()
	checkSplit(t, []api.Order{o}, w, nil, nil, []api.Deed{{Kind: kind, Who: who, At: at(x, y), What: what}})
}

func checkSplitError(t *testing.T, l []api.Order, w api.World, want api.Errno) {
	t.Helper()
	if blows, goes, deeds, err := Split(l, w); blows != nil || goes != nil || deeds != nil || err != want {
		t.Errorf("Split of %s, %s = %v, %v, %v, %d, want nothing, %d", briefOrders(l), brief(w), blows, goes, deeds, err, want)
	}
}

func TestSplit(t *testing.T) {
	checkNothing(t, bare())
	checkNothing(t, small())
	checkSplit(t, []api.Order{}, small(), nil, nil, nil)
	checkBlow(t, small(), hit(0, 6, 5), 6, 5)
	checkGo(t, small(), goTo(1, 5, 3, 2), 5, 3, 2)
	checkDeed(t, small(), mine(0, 2, 2, 0), api.DMine, 2, 2, 0, 0)
	checkDeed(t, small(), drop(0, 2), api.DDrop, 2, 0, 0, 0)
	checkDeed(t, small(), made(0, api.KSoldier), api.DMake, 0, 0, 0, api.KSoldier)
	checkDeed(t, small(), made(2, api.KWorker), api.DMake, 2, 0, 0, api.KWorker)
	// Of each list those that come first in the orders come first.
	l := []api.Order{made(1, 2), drop(0, 2), goTo(0, 6, 1, 2), hit(1, 5, 6), hit(0, 2, 5), mine(1, 12, 4, 1), drop(0, 6), goTo(0, 2, 0, 0), made(0, 1), hit(0, 6, 5), goTo(1, 5, 3, 3)}
	checkSplit(t, l, small(), []api.Blow{{By: 5, At: 6}, {By: 2, At: 5}, {By: 6, At: 5}},
		[]api.Go{{Id: 6, To: at(1, 2)}, {Id: 2, To: at(0, 0)}, {Id: 5, To: at(3, 3)}},
		[]api.Deed{{Kind: 3, Who: 1, What: 2}, {Kind: 2, Who: 2}, {Kind: 1, Who: 12, At: at(4, 1)}, {Kind: 2, Who: 6}, {Kind: 3, Who: 0, What: 1}})
	// Who says a thing twice has it told twice.
	checkSplit(t, []api.Order{hit(0, 6, 5), drop(0, 2), hit(0, 6, 5), drop(0, 2), goTo(0, 6, 1, 1), goTo(0, 6, 1, 1)}, small(),
		[]api.Blow{{By: 6, At: 5}, {By: 6, At: 5}}, []api.Go{{Id: 6, To: at(1, 1)}, {Id: 6, To: at(1, 1)}}, []api.Deed{{Kind: 2, Who: 2}, {Kind: 2, Who: 2}})
}

// Whether it will come to something is not asked.
func TestSplitOfWhatIsNotDone(t *testing.T) {
	for _, n := range []int{0, 1, 6, 7, 999, 1000, 1000000} {
		checkBlow(t, small(), hit(0, 6, n), 6, n)
		checkBlow(t, small(), hit(0, 2, n), 2, n)
		checkDeed(t, small(), made(2, n), api.DMake, 2, 0, 0, n)
	}
	for _, c := range []api.Cell{at(0, 0), at(1, 1), at(-1, 2), at(5, 0), at(0, 3), at(-1000, 1000), at(1000, -1000)} {
		checkGo(t, small(), goTo(0, 6, c.X, c.Y), 6, c.X, c.Y)
		checkDeed(t, small(), mine(0, 6, c.X, c.Y), api.DMine, 6, c.X, c.Y, 0)
	}
	checkDeed(t, small(), drop(0, 6), api.DDrop, 6, 0, 0, 0)
}

// Each player, each troop: what a troop is to do only its owner may say.
func TestSplitOfOwnTroops(t *testing.T) {
	for _, w := range []api.World{small(), crowd(20)} {
		for by := range 8 {
			for _, one := range w.Troops {
				l := []api.Order{hit(by, one.Id, 5), goTo(by, one.Id, 3, 1), mine(by, one.Id, 2, 1), drop(by, one.Id)}
				if one.Owner != by {
					checkNothing(t, w, l...)
					continue
				}
				checkSplit(t, l, w, []api.Blow{{By: one.Id, At: 5}}, []api.Go{{Id: one.Id, To: at(3, 1)}},
					[]api.Deed{{Kind: 1, Who: one.Id, At: at(2, 1)}, {Kind: 2, Who: one.Id}})
			}
		}
	}
}

// A troop is asked for by its Id, not by its place in the list.
func TestSplitOfNobody(t *testing.T) {
	for _, id := range []int{0, 1, 3, 4, 7, 11, 13, 258, 261, 262, 999, 1000, 65538, 65541, 999999, 1000000} {
		for by := range 8 {
			l := []api.Order{hit(by, id, 5), hit(by, id, 2), goTo(by, id, 3, 1), mine(by, id, 2, 1), drop(by, id)}
			checkNothing(t, small(), l...)
			checkNothing(t, bare(), l...)
			checkNothing(t, with(small(), func(w *api.World) { w.Troops = nil }), l...)
		}
	}
}

// What a player makes there must be a player for, not a troop.
func TestSplitOfPlayers(t *testing.T) {
	all := crowd(0)
	for players := range 9 {
		w := with(all, func(w *api.World) { w.Bases, w.Stocks = w.Bases[:players], w.Stocks[:players] })
		for by := range 8 {
			if by < players {
				checkDeed(t, w, made(by, 2), api.DMake, by, 0, 0, 2)
				continue
			}
			checkNothing(t, w, made(by, 2))
		}
	}
	// Who is no player is left out, and all others are told.
	checkSplit(t, []api.Order{made(3, 1), made(2, 1), made(7, 1), made(0, 2), made(4, 1)}, small(), nil, nil, []api.Deed{{Kind: 3, Who: 2, What: 1}, {Kind: 3, Who: 0, What: 2}})
	checkSplit(t, []api.Order{drop(1, 2), hit(3, 2, 5), drop(0, 2), drop(0, 3), made(1, 1)}, small(), nil, nil, []api.Deed{{Kind: 2, Who: 2}, {Kind: 3, Who: 1, What: 1}})
}

func TestSplitLimit(t *testing.T) {
	checkNothing(t, small(), slices.Repeat([]api.Order{drop(0, 5)}, 100)...)
	checkSplit(t, slices.Repeat([]api.Order{hit(1, 5, 6)}, 100), small(), slices.Repeat([]api.Blow{{By: 5, At: 6}}, 100), nil, nil)
	checkSplit(t, slices.Repeat([]api.Order{goTo(1, 5, 1, 1)}, 100), small(), nil, slices.Repeat([]api.Go{{Id: 5, To: at(1, 1)}}, 100), nil)
	checkSplit(t, slices.Repeat([]api.Order{drop(1, 5)}, 100), small(), nil, nil, slices.Repeat([]api.Deed{{Kind: 2, Who: 5}}, 100))
	for _, n := range []int{101, 102, 200, 256, 356, 65536} {
		checkSplitError(t, slices.Repeat([]api.Order{drop(1, 5)}, n), small(), api.ErrLarge)
		checkSplitError(t, slices.Repeat([]api.Order{drop(0, 5)}, n), bare(), api.ErrLarge)
		checkSplitError(t, make([]api.Order, n), small(), api.ErrLarge)
		checkSplitError(t, make([]api.Order, n), api.World{}, api.ErrLarge)
	}
}

// An order that is wrong is told of also if nobody would do it.
func TestSplitErrorsOfOrders(t *testing.T) {
	form, arg := api.Order{By: 7, Kind: 5, Who: 1}, api.Order{By: 7, Kind: 6, Who: 1}
	for _, w := range []api.World{small(), bare(), crowd(100), {}} {
		checkSplitError(t, []api.Order{form}, w, api.ErrForm)
		checkSplitError(t, []api.Order{arg}, w, api.ErrArg)
		checkSplitError(t, []api.Order{drop(0, 2), form, arg}, w, api.ErrForm)
		checkSplitError(t, []api.Order{hit(0, 2, 5), arg, form}, w, api.ErrArg)
		checkSplitError(t, append(slices.Repeat([]api.Order{drop(0, 2)}, 99), form), w, api.ErrForm)
	}
}

// wrongWorlds are some of each error that troop.Check tells.
func wrongWorlds() []api.World {
	one := filled(1, 1, api.GPlain)
	return []api.World{
		{}, {Field: one}, {Field: one, Mines: []int{0}}, {Field: one, NextId: 1},
		with(small(), func(w *api.World) { w.Field.Wide = math.MaxInt }),
		with(small(), func(w *api.World) { w.Field.High = -3 }),
		with(small(), func(w *api.World) { w.Field.Wide, w.Field.High = 1<<32, 1<<32 }),
		with(small(), func(w *api.World) { w.Field.Places[7] = 4 }),
		with(small(), func(w *api.World) { w.Field.Places = w.Field.Places[:14] }),
		with(small(), func(w *api.World) { w.Bases = make([]api.Cell, 9) }),
		with(crowd(100), func(w *api.World) { w.Troops = append(w.Troops, soldier(999, 0, 9, 10)) }),
		with(small(), func(w *api.World) { w.Stocks = w.Stocks[:2] }),
		with(small(), func(w *api.World) { w.Stocks[1] = 1000001 }),
		with(small(), func(w *api.World) { w.Mines = w.Mines[:14] }),
		with(small(), func(w *api.World) { w.Mines[0] = 1 }),
		with(small(), func(w *api.World) { w.Bases[0] = w.Bases[1] }),
		with(small(), func(w *api.World) { w.Bases[0] = at(4, 0) }),
		with(small(), func(w *api.World) { w.Troops[1].Id = 2 }),
		with(small(), func(w *api.World) { w.Troops[0].Id = 0 }),
		with(small(), func(w *api.World) { slices.Reverse(w.Troops) }),
		with(small(), func(w *api.World) { w.Troops[0].Owner = 3 }),
		with(small(), func(w *api.World) { w.Troops[0].Owner = -1 }),
		with(small(), func(w *api.World) { w.Troops[1].Kind = 3 }),
		with(small(), func(w *api.World) { w.Troops[3].Cell = w.Troops[2].Cell }),
		with(small(), func(w *api.World) { w.Troops[3].Life = 0 }),
		with(small(), func(w *api.World) { w.Troops[1].Load = 1 }),
		with(small(), func(w *api.World) { w.NextId = 12 }),
		with(small(), func(w *api.World) { w.Now = -1 }),
	}
}

// What is wrong with the orders is told ahead of what is wrong with the world.
func TestSplitErrorsOfWorlds(t *testing.T) {
	for _, w := range wrongWorlds() {
		want := troop.Check(w)
		if want == api.OK {
			t.Fatalf("nothing is wrong with %s", brief(w))
		}
		for _, l := range [][]api.Order{nil, {}, {drop(0, 2)}, {drop(7, 9), made(7, 1)}, slices.Repeat([]api.Order{made(0, 1)}, 100)} {
			checkSplitError(t, l, w, want)
		}
		checkSplitError(t, []api.Order{drop(0, 2), {Kind: 6}}, w, api.ErrArg)
		checkSplitError(t, []api.Order{drop(0, 2), {Kind: 5, Who: 1}}, w, api.ErrForm)
		checkSplitError(t, make([]api.Order, 101), w, api.ErrLarge)
	}
}

// Each thing that can become of an order is tried, and often.
func TestSplitOfManyWorlds(t *testing.T) {
	tried := map[string]int{}
	for salt := range 1500 {
		w := thrown(1+salt%17, 1+salt*7%16, salt)
		l := saidOf(w, salt%101, salt)
		blows, goes, deeds, _ := wantSplit(l, w)
		checkSplit(t, l, w, blows, goes, deeds)
		for _, o := range l {
			tried[fmt.Sprint(o.Kind, " ", verdict(o, w))]++
		}
	}
	for kind := 1; kind < 6; kind++ {
		for _, what := range []string{said, noTroop, notOwn, noPlayer} {
			name := fmt.Sprint(kind, " ", what)
			if tried[name] < 100 && (kind < 5 || what == said || what == noPlayer) {
				t.Errorf("%d orders are %s", tried[name], name)
			}
		}
	}
}

// What is written, read and split is what is split at once.
func TestSplitOfWhatIsRead(t *testing.T) {
	for salt := range 100 {
		w := crowd(salt)
		l := saidOf(w, salt, salt)
		text, err := Write(l)
		heard, readErr := Read(text)
		if err != api.OK || readErr != api.OK {
			t.Fatalf("of %s: Write %d, Read %d", briefOrders(l), err, readErr)
		}
		blows, goes, deeds, _ := Split(l, w)
		checkSplit(t, heard, w, blows, goes, deeds)
	}
}

// P1.

// asked is what the calls are given; told is what they answer.
type asked struct {
	l []api.Order
	s string
	w api.World
}

type told struct {
	checks   []api.Errno
	text     string
	read     []api.Order
	blows    []api.Blow
	goes     []api.Go
	deeds    []api.Deed
	writeErr api.Errno
	readErr  api.Errno
	splitErr api.Errno
}

func ask(q asked) (r told) {
	for _, o := range q.l {
		r.checks = append(r.checks, Check(o))
	}
	r.text, r.writeErr = Write(q.l)
	r.read, r.readErr = Read(q.s)
	r.blows, r.goes, r.deeds, r.splitErr = Split(q.l, q.w)
	return r
}

// wantTold is what the promises ask for.
func wantTold(q asked) (r told) {
	for _, o := range q.l {
		r.checks = append(r.checks, wantCheck(o))
	}
	r.text, r.writeErr = wantWrite(q.l)
	r.read, r.readErr = wantRead(q.s)
	r.blows, r.goes, r.deeds, r.splitErr = wantSplit(q.l, q.w)
	return r
}

func same(a, b told) bool { return fmt.Sprint(a) == fmt.Sprint(b) }

func (q asked) String() string {
	return fmt.Sprintf("%s; %x; %s", briefOrders(q.l), q.s[:min(40, len(q.s))], brief(q.w))
}

func (r told) String() string {
	return fmt.Sprintf("checks %d; text %x, %d; read %v, %d; split %v, %v, %v, %d", r.checks, r.text, r.writeErr, r.read, r.readErr,
		r.blows, r.goes, r.deeds, r.splitErr)
}

// wildOrders are orders of which most have a number that is out of its bounds.
func wildOrders(n, salt int) []api.Order {
	d := dice(salt)
	numbers := append(wild(), -1, 0, 1, 2, 3, 5, 6, 7, 8, 1000, 1000000)
	var l []api.Order
	for range n {
		o := thrownOrder(&d)
		for range d.below(3) {
			o = put(o, d.below(6), numbers[d.below(len(numbers))])
		}
		l = append(l, o)
	}
	return l
}

// wildTexts are of any bytes, of lists of any numbers, and of orders.
func wildTexts(salt int) []string {
	d := dice(salt)
	bytes := make([]byte, d.below(300))
	for i := range bytes {
		bytes[i] = byte(d.below(256))
	}
	return []string{string(bytes), sealed(string(bytes)), textOf(flat(wildOrders(d.below(120), salt))...),
		textOf(flat(saidOf(small(), d.below(120), salt))...), textOf(append(flat(saidOf(small(), d.below(120), salt)), wild()[:d.below(7)]...)...)}
}

func questions() []asked {
	worlds := append(wrongWorlds(), bare(), small(), crowd(100), crowd(98))
	for salt := range 60 {
		worlds = append(worlds, thrown(1+salt*7%40, 1+salt*11%40, salt+1000))
	}
	var list []asked
	for i, w := range worlds {
		texts := wildTexts(i)
		list = append(list, asked{nil, "", w}, asked{saidOf(w, i%101, i), texts[0], w}, asked{saidOf(w, 99+i%4, i), texts[1], w})
		for _, s := range texts[2:] {
			list = append(list, asked{wildOrders(1+i%3, i), s, w}, asked{wildOrders(100, i), s, w}, asked{saidOf(w, 50, i), s, w})
		}
	}
	return list
}

// Whatever is given, an answer is the one that the promises ask for.
func TestEachCallAnswers(t *testing.T) {
	for _, q := range questions() {
		if got, want := ask(q), wantTold(q); !same(got, want) {
			t.Errorf("of %v: %v, want %v", q, got, want)
		}
	}
}

// Beside an error nothing is told.
func TestNothingBesideAnError(t *testing.T) {
	for _, q := range questions() {
		r := ask(q)
		if r.writeErr != api.OK && r.text != "" || r.readErr != api.OK && r.read != nil {
			t.Errorf("of %v: %v", q, r)
		}
		if r.splitErr != api.OK && !reflect.DeepEqual([]any{r.blows, r.goes, r.deeds}, []any{[]api.Blow(nil), []api.Go(nil), []api.Deed(nil)}) {
			t.Errorf("of %v: %v", q, r)
		}
	}
}

// P2.

// roomy is q with room behind each of its lists.
func roomy(q asked) asked {
	w := &q.w
	w.Field.Places = append(slices.Clone(w.Field.Places), 1, 2, 3)[:len(w.Field.Places)]
	w.Bases = append(slices.Clone(w.Bases), at(1, 2), at(3, 4))[:len(w.Bases)]
	w.Stocks = append(slices.Clone(w.Stocks), 5, 6)[:len(w.Stocks)]
	w.Mines = append(slices.Clone(w.Mines), 7, 8)[:len(w.Mines)]
	w.Troops = append(slices.Clone(w.Troops), soldier(9, 0, 0, 0), worker(8, 1, 1, 1, 1))[:len(w.Troops)]
	q.l = append(slices.Clone(q.l), drop(0, 2), made(0, 2))[:len(q.l)]
	return q
}

// whole is what a question holds, the room behind its lists included.
func whole(q asked) string {
	w := q.w
	return fmt.Sprint(w.Field, w.NextId, w.Now, w.Field.Places[:len(w.Field.Places)+3], w.Bases[:len(w.Bases)+2], w.Stocks[:len(w.Stocks)+2],
		w.Mines[:len(w.Mines)+2], w.Troops[:len(w.Troops)+2], q.l[:len(q.l)+2])
}

func TestQuestionsAreNotChanged(t *testing.T) {
	for _, q := range questions() {
		want := ask(q)
		q = roomy(q)
		old := whole(q)
		if got := ask(q); !same(got, want) {
			t.Fatalf("of %v: %v, with room behind the lists %v", q, want, got)
		}
		if whole(q) != old {
			t.Fatalf("of %v: left %s", q, whole(q))
		}
	}
}

// lists are those of an answer, the room behind each included.
func (r told) lists() []any {
	return []any{r.read[:cap(r.read)], r.blows[:cap(r.blows)], r.goes[:cap(r.goes)], r.deeds[:cap(r.deeds)]}
}

// spoil puts each part of a list to another one.
func spoil(list any) {
	switch l := list.(type) {
	case []api.Order:
		for i := range l {
			l[i].By, l[i].At.X = ^l[i].By, ^l[i].At.X
		}
	case []api.Blow:
		for i := range l {
			l[i].By = ^l[i].By
		}
	case []api.Go:
		for i := range l {
			l[i].Id = ^l[i].Id
		}
	case []api.Deed:
		for i := range l {
			l[i].Who = ^l[i].Who
		}
	}
}

// Who changes a list of an answer, and the room behind it, changes no other
// list, no other answer and nothing that was handed in.
func TestAnswersAreNewMemory(t *testing.T) {
	for _, q := range questions() {
		q = roomy(q)
		old := whole(q)
		want, first, second := ask(q), ask(q), ask(q)
		for i, list := range first.lists() {
			was := fmt.Sprint(first.lists()[i+1:])
			spoil(list)
			if fmt.Sprint(first.lists()[i+1:]) != was {
				t.Fatalf("of %v: list %d, spoilt, spoils others", q, i)
			}
		}
		if whole(q) != old {
			t.Fatalf("of %v: spoilt %s", q, whole(q))
		}
		if third := ask(q); !same(second, want) || !same(third, want) {
			t.Fatalf("of %v: %v beside a spoilt answer, %v behind it, want %v", q, second, third, want)
		}
	}
}

func TestNothingIsKeptBetweenCalls(t *testing.T) {
	list := questions()
	answers := make([]told, len(list))
	for i, q := range list {
		answers[i] = ask(q)
	}
	for i := len(list) - 1; i >= 0; i-- {
		if got := ask(list[i]); !same(got, answers[i]) {
			t.Fatalf("of %v: first %v, then %v", list[i], answers[i], got)
		}
	}
}

// Orders and a world that have become others in the same memory are read anew,
// and what was answered of them stays as it was.
func TestQuestionsAreNotKept(t *testing.T) {
	q := asked{[]api.Order{drop(0, 2), hit(1, 5, 2), made(2, 1), goTo(0, 6, 1, 1)}, textOf(0, 4, 1, 0, 0, 0), small()}
	first, want := ask(q), wantTold(q)
	for i := range 600 {
		q.w.Troops[i%4].Owner = i % 3
		q.w.Troops[3].Id = 12 + i%8
		q.w.NextId = 20 + i%5
		q.l[i%4] = saidOf(q.w, 1, i)[0]
		if i%7 == 6 {
			q.l[i%4].What = i
		}
		q.s = textOf(flat(q.l)...)
		if got, want := ask(q), wantTold(q); !same(got, want) {
			t.Fatalf("of %v: %v, want %v", q, got, want)
		}
	}
	if !same(first, want) {
		t.Errorf("of the orders at first, later on: %v, want %v", first, want)
	}
}
