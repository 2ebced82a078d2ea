package goods

import (
	"fmt"
	"math"
	"reflect"
	"slices"
	"strings"
	"testing"

	"musterfield/api"
	"musterfield/field"
	"musterfield/troop"
)

// read is the field of some rows.
func read(rows ...string) api.Field {
	f, err := field.Read(strings.Join(rows, "\n") + "\n")
	if err != api.OK {
		panic(fmt.Sprint(rows, " are no field"))
	}
	return f
}

func at(x, y int) api.Cell { return api.Cell{X: x, Y: y} }

func cellOf(f api.Field, i int) api.Cell { return at(i%f.Wide, i/f.Wide) }

// filled is a field of these sides with the same sort of place all over.
func filled(wide, high, place int) api.Field {
	return api.Field{Wide: wide, High: high, Places: slices.Repeat([]int{place}, wide*high)}
}

func mine(who, x, y int) api.Deed { return api.Deed{Kind: 1, Who: who, At: at(x, y)} }

func drop(who int) api.Deed { return api.Deed{Kind: 2, Who: who} }

func made(who, what int) api.Deed { return api.Deed{Kind: 3, Who: who, What: what} }

func worker(id, owner, x, y, load int) api.Troop {
	return api.Troop{Id: id, Owner: owner, Kind: api.KWorker, Cell: at(x, y), Life: 10, Load: load}
}

func soldier(id, owner, x, y int) api.Troop {
	return api.Troop{Id: id, Owner: owner, Kind: api.KSoldier, Cell: at(x, y), Life: 20}
}

// world is one of as many players as bases, each with the same stock, with a 7
// in each mine, and of troops whose Ids are below 1000.
func world(f api.Field, bases []api.Cell, stock int, troops ...api.Troop) api.World {
	w := api.World{Field: f, Bases: bases, Mines: make([]int, len(f.Places)), Troops: troops, NextId: 1000, Now: 5}
	for range bases {
		w.Stocks = append(w.Stocks, stock)
	}
	for i, place := range f.Places {
		if place == api.GOre {
			w.Mines[i] = 7
		}
	}
	return w
}

// bare is the least world.
func bare() api.World { return world(filled(1, 1, api.GPlain), nil, 0) }

// small is a world with something of all that a world has.
func small() api.World {
	w := world(read("..o.#", ".#t.o", "....."), []api.Cell{at(0, 0), at(4, 2), at(2, 1)}, 30,
		worker(2, 0, 1, 0, 3), soldier(5, 1, 2, 1), soldier(6, 0, 3, 1), worker(11, 2, 2, 2, 5), worker(12, 1, 4, 2, 0))
	w.Troops[0].Life, w.Troops[2].Life, w.Troops[3].Life = 4, 9, 1
	w.Stocks[1] = 5
	return w
}

// crowd is a world of n troops, row by row, ten a row: of three players in turn,
// and every other one a soldier.
func crowd(n int) api.World {
	w := world(filled(12, 12, api.GOre), []api.Cell{at(11, 11), at(9, 11), at(7, 11)}, 1000)
	for i := range n {
		one := worker(3*i+2, i%3, i%10, i/10, i%6)
		if i%2 == 0 {
			one = soldier(3*i+2, i%3, i%10, i/10)
		}
		w.Troops = append(w.Troops, one)
	}
	return w
}

// with is w, in memory of its own, changed.
func with(w api.World, change func(w *api.World)) api.World {
	w = troop.Copy(w)
	change(&w)
	return w
}

// dice are numbers that another salt makes others.
type dice uint32

func (d *dice) below(n int) int {
	*d = *d*1664525 + 1013904223
	return int(*d>>8) % n
}

// thrown is a world of these sides; another salt makes another one. What bounds
// a deed is often near: stocks, mines, the NextId and how many troops there are.
func thrown(wide, high, salt int) api.World {
	d := dice(salt)
	f := filled(wide, high, api.GPlain)
	for i := range f.Places {
		f.Places[i] = []int{0, 0, 1, 2, 3, 3, 3}[d.below(7)]
	}
	w := world(f, nil, 0)
	for i, place := range f.Places {
		if place == api.GOre {
			w.Mines[i] = []int{0, 1, 2, 9, 1000000}[d.below(5)]
		}
		if place != api.GRock && len(w.Bases) < 4 && d.below(4) == 0 {
			w.Bases = append(w.Bases, cellOf(f, i))
			w.Stocks = append(w.Stocks, []int{0, 4, 5, 12, 40, 1000, 999990, 999999, 1000000}[d.below(9)])
		}
	}
	id, few := 0, 2+d.below(6)
	for i, place := range f.Places {
		if place == api.GRock || d.below(few) == 0 || len(w.Troops) == api.MaxTroops || len(w.Bases) == 0 {
			continue
		}
		id += 1 + d.below(3)
		one := api.Troop{Id: id, Owner: d.below(len(w.Bases)), Kind: 1 + d.below(4)/3, Cell: cellOf(f, i)}
		one.Life, one.Load = 1+d.below(10*one.Kind), (2-one.Kind)*d.below(6)
		w.Troops = append(w.Troops, one)
	}
	w.NextId = []int{id + 1, id + 2, 999998, 1000000}[d.below(20)/6]
	return w
}

// thrownDeeds are n deeds, most of them of a troop of w beside where it stands,
// or of a player; some are of nobody, of nowhere and of no Kind.
func thrownDeeds(w api.World, n, salt int) []api.Deed {
	d := dice(salt)
	var l []api.Deed
	for range n {
		one := api.Deed{Kind: 1 + d.below(3), Who: d.below(w.NextId+2) - 1, At: at(d.below(44)-2, d.below(44)-2), What: d.below(5) - 1}
		if i := d.below(len(w.Troops) + 1); i < len(w.Troops) && one.Kind != api.DMake {
			c := w.Troops[i].Cell
			one.Who, one.At = w.Troops[i].Id, at(c.X+d.below(4)-1, c.Y+d.below(4)-1)
		}
		if one.Kind == api.DMake && d.below(9) > 0 {
			one.Who, one.What = d.below(len(w.Bases)+1), 1+d.below(2)
		}
		if d.below(30) == 0 {
			one.Kind = d.below(6) - 1
		}
		l = append(l, one)
	}
	return l
}

// wild are numbers that are the Id of no troop, no player, no Kind and no place
// of a cell.
func wild() []int {
	return []int{-1, -2, -12, -1000, 1000, 1001, 1000000, 1000001, -1 << 32, 1 << 32, 1<<32 + 1, 1<<32 + 2, 1<<62 + 2, math.MinInt, math.MinInt + 1, math.MinInt + 2, math.MaxInt - 1, math.MaxInt}
}

// brief tells of a great world only how it begins.
func brief(w api.World) string {
	return fmt.Sprintf("%d x %d, %d places %d, bases %d, stocks %d, %d mines %d, %d troops %+v, next %d, now %d", w.Field.Wide, w.Field.High,
		len(w.Field.Places), w.Field.Places[:min(15, len(w.Field.Places))], w.Bases[:min(9, len(w.Bases))], w.Stocks[:min(9, len(w.Stocks))],
		len(w.Mines), w.Mines[:min(15, len(w.Mines))], len(w.Troops), w.Troops[:min(6, len(w.Troops))], w.NextId, w.Now)
}

func briefDeeds(l []api.Deed) string { return fmt.Sprint(len(l), " deeds ", l[:min(12, len(l))]) }

// What the promises ask for, word by word.

func apart(m, n int) int {
	if m < n {
		return n - m
	}
	return m - n
}

// near is of cells of fields.
func near(a, b api.Cell) bool { return apart(a.X, b.X) <= 1 && apart(a.Y, b.Y) <= 1 }

// place is the number of a cell's place; -1 of no cell.
func place(f api.Field, c api.Cell) int {
	for i := range f.Places {
		if cellOf(f, i) == c {
			return i
		}
	}
	return -1
}

func troopOf(w api.World, id int) int {
	return slices.IndexFunc(w.Troops, func(t api.Troop) bool { return t.Id == id })
}

// What a deed comes to.
const (
	noKind   = "of no kind"
	nobody   = "of nobody"
	mined    = "mined"
	noWorker = "mined by a soldier"
	full     = "mined by one that is full"
	nowhere  = "mined out of the field"
	tooFar   = "mined too far off"
	noMine   = "mined where nothing is"
	dropped  = "dropped"
	inPart   = "dropped in part"
	empty    = "dropped of nothing"
	homeless = "dropped away from the base"
	stocked  = "dropped on a full stock"
	mustered = "made"
	noPlayer = "made by no player"
	noTroop  = "made of no kind"
	poor     = "made without the price"
	tooMany  = "made where there are too many"
	noId     = "made without an id"
	crowded  = "made without room"
)

func verdicts() []string {
	return []string{noKind, nobody, mined, noWorker, full, nowhere, tooFar, noMine, dropped, inPart, empty, homeless, stocked,
		mustered, noPlayer, noTroop, poor, tooMany, noId, crowded}
}

func isDone(verdict string) bool {
	return slices.Contains([]string{mined, dropped, inPart, mustered}, verdict)
}

// deal is what the deed comes to, and changes w by it.
func deal(w *api.World, d api.Deed) string {
	switch d.Kind {
	case 1, 2:
		i := troopOf(*w, d.Who)
		if i < 0 {
			return nobody
		}
		if d.Kind == 1 {
			return dealMine(w, &w.Troops[i], d.At)
		}
		return dealDrop(w, &w.Troops[i])
	case 3:
		return dealMake(w, d.Who, d.What)
	}
	return noKind
}

func dealMine(w *api.World, t *api.Troop, c api.Cell) string {
	k := place(w.Field, c)
	switch {
	case t.Kind != 1:
		return noWorker
	case t.Load > 4:
		return full
	case k < 0:
		return nowhere
	case !near(t.Cell, c):
		return tooFar
	case w.Mines[k] < 1:
		return noMine
	}
	t.Load, w.Mines[k] = t.Load+1, w.Mines[k]-1
	return mined
}

// dealDrop carries one after the other.
func dealDrop(w *api.World, t *api.Troop) string {
	stock := &w.Stocks[t.Owner]
	switch {
	case t.Load == 0:
		return empty
	case !near(t.Cell, w.Bases[t.Owner]):
		return homeless
	case *stock > 999999:
		return stocked
	}
	for t.Load > 0 && *stock < 1000000 {
		t.Load, *stock = t.Load-1, *stock+1
	}
	if t.Load > 0 {
		return inPart
	}
	return dropped
}

func dealMake(w *api.World, player, what int) string {
	if player < 0 || player > len(w.Bases)-1 {
		return noPlayer
	}
	if what != 1 && what != 2 {
		return noTroop
	}
	price, life := []int{0, 5, 12}[what], []int{0, 10, 20}[what]
	switch {
	case w.Stocks[player] < price:
		return poor
	case len(w.Troops) > 99:
		return tooMany
	case w.NextId > 999999:
		return noId
	}
	b := w.Bases[player]
	for _, off := range []api.Cell{at(0, 0), at(-1, -1), at(0, -1), at(1, -1), at(-1, 0), at(1, 0), at(-1, 1), at(0, 1), at(1, 1)} {
		c := at(b.X+off.X, b.Y+off.Y)
		k := place(w.Field, c)
		if k < 0 || w.Field.Places[k] == api.GRock || slices.ContainsFunc(w.Troops, func(t api.Troop) bool { return t.Cell == c }) {
			continue
		}
		w.Troops = append(w.Troops, api.Troop{Id: w.NextId, Owner: player, Kind: what, Cell: c, Life: life})
		w.NextId, w.Stocks[player] = w.NextId+1, w.Stocks[player]-price
		return mustered
	}
	return crowded
}

func wantDo(w api.World, l []api.Deed) (api.World, []bool, api.Errno) {
	if err := troop.Check(w); err != api.OK {
		return api.World{}, nil, err
	}
	if len(l) > 200 {
		return api.World{}, nil, api.ErrLarge
	}
	w = troop.Copy(w)
	var done []bool
	for _, d := range l {
		done = append(done, isDone(deal(&w, d)))
	}
	return w, done, api.OK
}

func wantWorth(w api.World) (int, api.Errno) {
	if err := troop.Check(w); err != api.OK {
		return 0, err
	}
	worth := 0
	for _, n := range append(slices.Clone(w.Stocks), w.Mines...) {
		worth += n
	}
	for _, t := range w.Troops {
		worth += t.Load + []int{0, 5, 12}[t.Kind]
	}
	return worth, api.OK
}

func sameWorld(a, b api.World) bool { return fmt.Sprint(a) == fmt.Sprint(b) }

// P15.1.

// checkDo has want be the whole world, and done be what is told of each deed. It
// has the world be right, and worth what it was.
func checkDo(t *testing.T, w api.World, l []api.Deed, want api.World, wantDone ...bool) {
	t.Helper()
	after, done, err := Do(w, l)
	if !sameWorld(after, want) || !slices.Equal(done, wantDone) || err != api.OK {
		t.Errorf("Do of %s, %s = %s, %t, %d, want %s, %t, 0", brief(w), briefDeeds(l), brief(after), done, err, brief(want), wantDone)
	}
	if err := troop.Check(after); err != api.OK {
		t.Errorf("Do of %s, %s = %s, of which troop.Check = %d", brief(w), briefDeeds(l), brief(after), err)
	}
	was, wasErr := Worth(w)
	if is, err := Worth(after); is != was || err != api.OK || wasErr != api.OK {
		t.Errorf("Do of %s, %s: worth %d, %d, then %d, %d", brief(w), briefDeeds(l), was, wasErr, is, err)
	}
}

// checkNothing has none of the deeds be done.
func checkNothing(t *testing.T, w api.World, l ...api.Deed) {
	t.Helper()
	checkDo(t, w, l, w, make([]bool, len(l))...)
}

// checkDone has the one deed be done, and change the world by this.
func checkDone(t *testing.T, w api.World, d api.Deed, change func(w *api.World)) {
	t.Helper()
	checkDo(t, w, []api.Deed{d}, with(w, change), true)
}

// checkDoError has what is told beside an error be nothing at all.
func checkDoError(t *testing.T, w api.World, l []api.Deed, want api.Errno) {
	t.Helper()
	if after, done, err := Do(w, l); !reflect.DeepEqual(after, api.World{}) || done != nil || err != want {
		t.Errorf("Do of %s, %s = %s, %t, %d, want nothing, %d", brief(w), briefDeeds(l), brief(after), done, err, want)
	}
}

func TestDo(t *testing.T) {
	checkDo(t, bare(), nil, bare())
	checkDo(t, small(), nil, small())
	checkDo(t, small(), []api.Deed{}, small())
	checkDone(t, small(), mine(2, 2, 0), func(w *api.World) { w.Troops[0].Load, w.Mines[2] = 4, 6 })
	checkDone(t, small(), drop(2), func(w *api.World) { w.Troops[0].Load, w.Stocks[0] = 0, 33 })
	checkDone(t, small(), made(0, api.KWorker), func(w *api.World) {
		w.Troops, w.NextId, w.Stocks[0] = append(w.Troops, worker(1000, 0, 0, 0, 0)), 1001, 25
	})
	checkDone(t, small(), made(0, api.KSoldier), func(w *api.World) {
		w.Troops, w.NextId, w.Stocks[0] = append(w.Troops, soldier(1000, 0, 0, 0)), 1001, 18
	})
	// Several, one behind the other.
	l := []api.Deed{mine(12, 4, 1), mine(11, 2, 1), drop(11), made(1, api.KSoldier), drop(12), made(1, api.KWorker), drop(2), drop(2), mine(2, 2, 0), drop(5)}
	want := with(small(), func(w *api.World) {
		w.Troops, w.NextId = append(w.Troops, worker(1000, 1, 4, 1, 0)), 1001
		w.Troops[0].Load, w.Troops[3].Load, w.Troops[4].Load = 1, 0, 0
		w.Stocks = []int{33, 1, 35}
		w.Mines[9], w.Mines[2] = 6, 6
	})
	checkDo(t, small(), l, want, true, false, true, false, true, true, true, false, true, false)
}

// What a deed's Kind has no use for is not looked at.
func TestDoLooksAtWhatItNeeds(t *testing.T) {
	for _, n := range append(wild(), 0, 1, 2, 3) {
		checkDone(t, small(), api.Deed{Kind: 1, Who: 2, At: at(2, 0), What: n}, func(w *api.World) { w.Troops[0].Load, w.Mines[2] = 4, 6 })
		checkDone(t, small(), api.Deed{Kind: 2, Who: 2, At: at(n, n), What: n}, func(w *api.World) { w.Troops[0].Load, w.Stocks[0] = 0, 33 })
		checkDone(t, small(), api.Deed{Kind: 3, Who: 0, At: at(n, -n), What: 2}, func(w *api.World) {
			w.Troops, w.NextId, w.Stocks[0] = append(w.Troops, soldier(1000, 0, 0, 0)), 1001, 18
		})
	}
}

func TestDoOfNoKind(t *testing.T) {
	for _, kind := range append(wild(), 0, 4, 5, 9, 257, 258, 259, 1<<32+3) {
		checkNothing(t, small(), api.Deed{Kind: kind, Who: 2, At: at(2, 0), What: 1}, api.Deed{Kind: kind, Who: 0, At: at(2, 0), What: 2})
		checkDo(t, small(), []api.Deed{{Kind: kind, Who: 2}, drop(2)}, with(small(), func(w *api.World) { w.Troops[0].Load, w.Stocks[0] = 0, 33 }), false, true)
	}
}

// A worker mines where it stands and on the eight cells about it, and nowhere
// else.
func TestMineBeside(t *testing.T) {
	f := filled(7, 7, api.GOre)
	for i := range f.Places {
		c := cellOf(f, i)
		for _, own := range []api.Cell{at(3, 3), at(0, 0), at(6, 0), at(0, 6), at(6, 6), at(6, 3)} {
			w := world(f, []api.Cell{at(1, 1)}, 0, worker(4, 0, own.X, own.Y, 1))
			if near(own, c) {
				checkDone(t, w, mine(4, c.X, c.Y), func(w *api.World) { w.Troops[0].Load, w.Mines[i] = 2, 6 })
				continue
			}
			checkNothing(t, w, mine(4, c.X, c.Y))
		}
	}
}

// Out of the field nothing is mined, also where it would be beside, or its place
// would be one with a mine.
func TestMineNoCell(t *testing.T) {
	f := filled(3, 3, api.GOre)
	for i := range f.Places {
		own := cellOf(f, i)
		w := world(f, []api.Cell{at(1, 1)}, 0, worker(4, 0, own.X, own.Y, 1))
		for _, off := range append(wild(), -3, -9, 3, 4, 5, 6, 8, 9) {
			checkNothing(t, w, mine(4, off, 0), mine(4, 0, off), mine(4, off, off), mine(4, off, 2), mine(4, 2, off), mine(4, off, 1-off), mine(4, off, math.MaxInt))
		}
		checkNothing(t, w, mine(4, 3, -1), mine(4, 3, 0), mine(4, -1, 1), mine(4, -1, 2), mine(4, -3, 1), mine(4, 6, -1))
	}
}

// A mine can be mined till it is empty; other places have none.
func TestMineEmpty(t *testing.T) {
	w := world(read("o.#", "to.", "..."), []api.Cell{at(2, 2)}, 0, worker(4, 0, 0, 0, 0), worker(6, 0, 1, 0, 2))
	w.Mines[0], w.Mines[4] = 3, 0
	l := []api.Deed{mine(4, 0, 0), mine(6, 0, 0), mine(4, 0, 0), mine(4, 0, 0), mine(6, 0, 0)}
	want := with(w, func(w *api.World) { w.Mines[0], w.Troops[0].Load, w.Troops[1].Load = 0, 2, 3 })
	checkDo(t, w, l, want, true, true, true, false, false)
	// Plain, wood, rock, and a place of ore with nothing in it.
	checkNothing(t, w, mine(6, 1, 0), mine(6, 2, 0), mine(6, 0, 1), mine(6, 1, 1), mine(6, 2, 1), mine(4, 1, 1))
	w.Mines[4] = 1000000
	checkDone(t, w, mine(6, 1, 1), func(w *api.World) { w.Mines[4], w.Troops[1].Load = 999999, 3 })
}

// A worker carries up to five; a soldier nothing.
func TestMineLoad(t *testing.T) {
	f := filled(2, 1, api.GOre)
	for load := range 6 {
		w := world(f, []api.Cell{at(0, 0)}, 0, worker(4, 0, 0, 0, load))
		w.Mines[1] = 1000
		done := make([]bool, 9)
		for i := range 5 - load {
			done[i] = true
		}
		want := with(w, func(w *api.World) { w.Mines[1], w.Troops[0].Load = 995+load, 5 })
		checkDo(t, w, slices.Repeat([]api.Deed{mine(4, 1, 0)}, 9), want, done...)
	}
	w := world(f, []api.Cell{at(0, 0)}, 0, soldier(4, 0, 0, 0))
	checkNothing(t, w, mine(4, 0, 0), mine(4, 1, 0))
}

// A mine is nobody's: who stands on it and whose base it is doesn't matter, nor
// does a player's stock.
func TestMineOfOthers(t *testing.T) {
	w := world(filled(3, 1, api.GOre), []api.Cell{at(2, 0), at(0, 0)}, 1000000, worker(4, 0, 1, 0, 0), soldier(7, 1, 0, 0))
	checkDone(t, w, mine(4, 0, 0), func(w *api.World) { w.Mines[0], w.Troops[0].Load = 6, 1 })
	checkDone(t, w, mine(4, 1, 0), func(w *api.World) { w.Mines[1], w.Troops[0].Load = 6, 1 })
	checkDone(t, w, mine(4, 2, 0), func(w *api.World) { w.Mines[2], w.Troops[0].Load = 6, 1 })
}

// A troop is asked for by its Id, not by its place in the list.
func TestDoOfNobody(t *testing.T) {
	w := world(filled(4, 1, api.GOre), []api.Cell{at(1, 0), at(2, 0)}, 9, worker(4, 0, 0, 0, 1), worker(263, 1, 1, 0, 2), worker(999, 0, 2, 0, 3))
	for _, id := range append(wild(), 0, 1, 2, 3, 5, 7, 260, 262, 264, 519, 998, 65540, 65799, 4-1<<32, 4+1<<48) {
		checkNothing(t, w, mine(id, 0, 0), mine(id, 1, 0), mine(id, 2, 0), drop(id))
		checkNothing(t, bare(), mine(id, 0, 0), drop(id))
	}
	checkDone(t, w, mine(263, 0, 0), func(w *api.World) { w.Mines[0], w.Troops[1].Load = 6, 3 })
	checkDone(t, w, drop(263), func(w *api.World) { w.Stocks[1], w.Troops[1].Load = 11, 0 })
	checkDone(t, w, drop(999), func(w *api.World) { w.Stocks[0], w.Troops[2].Load = 12, 0 })
	// An Id is a player's number only when something is made.
	checkNothing(t, w, drop(0), drop(1), made(4, 1), made(263, 1))
}

// A worker drops on its base and on the eight cells about it, and nowhere else.
func TestDropBeside(t *testing.T) {
	f := filled(7, 7, api.GPlain)
	for i := range f.Places {
		own := cellOf(f, i)
		for _, base := range []api.Cell{at(3, 3), at(0, 0), at(6, 0), at(0, 6), at(6, 6), at(0, 3)} {
			// The other's base is no place to drop at.
			w := world(f, []api.Cell{at(5, 1), base}, 8, worker(4, 1, own.X, own.Y, 3))
			if near(own, base) {
				checkDone(t, w, drop(4), func(w *api.World) { w.Troops[0].Load, w.Stocks[1] = 0, 11 })
				continue
			}
			checkNothing(t, w, drop(4), api.Deed{Kind: 2, Who: 4, At: own}, api.Deed{Kind: 2, Who: 4, At: base})
		}
	}
}

// What has no room on the stock stays with the worker.
func TestDropRoom(t *testing.T) {
	for load := 1; load < 6; load++ {
		for room := range 8 {
			w := world(filled(2, 1, api.GPlain), []api.Cell{at(0, 0)}, 1000000-room, worker(4, 0, 1, 0, load))
			if room == 0 {
				checkNothing(t, w, drop(4), drop(4))
				continue
			}
			n := min(load, room)
			want := with(w, func(w *api.World) { w.Stocks[0], w.Troops[0].Load = 1000000-room+n, load-n })
			checkDo(t, w, []api.Deed{drop(4), drop(4)}, want, true, false)
		}
	}
}

// Who has no Load drops nothing, on a full stock and on an empty one.
func TestDropNothing(t *testing.T) {
	for _, stock := range []int{0, 8, 999999, 1000000} {
		w := world(filled(3, 1, api.GPlain), []api.Cell{at(1, 0)}, stock, worker(4, 0, 0, 0, 0), soldier(7, 0, 1, 0), worker(9, 0, 2, 0, 0))
		checkNothing(t, w, drop(4), drop(7), drop(9))
	}
}

// Each kind at its price, as soon as there is enough of it.
func TestMakePrice(t *testing.T) {
	for stock := range 40 {
		w := world(filled(9, 1, api.GPlain), []api.Cell{at(1, 0), at(7, 0)}, stock)
		w.Stocks[0] = 39 - stock
		for what, price := range []int{0, 5, 12} {
			if what == 0 || stock < price {
				checkNothing(t, w, made(1, what))
				continue
			}
			checkDone(t, w, made(1, what), func(w *api.World) {
				w.Troops = []api.Troop{{Id: 1000, Owner: 1, Kind: what, Cell: at(7, 0), Life: 10 * what}}
				w.NextId, w.Stocks[1] = 1001, stock-price
			})
		}
	}
}

// One deed is one troop; they are made till the stock is spent.
func TestMakeSeveral(t *testing.T) {
	w := world(filled(3, 3, api.GPlain), []api.Cell{at(1, 1)}, 23)
	want := with(w, func(w *api.World) {
		w.Troops = []api.Troop{worker(1000, 0, 1, 1, 0), soldier(1001, 0, 0, 0), worker(1002, 0, 1, 0, 0)}
		w.NextId, w.Stocks[0] = 1003, 1
	})
	checkDo(t, w, []api.Deed{made(0, 1), made(0, 2), made(0, 2), made(0, 1), made(0, 1)}, want, true, true, false, true, false)
}

func TestMakeOfNoPlayerOrKind(t *testing.T) {
	w := world(filled(3, 3, api.GPlain), []api.Cell{at(0, 0), at(2, 2)}, 1000000)
	for _, n := range append(wild(), 3, 4, 8, 256, 257, 258) {
		checkNothing(t, w, made(n, 1), made(n, 2), made(0, n), made(1, n), made(n, n))
		checkNothing(t, bare(), made(n, 1), made(n, 2))
	}
	checkNothing(t, w, made(2, 1), made(2, 2), made(0, 0), made(1, 0))
	checkNothing(t, bare(), made(0, 1), made(0, 2))
	// All of eight players.
	f := filled(8, 1, api.GWood)
	eight := world(f, nil, 0)
	for i := range 8 {
		eight.Bases, eight.Stocks = append(eight.Bases, at(7-i, 0)), append(eight.Stocks, 100)
	}
	for i := range 8 {
		checkDone(t, eight, made(i, 2), func(w *api.World) {
			w.Troops, w.NextId, w.Stocks[i] = []api.Troop{soldier(1000, i, 7-i, 0)}, 1001, 88
		})
	}
	checkNothing(t, eight, made(8, 2), made(-1, 2))
}

// The base itself, else row by row, from left to right, what is free: as long as
// there is such a cell.
func TestMakeCells(t *testing.T) {
	order := []api.Cell{at(2, 2), at(1, 1), at(2, 1), at(3, 1), at(1, 2), at(3, 2), at(1, 3), at(2, 3), at(3, 3)}
	w := world(filled(5, 5, api.GPlain), []api.Cell{at(2, 2)}, 1000)
	var l []api.Deed
	var done []bool
	want := troop.Copy(w)
	for i, c := range order {
		l, done = append(l, made(0, 1)), append(done, true)
		want.Troops = append(want.Troops, worker(1000+i, 0, c.X, c.Y, 0))
		want.NextId, want.Stocks[0] = 1001+i, 995-5*i
		checkDo(t, w, l, want, done...)
	}
	checkDo(t, w, append(l, made(0, 1), made(0, 2)), want, append(done, false, false)...)
	checkNothing(t, want, made(0, 1), made(0, 2))
	// With one of them gone its cell is the one.
	for i, c := range order {
		gone := with(want, func(w *api.World) { w.Troops = slices.Delete(w.Troops, i, i+1) })
		checkDone(t, gone, made(0, 2), func(w *api.World) {
			w.Troops = append(w.Troops, soldier(w.NextId, 0, c.X, c.Y))
			w.NextId, w.Stocks[0] = w.NextId+1, w.Stocks[0]-12
		})
	}
}

// No rock, no cell out of the field, also where its place would be one; another
// one's base, wood and ore are free.
func TestMakeCellsOfFields(t *testing.T) {
	for _, c := range []struct {
		f    api.Field
		base api.Cell
		want []api.Cell
	}{
		{filled(1, 1, api.GPlain), at(0, 0), []api.Cell{at(0, 0)}},
		{filled(3, 3, api.GOre), at(0, 0), []api.Cell{at(0, 0), at(1, 0), at(0, 1), at(1, 1)}},
		{filled(3, 3, api.GWood), at(2, 0), []api.Cell{at(2, 0), at(1, 0), at(1, 1), at(2, 1)}},
		{filled(3, 3, api.GPlain), at(0, 2), []api.Cell{at(0, 2), at(0, 1), at(1, 1), at(1, 2)}},
		{filled(3, 3, api.GPlain), at(2, 2), []api.Cell{at(2, 2), at(1, 1), at(2, 1), at(1, 2)}},
		{filled(3, 3, api.GPlain), at(0, 1), []api.Cell{at(0, 1), at(0, 0), at(1, 0), at(1, 1), at(0, 2), at(1, 2)}},
		{filled(3, 3, api.GPlain), at(2, 1), []api.Cell{at(2, 1), at(1, 0), at(2, 0), at(1, 1), at(1, 2), at(2, 2)}},
		{filled(40, 40, api.GPlain), at(39, 39), []api.Cell{at(39, 39), at(38, 38), at(39, 38), at(38, 39)}},
		{read("###", "#.#", "###"), at(1, 1), []api.Cell{at(1, 1)}},
		{read("#o#", "#t.", "..#"), at(1, 1), []api.Cell{at(1, 1), at(1, 0), at(2, 1), at(0, 2), at(1, 2)}},
		{read("##t", "...", "###"), at(1, 1), []api.Cell{at(1, 1), at(2, 0), at(0, 1), at(2, 1)}},
	} {
		w := world(c.f, []api.Cell{c.base}, 1000)
		if len(c.want) > 2 {
			w.Bases, w.Stocks = append(w.Bases, c.want[2]), append(w.Stocks, 3)
		}
		want := troop.Copy(w)
		var done []bool
		for i, cell := range c.want {
			want.Troops, done = append(want.Troops, soldier(1000+i, 0, cell.X, cell.Y)), append(done, true)
			want.NextId, want.Stocks[0] = 1001+i, want.Stocks[0]-12
		}
		checkDo(t, w, append(slices.Repeat([]api.Deed{made(0, 2)}, len(done)), made(0, 2)), want, append(done, false)...)
	}
}

// There are at most 100 troops, however they have come about.
func TestMakeTroops(t *testing.T) {
	for n := 97; n <= 100; n++ {
		w := crowd(n)
		want := troop.Copy(w)
		done := make([]bool, 5)
		for i := range 100 - n {
			c := []api.Cell{at(9, 11), at(8, 10), at(9, 10)}[i]
			want.Troops, done[i] = append(want.Troops, worker(1000+i, 1, c.X, c.Y, 0)), true
			want.NextId, want.Stocks[1] = 1001+i, 995-5*i
		}
		checkDo(t, w, slices.Repeat([]api.Deed{made(1, 1)}, 5), want, done...)
	}
	checkNothing(t, crowd(100), made(0, 1), made(0, 2), made(1, 1), made(1, 2), made(2, 1), made(2, 2))
}

// NextId comes to 10^6, and no further.
func TestMakeNextId(t *testing.T) {
	for _, n := range []int{1, 2, 999997, 999998, 999999, 1000000} {
		w := world(filled(3, 3, api.GPlain), []api.Cell{at(0, 0)}, 1000)
		w.NextId = n
		want := troop.Copy(w)
		done := make([]bool, 4)
		for i := range min(4, 1000000-n) {
			c := []api.Cell{at(0, 0), at(1, 0), at(0, 1), at(1, 1)}[i]
			want.Troops, done[i] = append(want.Troops, worker(n+i, 0, c.X, c.Y, 0)), true
			want.NextId, want.Stocks[0] = n+i+1, 995-5*i
		}
		checkDo(t, w, slices.Repeat([]api.Deed{made(0, 1)}, 4), want, done...)
	}
}

// What one deed does the next one finds: a troop that was made mines and drops,
// what was dropped pays, and what was mined can be dropped.
func TestDoInOrder(t *testing.T) {
	w := world(read("o..", "..."), []api.Cell{at(1, 0), at(2, 1)}, 5)
	w.Mines[0] = 2
	want := with(w, func(w *api.World) {
		w.Troops = []api.Troop{worker(1000, 0, 1, 0, 0), worker(1001, 1, 2, 1, 0)}
		w.NextId, w.Stocks, w.Mines[0] = 1002, []int{2, 0}, 0
	})
	l := []api.Deed{mine(1000, 0, 0), made(0, 1), mine(1000, 0, 0), made(1, 1), mine(1001, 0, 0), mine(1000, 0, 0), mine(1000, 0, 0), drop(1000), drop(1001)}
	checkDo(t, w, l, want, false, true, true, true, false, true, false, true, false)

	w = world(read("o.."), []api.Cell{at(1, 0)}, 4, worker(9, 0, 0, 0, 0))
	want = with(w, func(w *api.World) {
		w.Troops = []api.Troop{worker(9, 0, 0, 0, 0), worker(1000, 0, 1, 0, 0)}
		w.NextId, w.Stocks, w.Mines[0] = 1001, []int{0}, 6
	})
	checkDo(t, w, []api.Deed{made(0, 1), drop(9), mine(9, 0, 0), made(0, 1), drop(9), made(0, 1), made(0, 1)}, want, false, false, true, false, true, true, false)
	// What is made makes room on a full stock.
	w = world(filled(3, 1, api.GPlain), []api.Cell{at(1, 0)}, 1000000, worker(9, 0, 0, 0, 5))
	want = with(w, func(w *api.World) {
		w.Troops = []api.Troop{worker(9, 0, 0, 0, 0), soldier(1000, 0, 1, 0)}
		w.NextId, w.Stocks = 1001, []int{999993}
	})
	checkDo(t, w, []api.Deed{drop(9), made(0, 2), drop(9)}, want, false, true, true)
}

func TestDoLimit(t *testing.T) {
	w := small()
	l := make([]api.Deed, 200)
	checkNothing(t, w, l...)
	l[0], l[199] = mine(2, 2, 0), drop(2)
	done := make([]bool, 200)
	done[0], done[199] = true, true
	checkDo(t, w, l, with(w, func(w *api.World) { w.Mines[2], w.Stocks[0], w.Troops[0].Load = 6, 34, 0 }), done...)
	for _, n := range []int{201, 202, 256, 400, 65536} {
		checkDoError(t, w, make([]api.Deed, n), api.ErrLarge)
		checkDoError(t, w, append(l, make([]api.Deed, n-200)...), api.ErrLarge)
		checkDoError(t, bare(), make([]api.Deed, n), api.ErrLarge)
	}
}

// wrongWorlds are some of each error that troop.Check tells.
func wrongWorlds() []api.World {
	one := filled(1, 1, api.GPlain)
	return []api.World{
		{}, {Field: one}, {Field: one, Mines: []int{0}}, {Field: one, NextId: 1},
		with(small(), func(w *api.World) { w.Field.Wide = math.MaxInt }),
		with(small(), func(w *api.World) { w.Field.High = -3 }),
		with(small(), func(w *api.World) { w.Field.Wide, w.Field.High = 1<<32, 1<<32 }),
		with(small(), func(w *api.World) { w.Field.Places[7] = 4 }),
		with(small(), func(w *api.World) { w.Field.Places = w.Field.Places[:14] }),
		with(small(), func(w *api.World) { w.Bases = make([]api.Cell, 9) }),
		with(crowd(100), func(w *api.World) { w.Troops = append(w.Troops, soldier(999, 0, 9, 10)) }),
		with(small(), func(w *api.World) { w.Stocks = w.Stocks[:2] }),
		with(small(), func(w *api.World) { w.Stocks[1] = -1 }),
		with(small(), func(w *api.World) { w.Stocks[1] = 1000001 }),
		with(small(), func(w *api.World) { w.Mines = append(w.Mines, 0) }),
		with(small(), func(w *api.World) { w.Mines = w.Mines[:14] }),
		with(small(), func(w *api.World) { w.Mines[0] = 1 }),
		with(small(), func(w *api.World) { w.Mines[2] = -1 }),
		with(small(), func(w *api.World) { w.Mines[2] = math.MaxInt }),
		with(small(), func(w *api.World) { w.Bases[0] = w.Bases[1] }),
		with(small(), func(w *api.World) { w.Bases[0] = at(4, 0) }),
		with(small(), func(w *api.World) { w.Bases[0] = at(math.MaxInt, math.MinInt) }),
		with(small(), func(w *api.World) { w.Troops[1].Id = 2 }),
		with(small(), func(w *api.World) { w.Troops[0].Id = 0 }),
		with(small(), func(w *api.World) { slices.Reverse(w.Troops) }),
		with(small(), func(w *api.World) { w.Troops[0].Owner = 3 }),
		with(small(), func(w *api.World) { w.Troops[0].Owner = -1 }),
		with(small(), func(w *api.World) { w.Troops[1].Kind = 3 }),
		with(small(), func(w *api.World) { w.Troops[3].Cell = w.Troops[2].Cell }),
		with(small(), func(w *api.World) { w.Troops[3].Cell = at(1, 1) }),
		with(small(), func(w *api.World) { w.Troops[3].Cell = at(math.MinInt, math.MaxInt) }),
		with(small(), func(w *api.World) { w.Troops[3].Life = 0 }),
		with(small(), func(w *api.World) { w.Troops[0].Life = 11 }),
		with(small(), func(w *api.World) { w.Troops[0].Load = 6 }),
		with(small(), func(w *api.World) { w.Troops[0].Load = -1 }),
		with(small(), func(w *api.World) { w.Troops[1].Load = 1 }),
		with(small(), func(w *api.World) { w.NextId = 12 }),
		with(small(), func(w *api.World) { w.NextId = 1000001 }),
		with(small(), func(w *api.World) { w.Now = -1 }),
	}
}

// What is wrong with a world is told ahead of that there are too many deeds.
func TestErrorsOfWorlds(t *testing.T) {
	for _, w := range wrongWorlds() {
		want := troop.Check(w)
		if want == api.OK {
			t.Fatalf("nothing is wrong with %s", brief(w))
		}
		for _, l := range [][]api.Deed{nil, {}, {drop(2)}, {mine(2, 2, 0), made(0, 1)}, {mine(2, math.MinInt, math.MaxInt)}, make([]api.Deed, 200), make([]api.Deed, 201)} {
			checkDoError(t, w, l, want)
		}
		checkWorth(t, w, 0, want)
	}
}

// Each thing that a deed can come to is tried, and often.
func TestDoOfManyWorlds(t *testing.T) {
	tried := map[string]int{}
	for salt := range 1500 {
		w := thrown(1+salt%17, 1+salt*7%16, salt)
		l := thrownDeeds(w, salt%201, salt)
		want, done, _ := wantDo(w, l)
		checkDo(t, w, l, want, done...)
		for _, d := range l {
			tried[deal(&w, d)]++
		}
	}
	for _, what := range verdicts() {
		if tried[what] < 100 {
			t.Errorf("%d deeds are %s", tried[what], what)
		}
	}
}

// Deeds that are done all at once come to the same as one after the other.
func TestDoBehindDo(t *testing.T) {
	for salt := range 60 {
		w := thrown(2+salt%9, 2+salt%7, salt)
		l := thrownDeeds(w, 60, salt)
		want, wantDone, _ := Do(w, l)
		var done []bool
		for _, d := range l {
			after, one, err := Do(w, []api.Deed{d})
			if err != api.OK || len(one) != 1 {
				t.Fatalf("Do of %s, %v: %t, %d", brief(w), d, one, err)
			}
			w, done = after, append(done, one[0])
		}
		if !sameWorld(w, want) || !slices.Equal(done, wantDone) {
			t.Errorf("one by one %s, %t, want %s, %t", brief(w), done, brief(want), wantDone)
		}
	}
}

// P15.2.

func checkWorth(t *testing.T, w api.World, want int, wantErr api.Errno) {
	t.Helper()
	if got, err := Worth(w); got != want || err != wantErr {
		t.Errorf("Worth of %s = %d, %d, want %d, %d", brief(w), got, err, want, wantErr)
	}
}

func TestWorth(t *testing.T) {
	checkWorth(t, bare(), 0, api.OK)
	checkWorth(t, small(), 7+7+30+5+30+3+5+3*5+2*12, api.OK)
	checkWorth(t, world(filled(2, 1, api.GPlain), []api.Cell{at(0, 0)}, 3), 3, api.OK)
	checkWorth(t, world(filled(2, 1, api.GOre), nil, 0), 14, api.OK)
	checkWorth(t, world(filled(2, 1, api.GPlain), []api.Cell{at(0, 0)}, 0, worker(3, 0, 1, 0, 0)), 5, api.OK)
	checkWorth(t, world(filled(2, 1, api.GPlain), []api.Cell{at(0, 0)}, 0, worker(3, 0, 1, 0, 4)), 9, api.OK)
	checkWorth(t, world(filled(2, 1, api.GPlain), []api.Cell{at(0, 0)}, 0, soldier(3, 0, 1, 0)), 12, api.OK)
	// A Life that is less is worth the same.
	hurt := world(filled(2, 1, api.GPlain), []api.Cell{at(0, 0)}, 0, soldier(3, 0, 1, 0))
	hurt.Troops[0].Life = 1
	checkWorth(t, hurt, 12, api.OK)
}

// All that there may be.
func TestWorthOfGreatWorlds(t *testing.T) {
	w := world(filled(40, 40, api.GOre), nil, 0)
	for i := range w.Mines {
		w.Mines[i] = 1000000
	}
	for i := range 8 {
		w.Bases, w.Stocks = append(w.Bases, at(i, 0)), append(w.Stocks, 1000000)
	}
	checkWorth(t, w, 1608000000, api.OK)
	for i := range 100 {
		w.Troops = append(w.Troops, worker(i+1, i%8, i%40, i/40, 5))
	}
	checkWorth(t, w, 1608001000, api.OK)
	checkNothing(t, w, mine(1, 0, 0), drop(1), made(0, 1))
}

func TestWorthOfManyWorlds(t *testing.T) {
	for salt := range 300 {
		w := thrown(1+salt*7%40, 1+salt*11%40, salt)
		want, err := wantWorth(w)
		checkWorth(t, w, want, err)
	}
}

// P1.

// asked is what both calls are given; told is what they answer.
type asked struct {
	w api.World
	l []api.Deed
}

type told struct {
	after    api.World
	done     []bool
	worth    int
	doErr    api.Errno
	worthErr api.Errno
}

func ask(q asked) (r told) {
	r.after, r.done, r.doErr = Do(q.w, q.l)
	r.worth, r.worthErr = Worth(q.w)
	return r
}

// wantTold is what the promises ask for.
func wantTold(q asked) (r told) {
	r.after, r.done, r.doErr = wantDo(q.w, q.l)
	r.worth, r.worthErr = wantWorth(q.w)
	return r
}

func same(a, b told) bool { return fmt.Sprint(a) == fmt.Sprint(b) }

func (q asked) String() string { return brief(q.w) + "; " + briefDeeds(q.l) }

func (r told) String() string {
	return fmt.Sprintf("after %v, done %t, %d; worth %d, %d", r.after, r.done, r.doErr, r.worth, r.worthErr)
}

// spoiltTroops are worlds with one number of a troop put to another one, most of
// them wrong.
func spoiltTroops() []api.World {
	var list []api.World
	d := dice(3)
	for range 60 {
		list = append(list, with(crowd(100), func(w *api.World) {
			one := &w.Troops[d.below(100)]
			number := []*int{&one.Id, &one.Owner, &one.Kind, &one.Cell.X, &one.Cell.Y, &one.Life, &one.Load}[d.below(7)]
			*number = append(wild(), 1, 2, 3, 5)[d.below(22)]
		}))
	}
	return list
}

func questions() []asked {
	worlds := append(wrongWorlds(), bare(), small(), crowd(100), crowd(98))
	worlds = append(worlds, spoiltTroops()...)
	for salt := range 60 {
		worlds = append(worlds, thrown(1+salt*7%40, 1+salt*11%40, salt+1000))
	}
	numbers := append(wild(), 0, 1, 2, 3, 5, 11, 12)
	var wildDeeds []api.Deed
	for i := range 200 {
		n := func(k int) int { return numbers[i*k%len(numbers)] }
		wildDeeds = append(wildDeeds, api.Deed{Kind: []int{1, 2, 3, n(3)}[i%4], Who: n(7), At: at(n(9), n(11)), What: n(13)})
	}
	var list []asked
	for i, w := range worlds {
		list = append(list, asked{w, nil}, asked{w, wildDeeds}, asked{w, make([]api.Deed, 199+i%4)})
		// Deeds of a world that is wrong are made as if it weren't.
		if w.NextId > 0 {
			list = append(list, asked{w, thrownDeeds(w, 1+i*7%200, i)}, asked{w, thrownDeeds(w, 200, i+1)})
		}
	}
	return list
}

// Whatever is given, an answer is the one that the promises ask for.
func TestEachCallAnswers(t *testing.T) {
	for _, q := range questions() {
		if got, want := ask(q), wantTold(q); !same(got, want) {
			t.Errorf("of %v: %v, want %v", q, got, want)
		}
	}
}

// P2.

// roomy is q with room behind each of its lists.
func roomy(q asked) asked {
	w := &q.w
	w.Field.Places = append(slices.Clone(w.Field.Places), 1, 2, 3)[:len(w.Field.Places)]
	w.Bases = append(slices.Clone(w.Bases), at(1, 2), at(3, 4))[:len(w.Bases)]
	w.Stocks = append(slices.Clone(w.Stocks), 5, 6)[:len(w.Stocks)]
	w.Mines = append(slices.Clone(w.Mines), 7, 8)[:len(w.Mines)]
	w.Troops = append(slices.Clone(w.Troops), soldier(9, 0, 0, 0), worker(8, 1, 1, 1, 1))[:len(w.Troops)]
	q.l = append(slices.Clone(q.l), mine(2, 0, 0), made(0, 2))[:len(q.l)]
	return q
}

// whole is what a question holds, the room behind its lists included.
func whole(q asked) string {
	w := q.w
	return fmt.Sprint(w.Field, w.NextId, w.Now, w.Field.Places[:len(w.Field.Places)+3], w.Bases[:len(w.Bases)+2], w.Stocks[:len(w.Stocks)+2],
		w.Mines[:len(w.Mines)+2], w.Troops[:len(w.Troops)+2], q.l[:len(q.l)+2])
}

func TestQuestionsAreNotChanged(t *testing.T) {
	for _, q := range questions() {
		want := ask(q)
		q = roomy(q)
		old := whole(q)
		if got := ask(q); !same(got, want) {
			t.Fatalf("of %v: %v, with room behind the lists %v", q, want, got)
		}
		if whole(q) != old {
			t.Fatalf("of %v: left %s", q, whole(q))
		}
	}
}

// lists are those of an answer, the room behind each included.
func (r told) lists() []any {
	w := r.after
	return []any{r.done[:cap(r.done)], w.Field.Places[:cap(w.Field.Places)], w.Bases[:cap(w.Bases)],
		w.Stocks[:cap(w.Stocks)], w.Mines[:cap(w.Mines)], w.Troops[:cap(w.Troops)]}
}

// spoil puts each part of a list to another one.
func spoil(list any) {
	switch l := list.(type) {
	case []bool:
		for i := range l {
			l[i] = !l[i]
		}
	case []int:
		for i := range l {
			l[i] = ^l[i]
		}
	case []api.Cell:
		for i := range l {
			l[i].X = ^l[i].X
		}
	case []api.Troop:
		for i := range l {
			l[i].Id = ^l[i].Id
		}
	}
}

// Who changes a list of an answer, and the room behind it, changes no other
// list, no other answer and nothing that was handed in.
func TestAnswersAreNewMemory(t *testing.T) {
	for _, q := range questions() {
		q = roomy(q)
		old := whole(q)
		want, first, second := ask(q), ask(q), ask(q)
		for i, list := range first.lists() {
			was := fmt.Sprint(first.lists()[i+1:])
			spoil(list)
			if fmt.Sprint(first.lists()[i+1:]) != was {
				t.Fatalf("of %v: list %d, spoilt, spoils others", q, i)
			}
		}
		if whole(q) != old {
			t.Fatalf("of %v: spoilt %s", q, whole(q))
		}
		if third := ask(q); !same(second, want) || !same(third, want) {
			t.Fatalf("of %v: %v beside a spoilt answer, %v behind it, want %v", q, second, third, want)
		}
	}
}

func TestNothingIsKeptBetweenCalls(t *testing.T) {
	list := questions()
	answers := make([]told, len(list))
	for i, q := range list {
		answers[i] = ask(q)
	}
	for i := len(list) - 1; i >= 0; i-- {
		if got := ask(list[i]); !same(got, answers[i]) {
			t.Fatalf("of %v: first %v, then %v", list[i], answers[i], got)
		}
	}
}

// A world and deeds that have become others in the same memory are read anew,
// and what was answered of them stays as it was.
func TestQuestionsAreNotKept(t *testing.T) {
	q := asked{small(), []api.Deed{mine(2, 2, 0), drop(11), made(0, 2)}}
	first, want := ask(q), wantTold(q)
	for i := range 600 {
		q.w.Troops[i%5].Life = 1 + i%10
		q.w.Troops[i%5].Cell = at(i%5, i/5%3)
		q.w.Troops[4].Id = 12 + i%8
		q.w.Stocks[i%3] = i
		q.w.Mines[2] = i % 4
		q.w.NextId = 20 + i%5
		q.l[i%3] = api.Deed{Kind: 1 + i%3, Who: q.w.Troops[i%5].Id, At: at(1+i%3, i/3%2), What: i % 3}
		if i%3 == 2 {
			q.l[2].Who = i % 4
		}
		if got, want := ask(q), wantTold(q); !same(got, want) {
			t.Fatalf("of %v: %v, want %v", q, got, want)
		}
	}
	if !same(first, want) {
		t.Errorf("of the world at first, later on: %v, want %v", first, want)
	}
}
