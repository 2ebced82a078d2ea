package tick

import (
	"fmt"
	"math"
	"reflect"
	"slices"
	"strings"
	"testing"

	"musterfield/api"
	"musterfield/field"
	"musterfield/goods"
	"musterfield/hit"
	"musterfield/march"
	"musterfield/order"
	"musterfield/troop"
)

// read is the field of some rows.
func read(rows ...string) api.Field {
	f, err := field.Read(strings.Join(rows, "\n") + "\n")
	if err != api.OK {
		panic(fmt.Sprint(rows, " are no field"))
	}
	return f
}

func at(x, y int) api.Cell { return api.Cell{X: x, Y: y} }

func cellOf(f api.Field, i int) api.Cell { return at(i%f.Wide, i/f.Wide) }

// filled is a field of these sides with the same sort of place all over.
func filled(wide, high, place int) api.Field {
	return api.Field{Wide: wide, High: high, Places: slices.Repeat([]int{place}, wide*high)}
}

func hits(by, who, what int) api.Order { return api.Order{By: by, Kind: 1, Who: who, What: what} }

func goTo(by, who, x, y int) api.Order { return api.Order{By: by, Kind: 2, Who: who, At: at(x, y)} }

func mine(by, who, x, y int) api.Order { return api.Order{By: by, Kind: 3, Who: who, At: at(x, y)} }

func drop(by, who int) api.Order { return api.Order{By: by, Kind: 4, Who: who} }

func made(by, what int) api.Order { return api.Order{By: by, Kind: 5, What: what} }

func worker(id, owner, x, y, load int) api.Troop {
	return api.Troop{Id: id, Owner: owner, Kind: api.KWorker, Cell: at(x, y), Life: 10, Load: load}
}

func soldier(id, owner, x, y int) api.Troop {
	return api.Troop{Id: id, Owner: owner, Kind: api.KSoldier, Cell: at(x, y), Life: 20}
}

// hurt is a troop with another Life.
func hurt(t api.Troop, life int) api.Troop {
	t.Life = life
	return t
}

// world is one of as many players as bases, each with a stock of 30, with a 7 in
// each mine, and of troops whose Ids are below 1000.
func world(f api.Field, bases []api.Cell, troops ...api.Troop) api.World {
	w := api.World{Field: f, Bases: bases, Mines: make([]int, len(f.Places)), Troops: troops, NextId: 1000, Now: 5}
	for range bases {
		w.Stocks = append(w.Stocks, 30)
	}
	for i, place := range f.Places {
		if place == api.GOre {
			w.Mines[i] = 7
		}
	}
	return w
}

// row is a world of one row and two players, whose bases are at its ends.
func row(text string, troops ...api.Troop) api.World {
	f := read(text)
	return world(f, []api.Cell{at(0, 0), at(f.Wide-1, 0)}, troops...)
}

// bare is the least world.
func bare() api.World { return world(filled(1, 1, api.GPlain), nil) }

// small is a world with something of all that a world has.
func small() api.World {
	w := world(read("..o.#", ".#t.o", "....."), []api.Cell{at(0, 0), at(4, 2), at(2, 1)},
		hurt(worker(2, 0, 1, 0, 3), 4), soldier(5, 1, 2, 1), hurt(soldier(6, 0, 3, 1), 9), worker(12, 1, 4, 2, 0))
	w.Stocks[1] = 5
	return w
}

// crowd is a world of n troops, row by row, ten a row: of three players in turn,
// and every other one a soldier.
func crowd(n int) api.World {
	w := world(filled(12, 12, api.GOre), []api.Cell{at(11, 11), at(9, 11), at(7, 11)})
	for i := range n {
		one := worker(3*i+2, i%3, i%10, i/10, i%6)
		if i%2 == 0 {
			one = soldier(3*i+2, i%3, i%10, i/10)
		}
		w.Troops = append(w.Troops, one)
	}
	return w
}

// with is w, in memory of its own, changed.
func with(w api.World, change func(w *api.World)) api.World {
	w = troop.Copy(w)
	change(&w)
	return w
}

// then is w at another Now.
func then(w api.World, now int) api.World {
	w.Now = now
	return w
}

// dice are numbers that another salt makes others.
type dice uint32

func (d *dice) below(n int) int {
	*d = *d*1664525 + 1013904223
	return int(*d>>8) % n
}

// thrown is a world of these sides; another salt makes another one. Many troops
// are about to be gone, and what bounds a deed is often near.
func thrown(wide, high, salt int) api.World {
	d := dice(salt)
	f := filled(wide, high, api.GPlain)
	for i := range f.Places {
		f.Places[i] = []int{0, 0, 0, 0, 1, 2, 3, 3}[d.below(8)]
	}
	w := world(f, nil)
	for i, place := range f.Places {
		if place == api.GOre {
			w.Mines[i] = []int{0, 1, 2, 9, 1000000}[d.below(5)]
		}
		if place != api.GRock && len(w.Bases) < 4 && d.below(4) == 0 {
			w.Bases = append(w.Bases, cellOf(f, i))
			w.Stocks = append(w.Stocks, []int{0, 5, 12, 40, 1000, 999998, 1000000}[d.below(7)])
		}
	}
	id, few := 0, 2+d.below(4)
	for i, place := range f.Places {
		if place == api.GRock || d.below(few) > 0 || len(w.Troops) == api.MaxTroops || len(w.Bases) == 0 {
			continue
		}
		id += 1 + d.below(3)
		one := api.Troop{Id: id, Owner: d.below(len(w.Bases)), Kind: 1 + d.below(2), Cell: cellOf(f, i)}
		one.Life, one.Load = 1+d.below(d.below(10*one.Kind)+1), (2-one.Kind)*d.below(6)
		w.Troops = append(w.Troops, one)
	}
	w.NextId = []int{id + 1, id + 2, 999999, 1000000}[d.below(20)/6]
	w.Now = []int{0, 5, 70000, 999990}[d.below(4)]
	return w
}

// saidOf are n right orders, most of them of a troop of w by its owner, of what
// is near to it; some are of nobody, of another player, or by no player.
func saidOf(w api.World, n, salt int) []api.Order {
	d := dice(salt)
	var l []api.Order
	for range n {
		by, who, c := d.below(8), d.below(max(w.NextId, 1)+2), at(d.below(44)-2, d.below(44)-2)
		if i := d.below(len(w.Troops) + 1); i < len(w.Troops) && d.below(9) > 0 {
			one := w.Troops[i]
			by, who, c = one.Owner&7, one.Id, at(one.Cell.X+d.below(7)-3, one.Cell.Y+d.below(7)-3)
		}
		what := who + d.below(9) - 4
		if i := d.below(len(w.Troops) + 1); i < len(w.Troops) {
			what = w.Troops[i].Id
		}
		o := []api.Order{hits(by, who, max(what, 0)), goTo(by, who, c.X, c.Y), mine(by, who, c.X, c.Y), drop(by, who), made(by, d.below(4))}[d.below(5)]
		l = append(l, o)
	}
	return l
}

// thrownTurns are n turns of w: orders of those that are there at the time.
func thrownTurns(w api.World, n, salt int) [][]api.Order {
	var turns [][]api.Order
	for i := range n {
		l := saidOf(w, (salt+7*i)%40, salt+i)
		turns = append(turns, l)
		if after, _, err := wantTurn(w, l); err == api.OK {
			w = after
		}
	}
	return turns
}

// wild are numbers that no number of an order may be.
func wild() []int {
	return []int{-1001, -65536, 1000001, 1 << 24, -1 << 32, 1 << 32, 1<<32 + 1, 1<<62 + 2, math.MinInt, math.MinInt + 1, math.MaxInt - 1, math.MaxInt}
}

// brief tells of a great world only how it begins.
func brief(w api.World) string {
	return fmt.Sprintf("%d x %d, %d places %d, bases %d, stocks %d, %d mines %d, %d troops %+v, next %d, now %d", w.Field.Wide, w.Field.High,
		len(w.Field.Places), w.Field.Places[:min(15, len(w.Field.Places))], w.Bases[:min(9, len(w.Bases))], w.Stocks[:min(9, len(w.Stocks))],
		len(w.Mines), w.Mines[:min(15, len(w.Mines))], len(w.Troops), w.Troops[:min(8, len(w.Troops))], w.NextId, w.Now)
}

func briefOrders(l []api.Order) string { return fmt.Sprint(len(l), " orders ", l[:min(12, len(l))]) }

func briefTurns(turns [][]api.Order) string {
	text := fmt.Sprint(len(turns), " turns")
	for _, l := range turns[:min(5, len(turns))] {
		text += ", " + briefOrders(l)
	}
	return text
}

// What the promises ask for, word by word.

func wantErr(w api.World, l []api.Order) api.Errno {
	if len(l) > 100 {
		return api.ErrLarge
	}
	for _, o := range l {
		if err := order.Check(o); err != api.OK {
			return err
		}
	}
	if err := troop.Check(w); err != api.OK {
		return err
	}
	if w.Now == 1000000 {
		return api.ErrFull
	}
	return api.OK
}

// isSaid tells whether By may say what the order asks for.
func isSaid(o api.Order, w api.World) bool {
	if o.Kind == 5 {
		return o.By < len(w.Bases)
	}
	return slices.ContainsFunc(w.Troops, func(t api.Troop) bool { return t.Id == o.Who && t.Owner == o.By })
}

// A step of a turn.
const (
	hitting = iota
	going
	doing
)

// inSteps is what the orders of w that may be said come to, if these are the
// steps of a turn. One deed is done at a time.
func inSteps(w api.World, l []api.Order, steps ...int) (api.World, api.Report) {
	w = troop.Copy(w)
	var blows []api.Blow
	var goes []api.Go
	var deeds []api.Deed
	for _, o := range l {
		switch {
		case !isSaid(o, w):
		case o.Kind == 1:
			blows = append(blows, api.Blow{By: o.Who, At: o.What})
		case o.Kind == 2:
			goes = append(goes, api.Go{Id: o.Who, To: o.At})
		case o.Kind == 5:
			deeds = append(deeds, api.Deed{Kind: 3, Who: o.By, What: o.What})
		default:
			deeds = append(deeds, api.Deed{Kind: o.Kind - 2, Who: o.Who, At: o.At})
		}
	}
	var r api.Report
	for _, step := range steps {
		switch step {
		case hitting:
			w, r.Gone, _ = hit.Struck(w, blows)
		case going:
			w, r.Moved, _ = march.Step(w, goes)
		case doing:
			for _, d := range deeds {
				after, done, _ := goods.Do(w, []api.Deed{d})
				w, r.Done = after, append(r.Done, done...)
			}
		}
	}
	return w, r
}

func wantTurn(w api.World, l []api.Order) (api.World, api.Report, api.Errno) {
	if err := wantErr(w, l); err != api.OK {
		return api.World{}, api.Report{}, err
	}
	w, r := inSteps(w, l, hitting, going, doing)
	w.Now++
	return w, r, api.OK
}

// wantRun comes to all worlds ahead of the first mark.
func wantRun(w api.World, turns [][]api.Order) (api.World, []uint64, api.Errno) {
	if len(turns) > 200 {
		return api.World{}, nil, api.ErrLarge
	}
	if err := troop.Check(w); err != api.OK {
		return api.World{}, nil, err
	}
	worlds := []api.World{w}
	for i, l := range turns {
		after, _, err := wantTurn(worlds[i], l)
		if err != api.OK {
			return api.World{}, nil, err
		}
		worlds = append(worlds, after)
	}
	marks := make([]uint64, len(worlds))
	for i := range worlds {
		marks[i], _ = troop.Mark(worlds[i])
	}
	return worlds[len(turns)], marks, api.OK
}

func sameWorld(a, b api.World) bool { return fmt.Sprint(a) == fmt.Sprint(b) }

func sameReport(a, b api.Report) bool { return fmt.Sprint(a) == fmt.Sprint(b) }

// P17.1.

// checkTurn has want be the whole world but its Now, which is one more than it
// was. It has the world be right, and worth what it was less what is lost.
func checkTurn(t *testing.T, w api.World, l []api.Order, want api.World, wantReport api.Report) {
	t.Helper()
	want.Now = w.Now + 1
	after, report, err := Turn(w, l)
	if !sameWorld(after, want) || !sameReport(report, wantReport) || err != api.OK {
		t.Errorf("Turn of %s, %s = %s, %v, %d, want %s, %v, 0", brief(w), briefOrders(l), brief(after), report, err, brief(want), wantReport)
	}
	if err := troop.Check(after); err != api.OK {
		t.Errorf("Turn of %s, %s = %s, of which troop.Check = %d", brief(w), briefOrders(l), brief(after), err)
	}
	is, isErr := goods.Worth(after)
	was, wasErr := goods.Worth(w)
	for _, one := range w.Troops {
		if slices.Contains(report.Gone, one.Id) {
			was -= one.Load + []int{0, 5, 12}[one.Kind]
		}
	}
	if is != was || isErr != api.OK || wasErr != api.OK {
		t.Errorf("Turn of %s, %s: worth %d, %d, less what is lost, then %d, %d", brief(w), briefOrders(l), was, wasErr, is, isErr)
	}
}

// checkNothing has nothing come of the orders, of which none is a deed.
func checkNothing(t *testing.T, w api.World, l ...api.Order) {
	t.Helper()
	checkTurn(t, w, l, w, api.Report{})
}

// checkTurnError has what is told beside an error be nothing at all.
func checkTurnError(t *testing.T, w api.World, l []api.Order, want api.Errno) {
	t.Helper()
	after, report, err := Turn(w, l)
	if !reflect.DeepEqual(after, api.World{}) || !reflect.DeepEqual(report, api.Report{}) || err != want {
		t.Errorf("Turn of %s, %s = %s, %v, %d, want nothing, %d", brief(w), briefOrders(l), brief(after), report, err, want)
	}
}

// checkBoth has the turn be this whichever way round the orders are said.
func checkBoth(t *testing.T, w api.World, a, b api.Order, r api.Report, change func(w *api.World)) {
	t.Helper()
	checkTurn(t, w, []api.Order{a, b}, with(w, change), r)
	checkTurn(t, w, []api.Order{b, a}, with(w, change), r)
}

func TestTurnOfNoOrders(t *testing.T) {
	for _, w := range []api.World{bare(), small(), crowd(100), row("o..t#.", soldier(1, 0, 0, 0), soldier(2, 1, 1, 0)), thrown(40, 40, 1)} {
		checkNothing(t, w)
		checkTurn(t, w, []api.Order{}, w, api.Report{})
		for now := range 3 {
			checkNothing(t, then(w, now))
		}
	}
}

// Each Kind alone.
func TestTurnOfOneOrder(t *testing.T) {
	checkTurn(t, small(), []api.Order{hits(0, 2, 5)}, with(small(), func(w *api.World) { w.Troops[1].Life = 19 }), api.Report{})
	checkTurn(t, small(), []api.Order{hits(1, 5, 6)}, with(small(), func(w *api.World) { w.Troops[2].Life = 5 }), api.Report{})
	checkTurn(t, small(), []api.Order{hits(1, 5, 2)}, with(small(), func(w *api.World) { w.Troops = w.Troops[1:] }), api.Report{Gone: []int{2}})
	checkTurn(t, small(), []api.Order{goTo(0, 2, 0, 0)}, with(small(), func(w *api.World) { w.Troops[0].Cell = at(0, 0) }), api.Report{Moved: []int{2}})
	checkTurn(t, small(), []api.Order{goTo(1, 5, 1, 0)}, with(small(), func(w *api.World) { w.Troops[1].Cell = at(2, 0) }), api.Report{Moved: []int{5}})
	checkTurn(t, small(), []api.Order{mine(0, 2, 2, 0)}, with(small(), func(w *api.World) { w.Troops[0].Load, w.Mines[2] = 4, 6 }), api.Report{Done: []bool{true}})
	checkTurn(t, small(), []api.Order{drop(0, 2)}, with(small(), func(w *api.World) { w.Troops[0].Load, w.Stocks[0] = 0, 33 }), api.Report{Done: []bool{true}})
	checkTurn(t, small(), []api.Order{made(2, api.KSoldier)}, with(small(), func(w *api.World) {
		w.Troops, w.NextId, w.Stocks[2] = append(w.Troops, soldier(1000, 2, 2, 0)), 1001, 18
	}), api.Report{Done: []bool{true}})
}

// Each Kind alone, and nothing comes of it.
func TestTurnOfWhatIsNotDone(t *testing.T) {
	checkNothing(t, small(), hits(0, 2, 12), hits(0, 2, 6), hits(0, 2, 2), hits(0, 6, 7), hits(1, 12, 0))
	checkNothing(t, small(), goTo(0, 2, 1, 0), goTo(0, 6, 4, 0), goTo(1, 5, -1, 2), goTo(1, 12, 1000, -1000))
	for _, o := range []api.Order{mine(0, 2, 0, 0), mine(0, 2, 4, 1), mine(0, 6, 4, 1), mine(1, 12, -1000, 1000), drop(1, 12), drop(0, 6), made(1, api.KSoldier), made(0, 3), made(0, 0)} {
		checkTurn(t, small(), []api.Order{o}, small(), api.Report{Done: []bool{false}})
	}
}

// All Kinds together.
func TestTurn(t *testing.T) {
	l := []api.Order{made(0, api.KWorker), goTo(1, 5, 1, 0), drop(0, 2), hits(0, 2, 5), mine(1, 12, 4, 1), hits(1, 5, 2), goTo(0, 2, 0, 0),
		drop(1, 12), goTo(0, 6, 0, 2), hits(0, 6, 5), made(1, api.KSoldier), made(1, api.KWorker)}
	want := with(small(), func(w *api.World) {
		w.Troops = []api.Troop{hurt(soldier(5, 1, 2, 0), 15), hurt(soldier(6, 0, 3, 2), 9), worker(12, 1, 4, 2, 0), worker(1000, 0, 0, 0, 0), worker(1001, 1, 3, 1, 0)}
		w.NextId, w.Stocks, w.Mines[9] = 1002, []int{25, 1, 30}, 6
	})
	checkTurn(t, small(), l, want, api.Report{Gone: []int{2}, Moved: []int{5, 6}, Done: []bool{true, false, true, true, false, true}})
}

// Hits are ahead of goes: who flees is hit, and who comes isn't.
func TestHitsAreAheadOfGoes(t *testing.T) {
	near := row("........", soldier(3, 0, 0, 0), worker(4, 1, 2, 0, 0))
	checkBoth(t, near, hits(0, 3, 4), goTo(1, 4, 7, 0), api.Report{Moved: []int{4}}, func(w *api.World) { w.Troops[1] = hurt(worker(4, 1, 3, 0, 0), 6) })
	far := row("........", soldier(3, 0, 0, 0), worker(4, 1, 3, 0, 0))
	checkBoth(t, far, hits(0, 3, 4), goTo(1, 4, 0, 0), api.Report{Moved: []int{4}}, func(w *api.World) { w.Troops[1].Cell = at(2, 0) })
	checkBoth(t, far, hits(0, 3, 4), goTo(0, 3, 7, 0), api.Report{Moved: []int{3}}, func(w *api.World) { w.Troops[0].Cell = at(1, 0) })
	// Out of sight, and into it.
	corner := world(read("...", ".t."), []api.Cell{at(0, 0), at(2, 1)}, soldier(3, 0, 0, 1), worker(4, 1, 2, 1, 0))
	checkBoth(t, corner, hits(0, 3, 4), goTo(1, 4, 2, 0), api.Report{Moved: []int{4}}, func(w *api.World) { w.Troops[1].Cell = at(2, 0) })
}

// Who is gone has hit, and does no more; its cell is free.
func TestGoneDoNoMore(t *testing.T) {
	w := row("o......", hurt(worker(3, 0, 1, 0, 2), 4), soldier(4, 1, 2, 0))
	gone := api.Report{Gone: []int{3}}
	checkBoth(t, w, hits(0, 3, 4), hits(1, 4, 3), gone, func(w *api.World) { w.Troops = []api.Troop{hurt(soldier(4, 1, 2, 0), 19)} })
	checkBoth(t, w, goTo(0, 3, 0, 0), hits(1, 4, 3), gone, func(w *api.World) { w.Troops = w.Troops[1:] })
	for _, o := range []api.Order{mine(0, 3, 0, 0), drop(0, 3)} {
		notDone := api.Report{Gone: []int{3}, Done: []bool{false}}
		checkBoth(t, w, o, hits(1, 4, 3), notDone, func(w *api.World) { w.Troops = w.Troops[1:] })
	}
	// Who struck it goes there, and another one is made there.
	came := api.Report{Gone: []int{3}, Moved: []int{4}}
	checkBoth(t, w, goTo(1, 4, 0, 0), hits(1, 4, 3), came, func(w *api.World) { w.Troops = []api.Troop{soldier(4, 1, 1, 0)} })
	w = row("..", hurt(worker(3, 0, 0, 0, 2), 1), worker(4, 1, 1, 0, 0))
	checkBoth(t, w, made(0, api.KWorker), hits(1, 4, 3), api.Report{Gone: []int{3}, Done: []bool{true}}, func(w *api.World) {
		w.Troops, w.NextId, w.Stocks[0] = []api.Troop{worker(4, 1, 1, 0, 0), worker(1000, 0, 0, 0, 0)}, 1001, 25
	})
}

// Where there are as many troops as there may be, one is made only if one is
// gone.
func TestGoneLeaveRoom(t *testing.T) {
	w := with(crowd(100), func(w *api.World) { w.Troops[0].Life = 1 })
	checkTurn(t, w, []api.Order{made(2, api.KWorker)}, w, api.Report{Done: []bool{false}})
	want := with(w, func(w *api.World) {
		w.Troops, w.NextId, w.Stocks[2] = append(w.Troops[1:], worker(1000, 2, 7, 11, 0)), 1001, 25
	})
	checkTurn(t, w, []api.Order{made(2, api.KWorker), hits(1, 5, 2), made(2, api.KWorker)}, want, api.Report{Gone: []int{2}, Done: []bool{true, false}})
}

// Goes are ahead of deeds: these are done from the cells behind the goes.
func TestGoesAreAheadOfDeeds(t *testing.T) {
	w := row("o.....", worker(3, 0, 2, 0, 2))
	done, notDone := api.Report{Moved: []int{3}, Done: []bool{true}}, api.Report{Moved: []int{3}, Done: []bool{false}}
	checkBoth(t, w, mine(0, 3, 0, 0), goTo(0, 3, 0, 0), done, func(w *api.World) { w.Troops[0], w.Mines[0] = worker(3, 0, 1, 0, 3), 6 })
	checkBoth(t, w, drop(0, 3), goTo(0, 3, 0, 0), done, func(w *api.World) { w.Troops[0], w.Stocks[0] = worker(3, 0, 1, 0, 0), 32 })
	w = row("o.....", worker(3, 0, 1, 0, 2))
	checkBoth(t, w, mine(0, 3, 0, 0), goTo(0, 3, 5, 0), notDone, func(w *api.World) { w.Troops[0].Cell = at(2, 0) })
	checkBoth(t, w, drop(0, 3), goTo(0, 3, 5, 0), notDone, func(w *api.World) { w.Troops[0].Cell = at(2, 0) })
	// A base that is left is free; one that is come to isn't.
	w = row("o.....", worker(3, 0, 0, 0, 2))
	checkBoth(t, w, made(0, api.KWorker), goTo(0, 3, 5, 0), done, func(w *api.World) {
		w.Troops, w.NextId, w.Stocks[0] = []api.Troop{worker(3, 0, 1, 0, 2), worker(1000, 0, 0, 0, 0)}, 1001, 25
	})
	w = row("o.....", worker(3, 0, 1, 0, 2))
	checkBoth(t, w, made(0, api.KWorker), goTo(0, 3, 0, 0), done, func(w *api.World) {
		w.Troops, w.NextId, w.Stocks[0] = []api.Troop{worker(3, 0, 0, 0, 2), worker(1000, 0, 1, 0, 0)}, 1001, 25
	})
}

// Hits are ahead of deeds, and orders are split ahead of both: who is made in a
// turn is neither hit nor does anything in it.
func TestHitsAreAheadOfDeeds(t *testing.T) {
	w := row("..", worker(3, 0, 0, 0, 2))
	w.NextId = 4
	checkBoth(t, w, made(1, api.KWorker), hits(0, 3, 4), api.Report{Done: []bool{true}}, func(w *api.World) {
		w.Troops, w.NextId, w.Stocks[1] = append(w.Troops, worker(4, 1, 1, 0, 0)), 5, 25
	})
	// An order of one that is to be made is of nobody.
	l := []api.Order{made(1, api.KWorker), goTo(1, 4, 0, 0), mine(1, 4, 0, 0), drop(1, 4), hits(1, 4, 3), made(0, api.KSoldier)}
	checkTurn(t, w, l, with(w, func(w *api.World) {
		w.Troops, w.NextId, w.Stocks[1] = append(w.Troops, worker(4, 1, 1, 0, 0)), 5, 25
	}), api.Report{Done: []bool{true, false}})
}

// Of one Kind, and of deeds, what is said first comes first.
func TestTurnInOrder(t *testing.T) {
	w := small()
	checkBoth(t, w, hits(1, 5, 6), hits(1, 5, 6), api.Report{}, func(w *api.World) { w.Troops[2].Life = 5 })
	checkTurn(t, w, []api.Order{hits(1, 5, 6), hits(1, 5, 2)}, with(w, func(w *api.World) { w.Troops[2].Life = 5 }), api.Report{})
	checkTurn(t, w, []api.Order{goTo(0, 6, 3, 0), goTo(0, 6, 3, 2)}, with(w, func(w *api.World) { w.Troops[2].Cell = at(3, 0) }), api.Report{Moved: []int{6}})
	checkTurn(t, w, []api.Order{goTo(0, 6, 3, 2), goTo(0, 6, 3, 0)}, with(w, func(w *api.World) { w.Troops[2].Cell = at(3, 2) }), api.Report{Moved: []int{6}})
	few := with(w, func(w *api.World) { w.Stocks[0] = 3 })
	checkTurn(t, few, []api.Order{drop(0, 2), made(0, api.KWorker)}, with(few, func(w *api.World) {
		w.Troops, w.NextId, w.Stocks[0] = append(w.Troops, worker(1000, 0, 0, 0, 0)), 1001, 1
		w.Troops[0].Load = 0
	}), api.Report{Done: []bool{true, true}})
	checkTurn(t, few, []api.Order{made(0, api.KWorker), drop(0, 2)}, with(few, func(w *api.World) {
		w.Stocks[0], w.Troops[0].Load = 6, 0
	}), api.Report{Done: []bool{false, true}})
	// Those that are gone, and that moved, are told rising.
	w = row(".......", hurt(worker(2, 0, 1, 0, 0), 1), hurt(worker(5, 1, 2, 0, 0), 1), hurt(worker(7, 0, 3, 0, 0), 1), worker(9, 1, 4, 0, 0), worker(11, 0, 5, 0, 0))
	l := []api.Order{goTo(0, 11, 6, 0), hits(1, 9, 7), goTo(1, 9, 0, 0), hits(1, 5, 2), hits(0, 2, 5)}
	checkTurn(t, w, l, with(w, func(w *api.World) { w.Troops = []api.Troop{worker(9, 1, 3, 0, 0), worker(11, 0, 6, 0, 0)} }),
		api.Report{Gone: []int{2, 5, 7}, Moved: []int{9, 11}})
}

// Of what is left out nothing comes, and nothing is told.
func TestTurnOfOthers(t *testing.T) {
	for by := range 8 {
		for _, one := range small().Troops {
			if one.Owner != by {
				checkNothing(t, small(), hits(by, one.Id, 5), hits(by, one.Id, 6), goTo(by, one.Id, 3, 0), mine(by, one.Id, 2, 0), drop(by, one.Id))
			}
		}
		for _, id := range []int{0, 1, 3, 7, 999, 1000, 999999, 1000000} {
			checkNothing(t, small(), hits(by, id, 5), goTo(by, id, 3, 0), mine(by, id, 2, 0), drop(by, id))
		}
		if by > 2 {
			checkNothing(t, small(), made(by, 1), made(by, 2))
		}
	}
	// Those that are not left out are told in their order.
	l := []api.Order{drop(0, 12), made(3, 1), drop(0, 6), mine(1, 2, 2, 0), mine(0, 2, 2, 0), drop(7, 2), made(1, 2), drop(0, 3), drop(0, 2)}
	checkTurn(t, small(), l, with(small(), func(w *api.World) {
		w.Troops[0].Load, w.Stocks[0], w.Mines[2] = 0, 34, 6
	}), api.Report{Done: []bool{false, true, false, true}})
}

func TestTurnNow(t *testing.T) {
	l := []api.Order{hits(1, 5, 2), goTo(0, 6, 3, 0), drop(1, 12)}
	for _, now := range []int{0, 1, 255, 256, 65535, 65536, 999998, 999999} {
		for _, w := range []api.World{bare(), small(), crowd(100)} {
			checkNothing(t, then(w, now))
		}
		want := with(small(), func(w *api.World) { w.Troops = w.Troops[1:]; w.Troops[1].Cell = at(3, 0) })
		checkTurn(t, then(small(), now), l, want, api.Report{Gone: []int{2}, Moved: []int{6}, Done: []bool{false}})
	}
	for _, w := range []api.World{bare(), small(), crowd(100)} {
		w.Now = 1000000
		for _, l := range [][]api.Order{nil, {}, l, {drop(7, 9)}, slices.Repeat([]api.Order{made(0, 1)}, 100)} {
			checkTurnError(t, w, l, api.ErrFull)
		}
	}
}

// Split's errors are told ahead of that there is no turn any more.
func TestTurnErrorsOfOrders(t *testing.T) {
	form, arg := api.Order{By: 7, Kind: 5, Who: 1}, api.Order{By: 7, Kind: 6, Who: 1}
	for _, w := range []api.World{small(), bare(), crowd(100), then(small(), 1000000), then(small(), 1000001), {}} {
		checkTurnError(t, w, []api.Order{form}, api.ErrForm)
		checkTurnError(t, w, []api.Order{arg}, api.ErrArg)
		checkTurnError(t, w, []api.Order{drop(0, 2), form, arg}, api.ErrForm)
		checkTurnError(t, w, []api.Order{hits(0, 2, 5), arg, form}, api.ErrArg)
		checkTurnError(t, w, append(slices.Repeat([]api.Order{drop(0, 2)}, 99), form), api.ErrForm)
		for _, n := range []int{101, 102, 200, 201, 256, 356} {
			checkTurnError(t, w, slices.Repeat([]api.Order{drop(0, 2)}, n), api.ErrLarge)
			checkTurnError(t, w, make([]api.Order, n), api.ErrLarge)
		}
		for _, n := range wild() {
			checkTurnError(t, w, []api.Order{goTo(0, 2, 0, 0), {By: n, Kind: 4, Who: 2}}, api.ErrArg)
			checkTurnError(t, w, []api.Order{{By: 0, Kind: 4, Who: n}, form}, api.ErrArg)
			checkTurnError(t, w, []api.Order{goTo(0, 2, 0, n)}, api.ErrArg)
		}
	}
	// As many as there may be.
	checkTurn(t, small(), slices.Repeat([]api.Order{goTo(0, 6, 3, 0)}, 100), with(small(), func(w *api.World) { w.Troops[2].Cell = at(3, 0) }), api.Report{Moved: []int{6}})
	checkTurn(t, small(), slices.Repeat([]api.Order{hits(1, 5, 6)}, 100), with(small(), func(w *api.World) { w.Troops[2].Life = 5 }), api.Report{})
	checkTurn(t, small(), slices.Repeat([]api.Order{drop(1, 12)}, 100), small(), api.Report{Done: make([]bool, 100)})
}

// wrongWorlds are some of each error that troop.Check tells.
func wrongWorlds() []api.World {
	one := filled(1, 1, api.GPlain)
	return []api.World{
		{}, {Field: one}, {Field: one, Mines: []int{0}}, {Field: one, NextId: 1},
		with(small(), func(w *api.World) { w.Field.Wide = math.MaxInt }),
		with(small(), func(w *api.World) { w.Field.High = -3 }),
		with(small(), func(w *api.World) { w.Field.Wide, w.Field.High = 1<<32, 1<<32 }),
		with(small(), func(w *api.World) { w.Field.Places[7] = 4 }),
		with(small(), func(w *api.World) { w.Field.Places = w.Field.Places[:14] }),
		with(small(), func(w *api.World) { w.Bases = make([]api.Cell, 9) }),
		with(crowd(100), func(w *api.World) { w.Troops = append(w.Troops, soldier(999, 0, 9, 10)) }),
		with(small(), func(w *api.World) { w.Stocks = w.Stocks[:2] }),
		with(small(), func(w *api.World) { w.Stocks[1] = 1000001 }),
		with(small(), func(w *api.World) { w.Mines = w.Mines[:14] }),
		with(small(), func(w *api.World) { w.Mines[0] = 1 }),
		with(small(), func(w *api.World) { w.Bases[0] = w.Bases[1] }),
		with(small(), func(w *api.World) { w.Bases[0] = at(4, 0) }),
		with(small(), func(w *api.World) { w.Troops[1].Id = 2 }),
		with(small(), func(w *api.World) { w.Troops[0].Id = 0 }),
		with(small(), func(w *api.World) { slices.Reverse(w.Troops) }),
		with(small(), func(w *api.World) { w.Troops[0].Owner = 3 }),
		with(small(), func(w *api.World) { w.Troops[0].Owner = -1 }),
		with(small(), func(w *api.World) { w.Troops[1].Kind = 3 }),
		with(small(), func(w *api.World) { w.Troops[3].Cell = w.Troops[2].Cell }),
		with(small(), func(w *api.World) { w.Troops[3].Life = 0 }),
		with(small(), func(w *api.World) { w.Troops[1].Load = 1 }),
		with(small(), func(w *api.World) { w.NextId = 12 }),
		with(small(), func(w *api.World) { w.NextId = 1000001 }),
		with(small(), func(w *api.World) { w.Now = -1 }),
		with(small(), func(w *api.World) { w.Now = 1000001 }),
		with(small(), func(w *api.World) { w.Now = math.MaxInt }),
		with(small(), func(w *api.World) { w.Now, w.Troops[3].Life = 1000000, 0 }),
	}
}

func TestTurnErrorsOfWorlds(t *testing.T) {
	for _, w := range wrongWorlds() {
		want := troop.Check(w)
		if want == api.OK {
			t.Fatalf("nothing is wrong with %s", brief(w))
		}
		for _, l := range [][]api.Order{nil, {}, {drop(0, 2)}, {drop(7, 9), made(7, 1)}, slices.Repeat([]api.Order{made(0, 1)}, 100)} {
			checkTurnError(t, w, l, want)
		}
	}
}

// Many worlds, of which each other order of the steps would often make another
// one, or tell of it otherwise.
func TestTurnOfManyWorlds(t *testing.T) {
	others := [][]int{{hitting, doing, going}, {going, hitting, doing}, {going, doing, hitting}, {doing, hitting, going}, {doing, going, hitting}}
	differ := make([]int, len(others))
	gone, moved, done := 0, 0, 0
	for salt := range 1500 {
		w := thrown(1+salt%17, 1+salt*7%16, salt)
		l := saidOf(w, salt%101, salt)
		want, report := inSteps(w, l, hitting, going, doing)
		checkTurn(t, w, l, want, report)
		gone, moved, done = gone+len(report.Gone), moved+len(report.Moved), done+len(report.Done)
		for i, steps := range others {
			if other, told := inSteps(w, l, steps...); !sameWorld(other, want) || !sameReport(told, report) {
				differ[i]++
			}
		}
	}
	for i, steps := range others {
		if differ[i] < 100 {
			t.Errorf("%d worlds are others by the steps %d", differ[i], steps)
		}
	}
	if gone < 300 || moved < 1000 || done < 1000 {
		t.Errorf("%d are gone, %d moved, of %d deeds it is told", gone, moved, done)
	}
}

// P17.2.

// checkRun has want be the world behind the turns, and its marks be those of the
// worlds that Turn tells one by one.
func checkRun(t *testing.T, w api.World, turns [][]api.Order, want api.World) {
	t.Helper()
	after, marks, err := Run(w, turns)
	if !sameWorld(after, want) || err != api.OK {
		t.Errorf("Run of %s, %s = %s, %d, want %s, 0", brief(w), briefTurns(turns), brief(after), err, brief(want))
	}
	first, _ := troop.Mark(w)
	wantMarks := []uint64{first}
	for _, l := range turns {
		w, _, _ = Turn(w, l)
		m, _ := troop.Mark(w)
		wantMarks = append(wantMarks, m)
	}
	if !slices.Equal(marks, wantMarks) {
		t.Errorf("Run to %s, %s: marks %d, want %d", brief(want), briefTurns(turns), marks, wantMarks)
	}
}

// checkRunError has what is told beside an error be nothing at all.
func checkRunError(t *testing.T, w api.World, turns [][]api.Order, want api.Errno) {
	t.Helper()
	if after, marks, err := Run(w, turns); !reflect.DeepEqual(after, api.World{}) || marks != nil || err != want {
		t.Errorf("Run of %s, %s = %s, %d, %d, want nothing, %d", brief(w), briefTurns(turns), brief(after), marks, err, want)
	}
}

func TestRunOfNoTurns(t *testing.T) {
	for _, w := range []api.World{bare(), small(), crowd(100), then(bare(), 0), then(small(), 999999), then(small(), 1000000), thrown(40, 40, 1)} {
		checkRun(t, w, nil, w)
		checkRun(t, w, [][]api.Order{}, w)
	}
}

func TestRun(t *testing.T) {
	checkRun(t, bare(), [][]api.Order{nil}, then(bare(), 6))
	checkRun(t, bare(), [][]api.Order{nil, {}, nil}, then(bare(), 8))
	checkRun(t, small(), [][]api.Order{{goTo(0, 6, 3, 0)}}, with(small(), func(w *api.World) { w.Troops[2].Cell, w.Now = at(3, 0), 6 }))
	// There and back again, with what is mined.
	w := row("...o", worker(3, 0, 0, 0, 0))
	there, back := []api.Order{goTo(0, 3, 3, 0), mine(0, 3, 3, 0), drop(0, 3)}, []api.Order{goTo(0, 3, 0, 0), mine(0, 3, 3, 0), drop(0, 3)}
	checkRun(t, w, [][]api.Order{there, there}, with(w, func(w *api.World) { w.Troops[0], w.Mines[3], w.Now = worker(3, 0, 2, 0, 1), 6, 7 }))
	checkRun(t, w, [][]api.Order{there, there, there, back, back}, with(w, func(w *api.World) {
		w.Troops[0], w.Mines[3], w.Stocks[0], w.Now = worker(3, 0, 1, 0, 0), 4, 33, 10
	}))
	// Who is made in a turn has its orders in the next one.
	w = row("...o")
	checkRun(t, w, [][]api.Order{{made(0, api.KWorker), goTo(0, 1000, 3, 0)}, {goTo(0, 1000, 3, 0)}}, with(w, func(w *api.World) {
		w.Troops, w.NextId, w.Stocks[0], w.Now = []api.Troop{worker(1000, 0, 1, 0, 0)}, 1001, 25, 7
	}))
	// Who is gone in a turn has none any more.
	w = row(".....", hurt(worker(3, 0, 1, 0, 2), 5), soldier(4, 1, 3, 0))
	fight := []api.Order{hits(1, 4, 3), drop(0, 3), goTo(0, 3, 0, 0)}
	checkRun(t, w, [][]api.Order{fight, nil, fight}, with(w, func(w *api.World) {
		w.Troops[0], w.Stocks[0], w.Now = hurt(worker(3, 0, 0, 0, 0), 1), 32, 8
	}))
	checkRun(t, w, [][]api.Order{fight[:1], fight[:1]}, with(w, func(w *api.World) { w.Troops, w.Now = w.Troops[1:], 7 }))
	checkRun(t, w, [][]api.Order{fight[:2], fight, fight}, with(w, func(w *api.World) { w.Troops, w.Stocks[0], w.Now = w.Troops[1:], 32, 8 }))
}

// The marks tell each world from the one ahead of it.
func TestRunMarks(t *testing.T) {
	turns := slices.Repeat([][]api.Order{{goTo(0, 6, 3, 0), mine(0, 2, 2, 0)}, nil, {goTo(0, 6, 3, 2), drop(0, 2)}}, 10)
	_, marks, _ := Run(small(), turns)
	_, again, _ := Run(small(), turns)
	if len(marks) != 31 || !slices.Equal(marks, again) {
		t.Errorf("marks %d, then %d", marks, again)
	}
	for i, m := range marks {
		if slices.Contains(marks[:i], m) {
			t.Errorf("mark %d, of turn %d, is twice in %d", m, i, marks)
		}
	}
	first, _ := troop.Mark(small())
	if marks[0] != first {
		t.Errorf("the mark ahead of all %d, want %d", marks[0], first)
	}
}

func TestRunLimit(t *testing.T) {
	w := row("...o", worker(3, 0, 0, 0, 0))
	for _, n := range []int{1, 2, 199, 200} {
		checkRun(t, w, make([][]api.Order, n), then(w, 5+n))
	}
	wrong := [][]api.Order{{{Kind: 6}}}
	for _, n := range []int{201, 202, 256, 400, 456, 65536} {
		for _, w := range []api.World{w, bare(), then(w, 999900), then(w, 1000000), {}} {
			checkRunError(t, w, make([][]api.Order, n), api.ErrLarge)
			checkRunError(t, w, slices.Repeat(wrong, n), api.ErrLarge)
			checkRunError(t, w, slices.Repeat([][]api.Order{make([]api.Order, 101)}, n), api.ErrLarge)
		}
	}
}

// What is wrong with the world is told ahead of what is wrong with a turn.
func TestRunErrorsOfWorlds(t *testing.T) {
	for _, w := range wrongWorlds() {
		want := troop.Check(w)
		checkRunError(t, w, nil, want)
		checkRunError(t, w, [][]api.Order{nil, nil}, want)
		checkRunError(t, w, [][]api.Order{{drop(0, 2)}, {made(0, 1)}}, want)
		for _, o := range []api.Order{{Kind: 6}, {Kind: 5, Who: 1}, {}} {
			checkRunError(t, w, [][]api.Order{{o}}, want)
			checkRunError(t, w, [][]api.Order{nil, {o}}, want)
		}
		checkRunError(t, w, [][]api.Order{make([]api.Order, 101)}, want)
		checkRunError(t, w, slices.Repeat([][]api.Order{{{Kind: 6}}}, 200), want)
	}
}

// Of the errors of turns the first one is told.
func TestRunErrorsOfTurns(t *testing.T) {
	form, arg, large, fine := []api.Order{drop(0, 2), {Kind: 5, Who: 1}}, []api.Order{{Kind: 6}, {Kind: 5, Who: 1}}, make([]api.Order, 101), []api.Order{goTo(0, 6, 3, 0)}
	for n := range 5 {
		ahead := slices.Repeat([][]api.Order{fine}, n)
		for _, w := range []api.World{small(), bare(), then(small(), 1000000-n)} {
			checkRunError(t, w, append(slices.Clone(ahead), form), api.ErrForm)
			checkRunError(t, w, append(slices.Clone(ahead), arg, fine), api.ErrArg)
			checkRunError(t, w, append(slices.Clone(ahead), large, arg), api.ErrLarge)
			checkRunError(t, w, append(slices.Clone(ahead), form, large, arg, fine), api.ErrForm)
			checkRunError(t, w, append(slices.Clone(ahead), arg, form, large), api.ErrArg)
		}
	}
	checkRunError(t, small(), append(slices.Repeat([][]api.Order{fine}, 199), form), api.ErrForm)
}

// Turns go up to a Now of 10^6, and no further.
func TestRunNow(t *testing.T) {
	for n := range 6 {
		w := then(small(), 1000000-n)
		checkRun(t, w, make([][]api.Order, n), then(w, 1000000))
		checkRunError(t, w, make([][]api.Order, n+1), api.ErrFull)
		checkRunError(t, w, append(make([][]api.Order, n+1), []api.Order{{Kind: 6}}), api.ErrFull)
		checkRunError(t, w, make([][]api.Order, 200), api.ErrFull)
	}
	checkRun(t, then(bare(), 999800), make([][]api.Order, 200), then(bare(), 1000000))
	checkRunError(t, then(bare(), 999801), make([][]api.Order, 200), api.ErrFull)
}

func TestRunOfManyWorlds(t *testing.T) {
	for salt := range 300 {
		w := thrown(1+salt%17, 1+salt*7%16, salt)
		turns := thrownTurns(w, salt%13, salt)
		want, wantMarks, wantErr := wantRun(w, turns)
		if wantErr != api.OK {
			checkRunError(t, w, turns, wantErr)
			continue
		}
		checkRun(t, w, turns, want)
		if _, marks, _ := Run(w, turns); !slices.Equal(marks, wantMarks) {
			t.Errorf("Run of %s, %s: marks %d, want %d", brief(w), briefTurns(turns), marks, wantMarks)
		}
	}
}

// A run that is broken off anywhere, and gone on with, is the same run.
func TestRunBehindRun(t *testing.T) {
	for salt := range 20 {
		w := then(thrown(4+salt%9, 4+salt%7, salt), salt)
		turns := thrownTurns(w, 10, salt)
		want, wantMarks, _ := Run(w, turns)
		for n := range 11 {
			middle, marks, err := Run(w, turns[:n])
			after, more, afterErr := Run(middle, turns[n:])
			if !sameWorld(after, want) || !slices.Equal(append(marks[:n], more...), wantMarks) || marks[n] != more[0] || err != api.OK || afterErr != api.OK {
				t.Errorf("of %s, %s, in two: %s, %d, want %s, %d", brief(w), briefTurns(turns), brief(after), marks, brief(want), wantMarks)
			}
		}
	}
}

// P1.

// asked is what both calls are given; told is what they answer.
type asked struct {
	w     api.World
	l     []api.Order
	turns [][]api.Order
}

type told struct {
	after   api.World
	report  api.Report
	behind  api.World
	marks   []uint64
	turnErr api.Errno
	runErr  api.Errno
}

func ask(q asked) (r told) {
	r.after, r.report, r.turnErr = Turn(q.w, q.l)
	r.behind, r.marks, r.runErr = Run(q.w, q.turns)
	return r
}

// wantTold is what the promises ask for.
func wantTold(q asked) (r told) {
	r.after, r.report, r.turnErr = wantTurn(q.w, q.l)
	r.behind, r.marks, r.runErr = wantRun(q.w, q.turns)
	return r
}

func same(a, b told) bool { return fmt.Sprint(a) == fmt.Sprint(b) }

func (q asked) String() string {
	return brief(q.w) + "; " + briefOrders(q.l) + "; " + briefTurns(q.turns)
}

func (r told) String() string {
	return fmt.Sprintf("after a turn %v, %v, %d; a run %v, %d, %d", r.after, r.report, r.turnErr, r.behind, r.marks, r.runErr)
}

// wildOrders are orders of w of which many have a number that is out of its
// bounds, or of no use.
func wildOrders(w api.World, n, salt int) []api.Order {
	d := dice(salt)
	numbers := append(wild(), -1, 0, 1, 2, 3, 5, 6, 7, 8, 1000, 1000000)
	l := saidOf(w, n, salt)
	for i := range l {
		if o := &l[i]; d.below(20) == 0 {
			*[]*int{&o.By, &o.Kind, &o.Who, &o.At.X, &o.At.Y, &o.What}[d.below(6)] = numbers[d.below(len(numbers))]
		}
	}
	return l
}

// spoiltTroops are worlds with one number of a troop put to another one, most of
// them wrong.
func spoiltTroops() []api.World {
	var list []api.World
	d := dice(3)
	for range 40 {
		list = append(list, with(crowd(100), func(w *api.World) {
			one := &w.Troops[d.below(100)]
			number := []*int{&one.Id, &one.Owner, &one.Kind, &one.Cell.X, &one.Cell.Y, &one.Life, &one.Load}[d.below(7)]
			*number = append(wild(), -1, 0, 1, 2, 3, 5, 11)[d.below(19)]
		}))
	}
	return list
}

func questions() []asked {
	worlds := append(wrongWorlds(), bare(), small(), crowd(100), crowd(98), then(small(), 1000000), then(small(), 999999))
	worlds = append(worlds, spoiltTroops()...)
	for salt := range 40 {
		worlds = append(worlds, thrown(1+salt*7%24, 1+salt*11%24, salt+1000))
	}
	var list []asked
	for i, w := range worlds {
		list = append(list, asked{w, nil, nil}, asked{w, make([]api.Order, 99+i%4), make([][]api.Order, []int{3, 0, 201}[i%3])})
		// Orders of a world that is wrong are made as if it weren't.
		if w.NextId > 0 {
			list = append(list, asked{w, saidOf(w, i%101, i), thrownTurns(w, 1+i%3, i)},
				asked{w, wildOrders(w, 1+i%40, i), [][]api.Order{saidOf(w, 20, i), wildOrders(w, i%30, i+1)}})
		}
	}
	return list
}

// Whatever is given, an answer is the one that the promises ask for.
func TestEachCallAnswers(t *testing.T) {
	for _, q := range questions() {
		if got, want := ask(q), wantTold(q); !same(got, want) {
			t.Errorf("of %v: %v, want %v", q, got, want)
		}
	}
}

// Beside an error nothing is told.
func TestNothingBesideAnError(t *testing.T) {
	for _, q := range questions() {
		r := ask(q)
		if r.turnErr != api.OK && !reflect.DeepEqual([]any{r.after, r.report}, []any{api.World{}, api.Report{}}) {
			t.Errorf("of %v: %v", q, r)
		}
		if r.runErr != api.OK && !reflect.DeepEqual([]any{r.behind, r.marks}, []any{api.World{}, []uint64(nil)}) {
			t.Errorf("of %v: %v", q, r)
		}
	}
}

// P2.

func roomyOrders(l []api.Order) []api.Order {
	return append(slices.Clone(l), drop(0, 2), made(0, 2))[:len(l)]
}

// roomy is q with room behind each of its lists.
func roomy(q asked) asked {
	w := &q.w
	w.Field.Places = append(slices.Clone(w.Field.Places), 1, 2, 3)[:len(w.Field.Places)]
	w.Bases = append(slices.Clone(w.Bases), at(1, 2), at(3, 4))[:len(w.Bases)]
	w.Stocks = append(slices.Clone(w.Stocks), 5, 6)[:len(w.Stocks)]
	w.Mines = append(slices.Clone(w.Mines), 7, 8)[:len(w.Mines)]
	w.Troops = append(slices.Clone(w.Troops), soldier(9, 0, 0, 0), worker(8, 1, 1, 1, 1))[:len(w.Troops)]
	q.l = roomyOrders(q.l)
	turns := [][]api.Order{}
	for _, l := range q.turns {
		turns = append(turns, roomyOrders(l))
	}
	q.turns = append(turns, roomyOrders(nil), roomyOrders(q.l))[:len(turns)]
	return q
}

// whole is what a question holds, the room behind its lists included.
func whole(q asked) string {
	w := q.w
	text := fmt.Sprint(w.Field, w.NextId, w.Now, w.Field.Places[:len(w.Field.Places)+3], w.Bases[:len(w.Bases)+2], w.Stocks[:len(w.Stocks)+2],
		w.Mines[:len(w.Mines)+2], w.Troops[:len(w.Troops)+2], len(q.turns))
	for _, l := range append([][]api.Order{q.l}, q.turns[:len(q.turns)+2]...) {
		text += fmt.Sprint(len(l), l[:len(l)+2])
	}
	return text
}

func TestQuestionsAreNotChanged(t *testing.T) {
	for _, q := range questions() {
		want := ask(q)
		q = roomy(q)
		old := whole(q)
		if got := ask(q); !same(got, want) {
			t.Fatalf("of %v: %v, with room behind the lists %v", q, want, got)
		}
		if whole(q) != old {
			t.Fatalf("of %v: left %s", q, whole(q))
		}
	}
}

// listsOf are those of a world, the room behind each included.
func listsOf(w api.World) []any {
	return []any{w.Field.Places[:cap(w.Field.Places)], w.Bases[:cap(w.Bases)], w.Stocks[:cap(w.Stocks)], w.Mines[:cap(w.Mines)], w.Troops[:cap(w.Troops)]}
}

// lists are those of an answer, the room behind each included.
func (r told) lists() []any {
	l := []any{r.report.Gone[:cap(r.report.Gone)], r.report.Moved[:cap(r.report.Moved)], r.report.Done[:cap(r.report.Done)], r.marks[:cap(r.marks)]}
	return append(l, append(listsOf(r.after), listsOf(r.behind)...)...)
}

// spoil puts each part of a list to another one.
func spoil(list any) {
	switch l := list.(type) {
	case []bool:
		for i := range l {
			l[i] = !l[i]
		}
	case []int:
		for i := range l {
			l[i] = ^l[i]
		}
	case []uint64:
		for i := range l {
			l[i] = ^l[i]
		}
	case []api.Cell:
		for i := range l {
			l[i].X = ^l[i].X
		}
	case []api.Troop:
		for i := range l {
			l[i].Id = ^l[i].Id
		}
	}
}

// Who changes a list of an answer, and the room behind it, changes no other
// list, no other answer and nothing that was handed in.
func TestAnswersAreNewMemory(t *testing.T) {
	for _, q := range questions() {
		q = roomy(q)
		old := whole(q)
		want, first, second := ask(q), ask(q), ask(q)
		for i, list := range first.lists() {
			was := fmt.Sprint(first.lists()[i+1:])
			spoil(list)
			if fmt.Sprint(first.lists()[i+1:]) != was {
				t.Fatalf("of %v: list %d, spoilt, spoils others", q, i)
			}
		}
		if whole(q) != old {
			t.Fatalf("of %v: spoilt %s", q, whole(q))
		}
		if third := ask(q); !same(second, want) || !same(third, want) {
			t.Fatalf("of %v: %v beside a spoilt answer, %v behind it, want %v", q, second, third, want)
		}
	}
}

func TestNothingIsKeptBetweenCalls(t *testing.T) {
	list := questions()
	answers := make([]told, len(list))
	for i, q := range list {
		answers[i] = ask(q)
	}
	for i := len(list) - 1; i >= 0; i-- {
		if got := ask(list[i]); !same(got, answers[i]) {
			t.Fatalf("of %v: first %v, then %v", list[i], answers[i], got)
		}
	}
}

// A world and orders that have become others in the same memory are read anew,
// and what was answered of them stays as it was.
func TestQuestionsAreNotKept(t *testing.T) {
	l := []api.Order{drop(0, 2), hits(1, 5, 2), made(2, 1), goTo(0, 6, 1, 1)}
	q := asked{small(), l, [][]api.Order{l, nil, l[1:]}}
	first, want := ask(q), wantTold(q)
	for i := range 600 {
		q.w.Troops[i%4].Life = 1 + i%10
		q.w.Troops[i%4].Cell = at(i%5, i/5%3)
		q.w.Troops[3].Id = 12 + i%8
		q.w.Stocks[i%3] = i
		q.w.Mines[2] = i % 4
		q.w.NextId = 20 + i%5
		q.l[i%4] = saidOf(q.w, 1, i)[0]
		if i%7 == 6 {
			q.l[i%4].What = i
		}
		q.turns[1] = saidOf(q.w, i%5, i)
		if got, want := ask(q), wantTold(q); !same(got, want) {
			t.Fatalf("of %v: %v, want %v", q, got, want)
		}
	}
	if !same(first, want) {
		t.Errorf("of the world at first, later on: %v, want %v", first, want)
	}
}
