package march

import (
	"fmt"
	"math"
	"reflect"
	"slices"
	"strings"
	"testing"

	"musterfield/api"
	"musterfield/field"
	"musterfield/troop"
)

// read is the field of some rows.
func read(rows ...string) api.Field {
	f, err := field.Read(strings.Join(rows, "\n") + "\n")
	if err != api.OK {
		panic(fmt.Sprint(rows, " are no field"))
	}
	return f
}

func at(x, y int) api.Cell { return api.Cell{X: x, Y: y} }

func cellOf(f api.Field, i int) api.Cell { return at(i%f.Wide, i/f.Wide) }

func to(id, x, y int) api.Go { return api.Go{Id: id, To: at(x, y)} }

// plain is a field of these sides without anything in it.
func plain(wide, high int) api.Field {
	return api.Field{Wide: wide, High: high, Places: make([]int, wide*high)}
}

func worker(id, owner, x, y int) api.Troop {
	return api.Troop{Id: id, Owner: owner, Kind: api.KWorker, Cell: at(x, y), Life: 10}
}

func soldier(id, owner, x, y int) api.Troop {
	return api.Troop{Id: id, Owner: owner, Kind: api.KSoldier, Cell: at(x, y), Life: 20}
}

// world is one of as many players as places that are no rock, up to three, with
// troops whose Ids are below 1000.
func world(f api.Field, troops ...api.Troop) api.World {
	w := api.World{Field: f, Mines: make([]int, len(f.Places)), Troops: troops, NextId: 1000, Now: 5}
	for i, place := range f.Places {
		if place != api.GRock && len(w.Bases) < 3 {
			w.Bases, w.Stocks = append(w.Bases, cellOf(f, i)), append(w.Stocks, 10*i)
		}
		if place == api.GOre {
			w.Mines[i] = 7
		}
	}
	return w
}

// bare is the least world.
func bare() api.World { return api.World{Field: plain(1, 1), Mines: []int{0}, NextId: 1} }

// small is a world with something of all that a world has.
func small() api.World {
	w := world(read("..o.#", ".#t.o", "....."), worker(2, 0, 1, 0), soldier(5, 1, 2, 1), soldier(6, 0, 3, 1), worker(11, 2, 2, 2), soldier(12, 1, 4, 2))
	w.Troops[0].Load, w.Troops[3].Load = 3, 5
	w.Troops[0].Life, w.Troops[2].Life, w.Troops[3].Life = 4, 9, 1
	return w
}

// crowd is a world of 100 troops, row by row, on the ten first places of ten
// rows: of three players in turn, and every other one a soldier.
func crowd(wide int) api.World {
	w := world(plain(wide, 10))
	for i := range 100 {
		one := worker(3*i+2, i%3, i%10, i/10)
		if i%2 == 0 {
			one = soldier(3*i+2, i%3, i%10, i/10)
		}
		w.Troops = append(w.Troops, one)
	}
	return w
}

// winding is a field of 40 times 40 that has one way from its first cell to its
// last one, which comes to all of every other row.
func winding() api.Field {
	f := plain(40, 40)
	for y := 1; y < 40; y += 2 {
		for x := range 40 {
			f.Places[y*40+x] = api.GRock
		}
		gap := 0
		if y%4 == 1 {
			gap = 39
		}
		f.Places[y*40+gap] = api.GPlain
	}
	return f
}

// along is the cell that is n steps from the first one on the winding way.
func along(n int) api.Cell {
	row, k := n/41, n%41
	switch {
	case row%2 == 0 && k < 40:
		return at(k, 2*row)
	case row%2 == 0:
		return at(39, 2*row+1)
	case k < 40:
		return at(39-k, 2*row)
	}
	return at(0, 2*row+1)
}

// with is w, in memory of its own, changed.
func with(w api.World, change func(w *api.World)) api.World {
	w = troop.Copy(w)
	change(&w)
	return w
}

// moved is w with some of its troops on other cells.
func moved(w api.World, l ...api.Go) api.World {
	return with(w, func(w *api.World) {
		for _, g := range l {
			i := slices.IndexFunc(w.Troops, func(t api.Troop) bool { return t.Id == g.Id })
			w.Troops[i].Cell = g.To
		}
	})
}

// dice are numbers that another salt makes others.
type dice uint32

func (d *dice) below(n int) int {
	*d = *d*1664525 + 1013904223
	return int(*d>>8) % n
}

// made is a world of these sides, with troops of three players on half of its
// places or so; another salt makes another one.
func made(wide, high, salt int) api.World {
	d := dice(salt)
	f := plain(wide, high)
	for i := range f.Places {
		f.Places[i] = []int{0, 0, 0, 0, 1, 2, 3}[d.below(7)]
	}
	w := world(f)
	id := 0
	for i, place := range f.Places {
		if place == api.GRock || d.below(2) == 0 || len(w.Troops) == api.MaxTroops || len(w.Bases) == 0 {
			continue
		}
		id += 1 + d.below(3)
		one := api.Troop{Id: id, Owner: d.below(len(w.Bases)), Kind: 1 + d.below(2), Cell: cellOf(f, i)}
		one.Life, one.Load = 1+d.below(10*one.Kind), (2-one.Kind)*d.below(6)
		w.Troops = append(w.Troops, one)
	}
	w.NextId = id + 1 + d.below(2)
	return w
}

// madeGoes are n goes, most of them of troops of w to somewhere on its field, or
// beside it, or to where they stand; some are of nobody.
func madeGoes(w api.World, n, salt int) []api.Go {
	d := dice(salt)
	var l []api.Go
	for range n {
		g := to(d.below(w.NextId+2), d.below(w.Field.Wide+2)-1, d.below(w.Field.High+2)-1)
		if i := d.below(len(w.Troops) + 1); i < len(w.Troops) {
			g.Id = w.Troops[i].Id
			if d.below(9) == 0 {
				g.To = w.Troops[i].Cell
			}
		}
		l = append(l, g)
	}
	return l
}

// wild are numbers that are the Id of no troop, and no place of a cell.
func wild() []int {
	return []int{-1, -2, -12, 1000, 1000000, 1000001, -1 << 32, 1 << 32, 1<<32 + 1, 1<<32 + 5, 1<<62 + 2, math.MinInt, math.MinInt + 2, math.MaxInt - 1, math.MaxInt}
}

// noWays are numbers of steps that are out of bounds.
func noWays() []int {
	return []int{-1, -2, -200, 201, 202, 256, 400, 1000, 1<<32 + 1, 1 << 32, -1 << 32, 1<<62 + 2, math.MinInt, math.MinInt + 5, math.MaxInt}
}

// brief tells of a great world only how it begins.
func brief(w api.World) string {
	return fmt.Sprintf("%d x %d, %d places %d, bases %d, stocks %d, %d mines, %d troops %+v, next %d, now %d", w.Field.Wide, w.Field.High,
		len(w.Field.Places), w.Field.Places[:min(15, len(w.Field.Places))], w.Bases[:min(9, len(w.Bases))], w.Stocks[:min(9, len(w.Stocks))],
		len(w.Mines), len(w.Troops), w.Troops[:min(6, len(w.Troops))], w.NextId, w.Now)
}

func briefGoes(l []api.Go) string { return fmt.Sprint(len(l), " goes ", l[:min(12, len(l))]) }

// What the promises ask for, word by word.

func isOpen(f api.Field, c api.Cell) bool {
	return c.X >= 0 && c.Y >= 0 && c.X < f.Wide && c.Y < f.High && f.Places[c.X+c.Y*f.Wide] != api.GRock
}

// entered is what it costs to enter an open cell.
func entered(f api.Field, c api.Cell) int { return []int{2, 0, 3, 2}[f.Places[c.X+c.Y*f.Wide]] }

// around are the open cells about c: above, to the left, to the right, below.
func around(f api.Field, c api.Cell) []api.Cell {
	var l []api.Cell
	for _, off := range []api.Cell{at(0, -1), at(-1, 0), at(1, 0), at(0, 1)} {
		if n := at(c.X+off.X, c.Y+off.Y); isOpen(f, n) {
			l = append(l, n)
		}
	}
	return l
}

// costs are those of each cell that can be come to from a: cells are tried anew
// as often as one ahead of them has become cheaper.
func costs(f api.Field, a api.Cell) map[api.Cell]int {
	found := map[api.Cell]int{a: 0}
	for waiting := []api.Cell{a}; len(waiting) > 0; waiting = waiting[1:] {
		c := waiting[0]
		for _, n := range around(f, c) {
			cost := found[c] + entered(f, n)
			if old, known := found[n]; !known || cost < old {
				found[n] = cost
				waiting = append(waiting, n)
			}
		}
	}
	return found
}

// wayOf is the way, from its end to its beginning; none, if there is none.
func wayOf(f api.Field, a, b api.Cell) []api.Cell {
	if !isOpen(f, a) || !isOpen(f, b) {
		return nil
	}
	found := costs(f, a)
	if _, ok := found[b]; !ok {
		return nil
	}
	way := []api.Cell{b}
	for c := b; c != a; way = append(way, c) {
		l := around(f, c)
		c = l[slices.IndexFunc(l, func(n api.Cell) bool { return found[n]+entered(f, c) == found[c] })]
	}
	return way
}

// What a troop's turn to go comes to.
const (
	noGo    = "without a go"
	noWay   = "without a way"
	there   = "there already"
	blocked = "blocked"
	going   = "going"
)

// verdict is what it comes to for the troop that stands at i, with the cell to
// which it goes, if it does.
func verdict(w api.World, i int, l []api.Go) (string, api.Cell) {
	k := slices.IndexFunc(l, func(g api.Go) bool { return g.Id == w.Troops[i].Id })
	if k < 0 {
		return noGo, api.Cell{}
	}
	way := wayOf(w.Field, w.Troops[i].Cell, l[k].To)
	switch len(way) {
	case 0:
		return noWay, api.Cell{}
	case 1:
		return there, api.Cell{}
	}
	c := way[len(way)-2]
	for _, other := range w.Troops {
		if other.Cell == c {
			return blocked, api.Cell{}
		}
	}
	return going, c
}

func wantStep(w api.World, l []api.Go) (api.World, []int, api.Errno) {
	if err := troop.Check(w); err != api.OK {
		return api.World{}, nil, err
	}
	if len(l) > 200 {
		return api.World{}, nil, api.ErrLarge
	}
	w = troop.Copy(w)
	var ids []int
	for i := range w.Troops {
		if what, c := verdict(w, i, l); what == going {
			w.Troops[i].Cell = c
			ids = append(ids, w.Troops[i].Id)
		}
	}
	return w, ids, api.OK
}

func wantReach(w api.World, id int, to api.Cell, n int) (api.World, int, api.Errno) {
	if err := troop.Check(w); err != api.OK {
		return api.World{}, 0, err
	}
	if n < 0 || n > 200 {
		return api.World{}, 0, api.ErrArg
	}
	if !slices.ContainsFunc(w.Troops, func(t api.Troop) bool { return t.Id == id }) {
		return api.World{}, 0, api.ErrNone
	}
	for k := range n {
		stepped, ids, _ := wantStep(w, []api.Go{{Id: id, To: to}})
		if len(ids) == 0 {
			return w, k, api.OK
		}
		w = stepped
	}
	return w, n, api.OK
}

func sameWorld(a, b api.World) bool { return fmt.Sprint(a) == fmt.Sprint(b) }

// P14.1.

// checkStep has want be the whole world, and those that moved be wantMoved.
func checkStep(t *testing.T, w api.World, l []api.Go, want api.World, wantMoved ...int) {
	t.Helper()
	stepped, ids, err := Step(w, l)
	if !sameWorld(stepped, want) || !slices.Equal(ids, wantMoved) || err != api.OK {
		t.Errorf("Step of %s, %s = %s, %d, %d, want %s, %d, 0", brief(w), briefGoes(l), brief(stepped), ids, err, brief(want), wantMoved)
	}
	if err := troop.Check(stepped); err != api.OK {
		t.Errorf("Step of %s, %s = %s, of which troop.Check = %d", brief(w), briefGoes(l), brief(stepped), err)
	}
}

// checkMoves has those of goes be moved to its cells, in this order, and nobody
// else, by l.
func checkMoves(t *testing.T, w api.World, l []api.Go, goes ...api.Go) {
	t.Helper()
	var ids []int
	for _, g := range goes {
		ids = append(ids, g.Id)
	}
	checkStep(t, w, l, moved(w, goes...), ids...)
}

// checkStepError has what is told beside an error be nothing at all.
func checkStepError(t *testing.T, w api.World, l []api.Go, want api.Errno) {
	t.Helper()
	if stepped, ids, err := Step(w, l); !reflect.DeepEqual(stepped, api.World{}) || ids != nil || err != want {
		t.Errorf("Step of %s, %s = %s, %d, %d, want nothing, %d", brief(w), briefGoes(l), brief(stepped), ids, err, want)
	}
}

func TestStep(t *testing.T) {
	checkMoves(t, bare(), nil)
	checkMoves(t, bare(), []api.Go{to(1, 0, 0), {}})
	checkMoves(t, small(), nil)
	checkMoves(t, small(), []api.Go{})
	checkMoves(t, small(), []api.Go{to(2, 0, 0)}, to(2, 0, 0))
	checkMoves(t, small(), []api.Go{to(12, 4, 1)}, to(12, 4, 1))
	// One step, however far it is.
	checkMoves(t, small(), []api.Go{to(2, 0, 2)}, to(2, 0, 0))
	checkMoves(t, small(), []api.Go{to(11, 0, 0)}, to(11, 1, 2))
	// Several, of all owners and kinds; what they carry goes with them.
	l := []api.Go{to(12, 4, 1), to(6, 3, 0), to(2, 0, 1), to(11, 0, 0), to(5, 2, 0)}
	checkMoves(t, small(), l, to(2, 0, 0), to(5, 2, 0), to(6, 3, 0), to(11, 1, 2), to(12, 4, 1))
}

// To each side, and of several ways the one that path.Find tells.
func TestStepWays(t *testing.T) {
	for _, c := range []struct {
		f          api.Field
		from, goal api.Cell
		want       api.Cell
	}{
		{plain(3, 3), at(1, 1), at(1, 0), at(1, 0)},
		{plain(3, 3), at(1, 1), at(0, 1), at(0, 1)},
		{plain(3, 3), at(1, 1), at(2, 1), at(2, 1)},
		{plain(3, 3), at(1, 1), at(1, 2), at(1, 2)},
		// Not across a corner. A way is chosen from its end on: from above, then
		// from the left, from the right, from below.
		{plain(3, 3), at(0, 0), at(2, 2), at(1, 0)},
		{plain(3, 3), at(2, 0), at(0, 2), at(1, 0)},
		{plain(3, 3), at(0, 2), at(2, 0), at(0, 1)},
		{plain(3, 3), at(2, 2), at(0, 0), at(2, 1)},
		{plain(3, 3), at(1, 1), at(2, 2), at(2, 1)},
		{plain(3, 3), at(1, 1), at(0, 0), at(1, 0)},
		// Around rocks, and around woods where that is cheaper.
		{read("...", "#..", "..."), at(0, 0), at(0, 2), at(1, 0)},
		{read(".#.", "..."), at(0, 0), at(2, 0), at(0, 1)},
		{read(".tttt.", "......"), at(0, 0), at(5, 0), at(1, 0)},
		{read(".ttttt.", "......."), at(0, 0), at(6, 0), at(0, 1)},
		{read(".t.", "..."), at(0, 0), at(2, 0), at(1, 0)},
		{read("t", "o"), at(0, 0), at(0, 1), at(0, 1)},
		{read("ot"), at(0, 0), at(1, 0), at(1, 0)},
	} {
		checkMoves(t, world(c.f, worker(1, 0, c.from.X, c.from.Y)), []api.Go{{Id: 1, To: c.goal}}, api.Go{Id: 1, To: c.want})
		checkMoves(t, world(c.f, soldier(999, 1, c.from.X, c.from.Y)), []api.Go{{Id: 999, To: c.goal}}, api.Go{Id: 999, To: c.want})
	}
}

// Who has no way of two cells stays, and that is no error.
func TestStepWithoutAWay(t *testing.T) {
	w := world(read("..#t", ".###", "#o.."), soldier(3, 1, 1, 0), worker(4, 2, 1, 2), soldier(7, 0, 3, 0))
	// To where it stands, to a rock, and to where it doesn't come.
	for _, g := range []api.Go{to(3, 1, 0), to(3, 2, 0), to(3, 1, 1), to(3, 3, 0), to(3, 1, 2)} {
		checkMoves(t, w, []api.Go{g})
		checkMoves(t, w, []api.Go{g, to(4, 2, 2)}, to(4, 2, 2))
	}
	for _, g := range []api.Go{to(4, 1, 2), to(4, 0, 2), to(4, 0, 0), to(7, 3, 0), to(7, 3, 2), to(7, 2, 0)} {
		checkMoves(t, w, []api.Go{g})
		checkMoves(t, w, []api.Go{g, to(3, 0, 0)}, to(3, 0, 0))
	}
	// Out of the field, also where its place would be one.
	for _, off := range append(wild(), 4, 5, 12, 40, 1600) {
		for _, c := range []api.Cell{at(off, 0), at(0, off), at(off, off), at(off, 2), at(3, off), at(off, math.MaxInt)} {
			if !isOpen(w.Field, c) {
				checkMoves(t, w, []api.Go{{Id: 3, To: c}, {Id: 4, To: c}, {Id: 7, To: c}})
			}
		}
	}
}

// Whoever stands on the next cell blocks, of whatever owner, and nobody goes
// around: the way is that of the field.
func TestStepBlocked(t *testing.T) {
	for owner := range 3 {
		w := world(plain(4, 3), soldier(2, 0, 0, 1), worker(5, owner, 1, 1))
		checkMoves(t, w, []api.Go{to(2, 1, 1)})
		checkMoves(t, w, []api.Go{to(2, 3, 1)})
		checkMoves(t, w, []api.Go{to(5, 0, 1)})
		checkMoves(t, w, []api.Go{to(5, 0, 1), to(2, 1, 1)})
		// Only the next cell is asked for.
		checkMoves(t, moved(w, to(5, 2, 1)), []api.Go{to(2, 2, 1)}, to(2, 1, 1))
		checkMoves(t, moved(w, to(5, 2, 1)), []api.Go{to(2, 3, 1)}, to(2, 1, 1))
		// A base doesn't block.
		checkMoves(t, w, []api.Go{to(2, 0, 0), to(5, 1, 0)}, to(2, 0, 0), to(5, 1, 0))
	}
}

// Those go first that are ahead in the world's list, wherever their goes stand.
func TestStepInOrder(t *testing.T) {
	row := world(plain(5, 1), soldier(2, 0, 3, 0), soldier(5, 1, 2, 0), worker(7, 2, 1, 0))
	for _, l := range [][]api.Go{
		{to(2, 4, 0), to(5, 4, 0), to(7, 4, 0)}, {to(7, 4, 0), to(5, 4, 0), to(2, 4, 0)}, {to(5, 4, 0), to(7, 4, 0), to(2, 4, 0)},
	} {
		// Each goes to where the one ahead has been.
		checkMoves(t, row, l, to(2, 4, 0), to(5, 3, 0), to(7, 2, 0))
	}
	// Who is behind in the list makes no room in time.
	checkMoves(t, row, []api.Go{to(7, 0, 0), to(5, 0, 0), to(2, 0, 0)}, to(7, 0, 0))
	checkMoves(t, row, []api.Go{to(7, 4, 0), to(2, 4, 0)}, to(2, 4, 0))
	// Two can't come to one cell: the first one does.
	gap := world(plain(3, 1), soldier(2, 0, 2, 0), worker(5, 0, 0, 0))
	checkMoves(t, gap, []api.Go{to(5, 1, 0), to(2, 1, 0)}, to(2, 1, 0))
	checkMoves(t, gap, []api.Go{to(5, 2, 0), to(2, 0, 0)}, to(2, 1, 0))
	// Nor do they change places, in twos or in a ring.
	ring := world(plain(2, 2), soldier(1, 0, 0, 0), soldier(2, 1, 1, 0), soldier(3, 0, 1, 1), soldier(4, 2, 0, 1))
	checkMoves(t, ring, []api.Go{to(1, 1, 0), to(2, 1, 1), to(3, 0, 1), to(4, 0, 0)})
	checkMoves(t, ring, []api.Go{to(1, 1, 0), to(2, 0, 0), to(3, 0, 1), to(4, 1, 1)})
	// With one gone the ring turns, as far as each makes room for the next.
	open := with(ring, func(w *api.World) { w.Troops = w.Troops[1:] })
	checkMoves(t, open, []api.Go{to(2, 0, 0), to(3, 1, 0), to(4, 1, 1)}, to(2, 0, 0), to(3, 1, 0), to(4, 1, 1))
	checkMoves(t, open, []api.Go{to(4, 0, 0), to(3, 0, 1), to(2, 1, 1)}, to(4, 0, 0))
}

// Of several goes of one troop the first one is its go, also where that one
// comes to nothing; it goes once.
func TestStepFirstGo(t *testing.T) {
	w := world(read("..#", "...", "..."), soldier(4, 0, 1, 1), worker(8, 1, 0, 0))
	checkMoves(t, w, []api.Go{to(4, 2, 1), to(4, 0, 1)}, to(4, 2, 1))
	checkMoves(t, w, []api.Go{to(4, 0, 1), to(4, 2, 1), to(4, 0, 1)}, to(4, 0, 1))
	checkMoves(t, w, []api.Go{to(4, 1, 2), to(4, 1, 2), to(4, 2, 2)}, to(4, 1, 2))
	checkMoves(t, w, []api.Go{to(8, 0, 1), to(4, 1, 0), to(8, 1, 0), to(4, 1, 2)}, to(4, 1, 0), to(8, 0, 1))
	for _, idle := range []api.Go{to(4, 1, 1), to(4, 2, 0), to(4, 3, 1), to(4, -1, 1), to(4, math.MinInt, math.MaxInt)} {
		checkMoves(t, w, []api.Go{idle, to(4, 2, 1)})
		checkMoves(t, w, []api.Go{to(8, 1, 0), idle, to(8, 0, 1), to(4, 2, 1)}, to(8, 1, 0))
	}
	// Blocked by one that goes only behind it.
	near := moved(w, to(8, 0, 1))
	checkMoves(t, near, []api.Go{to(4, 0, 1), to(4, 2, 1), to(8, 0, 0)}, to(8, 0, 0))
	// A go to nowhere at first is not one of nobody.
	checkMoves(t, w, []api.Go{{}, {Id: 8}, to(8, 0, 1)})
}

// A troop is asked for by its Id, not by its place; goes of nobody are no error.
func TestStepOfNobody(t *testing.T) {
	w := world(plain(4, 1), soldier(4, 0, 0, 0), soldier(263, 1, 2, 0))
	for _, id := range append(wild(), 0, 1, 2, 3, 5, 7, 999, 260, 519, 65540, 65799) {
		checkMoves(t, w, []api.Go{to(id, 1, 0), to(id, 3, 0)})
		checkMoves(t, w, []api.Go{to(id, 1, 0), to(263, 3, 0), to(id, 3, 0), to(4, 1, 0)}, to(4, 1, 0), to(263, 3, 0))
		checkMoves(t, bare(), []api.Go{to(id, 0, 0)})
	}
}

func TestStepLimit(t *testing.T) {
	w := world(plain(3, 1), soldier(4, 0, 0, 0), worker(8, 1, 2, 0))
	l := make([]api.Go, 200)
	checkMoves(t, w, l)
	l[199] = to(4, 1, 0)
	checkMoves(t, w, l, to(4, 1, 0))
	l[0] = to(8, 1, 0)
	checkMoves(t, w, l, to(4, 1, 0))
	l[199] = to(4, 0, 0)
	checkMoves(t, w, l, to(8, 1, 0))
	for _, n := range []int{201, 202, 256, 400, 65536} {
		checkStepError(t, w, make([]api.Go, n), api.ErrLarge)
		checkStepError(t, w, append(l, make([]api.Go, n-200)...), api.ErrLarge)
		checkStepError(t, bare(), make([]api.Go, n), api.ErrLarge)
	}
	// 200 goes of 100 troops, of each one ahead and one back, which doesn't count.
	full := crowd(11)
	var ahead, back, last, all []api.Go
	for i, one := range full.Troops {
		ahead = append(ahead, to(one.Id, 10, i/10))
		back = append(back, to(one.Id, 0, i/10))
		all = append(all, to(one.Id, 10-i%10, i/10))
		if i%10 == 9 {
			last = append(last, to(one.Id, 10, i/10))
		}
	}
	// Of each row the last one makes room too late for those behind it.
	checkMoves(t, full, append(ahead, back...), last...)
	for i := range full.Troops {
		full.Troops[i].Cell.X = 9 - i%10
	}
	checkMoves(t, full, append(ahead, back...), all...)
}

// wrongWorlds are some of each error that troop.Check tells.
func wrongWorlds() []api.World {
	return []api.World{
		{}, {Field: plain(1, 1)}, {Field: plain(1, 1), Mines: []int{0}}, {Field: plain(1, 1), NextId: 1},
		with(small(), func(w *api.World) { w.Field.Wide = math.MaxInt }),
		with(small(), func(w *api.World) { w.Field.High = -3 }),
		with(small(), func(w *api.World) { w.Field.Wide, w.Field.High = 1<<32, 1<<32 }),
		with(small(), func(w *api.World) { w.Field.Places[7] = 4 }),
		with(small(), func(w *api.World) { w.Field.Places = w.Field.Places[:14] }),
		with(small(), func(w *api.World) { w.Bases = make([]api.Cell, 9) }),
		with(crowd(10), func(w *api.World) { w.Troops = append(w.Troops, soldier(999, 0, 9, 9)) }),
		with(small(), func(w *api.World) { w.Stocks = w.Stocks[:2] }),
		with(small(), func(w *api.World) { w.Stocks[1] = -1 }),
		with(small(), func(w *api.World) { w.Mines = append(w.Mines, 0) }),
		with(small(), func(w *api.World) { w.Mines[0] = 1 }),
		with(small(), func(w *api.World) { w.Bases[0] = w.Bases[1] }),
		with(small(), func(w *api.World) { w.Bases[0] = at(4, 0) }),
		with(small(), func(w *api.World) { w.Troops[1].Id = 2 }),
		with(small(), func(w *api.World) { w.Troops[0].Id = 0 }),
		with(small(), func(w *api.World) { slices.Reverse(w.Troops) }),
		with(small(), func(w *api.World) { w.Troops[0].Owner = 3 }),
		with(small(), func(w *api.World) { w.Troops[1].Kind = 3 }),
		with(small(), func(w *api.World) { w.Troops[3].Cell = w.Troops[2].Cell }),
		with(small(), func(w *api.World) { w.Troops[3].Cell = at(1, 1) }),
		with(small(), func(w *api.World) { w.Troops[3].Cell = at(math.MinInt, math.MaxInt) }),
		with(small(), func(w *api.World) { w.Troops[3].Life = 0 }),
		with(small(), func(w *api.World) { w.Troops[0].Life = 11 }),
		with(small(), func(w *api.World) { w.Troops[1].Load = 1 }),
		with(small(), func(w *api.World) { w.NextId = 12 }),
		with(small(), func(w *api.World) { w.Now = -1 }),
	}
}

// What is wrong with a world is told ahead of that there are too many goes.
func TestStepErrorsOfWorlds(t *testing.T) {
	for _, w := range wrongWorlds() {
		want := troop.Check(w)
		if want == api.OK {
			t.Fatalf("nothing is wrong with %s", brief(w))
		}
		for _, l := range [][]api.Go{nil, {}, {to(2, 0, 0)}, {to(2, math.MinInt, math.MaxInt), to(5, 2, 0)}, make([]api.Go, 200), make([]api.Go, 201)} {
			checkStepError(t, w, l, want)
		}
	}
}

// Each thing that a go can come to is tried, and often.
func TestStepOfManyWorlds(t *testing.T) {
	tried := map[string]int{}
	for salt := range 400 {
		w := made(1+salt%13, 1+salt*7%11, salt)
		l := madeGoes(w, salt%201, salt)
		want, ids, _ := wantStep(w, l)
		checkStep(t, w, l, want, ids...)
		for i := range w.Troops {
			what, _ := verdict(w, i, l)
			tried[what]++
		}
	}
	for _, what := range []string{noGo, noWay, there, blocked, going} {
		if tried[what] < 150 {
			t.Errorf("%d troops are %s", tried[what], what)
		}
	}
}

// Step by step: what one answers the next one is given.
func TestStepBehindStep(t *testing.T) {
	for salt := range 8 {
		w := made(9+salt, 17-salt, salt)
		for k := range 20 {
			l := madeGoes(w, 60, salt*100+k)
			want, ids, err := wantStep(w, l)
			checkStep(t, w, l, want, ids...)
			if w, _, err = Step(w, l); err != api.OK {
				t.Fatalf("Step of %s: %d", brief(w), err)
			}
		}
	}
}

// P14.2.

func checkReach(t *testing.T, w api.World, id int, goal api.Cell, n int, want api.World, wantCount int) {
	t.Helper()
	reached, count, err := Reach(w, id, goal, n)
	if !sameWorld(reached, want) || count != wantCount || err != api.OK {
		t.Errorf("Reach of %s, %d, %d, %d = %s, %d, %d, want %s, %d, 0", brief(w), id, goal, n, brief(reached), count, err, brief(want), wantCount)
	}
	if err := troop.Check(reached); err != api.OK {
		t.Errorf("Reach of %s, %d, %d, %d = %s, of which troop.Check = %d", brief(w), id, goal, n, brief(reached), err)
	}
}

// checkComes has it come to a cell, in so many steps.
func checkComes(t *testing.T, w api.World, id int, goal api.Cell, n int, comes api.Cell, wantCount int) {
	t.Helper()
	checkReach(t, w, id, goal, n, moved(w, api.Go{Id: id, To: comes}), wantCount)
}

// checkReachError has what is told beside an error be nothing at all.
func checkReachError(t *testing.T, w api.World, id int, goal api.Cell, n int, want api.Errno) {
	t.Helper()
	if reached, count, err := Reach(w, id, goal, n); !reflect.DeepEqual(reached, api.World{}) || count != 0 || err != want {
		t.Errorf("Reach of %s, %d, %d, %d = %s, %d, %d, want nothing, %d", brief(w), id, goal, n, brief(reached), count, err, want)
	}
}

func TestReach(t *testing.T) {
	w := world(read("....", ".##.", "...."), worker(3, 1, 0, 1), soldier(9, 0, 2, 2))
	w.Troops[0].Load, w.Troops[0].Life = 4, 2
	way := []api.Cell{at(0, 1), at(0, 0), at(1, 0), at(2, 0), at(3, 0), at(3, 1)}
	for n := range 201 {
		k := min(n, 5)
		checkComes(t, w, 3, at(3, 1), n, way[k], k)
	}
	// As Steps of this go alone.
	stepped := w
	for n := range 5 {
		checkReach(t, w, 3, at(3, 1), n, stepped, n)
		stepped, _, _ = Step(stepped, []api.Go{to(3, 3, 1)})
	}
	checkReach(t, w, 3, at(3, 1), 200, stepped, 5)
	checkComes(t, w, 9, at(0, 0), 200, at(0, 2), 2)
	checkComes(t, w, 9, at(0, 1), 200, at(0, 2), 2)
	checkComes(t, w, 9, at(1, 2), 200, at(1, 2), 1)
	checkComes(t, small(), 2, at(4, 1), 200, at(3, 0), 2)
	checkComes(t, small(), 12, at(4, 1), 200, at(4, 1), 1)
	checkComes(t, small(), 11, at(0, 0), 1, at(1, 2), 1)
	checkComes(t, small(), 11, at(0, 0), 200, at(0, 0), 4)
	checkComes(t, small(), 11, at(1, 0), 200, at(2, 2), 0)
}

// It stays, and that is no error, where it doesn't come to or is already.
func TestReachNothing(t *testing.T) {
	w := world(read("..#t", ".###", "#o.."), soldier(3, 1, 1, 0), worker(4, 2, 1, 2), soldier(7, 0, 2, 2))
	for _, n := range []int{0, 1, 2, 199, 200} {
		for _, c := range []api.Cell{at(1, 0), at(2, 0), at(1, 1), at(3, 0), at(1, 2)} {
			checkReach(t, w, 3, c, n, w, 0)
		}
		// It is blocked at once.
		checkReach(t, w, 4, at(3, 2), n, w, 0)
		for _, off := range append(wild(), 4, 5, 12, 40) {
			for _, c := range []api.Cell{at(off, 0), at(0, off), at(off, off), at(off, math.MaxInt)} {
				checkReach(t, w, 3, c, n, w, 0)
				checkReach(t, w, 4, c, n, w, 0)
			}
		}
	}
	checkReach(t, w, 7, at(3, 2), 0, w, 0)
	checkComes(t, w, 7, at(3, 2), 1, at(3, 2), 1)
}

// One that stands on the way blocks where it stands, at its end, too.
func TestReachBlocked(t *testing.T) {
	for x := 1; x < 9; x++ {
		w := world(plain(9, 3), soldier(3, 0, 0, 1), soldier(5, x%3, x, 1))
		for _, n := range []int{x - 1, x, x + 1, 200} {
			checkComes(t, w, 3, at(8, 1), n, at(x-1, 1), x-1)
			checkComes(t, w, 3, at(x, 1), n, at(x-1, 1), x-1)
		}
		checkComes(t, w, 5, at(0, 1), 200, at(1, 1), x-1)
	}
}

// A way that is as long as may be, and longer ones.
func TestReachFar(t *testing.T) {
	w := world(winding(), soldier(3, 0, 0, 0))
	for _, n := range []int{0, 1, 40, 41, 199, 200} {
		checkComes(t, w, 3, at(39, 39), n, at(0, 0), 0)
		checkComes(t, w, 3, at(39, 38), n, along(n), n)
		checkComes(t, w, 3, along(200), n, along(n), n)
		checkComes(t, w, 3, along(201), n, along(n), n)
		checkComes(t, w, 3, along(199), n, along(min(n, 199)), min(n, 199))
		checkComes(t, w, 3, along(41), n, along(min(n, 41)), min(n, 41))
	}
}

func TestReachOutOfBounds(t *testing.T) {
	for _, n := range noWays() {
		for _, id := range append(wild(), 0, 1, 2, 5, 12) {
			checkReachError(t, small(), id, at(0, 0), n, api.ErrArg)
			checkReachError(t, small(), id, at(math.MinInt, n), n, api.ErrArg)
			checkReachError(t, bare(), id, at(0, 0), n, api.ErrArg)
		}
	}
}

func TestReachOfNobody(t *testing.T) {
	for _, n := range []int{0, 1, 200} {
		for _, id := range append(wild(), 0, 1, 3, 4, 7, 10, 13, 258, 999, 65538) {
			checkReachError(t, small(), id, at(0, 0), n, api.ErrNone)
			checkReachError(t, small(), id, at(math.MaxInt, 0), n, api.ErrNone)
			checkReachError(t, bare(), id, at(0, 0), n, api.ErrNone)
		}
	}
}

func TestReachErrorsOfWorlds(t *testing.T) {
	for _, w := range wrongWorlds() {
		want := troop.Check(w)
		for _, n := range append(noWays(), 0, 1, 200) {
			for _, id := range []int{2, 5, 0, 3, math.MaxInt} {
				checkReachError(t, w, id, at(0, 0), n, want)
				checkReachError(t, w, id, at(math.MinInt, 0), n, want)
			}
		}
	}
}

func TestReachOfManyWorlds(t *testing.T) {
	full, part, none := 0, 0, 0
	for salt := range 300 {
		w := made(1+salt%17, 1+salt*7%19, salt)
		for _, g := range madeGoes(w, 10, salt) {
			n := (salt + g.To.X) % 9
			want, count, err := wantReach(w, g.Id, g.To, max(n, 0))
			if err != api.OK {
				checkReachError(t, w, g.Id, g.To, max(n, 0), err)
				continue
			}
			checkReach(t, w, g.Id, g.To, max(n, 0), want, count)
			switch count {
			case 0:
				none++
			case n:
				full++
			default:
				part++
			}
		}
	}
	if full < 100 || part < 100 || none < 100 {
		t.Errorf("%d go to the last step, %d some steps, %d none", full, part, none)
	}
}

// P1.

// asked is what both calls are given; told is what they answer.
type asked struct {
	w api.World
	l []api.Go
	g api.Go
	n int
}

type told struct {
	stepped  api.World
	moved    []int
	reached  api.World
	count    int
	stepErr  api.Errno
	reachErr api.Errno
}

func ask(q asked) (r told) {
	r.stepped, r.moved, r.stepErr = Step(q.w, q.l)
	r.reached, r.count, r.reachErr = Reach(q.w, q.g.Id, q.g.To, q.n)
	return r
}

// wantTold is what the promises ask for.
func wantTold(q asked) (r told) {
	r.stepped, r.moved, r.stepErr = wantStep(q.w, q.l)
	r.reached, r.count, r.reachErr = wantReach(q.w, q.g.Id, q.g.To, q.n)
	return r
}

func same(a, b told) bool { return fmt.Sprint(a) == fmt.Sprint(b) }

func (q asked) String() string {
	return fmt.Sprintf("%s; %s; %d, %d", brief(q.w), briefGoes(q.l), q.g, q.n)
}

func (r told) String() string {
	return fmt.Sprintf("stepped %v, moved %d, %d; reached %v, %d, %d", r.stepped, r.moved, r.stepErr, r.reached, r.count, r.reachErr)
}

// spoiltTroops are worlds with one number of a troop put to another one, most of
// them wrong.
func spoiltTroops() []api.World {
	var list []api.World
	d := dice(3)
	for range 60 {
		list = append(list, with(crowd(10), func(w *api.World) {
			one := &w.Troops[d.below(100)]
			number := []*int{&one.Id, &one.Owner, &one.Kind, &one.Cell.X, &one.Cell.Y, &one.Life, &one.Load}[d.below(7)]
			*number = append(wild(), 1, 2, 3, 5)[d.below(19)]
		}))
	}
	return list
}

func questions() []asked {
	worlds := append(wrongWorlds(), bare(), small(), crowd(10), crowd(11))
	worlds = append(worlds, spoiltTroops()...)
	for salt := range 30 {
		worlds = append(worlds, made(1+salt*7%20, 1+salt*11%20, salt+1000))
	}
	numbers := append(wild(), 0, 1, 2, 5, 6, 11, 12)
	steps := append(noWays(), 0, 1, 2, 3, 5, 8, 200)
	var wildGoes []api.Go
	for i := range 200 {
		wildGoes = append(wildGoes, to(numbers[i%len(numbers)], numbers[i*5%len(numbers)], numbers[i*9%len(numbers)]))
	}
	var list []asked
	for i, w := range worlds {
		n := steps[i%len(steps)]
		list = append(list, asked{w, nil, wildGoes[i], n}, asked{w, wildGoes, wildGoes[i*3%200], i % 9}, asked{w, make([]api.Go, 199+i%4), to(2, 0, 0), n})
		// Goes of a world that is wrong are made as if it weren't.
		if w.NextId > 0 && w.Field.Wide > 0 && w.Field.Wide <= 40 {
			l := madeGoes(w, 200, i)
			list = append(list, asked{w, l[:1+i*7%200], l[0], i % 9}, asked{w, l, l[i], 200})
		}
	}
	return list
}

// Whatever is given, an answer is the one that the promises ask for.
func TestEachCallAnswers(t *testing.T) {
	for _, q := range questions() {
		if got, want := ask(q), wantTold(q); !same(got, want) {
			t.Errorf("of %v: %v, want %v", q, got, want)
		}
	}
}

// P2.

// roomy is q with room behind each of its lists that has something in it.
func roomy(q asked) asked {
	w := &q.w
	w.Field.Places = append(slices.Clone(w.Field.Places), 1, 2, 3)[:len(w.Field.Places)]
	w.Bases = append(slices.Clone(w.Bases), at(1, 2), at(3, 4))[:len(w.Bases)]
	w.Stocks = append(slices.Clone(w.Stocks), 5, 6)[:len(w.Stocks)]
	w.Mines = append(slices.Clone(w.Mines), 7, 8)[:len(w.Mines)]
	w.Troops = append(slices.Clone(w.Troops), soldier(9, 0, 0, 0), worker(8, 1, 1, 1))[:len(w.Troops)]
	q.l = append(slices.Clone(q.l), to(2, 0, 0), to(5, 2, 0))[:len(q.l)]
	return q
}

// whole is what a question holds, the room behind its lists included.
func whole(q asked) string {
	w := q.w
	return fmt.Sprint(w.Field, w.NextId, w.Now, w.Field.Places[:len(w.Field.Places)+3], w.Bases[:len(w.Bases)+2], w.Stocks[:len(w.Stocks)+2],
		w.Mines[:len(w.Mines)+2], w.Troops[:len(w.Troops)+2], q.l[:len(q.l)+2])
}

func TestQuestionsAreNotChanged(t *testing.T) {
	for _, q := range questions() {
		want := ask(q)
		q = roomy(q)
		old := whole(q)
		if got := ask(q); !same(got, want) {
			t.Fatalf("of %v: %v, with room behind the lists %v", q, want, got)
		}
		if whole(q) != old {
			t.Fatalf("of %v: left %s", q, whole(q))
		}
	}
}

// lists are those of an answer, the room behind each included.
func (r told) lists() []any {
	list := []any{r.moved[:cap(r.moved)]}
	for _, w := range []api.World{r.stepped, r.reached} {
		list = append(list, w.Field.Places[:cap(w.Field.Places)], w.Bases[:cap(w.Bases)],
			w.Stocks[:cap(w.Stocks)], w.Mines[:cap(w.Mines)], w.Troops[:cap(w.Troops)])
	}
	return list
}

// spoil puts each part of a list to another one.
func spoil(list any) {
	switch l := list.(type) {
	case []int:
		for i := range l {
			l[i] = ^l[i]
		}
	case []api.Cell:
		for i := range l {
			l[i].X = ^l[i].X
		}
	case []api.Troop:
		for i := range l {
			l[i].Id = ^l[i].Id
		}
	}
}

// Who changes a list of an answer, and the room behind it, changes no other
// list, no other answer and nothing that was handed in.
func TestAnswersAreNewMemory(t *testing.T) {
	for _, q := range questions() {
		q = roomy(q)
		old := whole(q)
		want, first, second := ask(q), ask(q), ask(q)
		for i, list := range first.lists() {
			was := fmt.Sprint(first.lists()[i+1:])
			spoil(list)
			if fmt.Sprint(first.lists()[i+1:]) != was {
				t.Fatalf("of %v: list %d, spoilt, spoils others", q, i)
			}
		}
		if whole(q) != old {
			t.Fatalf("of %v: spoilt %s", q, whole(q))
		}
		if third := ask(q); !same(second, want) || !same(third, want) {
			t.Fatalf("of %v: %v beside a spoilt answer, %v behind it, want %v", q, second, third, want)
		}
	}
}

func TestNothingIsKeptBetweenCalls(t *testing.T) {
	list := questions()
	answers := make([]told, len(list))
	for i, q := range list {
		answers[i] = ask(q)
	}
	for i := len(list) - 1; i >= 0; i-- {
		if got := ask(list[i]); !same(got, answers[i]) {
			t.Fatalf("of %v: first %v, then %v", list[i], answers[i], got)
		}
	}
}

// A world and goes that have become others in the same memory are read anew, and
// what was answered of them stays as it was.
func TestQuestionsAreNotKept(t *testing.T) {
	q := asked{small(), []api.Go{to(5, 2, 0), to(2, 0, 2), to(11, 0, 0)}, to(11, 0, 0), 3}
	first, want := ask(q), wantTold(q)
	for i := range 600 {
		q.w.Troops[i%5].Life = 1 + i%10
		q.w.Troops[i%5].Cell = at(i%5, i/5%3)
		q.w.Troops[4].Id = 12 + i%8
		q.w.Field.Places[i*7%15] = []int{0, 2, 0, 1}[i%4]
		q.w.Mines[i*7%15] = 0
		q.l[i%3] = to(q.w.Troops[i%5].Id, i*3%5, i/7%3)
		q.g, q.n = q.l[(i+1)%3], i%6
		if got, want := ask(q), wantTold(q); !same(got, want) {
			t.Fatalf("of %v: %v, want %v", q, got, want)
		}
	}
	if !same(first, want) {
		t.Errorf("of the world at first, later on: %v, want %v", first, want)
	}
}
