package troop

import (
	"fmt"
	"math"
	"slices"
	"strings"
	"testing"

	"musterfield/api"
	"musterfield/field"
	"musterfield/mark"
	"musterfield/pack"
	"musterfield/tree"
)

// read is the field of some rows.
func read(rows ...string) api.Field {
	f, err := field.Read(strings.Join(rows, "\n") + "\n")
	if err != api.OK {
		panic(fmt.Sprint(rows, " are no field"))
	}
	return f
}

func at(x, y int) api.Cell { return api.Cell{X: x, Y: y} }

func cellOf(f api.Field, i int) api.Cell { return at(i%f.Wide, i/f.Wide) }

// small is a world with something of all that a world has.
func small() api.World {
	return api.World{
		Field:  read("..o.#", ".#t.o", "....."),
		Bases:  []api.Cell{at(0, 0), at(4, 2), at(2, 1)},
		Stocks: []int{12, 0, 7},
		Mines:  []int{0, 0, 30, 0, 0, 0, 0, 0, 0, 4, 0, 0, 0, 0, 0},
		Troops: []api.Troop{
			{Id: 2, Owner: 0, Kind: api.KWorker, Cell: at(1, 0), Life: 10, Load: 3},
			{Id: 5, Owner: 1, Kind: api.KSoldier, Cell: at(4, 1), Life: 7},
			{Id: 6, Owner: 0, Kind: api.KSoldier, Cell: at(0, 0), Life: 20},
			{Id: 11, Owner: 2, Kind: api.KWorker, Cell: at(2, 2), Life: 1, Load: 5},
		},
		NextId: 14,
		Now:    3,
	}
}

// bare is the least world.
func bare() api.World {
	return api.World{Field: read("."), Mines: []int{0}, NextId: 1}
}

// full is a world in which each number is as great as it may be.
func full() api.World {
	w := api.World{
		Field:  api.Field{Wide: 40, High: 40, Places: slices.Repeat([]int{api.GOre}, 1600)},
		Stocks: slices.Repeat([]int{1000000}, 8),
		Mines:  slices.Repeat([]int{1000000}, 1600),
		NextId: 1000000,
		Now:    1000000,
	}
	for i := range 8 {
		w.Bases = append(w.Bases, at(39, 39-i))
	}
	for i := range 100 {
		t := api.Troop{Id: 999900 + i, Owner: i % 8, Kind: 1 + i%2, Cell: at(39-i%10, 39-i/10)}
		t.Life, t.Load = 10*t.Kind, 5*(2-t.Kind)
		w.Troops = append(w.Troops, t)
	}
	return w
}

// dice are numbers that another salt makes others.
type dice uint32

func (d *dice) below(n int) int {
	*d = *d*1664525 + 1013904223
	return int(*d>>8) % n
}

// made is a world of these sides; another salt makes another one.
func made(wide, high, salt int) api.World {
	d := dice(salt)
	w := api.World{Field: api.Field{Wide: wide, High: high}, NextId: 1, Now: d.below(1000001)}
	var open []api.Cell
	for i := range wide * high {
		place := []int{0, 0, 1, 2, 3, 3, 0}[d.below(7)]
		w.Field.Places = append(w.Field.Places, place)
		w.Mines = append(w.Mines, place/3*d.below(3)*d.below(500001))
		if place != api.GRock {
			open = append(open, cellOf(w.Field, i))
		}
	}
	for i := range open {
		k := d.below(i + 1)
		open[i], open[k] = open[k], open[i]
	}
	w.Bases = slices.Clone(open[:min(d.below(9), len(open))])
	for range w.Bases {
		w.Stocks = append(w.Stocks, d.below(1000001))
	}
	if len(w.Bases) > 0 {
		for _, c := range open[len(open)-min(d.below(101), len(open)):] {
			w.Troops = append(w.Troops, madeTroop(&d, w.NextId+d.below(3), len(w.Bases), c))
			w.NextId = w.Troops[len(w.Troops)-1].Id + 1 + d.below(2)
		}
	}
	return w
}

func madeTroop(d *dice, id, players int, c api.Cell) api.Troop {
	t := api.Troop{Id: id, Owner: d.below(players), Kind: 1 + d.below(2), Cell: c}
	t.Life, t.Load = 1+d.below(10*t.Kind), (2-t.Kind)*d.below(6)
	return t
}

// with is w, in memory of its own, changed.
func with(w api.World, change func(w *api.World)) api.World {
	w = Copy(w)
	change(&w)
	return w
}

// wild are numbers out of all bounds.
func wild() []int {
	return []int{-1, -2, -100, -1000001, 1000001, 1000002, -1 << 32, 1 << 32, 1<<32 + 1, 1<<32 + 5, 1 << 62, math.MinInt, math.MinInt + 1, math.MaxInt - 1, math.MaxInt}
}

// noReaches are numbers out of the bounds of a reach.
func noReaches() []int { return append(wild(), 13, 14, -12, -13, 40, 255, 256, 257) }

// noCells are cells that are in no field.
func noCells() []api.Cell {
	list := []api.Cell{at(40, 40), at(-1, -1), at(math.MaxInt, math.MinInt), at(math.MinInt, math.MaxInt), at(math.MinInt, math.MinInt), at(math.MaxInt, math.MaxInt)}
	for _, off := range append(wild(), -12, -13, 40, 41, 51, 52, 1000, 1001, -1000, -1001, 1600) {
		list = append(list, at(off, 0), at(0, off), at(off, off))
	}
	return list
}

// brief tells of a great world only how it begins.
func brief(w api.World) string {
	return fmt.Sprintf("%d x %d, %d places %d, bases %d, stocks %d, %d mines, %d troops %+v, next %d, now %d", w.Field.Wide, w.Field.High,
		len(w.Field.Places), w.Field.Places[:min(15, len(w.Field.Places))], w.Bases[:min(9, len(w.Bases))], w.Stocks[:min(9, len(w.Stocks))],
		len(w.Mines), len(w.Troops), w.Troops[:min(4, len(w.Troops))], w.NextId, w.Now)
}

// What the promises ask for, word by word.

func isFrom(low, n, high int) bool { return low <= n && n <= high }

// isGround looks for c among all places of the field that are no rock.
func isGround(f api.Field, c api.Cell) bool {
	for i, place := range f.Places {
		if cellOf(f, i) == c {
			return place == api.GPlain || place == api.GWood || place == api.GOre
		}
	}
	return false
}

func wantCheck(w api.World) api.Errno {
	if err := field.Check(w.Field); err != api.OK {
		return err
	}
	if len(w.Bases) > 8 {
		return api.ErrLarge
	}
	if len(w.Troops) > 100 {
		return api.ErrLarge
	}
	ok := len(w.Stocks) == len(w.Bases) && len(w.Mines) == w.Field.Wide*w.Field.High && isFrom(1, w.NextId, 1000000) && isFrom(0, w.Now, 1000000)
	for i, base := range w.Bases {
		ok = ok && isGround(w.Field, base)
		for k, other := range w.Bases {
			ok = ok && (i == k || base != other)
		}
	}
	for _, stock := range w.Stocks {
		ok = ok && isFrom(0, stock, 1000000)
	}
	for i, mine := range w.Mines {
		ok = ok && isFrom(0, mine, 1000000) && (mine == 0 || w.Field.Places[i] == api.GOre)
	}
	for i, t := range w.Troops {
		ok = ok && wantTroop(w, t) && (i == 0 || t.Id > w.Troops[i-1].Id)
		for k, other := range w.Troops {
			ok = ok && (i == k || t.Cell != other.Cell)
		}
	}
	if !ok {
		return api.ErrForm
	}
	return api.OK
}

func wantTroop(w api.World, t api.Troop) bool {
	ok := t.Id >= 1 && t.Id < w.NextId && isFrom(0, t.Owner, len(w.Bases)-1) && isGround(w.Field, t.Cell)
	switch t.Kind {
	case 1:
		return ok && isFrom(1, t.Life, 10) && isFrom(0, t.Load, 5)
	case 2:
		return ok && isFrom(1, t.Life, 20) && t.Load == 0
	}
	return false
}

func wantFind(w api.World, id int) (int, bool, api.Errno) {
	if err := wantCheck(w); err != api.OK {
		return 0, false, err
	}
	for i := len(w.Troops) - 1; i >= 0; i-- {
		if w.Troops[i].Id == id {
			return i, true, api.OK
		}
	}
	return 0, false, api.OK
}

func wantOn(w api.World, c api.Cell) (int, bool, api.Errno) {
	if err := wantCheck(w); err != api.OK {
		return 0, false, err
	}
	for i := len(w.Troops) - 1; i >= 0; i-- {
		if w.Troops[i].Cell.X == c.X && w.Troops[i].Cell.Y == c.Y {
			return i, true, api.OK
		}
	}
	return 0, false, api.OK
}

// wantNear goes step by step of a king from each troop, so that no number comes
// to be too great.
func wantNear(w api.World, c api.Cell, reach int) ([]int, api.Errno) {
	if err := wantCheck(w); err != api.OK {
		return nil, err
	}
	if !slices.Contains([]int{0, 1, 2, 3, 4, 5, 6, 7, 8, 9, 10, 11, 12}, reach) {
		return nil, api.ErrArg
	}
	var ids []int
	for _, t := range w.Troops {
		own := t.Cell
		for range reach {
			own = at(own.X+towards(own.X, c.X), own.Y+towards(own.Y, c.Y))
		}
		if own == c {
			ids = append(ids, t.Id)
		}
	}
	slices.Sort(ids)
	return ids, api.OK
}

func towards(from, to int) int {
	if from < to {
		return 1
	}
	if from > to {
		return -1
	}
	return 0
}

// wantMark turns by one text at a time, the last troop first.
func wantMark(w api.World) (uint64, api.Errno) {
	if err := wantCheck(w); err != api.OK {
		return 0, err
	}
	var m uint64
	turn := func(l []int) {
		text, err := pack.PutAll(l)
		if err != api.OK {
			text = ""
		}
		m ^= mark.Mix(tree.Leaf(text))
	}
	for i := len(w.Troops) - 1; i >= 0; i-- {
		t := w.Troops[i]
		turn([]int{4, t.Id, t.Owner, t.Kind, t.Cell.X, t.Cell.Y, t.Life, t.Load})
	}
	for i, mine := range w.Mines {
		if mine > 0 {
			turn([]int{3, i, mine})
		}
	}
	for i := range w.Stocks {
		turn([]int{2, i, w.Bases[i].X, w.Bases[i].Y, w.Stocks[i]})
	}
	turn(slices.Concat([]int{1, w.Field.Wide, w.Field.High, w.NextId, w.Now}, w.Field.Places))
	return m, api.OK
}

// P12.1.

func TestKind(t *testing.T) {
	for k, want := range map[int]api.Kind{
		api.KWorker:  {Life: 10, Reach: 1, Harm: 1, Price: 5},
		api.KSoldier: {Life: 20, Reach: 2, Harm: 4, Price: 12},
	} {
		if got, err := Kind(k); got != want || err != api.OK {
			t.Errorf("Kind(%d) = %v, %d, want %v, 0", k, got, err, want)
		}
	}
}

func TestKindOfNone(t *testing.T) {
	for _, k := range append(wild(), 0, 3, 4, 5, 257, 258, 1<<32+2, -1<<32+1, math.MinInt+2) {
		if got, err := Kind(k); got != (api.Kind{}) || err != api.ErrArg {
			t.Errorf("Kind(%d) = %v, %d, want none, 1", k, got, err)
		}
	}
}

// P12.2.

func checkCheck(t *testing.T, w api.World, want api.Errno) {
	t.Helper()
	if got := Check(w); got != want {
		t.Errorf("Check of %s = %d, want %d", brief(w), got, want)
	}
	if got := wantCheck(w); got != want {
		t.Errorf("of %s the test's own Check = %d, want %d", brief(w), got, want)
	}
}

func TestCheck(t *testing.T) {
	checkCheck(t, bare(), api.OK)
	checkCheck(t, small(), api.OK)
	checkCheck(t, full(), api.OK)
	for salt := range 300 {
		checkCheck(t, made(1+salt*7%40, 1+salt*11%40, salt), api.OK)
	}
}

// edge is a number of a world that may be from low to high.
type edge struct {
	name      string
	put       func(w *api.World, n int)
	low, high int
}

func edges() []edge {
	return []edge{
		{"first stock", func(w *api.World, n int) { w.Stocks[0] = n }, 0, 1000000},
		{"last stock", func(w *api.World, n int) { w.Stocks[2] = n }, 0, 1000000},
		{"first mine of ore", func(w *api.World, n int) { w.Mines[2] = n }, 0, 1000000},
		{"last mine of ore", func(w *api.World, n int) { w.Mines[9] = n }, 0, 1000000},
		{"mine of a plain", func(w *api.World, n int) { w.Mines[0] = n }, 0, 0},
		{"mine of the last plain", func(w *api.World, n int) { w.Mines[14] = n }, 0, 0},
		{"mine of a rock", func(w *api.World, n int) { w.Mines[4] = n }, 0, 0},
		{"mine of a wood", func(w *api.World, n int) { w.Mines[7] = n }, 0, 0},
		{"first Id", func(w *api.World, n int) { w.Troops[0].Id = n }, 1, 4},
		{"second Id", func(w *api.World, n int) { w.Troops[1].Id = n }, 3, 5},
		{"third Id", func(w *api.World, n int) { w.Troops[2].Id = n }, 6, 10},
		{"last Id", func(w *api.World, n int) { w.Troops[3].Id = n }, 7, 13},
		{"first Owner", func(w *api.World, n int) { w.Troops[0].Owner = n }, 0, 2},
		{"last Owner", func(w *api.World, n int) { w.Troops[3].Owner = n }, 0, 2},
		{"a worker's Life", func(w *api.World, n int) { w.Troops[0].Life = n }, 1, 10},
		{"the last worker's Life", func(w *api.World, n int) { w.Troops[3].Life = n }, 1, 10},
		{"a soldier's Life", func(w *api.World, n int) { w.Troops[1].Life = n }, 1, 20},
		{"a worker's Load", func(w *api.World, n int) { w.Troops[0].Load = n }, 0, 5},
		{"the last worker's Load", func(w *api.World, n int) { w.Troops[3].Load = n }, 0, 5},
		{"a soldier's Load", func(w *api.World, n int) { w.Troops[1].Load = n }, 0, 0},
		{"the other soldier's Load", func(w *api.World, n int) { w.Troops[2].Load = n }, 0, 0},
		{"the Kind of one with a Load", func(w *api.World, n int) { w.Troops[0].Kind = n }, 1, 1},
		{"the Kind of one with no Load", func(w *api.World, n int) { w.Troops[1].Kind = n }, 1, 2},
		{"the Kind of one with a great Life", func(w *api.World, n int) { w.Troops[2].Kind = n }, 2, 2},
		{"NextId", func(w *api.World, n int) { w.NextId = n }, 12, 1000000},
		{"NextId of no troop", func(w *api.World, n int) { w.NextId, w.Troops = n, nil }, 1, 1000000},
		{"Now", func(w *api.World, n int) { w.Now = n }, 0, 1000000},
	}
}

// Each number is tried at its bounds, within them, and beyond them, however far.
func TestCheckOfEachNumber(t *testing.T) {
	for _, e := range edges() {
		for _, n := range append(wild(), 0, 1, 2, 3, 6, 8, 11, 21, 255, 256, 257, 1<<32+2, 1<<32+12, 999999, 1000000, e.low, e.low-1, e.low+1, e.high-1, e.high, e.high+1) {
			w := with(small(), func(w *api.World) { e.put(w, n) })
			want := api.ErrForm
			if isFrom(e.low, n, e.high) {
				want = api.OK
			}
			if got := Check(w); got != want || wantCheck(w) != want {
				t.Errorf("%s, %d: Check = %d, want %d", e.name, n, got, want)
			}
		}
	}
}

func TestCheckOfNoField(t *testing.T) {
	for _, f := range wrongFields() {
		want := field.Check(f)
		checkCheck(t, with(small(), func(w *api.World) { w.Field = f }), want)
		checkCheck(t, api.World{Field: f}, want)
		// It is told ahead of all else.
		checkCheck(t, with(full(), func(w *api.World) { w.Field, w.Bases = f, make([]api.Cell, 9) }), want)
		checkCheck(t, with(full(), func(w *api.World) { w.Field, w.Troops = f, make([]api.Troop, 101) }), want)
	}
	checkCheck(t, api.World{}, api.ErrArg)
}

// wrongFields are some that field.Check refuses, of either error and of both.
func wrongFields() []api.Field {
	list := []api.Field{
		{}, {Wide: 1, High: 1}, {Wide: 40, High: 40}, {Places: []int{0}}, {Wide: -2, High: -3, Places: make([]int, 6)},
		{Wide: 41, High: 1, Places: make([]int, 41)}, {Wide: 1, High: 41, Places: make([]int, 41)}, {Wide: 1 << 32, High: 1 << 32},
		{Wide: math.MinInt, High: math.MaxInt, Places: []int{4}}, {Wide: 5, High: 3, Places: make([]int, 14)}, {Wide: 5, High: 3, Places: make([]int, 16)},
	}
	for _, wrong := range []int{-1, 4, 256, 1<<32 + 3, math.MinInt, math.MaxInt} {
		f := api.Field{Wide: 5, High: 3, Places: make([]int, 15)}
		f.Places[wrong&7] = wrong
		list = append(list, f)
	}
	return list
}

// One more than there may be is told ahead of what else is wrong.
func TestCheckOfTooMany(t *testing.T) {
	for _, n := range []int{9, 10, 16, 256, 257, 1000} {
		checkCheck(t, with(full(), func(w *api.World) { w.Bases = make([]api.Cell, n) }), api.ErrLarge)
		checkCheck(t, with(bare(), func(w *api.World) { w.Bases = make([]api.Cell, n) }), api.ErrLarge)
	}
	for _, n := range []int{101, 102, 200, 256, 257, 1000} {
		checkCheck(t, with(full(), func(w *api.World) { w.Troops = make([]api.Troop, n) }), api.ErrLarge)
		checkCheck(t, with(bare(), func(w *api.World) { w.Troops = make([]api.Troop, n) }), api.ErrLarge)
	}
	ninth := with(full(), func(w *api.World) {
		w.Bases, w.Stocks = append(w.Bases, at(0, 0)), append(w.Stocks, 0)
	})
	checkCheck(t, ninth, api.ErrLarge)
	more := with(full(), func(w *api.World) {
		w.Troops = slices.Insert(w.Troops, 0, api.Troop{Id: 1, Kind: api.KWorker, Cell: at(0, 0), Life: 1})
	})
	checkCheck(t, more, api.ErrLarge)
	checkCheck(t, with(more, func(w *api.World) { w.Troops = w.Troops[:100] }), api.OK)
	checkCheck(t, with(ninth, func(w *api.World) { w.Stocks, w.Now = nil, -1 }), api.ErrLarge)
	checkCheck(t, with(more, func(w *api.World) { w.Mines, w.NextId = nil, -1 }), api.ErrLarge)
}

func TestCheckOfCounts(t *testing.T) {
	for _, w := range []api.World{small(), full()} {
		for _, n := range []int{0, 1, len(w.Stocks) - 1, len(w.Stocks) + 1, 9, 100, 1600} {
			checkCheck(t, with(w, func(w *api.World) { w.Stocks = make([]int, n) }), api.ErrForm)
		}
		for _, n := range []int{0, 1, w.Field.Wide, len(w.Mines) - 1, len(w.Mines) + 1, 2 * len(w.Mines)} {
			checkCheck(t, with(w, func(w *api.World) { w.Mines = make([]int, n) }), api.ErrForm)
		}
	}
	checkCheck(t, with(bare(), func(w *api.World) { w.Stocks = []int{0} }), api.ErrForm)
	checkCheck(t, with(bare(), func(w *api.World) { w.Bases = []api.Cell{{}} }), api.ErrForm)
	checkCheck(t, with(bare(), func(w *api.World) { w.Bases, w.Stocks = []api.Cell{{}}, []int{0} }), api.OK)
	checkCheck(t, with(bare(), func(w *api.World) { w.Mines = nil }), api.ErrForm)
	// Lists that have nothing in them are the same as none.
	checkCheck(t, with(bare(), func(w *api.World) { w.Bases, w.Stocks, w.Troops = []api.Cell{}, []int{}, []api.Troop{} }), api.OK)
}

// Where a base or a troop is put: on each cell of the field, and on none.
func TestCheckOfCells(t *testing.T) {
	f := small().Field
	cells := append(noCells(), at(5, 0), at(0, 3), at(5, 3), at(-1, 1), at(5, 1), at(-5, 1), at(10, -1), at(-4, 1), at(9, 0), at(14, 0))
	for i := range f.Places {
		cells = append(cells, cellOf(f, i))
	}
	for _, c := range cells {
		for i, base := range small().Bases {
			w := with(small(), func(w *api.World) { w.Bases[i] = c })
			want := api.ErrForm
			if c == base || isGround(f, c) && !slices.Contains(small().Bases, c) {
				want = api.OK
			}
			checkCheck(t, w, want)
		}
		for i, own := range small().Troops {
			w := with(small(), func(w *api.World) { w.Troops[i].Cell = c })
			want := api.ErrForm
			if c == own.Cell || isGround(f, c) && !slices.ContainsFunc(small().Troops, func(t api.Troop) bool { return t.Cell == c }) {
				want = api.OK
			}
			checkCheck(t, w, want)
		}
	}
}

// Any sort of place that is no rock is stood on, and a base is.
func TestCheckOfEachSort(t *testing.T) {
	for place := range 4 {
		w := bare()
		w.Field.Places = []int{place}
		checkCheck(t, w, api.OK)
		want := api.OK
		if place == api.GRock {
			want = api.ErrForm
		}
		w.Bases, w.Stocks = []api.Cell{{}}, []int{0}
		checkCheck(t, w, want)
		w.Troops, w.NextId = []api.Troop{{Id: 1, Kind: api.KSoldier, Life: 20}}, 2
		checkCheck(t, w, want)
	}
}

// Of no player there is no troop.
func TestCheckOfNoPlayer(t *testing.T) {
	w := bare()
	w.Troops, w.NextId = []api.Troop{{Id: 1, Kind: api.KWorker, Life: 1}}, 2
	checkCheck(t, w, api.ErrForm)
	w.Bases, w.Stocks = []api.Cell{{}}, []int{0}
	checkCheck(t, w, api.OK)
}

func TestCheckOfOrder(t *testing.T) {
	checkCheck(t, with(small(), func(w *api.World) { slices.Reverse(w.Troops) }), api.ErrForm)
	for i := range 3 {
		checkCheck(t, with(small(), func(w *api.World) { w.Troops[i], w.Troops[i+1] = w.Troops[i+1], w.Troops[i] }), api.ErrForm)
		checkCheck(t, with(small(), func(w *api.World) { w.Troops[i].Id = w.Troops[i+1].Id }), api.ErrForm)
		checkCheck(t, with(small(), func(w *api.World) { w.Troops[i+1].Id = w.Troops[i].Id }), api.ErrForm)
	}
	checkCheck(t, with(full(), func(w *api.World) { w.Troops[99].Cell = w.Troops[0].Cell }), api.ErrForm)
	checkCheck(t, with(full(), func(w *api.World) { w.Bases[7] = w.Bases[0] }), api.ErrForm)
}

// spoilt is w with one number of it, of any list, put to another one.
func spoilt(w api.World, d *dice) api.World {
	n := append(wild(), 0, 1, 2, 3, 5, 6, 10, 11, 20, 39, 40, 1000000)[d.below(27)]
	return with(w, func(w *api.World) {
		switch d.below(8) {
		case 0:
			w.NextId = n
		case 1:
			w.Now = n
		case 2:
			w.Field.Places[d.below(len(w.Field.Places))] = n
		case 3:
			w.Mines[d.below(len(w.Mines))] = n
		case 4:
			w.Stocks[d.below(len(w.Stocks))] = n
		case 5:
			base := &w.Bases[d.below(len(w.Bases))]
			*[]*int{&base.X, &base.Y}[d.below(2)] = n
		default:
			one := &w.Troops[d.below(len(w.Troops))]
			*[]*int{&one.Id, &one.Owner, &one.Kind, &one.Cell.X, &one.Cell.Y, &one.Life, &one.Load}[d.below(7)] = n
		}
	})
}

// spoiltWorlds are some of which a part is right and a part wrong.
func spoiltWorlds(n int) []api.World {
	var list []api.World
	d := dice(7)
	for salt := 0; len(list) < n; salt++ {
		w := made(1+salt*7%12, 1+salt*11%13, salt)
		if len(w.Bases) > 0 && len(w.Troops) > 0 {
			list = append(list, spoilt(w, &d))
		}
	}
	return list
}

func TestCheckOfSpoiltWorlds(t *testing.T) {
	told := map[api.Errno]int{}
	for _, w := range spoiltWorlds(3000) {
		want := wantCheck(w)
		told[want]++
		checkCheck(t, w, want)
	}
	if told[api.OK] < 100 || told[api.ErrForm] < 100 {
		t.Errorf("the worlds are not mixed: %d", told)
	}
}

// P12.3.

func checkFind(t *testing.T, w api.World, id, want int, wantOk bool, wantErr api.Errno) {
	t.Helper()
	if got, ok, err := Find(w, id); got != want || ok != wantOk || err != wantErr {
		t.Errorf("Find of %s, %d = %d, %t, %d, want %d, %t, %d", brief(w), id, got, ok, err, want, wantOk, wantErr)
	}
}

func checkOn(t *testing.T, w api.World, c api.Cell, want int, wantOk bool, wantErr api.Errno) {
	t.Helper()
	if got, ok, err := On(w, c); got != want || ok != wantOk || err != wantErr {
		t.Errorf("On of %s, %d = %d, %t, %d, want %d, %t, %d", brief(w), c, got, ok, err, want, wantOk, wantErr)
	}
}

func checkNear(t *testing.T, w api.World, c api.Cell, reach int, want ...int) {
	t.Helper()
	if got, err := Near(w, c, reach); !slices.Equal(got, want) || err != api.OK {
		t.Errorf("Near of %s, %d up to %d = %d, %d, want %d, 0", brief(w), c, reach, got, err, want)
	}
}

// checkNearError has the list be nil, also where an empty one would look the same.
func checkNearError(t *testing.T, w api.World, c api.Cell, reach int, want api.Errno) {
	t.Helper()
	if got, err := Near(w, c, reach); got != nil || err != want {
		t.Errorf("Near of %s, %d up to %d = %d, %d, want no list, %d", brief(w), c, reach, got, err, want)
	}
}

func TestFind(t *testing.T) {
	w := small()
	for i, id := range []int{2, 5, 6, 11} {
		checkFind(t, w, id, i, true, api.OK)
	}
	for _, id := range append(wild(), 0, 1, 3, 4, 7, 10, 12, 13, 14, 1<<32+2, 258) {
		checkFind(t, w, id, 0, false, api.OK)
		checkFind(t, bare(), id, 0, false, api.OK)
	}
	for i := range 100 {
		checkFind(t, full(), 999900+i, i, true, api.OK)
	}
	checkFind(t, full(), 1000000, 0, false, api.OK)
	checkFind(t, full(), 999899, 0, false, api.OK)
}

func TestOn(t *testing.T) {
	w := small()
	for i, c := range []api.Cell{at(1, 0), at(4, 1), at(0, 0), at(2, 2)} {
		checkOn(t, w, c, i, true, api.OK)
	}
	// The rock, a base, what is in the same row or column, and what is no cell.
	for _, c := range append(noCells(), at(1, 1), at(4, 2), at(2, 0), at(1, 2), at(0, 1), at(5, 0), at(-1, 1), at(9, 0), at(-3, 3)) {
		checkOn(t, w, c, 0, false, api.OK)
		checkOn(t, bare(), c, 0, false, api.OK)
	}
	for i, one := range full().Troops {
		checkOn(t, full(), one.Cell, i, true, api.OK)
	}
}

func TestNear(t *testing.T) {
	w := small()
	checkNear(t, w, at(1, 0), 0, 2)
	checkNear(t, w, at(1, 1), 0)
	// A king goes across corners, and rocks are not in its way.
	checkNear(t, w, at(1, 1), 1, 2, 6, 11)
	checkNear(t, w, at(3, 1), 1, 5, 11)
	checkNear(t, w, at(2, 1), 2, 2, 5, 6, 11)
	checkNear(t, w, at(0, 0), 1, 2, 6)
	checkNear(t, w, at(4, 2), 1, 5)
	checkNear(t, w, at(4, 2), 2, 5, 11)
	checkNear(t, w, at(4, 2), 3, 2, 5, 11)
	checkNear(t, w, at(4, 2), 4, 2, 5, 6, 11)
	checkNear(t, bare(), at(0, 0), 12)
}

// The cell may be out of the field, on each side of it.
func TestNearOfNoCell(t *testing.T) {
	w := small()
	checkNear(t, w, at(-1, -1), 1, 6)
	checkNear(t, w, at(-1, -1), 2, 2, 6)
	checkNear(t, w, at(5, 1), 1, 5)
	checkNear(t, w, at(2, 3), 1, 11)
	checkNear(t, w, at(-12, 0), 12, 6)
	checkNear(t, w, at(-13, 0), 12)
	checkNear(t, w, at(0, -12), 12, 2, 6)
	checkNear(t, w, at(0, -13), 12)
	checkNear(t, w, at(16, 0), 12, 5)
	checkNear(t, w, at(17, 0), 12)
	checkNear(t, w, at(0, 14), 12, 11)
	checkNear(t, w, at(0, 15), 12)
	checkNear(t, full(), at(51, 51), 12, 999900)
	checkNear(t, full(), at(51, 52), 12)
	for _, off := range append(wild(), 1000, 1001, -1000, -1001) {
		if off == -1 || off == -2 {
			continue
		}
		for _, c := range []api.Cell{at(off, 0), at(0, off), at(off, off), at(off, -12), at(-12, off)} {
			checkNear(t, w, c, 0)
			checkNear(t, w, c, 12)
			checkNear(t, full(), c, 12)
		}
	}
}

func TestNearTooFar(t *testing.T) {
	for _, reach := range noReaches() {
		for _, w := range []api.World{bare(), small(), full()} {
			checkNearError(t, w, at(0, 0), reach, api.ErrArg)
			checkNearError(t, w, at(math.MinInt, math.MaxInt), reach, api.ErrArg)
		}
	}
}

// What is wrong with a world is told ahead of all else.
func TestFindOnNearOfNoWorld(t *testing.T) {
	for _, w := range wrongWorlds() {
		want := wantCheck(w)
		if want == api.OK {
			t.Fatalf("nothing is wrong with %s", brief(w))
		}
		for _, n := range append(noReaches(), 0, 1, 2, 5, 12) {
			checkFind(t, w, n, 0, false, want)
			checkNearError(t, w, at(1, 0), n, want)
			checkNearError(t, w, at(math.MaxInt, 0), n, want)
		}
		for _, c := range append(noCells(), at(0, 0), at(1, 0), at(4, 1)) {
			checkOn(t, w, c, 0, false, want)
		}
	}
}

// wrongWorlds are some of each error that Check tells.
func wrongWorlds() []api.World {
	list := []api.World{
		{}, {Field: read(".")}, {Field: read("."), Mines: []int{0}}, {Field: read("."), NextId: 1},
		with(full(), func(w *api.World) { w.Bases = append(w.Bases, at(0, 0)) }),
		with(full(), func(w *api.World) { w.Troops = append(w.Troops, api.Troop{}) }),
		with(small(), func(w *api.World) { w.Stocks = w.Stocks[:2] }),
		with(small(), func(w *api.World) { w.Mines = append(w.Mines, 0) }),
		with(small(), func(w *api.World) { w.Troops[3].Cell = at(1, 0) }),
		with(small(), func(w *api.World) { w.Troops[1].Id = 2 }),
		with(small(), func(w *api.World) { w.Bases[0] = w.Bases[2] }),
	}
	for _, f := range wrongFields() {
		list = append(list, with(small(), func(w *api.World) { w.Field = f }))
	}
	for _, e := range edges() {
		for _, n := range []int{e.low - 1, e.high + 1, math.MinInt, math.MaxInt} {
			list = append(list, with(small(), func(w *api.World) { e.put(w, n) }))
		}
	}
	return list
}

func TestFindOnNearOfManyWorlds(t *testing.T) {
	for salt := range 200 {
		w := made(1+salt*7%40, 1+salt*11%40, salt)
		for id := range w.NextId + 2 {
			want, ok, err := wantFind(w, id)
			checkFind(t, w, id, want, ok, err)
		}
		for k := range 40 {
			c := at(k*13%(w.Field.Wide+26)-13, k*salt%(w.Field.High+26)-13)
			want, ok, err := wantOn(w, c)
			checkOn(t, w, c, want, ok, err)
			ids, _ := wantNear(w, c, k%13)
			checkNear(t, w, c, k%13, ids...)
		}
	}
}

// P12.4.

func checkMark(t *testing.T, w api.World, want uint64, wantErr api.Errno) {
	t.Helper()
	if got, err := Mark(w); got != want || err != wantErr {
		t.Errorf("Mark of %s = %d, %d, want %d, %d", brief(w), got, err, want, wantErr)
	}
}

// leafOf is Leaf of a text whose bytes are written out.
func leafOf(text ...byte) uint64 { return tree.Leaf(string(text)) }

// Texts byte by byte: how many numbers there are, and twice each of them.
func TestMark(t *testing.T) {
	checkMark(t, bare(), mark.Of([]uint64{leafOf(6, 2, 2, 2, 2, 0, 0)}), api.OK)
	w := small()
	want := mark.Of([]uint64{
		leafOf(20, 2, 10, 6, 28, 6, 0, 0, 6, 0, 2, 0, 2, 4, 0, 6, 0, 0, 0, 0, 0),
		leafOf(5, 4, 0, 0, 0, 24), leafOf(5, 4, 2, 8, 4, 0), leafOf(5, 4, 4, 4, 2, 14),
		leafOf(3, 6, 4, 60), leafOf(3, 6, 18, 8),
		leafOf(8, 8, 4, 0, 2, 2, 0, 20, 6), leafOf(8, 8, 10, 2, 4, 8, 2, 14, 0),
		leafOf(8, 8, 12, 0, 4, 0, 0, 40, 0), leafOf(8, 8, 22, 4, 2, 4, 4, 2, 10),
	})
	checkMark(t, w, want, api.OK)
	// A mine of 0 brings nothing, a player with a stock of 0 does.
	w.Mines[9] = 0
	checkMark(t, w, mark.Turn(want, leafOf(3, 6, 18, 8)), api.OK)
}

func TestMarkOfManyWorlds(t *testing.T) {
	worlds := []api.World{bare(), small(), full()}
	for salt := range 300 {
		worlds = append(worlds, made(1+salt*7%40, 1+salt*11%40, salt))
	}
	for _, w := range worlds {
		want, err := wantMark(w)
		checkMark(t, w, want, err)
	}
}

// Of more than 995 places the field's text is the empty one: what it would tell
// is not told, but what stands on it is.
func TestMarkOfGreatFields(t *testing.T) {
	for _, sides := range [][2]int{{40, 24}, {31, 32}, {34, 29}, {29, 34}, {40, 25}, {25, 40}, {37, 27}, {40, 40}} {
		w := api.World{Field: api.Field{Wide: sides[0], High: sides[1]}, NextId: 1, Bases: []api.Cell{{}}, Stocks: []int{9}}
		n := sides[0] * sides[1]
		w.Field.Places, w.Mines = make([]int, n), make([]int, n)
		w.Field.Places[n-1], w.Mines[n-1] = api.GOre, 8
		want, _ := wantMark(w)
		checkMark(t, w, want, api.OK)
		empty := mark.Of([]uint64{tree.Leaf(""), leafOf(5, 4, 0, 0, 0, 18), tree.Leaf("\x03\x06" + pack.Put(uint64(2*n-2)) + "\x10")})
		if got, _ := Mark(w); (got == empty) != (n > 995) {
			t.Errorf("Mark of %d places = %d, of the empty text %d", n, got, empty)
		}
		other, _ := Mark(with(w, func(w *api.World) { w.Now, w.NextId, w.Field.Places[5] = 7, 3, api.GWood }))
		if (other == want) != (n > 995) {
			t.Errorf("Mark of %d places = %d, of others %d", n, want, other)
		}
	}
}

// Whatever number changes, the mark does.
func TestMarkOfEachNumber(t *testing.T) {
	was, _ := Mark(small())
	marks := map[uint64]string{was: "nothing"}
	for _, e := range edges() {
		for n := e.low; n <= min(e.high, e.low+20); n++ {
			w := with(small(), func(w *api.World) { e.put(w, n) })
			m, err := Mark(w)
			if err != api.OK {
				t.Errorf("%s, %d: %d", e.name, n, err)
			}
			if same := brief(w) == brief(small()) && slices.Equal(w.Mines, small().Mines); same != (m == was) {
				t.Errorf("%s, %d: Mark = %d, was %d", e.name, n, m, was)
			} else if other, ok := marks[m]; ok && !same {
				t.Errorf("%s, %d: Mark = %d, as of %s", e.name, n, m, other)
			}
			marks[m] = fmt.Sprint(e.name, ", ", n)
		}
	}
}

func TestMarkOfNoWorld(t *testing.T) {
	for _, w := range wrongWorlds() {
		checkMark(t, w, 0, wantCheck(w))
	}
}

// P1.

// asked is what all calls are given; told is what they answer.
type asked struct {
	w     api.World
	n     int
	c     api.Cell
	reach int
}

type told struct {
	kind               api.Kind
	find, on           int
	findOk, onOk       bool
	near               []int
	mark               uint64
	kindErr, checkErr  api.Errno
	findErr, onErr     api.Errno
	nearErr, markError api.Errno
}

func ask(q asked) (r told) {
	r.kind, r.kindErr = Kind(q.n)
	r.checkErr = Check(q.w)
	r.find, r.findOk, r.findErr = Find(q.w, q.n)
	r.on, r.onOk, r.onErr = On(q.w, q.c)
	r.near, r.nearErr = Near(q.w, q.c, q.reach)
	r.mark, r.markError = Mark(q.w)
	return r
}

// wantTold is what the promises ask for.
func wantTold(q asked) (r told) {
	r.kindErr = api.ErrArg
	switch q.n {
	case 1:
		r.kind, r.kindErr = api.Kind{Life: 10, Reach: 1, Harm: 1, Price: 5}, api.OK
	case 2:
		r.kind, r.kindErr = api.Kind{Life: 20, Reach: 2, Harm: 4, Price: 12}, api.OK
	}
	r.checkErr = wantCheck(q.w)
	r.find, r.findOk, r.findErr = wantFind(q.w, q.n)
	r.on, r.onOk, r.onErr = wantOn(q.w, q.c)
	r.near, r.nearErr = wantNear(q.w, q.c, q.reach)
	r.mark, r.markError = wantMark(q.w)
	return r
}

func same(a, b told) bool {
	near := slices.Equal(a.near, b.near)
	a.near, b.near = nil, nil
	return near && fmt.Sprint(a) == fmt.Sprint(b)
}

func (q asked) String() string {
	return fmt.Sprintf("%s; %d, %d, up to %d", brief(q.w), q.n, q.c, q.reach)
}

func questions() []asked {
	worlds := append(wrongWorlds(), bare(), small(), full())
	worlds = append(worlds, spoiltWorlds(60)...)
	for salt := range 40 {
		worlds = append(worlds, made(1+salt*7%40, 1+salt*11%40, salt+1000))
	}
	numbers := append(wild(), 0, 1, 2, 3, 5, 6, 11, 999900, 999999)
	cells := append(noCells(), at(0, 0), at(1, 0), at(4, 1), at(2, 2), at(6, 30), at(39, 39), at(30, 30))
	reaches := append(noReaches(), 0, 1, 2, 5, 11, 12)
	var list []asked
	for i, w := range worlds {
		for k := range 6 {
			list = append(list, asked{w, numbers[(i+k*5)%len(numbers)], cells[(i*5+k*7)%len(cells)], reaches[(i+k*3)%len(reaches)]})
		}
		for _, t := range w.Troops[:min(2, len(w.Troops))] {
			list = append(list, asked{w, t.Id, t.Cell, i % 13})
		}
	}
	return list
}

// Whatever is given, an answer is the one that the promises ask for.
func TestEachCallAnswers(t *testing.T) {
	for _, q := range questions() {
		if got, want := ask(q), wantTold(q); !same(got, want) {
			t.Errorf("of %v: %v, want %v", q, got, want)
		}
	}
}

// P2.

// roomy is q with room behind each of its lists that has something in it.
func roomy(q asked) asked {
	w := &q.w
	w.Field.Places = append(slices.Clone(w.Field.Places), 1, 2, 3)[:len(w.Field.Places)]
	w.Bases = append(slices.Clone(w.Bases), at(1, 2), at(3, 4))[:len(w.Bases)]
	w.Stocks = append(slices.Clone(w.Stocks), 5, 6)[:len(w.Stocks)]
	w.Mines = append(slices.Clone(w.Mines), 7, 8)[:len(w.Mines)]
	w.Troops = append(slices.Clone(w.Troops), api.Troop{Id: 9}, api.Troop{Life: 8})[:len(w.Troops)]
	return q
}

// whole is what a question's lists hold, the room behind them included.
func whole(q asked) string {
	w := q.w
	return fmt.Sprint(w.Field.Places[:len(w.Field.Places)+3], w.Bases[:len(w.Bases)+2], w.Stocks[:len(w.Stocks)+2], w.Mines[:len(w.Mines)+2], w.Troops[:len(w.Troops)+2])
}

func TestWorldsAreNotChanged(t *testing.T) {
	for _, q := range questions() {
		want := ask(q)
		q = roomy(q)
		old := whole(q)
		if got := ask(q); !same(got, want) {
			t.Fatalf("of %v: %v, with room behind the lists %v", q, want, got)
		}
		if whole(q) != old {
			t.Fatalf("of %v: left %s", q, whole(q))
		}
	}
}

// spoil puts each number of a list, and of the room behind it, to another one.
func spoil(l []int) {
	l = l[:cap(l)]
	for i := range l {
		l[i] = ^l[i]
	}
}

// Who changes an answer, and the room behind it, changes no other answer and
// nothing that was handed in.
func TestAnswersAreNewMemory(t *testing.T) {
	for _, q := range questions() {
		q = roomy(q)
		old := whole(q)
		want, first, second := wantTold(q), ask(q), ask(q)
		spoil(first.near)
		if whole(q) != old {
			t.Fatalf("of %v: spoilt %s", q, whole(q))
		}
		if !same(second, want) {
			t.Fatalf("of %v: %v, want %v", q, second, want)
		}
		if third := ask(q); !same(third, want) {
			t.Fatalf("of %v: %v behind a spoilt answer, want %v", q, third, want)
		}
	}
}

func TestNothingIsKeptBetweenCalls(t *testing.T) {
	list := questions()
	answers := make([]told, len(list))
	for i, q := range list {
		answers[i] = ask(q)
	}
	for i := len(list) - 1; i >= 0; i-- {
		if got := ask(list[i]); !same(got, answers[i]) {
			t.Fatalf("of %v: first %v, then %v", list[i], answers[i], got)
		}
	}
}

// A world that has become another one in the same memory is read anew, and what
// was answered of it stays as it was.
func TestWorldsAreNotKept(t *testing.T) {
	w := small()
	first := ask(asked{w, 5, at(1, 1), 1})
	for i := range 400 {
		w.Stocks[i%3] = i
		w.Mines[2] = i * i
		w.Troops[i%4].Cell = at(i%5, i/5%3)
		w.Troops[3].Id = 7 + i%8
		q := asked{w, 7 + i%7, at(i/3%5, i%3), i % 4}
		if got, want := ask(q), wantTold(q); !same(got, want) {
			t.Fatalf("of %v: %v, want %v", q, got, want)
		}
	}
	if want := wantTold(asked{small(), 5, at(1, 1), 1}); !same(first, want) {
		t.Errorf("of the world at first, later on: %v, want %v", first, want)
	}
}

// What Copy answers, right or wrong, is the same, in memory of its own.
func TestCopy(t *testing.T) {
	for _, q := range questions() {
		q = roomy(q)
		old, want := whole(q), fmt.Sprint(q.w)
		first, second := Copy(q.w), Copy(q.w)
		if fmt.Sprint(first) != want {
			t.Fatalf("Copy of %s = %s", brief(q.w), brief(first))
		}
		for _, l := range [][]int{first.Field.Places, first.Stocks, first.Mines} {
			spoil(l)
		}
		for i := range first.Bases[:cap(first.Bases)] {
			first.Bases[:cap(first.Bases)][i] = at(-7, -7)
		}
		for i := range first.Troops[:cap(first.Troops)] {
			first.Troops[:cap(first.Troops)][i].Life = -7
		}
		if whole(q) != old || fmt.Sprint(second) != want {
			t.Fatalf("a spoilt copy of %s left %s, and another one %s", brief(q.w), whole(q), brief(second))
		}
	}
}
