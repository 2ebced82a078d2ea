package path

import (
	"fmt"
	"math"
	"slices"
	"strings"
	"testing"

	"musterfield/api"
	"musterfield/field"
)

// read is the field of some rows.
func read(rows ...string) api.Field {
	f, err := field.Read(strings.Join(rows, "\n") + "\n")
	if err != api.OK {
		panic(fmt.Sprint(rows, " are no field"))
	}
	return f
}

// made is a field of these sides in which, of each seven places or so, one is
// rock and some are wood; another salt makes another one.
func made(wide, high, salt int) api.Field {
	f := api.Field{Wide: wide, High: high, Places: make([]int, wide*high)}
	n := uint32(salt)
	for i := range f.Places {
		n = n*1664525 + 1013904223
		f.Places[i] = []int{0, 0, 1, 2, 2, 2, 3}[n>>16%7]
	}
	return f
}

// numbered is the field of these sides whose places are the digits of n, of
// which there are four.
func numbered(wide, high, n int) api.Field {
	f := api.Field{Wide: wide, High: high, Places: make([]int, wide*high)}
	for i := range f.Places {
		f.Places[i] = n >> (2 * i) & 3
	}
	return f
}

// all is a field of these sides that is of one sort.
func all(wide, high, place int) api.Field {
	return api.Field{Wide: wide, High: high, Places: slices.Repeat([]int{place}, wide*high)}
}

// with is f with one place put to another number.
func with(f api.Field, i, place int) api.Field {
	f.Places = slices.Clone(f.Places)
	f.Places[i] = place
	return f
}

func at(x, y int) api.Cell { return api.Cell{X: x, Y: y} }

func cellOf(f api.Field, i int) api.Cell { return at(i%f.Wide, i/f.Wide) }

// openCells are those of f that are no rock.
func openCells(f api.Field) []api.Cell {
	var l []api.Cell
	for i, place := range f.Places {
		if place != api.GRock {
			l = append(l, cellOf(f, i))
		}
	}
	return l
}

// noCells are cells that are in no field.
func noCells() []api.Cell {
	list := []api.Cell{at(40, 40), at(-1, -1), at(math.MaxInt, math.MinInt), at(math.MinInt, math.MaxInt)}
	for _, off := range []int{-1, -40, 40, 1600, 1 << 32, 1 << 62, math.MinInt, math.MaxInt} {
		list = append(list, at(off, 0), at(0, off))
	}
	return list
}

// wrongFields are some that field.Check refuses, of either error and of both.
func wrongFields() []api.Field {
	list := []api.Field{
		{}, {Wide: 1, High: 1}, {Wide: 40, High: 40}, {Places: []int{0}}, {Wide: -2, High: -3, Places: make([]int, 6)},
		made(41, 1, 1), made(1, 41, 1), {Wide: 41, High: 41}, {Wide: 1 << 32, High: 1 << 32}, {Wide: math.MinInt, High: math.MaxInt, Places: []int{4}},
		{Wide: 2, High: 2, Places: make([]int, 3)}, {Wide: 2, High: 2, Places: make([]int, 5)},
	}
	for _, wrong := range []int{-1, 4, 5, 255, 256, 257, 1 << 32, 1<<32 + 1, math.MinInt, math.MaxInt} {
		list = append(list, with(all(3, 2, 0), 0, wrong), with(all(3, 2, 0), 5, wrong))
	}
	return list
}

// told is what both calls answer.
type told struct {
	way             []api.Cell
	cost, far       int
	findErr, farErr api.Errno
}

// asked is what they are given.
type asked struct {
	f    api.Field
	a, b api.Cell
}

func ask(q asked) (r told) {
	r.way, r.cost, r.findErr = Find(q.f, q.a, q.b)
	r.far, r.farErr = Far(q.f, q.a, q.b)
	return r
}

func same(a, b told) bool {
	return slices.Equal(a.way, b.way) && a.cost == b.cost && a.far == b.far && a.findErr == b.findErr && a.farErr == b.farErr
}

// String tells of a great field only how it begins.
func (q asked) String() string {
	return fmt.Sprintf("%d x %d, %d places %d, from %d to %d", q.f.Wide, q.f.High, len(q.f.Places), q.f.Places[:min(24, len(q.f.Places))], q.a, q.b)
}

func (r told) String() string {
	return fmt.Sprintf("Find %d cells %d, %d, %d, Far %d, %d", len(r.way), r.way[:min(24, len(r.way))], r.cost, r.findErr, r.far, r.farErr)
}

func found(way []api.Cell, cost int) told { return told{way: way, cost: cost, far: cost} }

func failed(err api.Errno) told { return told{findErr: err, farErr: err} }

func checkTold(t *testing.T, q asked, want told) {
	t.Helper()
	if got := ask(q); !same(got, want) {
		t.Errorf("of %v: %v, want %v", q, got, want)
	}
}

// checkError has every other result be its zero value, also where an empty list
// would look the same.
func checkError(t *testing.T, q asked, want api.Errno) {
	t.Helper()
	checkTold(t, q, failed(want))
	if way, _, _ := Find(q.f, q.a, q.b); way != nil {
		t.Errorf("of %v: a list beside error %d", q, want)
	}
}

// What the promises ask for, word by word.

func isIn(f api.Field, c api.Cell) bool {
	return c.X >= 0 && c.Y >= 0 && c.X < f.Wide && c.Y < f.High
}

func placeAt(f api.Field, c api.Cell) int { return f.Places[c.X+c.Y*f.Wide] }

// entered is what it costs to enter a sort of places; a rock can't be.
func entered(place int) int { return []int{2, math.MaxInt, 3, 2}[place] }

func wantError(q asked) api.Errno {
	if err := field.Check(q.f); err != api.OK {
		return err
	}
	if !isIn(q.f, q.a) || !isIn(q.f, q.b) {
		return api.ErrNone
	}
	if placeAt(q.f, q.a) == api.GRock || placeAt(q.f, q.b) == api.GRock {
		return api.ErrState
	}
	return api.OK
}

// around are the cells about c that are in f and no rocks: above, to the left,
// to the right, below.
func around(f api.Field, c api.Cell) []api.Cell {
	var l []api.Cell
	for _, off := range []api.Cell{at(0, -1), at(-1, 0), at(1, 0), at(0, 1)} {
		if n := at(c.X+off.X, c.Y+off.Y); isIn(f, n) && placeAt(f, n) != api.GRock {
			l = append(l, n)
		}
	}
	return l
}

// relaxed is what each cell that can be come to from a costs: each takes what is
// cheaper over one beside it, until none is.
func relaxed(f api.Field, a api.Cell) map[api.Cell]int {
	costs := map[api.Cell]int{a: 0}
	for again := true; again; {
		again = false
		for _, c := range openCells(f) {
			for _, n := range around(f, c) {
				over, ok := costs[n]
				over += entered(placeAt(f, c))
				if old, known := costs[c]; ok && (!known || over < old) {
					costs[c], again = over, true
				}
			}
		}
	}
	return costs
}

// wantTold goes from the end to the beginning, by what each cell costs.
func wantTold(q asked) told {
	if err := wantError(q); err != api.OK {
		return failed(err)
	}
	return wantOf(q, relaxed(q.f, q.a))
}

func wantOf(q asked, costs map[api.Cell]int) told {
	total, ok := costs[q.b]
	if !ok {
		return failed(api.ErrFull)
	}
	way := []api.Cell{q.b}
	for c := q.b; c != q.a; {
		for _, n := range around(q.f, c) {
			if costs[n]+entered(placeAt(q.f, c)) == costs[c] {
				c = n
				break
			}
		}
		way = slices.Insert(way, 0, c)
	}
	return found(way, total)
}

// rank says which of two rows from a to b of the same cost is told: where they
// part, seen from their end, the one whose cell is first around the one behind.
func rank(f api.Field, one, other []api.Cell) bool {
	for i, k := len(one)-1, len(other)-1; i >= 0 && k >= 0; i, k = i-1, k-1 {
		if one[i] != other[k] {
			l := around(f, one[i+1])
			return slices.Index(l, one[i]) < slices.Index(l, other[k])
		}
	}
	return false
}

// walked goes all rows from a to b that come to no cell twice.
func walked(q asked) told {
	if err := wantError(q); err != api.OK {
		return failed(err)
	}
	best := failed(api.ErrFull)
	var walk func(way []api.Cell, cost int)
	walk = func(way []api.Cell, cost int) {
		last := way[len(way)-1]
		if last == q.b {
			if best.findErr != api.OK || cost < best.cost || cost == best.cost && rank(q.f, way, best.way) {
				best = found(slices.Clone(way), cost)
			}
			return
		}
		for _, n := range around(q.f, last) {
			if !slices.Contains(way, n) {
				walk(append(slices.Clone(way), n), cost+entered(placeAt(q.f, n)))
			}
		}
	}
	walk([]api.Cell{q.a}, 0)
	return best
}

// P10.1.

func checkFar(t *testing.T, f api.Field, a, b api.Cell, want int) {
	t.Helper()
	if got, err := Far(f, a, b); got != want || err != api.OK {
		t.Errorf("Far of %v = %d, %d, want %d, 0", asked{f, a, b}, got, err, want)
	}
}

func TestFar(t *testing.T) {
	for _, c := range []struct {
		f    api.Field
		a, b api.Cell
		want int
	}{
		{read("."), at(0, 0), at(0, 0), 0},
		{read("t"), at(0, 0), at(0, 0), 0},
		{read("o"), at(0, 0), at(0, 0), 0},
		{read(".."), at(0, 0), at(1, 0), 2},
		{read(".o"), at(0, 0), at(1, 0), 2},
		// What is entered costs, not what is left: the way back is another.
		{read(".t"), at(0, 0), at(1, 0), 3},
		{read(".t"), at(1, 0), at(0, 0), 2},
		{read("t", "t"), at(0, 0), at(0, 1), 3},
		{read("..", ".."), at(0, 0), at(1, 1), 4},
		{read(".#.", ".#.", "..."), at(0, 0), at(2, 0), 12},
		// Through woods, or around them.
		{read(".t.", "..."), at(0, 0), at(2, 0), 5},
		{read(".tttt.", "......"), at(0, 0), at(5, 0), 14},
		{read(".ttttt.", "......."), at(0, 0), at(6, 0), 16},
	} {
		checkFar(t, c.f, c.a, c.b, c.want)
	}
}

func TestFarOfTheGreatestField(t *testing.T) {
	for _, place := range []int{api.GPlain, api.GWood, api.GOre} {
		f := all(40, 40, place)
		for _, a := range []api.Cell{at(0, 0), at(39, 39), at(39, 0), at(17, 23)} {
			for _, b := range []api.Cell{at(0, 0), at(39, 39), at(0, 39), at(5, 30)} {
				checkFar(t, f, a, b, entered(place)*(max(a.X-b.X, b.X-a.X)+max(a.Y-b.Y, b.Y-a.Y)))
			}
		}
	}
}

// That there is no field is told ahead of whatever is wrong with the cells.
func TestNoField(t *testing.T) {
	for _, f := range wrongFields() {
		want := field.Check(f)
		if want == api.OK {
			t.Fatalf("%v is a field", asked{f: f})
		}
		for _, a := range append(noCells(), at(0, 0), at(1, 0)) {
			checkError(t, asked{f, a, at(0, 0)}, want)
			checkError(t, asked{f, at(0, 0), a}, want)
			checkError(t, asked{f, a, a}, want)
		}
	}
}

func TestNoCell(t *testing.T) {
	for _, f := range []api.Field{read("."), read("#"), read("..#", "#.o"), made(40, 1, 1), made(1, 40, 1), made(40, 40, 1)} {
		for _, out := range append(noCells(), at(f.Wide, 0), at(0, f.High), at(f.Wide, f.High)) {
			checkError(t, asked{f, out, out}, api.ErrNone)
			// Rock or not, the other one does not change it.
			for i := range min(6, len(f.Places)) {
				checkError(t, asked{f, out, cellOf(f, i)}, api.ErrNone)
				checkError(t, asked{f, cellOf(f, i), out}, api.ErrNone)
			}
		}
	}
	// Also where its place would be one.
	for _, out := range []api.Cell{at(3, 0), at(-1, 1), at(5, 0), at(-3, 2), at(9, -1)} {
		checkError(t, asked{read("...", "..."), out, at(0, 0)}, api.ErrNone)
		checkError(t, asked{read("...", "..."), at(0, 0), out}, api.ErrNone)
	}
}

func TestRock(t *testing.T) {
	f := read("..#", "#.o")
	for _, rock := range []api.Cell{at(2, 0), at(0, 1)} {
		checkError(t, asked{f, rock, at(0, 0)}, api.ErrState)
		checkError(t, asked{f, at(0, 0), rock}, api.ErrState)
		checkError(t, asked{f, rock, rock}, api.ErrState)
		checkError(t, asked{f, rock, at(3, 0)}, api.ErrNone)
		checkError(t, asked{f, at(3, 0), rock}, api.ErrNone)
	}
	checkError(t, asked{f, at(2, 0), at(0, 1)}, api.ErrState)
	checkError(t, asked{read("#"), at(0, 0), at(0, 0)}, api.ErrState)
	// Ahead of there being no way.
	checkError(t, asked{read(".##"), at(0, 0), at(2, 0)}, api.ErrState)
	checkError(t, asked{read("##."), at(0, 0), at(2, 0)}, api.ErrState)
}

func TestNoWay(t *testing.T) {
	for _, q := range []asked{
		{read(".#."), at(0, 0), at(2, 0)},
		{read(".", "#", "t"), at(0, 2), at(0, 0)},
		// Not across a corner.
		{read(".#", "#."), at(0, 0), at(1, 1)},
		{read("#o", "t#"), at(1, 0), at(0, 1)},
		// Not from the end of a row to the beginning of the next one.
		{read("..#.", ".#..", "#..."), at(0, 1), at(3, 0)},
		{read("#.", ".#"), at(1, 0), at(0, 1)},
		{read(".....", ".###.", ".#t#.", ".###.", "....."), at(0, 0), at(2, 2)},
		{read(".....", ".###.", ".#t#.", ".###.", "....."), at(2, 2), at(4, 4)},
	} {
		checkError(t, q, api.ErrFull)
	}
	wall := all(40, 40, api.GPlain)
	for x := range 40 {
		wall.Places[20*40+x] = api.GRock
	}
	checkError(t, asked{wall, at(0, 0), at(39, 39)}, api.ErrFull)
	checkError(t, asked{wall, at(39, 21), at(39, 19)}, api.ErrFull)
}

// P10.2.

func TestFind(t *testing.T) {
	for _, c := range []struct {
		q    asked
		way  []api.Cell
		cost int
	}{
		{asked{read("t"), at(0, 0), at(0, 0)}, []api.Cell{at(0, 0)}, 0},
		{asked{read(".t"), at(0, 0), at(1, 0)}, []api.Cell{at(0, 0), at(1, 0)}, 3},
		{asked{read(".t"), at(1, 0), at(0, 0)}, []api.Cell{at(1, 0), at(0, 0)}, 2},
		{asked{read(".", "o", "t"), at(0, 0), at(0, 2)}, []api.Cell{at(0, 0), at(0, 1), at(0, 2)}, 5},
		// Around a rock.
		{asked{read(".#.", "..."), at(0, 0), at(2, 0)}, []api.Cell{at(0, 0), at(0, 1), at(1, 1), at(2, 1), at(2, 0)}, 8},
		// Around woods, and through them where that is no dearer than the other.
		{asked{read(".ttttt.", "......."), at(0, 0), at(6, 0)},
			[]api.Cell{at(0, 0), at(0, 1), at(1, 1), at(2, 1), at(3, 1), at(4, 1), at(5, 1), at(6, 1), at(6, 0)}, 16},
		{asked{read(".tttt.", "......"), at(0, 0), at(5, 0)}, []api.Cell{at(0, 0), at(1, 0), at(2, 0), at(3, 0), at(4, 0), at(5, 0)}, 14},
	} {
		checkTold(t, c.q, found(c.way, c.cost))
	}
}

// Where two ways cost the same, each pair of sides decides.
func TestFindOfSeveralWays(t *testing.T) {
	plain := read("...", "...", "...")
	for _, c := range []struct {
		f    api.Field
		a, b api.Cell
		way  []api.Cell
	}{
		// Above, ahead of the left and of the right.
		{plain, at(0, 0), at(1, 1), []api.Cell{at(0, 0), at(1, 0), at(1, 1)}},
		{plain, at(2, 0), at(1, 1), []api.Cell{at(2, 0), at(1, 0), at(1, 1)}},
		// The left and the right, ahead of below.
		{plain, at(0, 2), at(1, 1), []api.Cell{at(0, 2), at(0, 1), at(1, 1)}},
		{plain, at(2, 2), at(1, 1), []api.Cell{at(2, 2), at(2, 1), at(1, 1)}},
		{plain, at(0, 0), at(2, 2), []api.Cell{at(0, 0), at(1, 0), at(2, 0), at(2, 1), at(2, 2)}},
		{plain, at(2, 2), at(0, 0), []api.Cell{at(2, 2), at(2, 1), at(2, 0), at(1, 0), at(0, 0)}},
		{plain, at(0, 2), at(2, 0), []api.Cell{at(0, 2), at(0, 1), at(0, 0), at(1, 0), at(2, 0)}},
		{plain, at(2, 0), at(0, 2), []api.Cell{at(2, 0), at(1, 0), at(0, 0), at(0, 1), at(0, 2)}},
		// Above ahead of below, and the left ahead of the right, around a rock.
		{read("...", ".#.", "..."), at(0, 1), at(2, 1), []api.Cell{at(0, 1), at(0, 0), at(1, 0), at(2, 0), at(2, 1)}},
		{read("...", ".#.", "..."), at(2, 1), at(0, 1), []api.Cell{at(2, 1), at(2, 0), at(1, 0), at(0, 0), at(0, 1)}},
		{read("...", ".#.", "..."), at(1, 0), at(1, 2), []api.Cell{at(1, 0), at(0, 0), at(0, 1), at(0, 2), at(1, 2)}},
		{read("...", ".#.", "..."), at(1, 2), at(1, 0), []api.Cell{at(1, 2), at(0, 2), at(0, 1), at(0, 0), at(1, 0)}},
	} {
		checkTold(t, asked{c.f, c.a, c.b}, found(c.way, 2*(len(c.way)-1)))
	}
}

// Two ways that part at once and meet at last, both at a cost of 22: what is
// chosen hangs on the end, not on how the way begins.
func TestFindChoosesFromTheEnd(t *testing.T) {
	f := read(
		".......",
		".#####.",
		".#.....",
		"t#.####",
		"ttt####")
	west, east := at(0, 2), at(5, 2)
	over := []api.Cell{west, at(0, 1), at(0, 0), at(1, 0), at(2, 0), at(3, 0), at(4, 0), at(5, 0), at(6, 0), at(6, 1), at(6, 2), east}
	under := []api.Cell{west, at(0, 3), at(0, 4), at(1, 4), at(2, 4), at(2, 3), at(2, 2), at(3, 2), at(4, 2), east}
	checkTold(t, asked{f, west, east}, found(under, 22))
	slices.Reverse(over)
	checkTold(t, asked{f, east, west}, found(over, 22))
}

// Each field of six places, of two pairs of its cells, against all rows.
func TestEachSmallField(t *testing.T) {
	for _, sides := range [][2]int{{3, 2}, {2, 3}, {6, 1}, {1, 6}} {
		for n := range 1 << 12 {
			f := numbered(sides[0], sides[1], n)
			q := asked{f, cellOf(f, n%6), cellOf(f, n/6%6)}
			checkTold(t, q, walked(q))
			q.a, q.b = cellOf(f, (n+n/64)%6), cellOf(f, (n/9+5)%6)
			checkTold(t, q, walked(q))
		}
	}
}

// Greater ones, still against all rows.
func TestAllRows(t *testing.T) {
	for salt := range 150 {
		sides := [][2]int{{3, 3}, {4, 3}, {3, 4}, {4, 4}, {5, 3}}[salt%5]
		f := made(sides[0], sides[1], salt)
		if salt%3 == 0 {
			f = numbered(sides[0], sides[1], 0)
			f.Places[salt%len(f.Places)] = salt / 5 % 4
		}
		for k := range 12 {
			q := asked{f, cellOf(f, (salt+k*5)%len(f.Places)), cellOf(f, (salt*3+k*7)%len(f.Places))}
			checkTold(t, q, walked(q))
		}
	}
}

func TestManyFields(t *testing.T) {
	for salt := range 200 {
		f := made(1+salt*7%23, 1+salt*11%19, salt)
		open := openCells(f)
		for k := range min(2, len(open)) {
			a := open[(salt+k*31)%len(open)]
			costs := relaxed(f, a)
			for _, b := range open {
				q := asked{f, a, b}
				checkTold(t, q, wantOf(q, costs))
			}
		}
	}
}

// checkRow holds a row against what each such row has, whichever it is.
func checkRow(t *testing.T, q asked, way []api.Cell, cost int) {
	t.Helper()
	if len(way) == 0 || way[0] != q.a || way[len(way)-1] != q.b {
		t.Fatalf("of %v: %d does not lead there", q, way)
	}
	sum := 0
	for i, c := range way[1:] {
		if !slices.Contains(around(q.f, way[i]), c) {
			t.Fatalf("of %v: no step from %d to %d", q, way[i], c)
		}
		sum += entered(placeAt(q.f, c))
	}
	if sum != cost {
		t.Errorf("of %v: a row that costs %d, told as %d", q, sum, cost)
	}
}

func TestGreatestFields(t *testing.T) {
	for salt := range 4 {
		f := made(40, 40, salt)
		open := openCells(f)
		a := open[salt*300]
		costs := relaxed(f, a)
		for k := 0; k < len(open); k += 7 {
			q := asked{f, a, open[k]}
			checkTold(t, q, wantOf(q, costs))
			if way, cost, err := Find(f, q.a, q.b); err == api.OK {
				checkRow(t, q, way, cost)
			}
		}
	}
}

// The longest way leads through all of a field that has walls with a gap at
// either end in turn.
func TestLongestWay(t *testing.T) {
	for _, place := range []int{api.GPlain, api.GWood, api.GOre} {
		f := all(40, 40, place)
		for y := 1; y < 40; y += 2 {
			for x := range 40 {
				if gap := 39 * (y / 2 % 2); x != 39-gap {
					f.Places[y*40+x] = api.GRock
				}
			}
		}
		q := asked{f, at(0, 0), at(0, 39)}
		way, cost, err := Find(q.f, q.a, q.b)
		// Twenty rows of 40, and a gap behind each.
		if err != api.OK || len(way) != 20*40+20 || cost != entered(place)*(len(way)-1) {
			t.Fatalf("of %v: %d cells, %d, %d", q, len(way), cost, err)
		}
		checkRow(t, q, way, cost)
		checkFar(t, q.f, q.a, q.b, cost)
	}
}

// The way is told from its end, so that what is ahead of any cell of it is
// itself the way to that cell.
func TestWaysBeginAlike(t *testing.T) {
	for salt := range 60 {
		f := made(9, 8, salt)
		open := openCells(f)
		q := asked{f, open[salt%len(open)], open[salt*17%len(open)]}
		way, _, err := Find(q.f, q.a, q.b)
		for i := range way {
			part, _, partErr := Find(q.f, q.a, way[i])
			if err != api.OK || partErr != api.OK || !slices.Equal(part, way[:i+1]) {
				t.Errorf("of %v: %d, to %d %d, %d", q, way, way[i], part, partErr)
			}
		}
	}
}

// P1.

func questions() []asked {
	fields := append(wrongFields(), read("#"), read("##", "##"), read("..#", "#.o"), read("...", "..."), all(40, 40, 0))
	for i, sides := range [][2]int{{1, 1}, {2, 2}, {3, 2}, {2, 3}, {1, 40}, {40, 1}, {7, 31}, {40, 40}} {
		fields = append(fields, made(sides[0], sides[1], i), made(sides[0], sides[1], i+100))
	}
	cells := append(noCells(), at(0, 0), at(1, 0), at(0, 1), at(1, 1), at(2, 1), at(6, 30), at(39, 0), at(0, 39), at(39, 39))
	var list []asked
	for i, f := range fields {
		for k := range 24 {
			list = append(list, asked{f, cells[(i+k)%len(cells)], cells[(i*5+k*7)%len(cells)]})
		}
		if field.Check(f) != api.OK {
			continue
		}
		if open := openCells(f); len(open) > 0 {
			list = append(list, asked{f, open[0], open[len(open)-1]}, asked{f, open[len(open)-1], open[0]}, asked{f, open[len(open)/2], open[0]})
		}
	}
	return list
}

// Whatever is given, an answer is the one that the promises ask for.
func TestEachCallAnswers(t *testing.T) {
	for _, q := range questions() {
		checkTold(t, q, wantTold(q))
	}
}

// P2.

// roomy is q with room behind its places that has something in it.
func roomy(q asked) asked {
	q.f.Places = append(slices.Clone(q.f.Places), 1, 2, 3)[:len(q.f.Places)]
	return q
}

// whole is what a question's places hold, the room behind them included.
func whole(q asked) []int { return q.f.Places[:len(q.f.Places)+3] }

func TestFieldsAreNotChanged(t *testing.T) {
	for _, q := range questions() {
		want := ask(q)
		q = roomy(q)
		old := slices.Clone(whole(q))
		if got := ask(q); !same(got, want) {
			t.Fatalf("of %v: %v, with room behind the places %v", q, want, got)
		}
		if !slices.Equal(whole(q), old) {
			t.Fatalf("of %v: left %d", q, whole(q))
		}
	}
}

// spoil puts each cell of a list, and of the room behind it, to another one.
func spoil(l []api.Cell) {
	l = l[:cap(l)]
	for i := range l {
		l[i] = at(^l[i].X, ^l[i].Y)
	}
}

// Who changes an answer, and the room behind it, changes no other answer and
// nothing that was handed in.
func TestAnswersAreNewMemory(t *testing.T) {
	for _, q := range questions() {
		q = roomy(q)
		old := slices.Clone(whole(q))
		want, first, second := wantTold(q), ask(q), ask(q)
		spoil(first.way)
		if !slices.Equal(whole(q), old) {
			t.Fatalf("of %v: spoilt %d", q, whole(q))
		}
		if !same(second, want) {
			t.Fatalf("of %v: %v, want %v", q, second, want)
		}
		if third := ask(q); !same(third, want) {
			t.Fatalf("of %v: %v behind a spoilt answer, want %v", q, third, want)
		}
	}
}

func TestNothingIsKeptBetweenCalls(t *testing.T) {
	list := questions()
	answers := make([]told, len(list))
	for i, q := range list {
		answers[i] = ask(q)
	}
	for i := len(list) - 1; i >= 0; i-- {
		if got := ask(list[i]); !same(got, answers[i]) {
			t.Fatalf("of %v: first %v, then %v", list[i], answers[i], got)
		}
	}
}

// Places that have become others in the same memory are read anew, and what was
// answered of them stays as it was.
func TestFieldsAreNotKept(t *testing.T) {
	f := read("...", "...")
	first, want := ask(asked{f, at(0, 1), at(2, 0)}), []api.Cell{at(0, 1), at(0, 0), at(1, 0), at(2, 0)}
	for i := range 400 {
		for k := range f.Places {
			f.Places[k] = (i + i*k/5) % 4
		}
		q := asked{f, cellOf(f, i%6), cellOf(f, i/6%6)}
		checkTold(t, q, wantTold(q))
	}
	if !same(first, found(want, 6)) {
		t.Errorf("of six plain places, later on: %v", first)
	}
}
