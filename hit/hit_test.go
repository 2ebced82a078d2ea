package hit

import (
	"fmt"
	"math"
	"reflect"
	"slices"
	"strings"
	"testing"

	"musterfield/api"
	"musterfield/field"
	"musterfield/troop"
)

// read is the field of some rows.
func read(rows ...string) api.Field {
	f, err := field.Read(strings.Join(rows, "\n") + "\n")
	if err != api.OK {
		panic(fmt.Sprint(rows, " are no field"))
	}
	return f
}

func at(x, y int) api.Cell { return api.Cell{X: x, Y: y} }

func cellOf(f api.Field, i int) api.Cell { return at(i%f.Wide, i/f.Wide) }

// plain is a field of these sides without anything in it.
func plain(wide, high int) api.Field {
	return api.Field{Wide: wide, High: high, Places: make([]int, wide*high)}
}

func worker(id, owner, x, y int) api.Troop {
	return api.Troop{Id: id, Owner: owner, Kind: api.KWorker, Cell: at(x, y), Life: 10}
}

func soldier(id, owner, x, y int) api.Troop {
	return api.Troop{Id: id, Owner: owner, Kind: api.KSoldier, Cell: at(x, y), Life: 20}
}

// world is one of as many players as places that are no rock, up to three, with
// troops whose Ids are below 1000.
func world(f api.Field, troops ...api.Troop) api.World {
	w := api.World{Field: f, Mines: make([]int, len(f.Places)), Troops: troops, NextId: 1000, Now: 5}
	for i, place := range f.Places {
		if place != api.GRock && len(w.Bases) < 3 {
			w.Bases, w.Stocks = append(w.Bases, cellOf(f, i)), append(w.Stocks, 10*i)
		}
		if place == api.GOre {
			w.Mines[i] = 7
		}
	}
	return w
}

// bare is the least world.
func bare() api.World { return api.World{Field: plain(1, 1), Mines: []int{0}, NextId: 1} }

// small is a world with something of all that a world has.
func small() api.World {
	w := world(read("..o.#", ".#t.o", "....."), worker(2, 0, 1, 0), soldier(5, 1, 2, 1), soldier(6, 0, 3, 1), worker(11, 2, 2, 2), soldier(12, 1, 4, 2))
	w.Troops[0].Load, w.Troops[3].Load = 3, 5
	w.Troops[0].Life, w.Troops[2].Life, w.Troops[3].Life = 4, 9, 1
	return w
}

// crowd is a world of 100 troops, row by row, on ten times ten places: of three
// players in turn, and every other one a soldier.
func crowd() api.World {
	w := world(plain(10, 10))
	for i := range 100 {
		one := worker(3*i+2, i%3, i%10, i/10)
		if i%2 == 0 {
			one = soldier(3*i+2, i%3, i%10, i/10)
		}
		w.Troops = append(w.Troops, one)
	}
	return w
}

// with is w, in memory of its own, changed.
func with(w api.World, change func(w *api.World)) api.World {
	w = troop.Copy(w)
	change(&w)
	return w
}

// dice are numbers that another salt makes others.
type dice uint32

func (d *dice) below(n int) int {
	*d = *d*1664525 + 1013904223
	return int(*d>>8) % n
}

// made is a world of these sides, full of troops of three players; another salt
// makes another one.
func made(wide, high, salt int) api.World {
	d := dice(salt)
	f := plain(wide, high)
	for i := range f.Places {
		f.Places[i] = []int{0, 0, 0, 1, 2, 3}[d.below(6)]
	}
	w := world(f)
	id := 0
	for i, place := range f.Places {
		if place == api.GRock || d.below(4) == 0 || len(w.Troops) == api.MaxTroops || len(w.Bases) == 0 {
			continue
		}
		id += 1 + d.below(3)
		one := api.Troop{Id: id, Owner: d.below(len(w.Bases)), Kind: 1 + d.below(2), Cell: cellOf(f, i)}
		one.Life, one.Load = 1+d.below(10*one.Kind), (2-one.Kind)*d.below(6)
		w.Troops = append(w.Troops, one)
	}
	w.NextId = id + 1 + d.below(2)
	return w
}

// madeBlows are n blows, most of them of troops of w at others that are near in
// the list, and so on the field; some are of none.
func madeBlows(w api.World, n, salt int) []api.Blow {
	d := dice(salt)
	var l []api.Blow
	for range n {
		b := api.Blow{By: d.below(w.NextId + 2), At: d.below(w.NextId+2) - 1}
		if by := d.below(len(w.Troops) + 1); by < len(w.Troops) {
			b.By = w.Troops[by].Id
			off := []int{1, -1, 2, w.Field.Wide - 1, w.Field.Wide / 2, 1 - w.Field.Wide}[d.below(6)]
			if k := by + off; k >= 0 && k < len(w.Troops) {
				b.At = w.Troops[k].Id
			}
		}
		l = append(l, b)
	}
	return l
}

// wild are numbers that are the Id of no troop.
func wild() []int {
	return []int{0, -1, -2, -12, 1000, 1000000, 1000001, -1 << 32, 1 << 32, 1<<32 + 1, 1<<32 + 5, 1<<62 + 2, math.MinInt, math.MinInt + 2, math.MaxInt - 1, math.MaxInt}
}

// brief tells of a great world only how it begins.
func brief(w api.World) string {
	return fmt.Sprintf("%d x %d, %d places %d, bases %d, stocks %d, %d mines, %d troops %+v, next %d, now %d", w.Field.Wide, w.Field.High,
		len(w.Field.Places), w.Field.Places[:min(15, len(w.Field.Places))], w.Bases[:min(9, len(w.Bases))], w.Stocks[:min(9, len(w.Stocks))],
		len(w.Mines), len(w.Troops), w.Troops[:min(6, len(w.Troops))], w.NextId, w.Now)
}

func briefBlows(l []api.Blow) string { return fmt.Sprint(len(l), " blows ", l[:min(12, len(l))]) }

// What the promises ask for, word by word.

func apart(m, n int) int {
	if m < n {
		return n - m
	}
	return m - n
}

// sees is of cells that are two steps of a king from one another, or nearer: of
// these there is one between, there and back, and it is halfway.
func sees(f api.Field, a, b api.Cell) bool {
	if max(apart(a.X, b.X), apart(a.Y, b.Y)) < 2 {
		return true
	}
	for _, up := range []int{0, 1} {
		x, y := (a.X+b.X+up)/2, (a.Y+b.Y+up)/2
		if place := f.Places[y*f.Wide+x]; place == api.GPlain || place == api.GOre {
			return true
		}
	}
	return false
}

// What a blow comes to, when it is By a troop of the world.
const (
	atNobody = "at nobody"
	atOwn    = "at one of the own"
	tooFar   = "too far"
	hidden   = "hidden"
	counting = "counting"
)

func verdict(w api.World, by api.Troop, id int) string {
	i := slices.IndexFunc(w.Troops, func(t api.Troop) bool { return t.Id == id })
	if i < 0 {
		return atNobody
	}
	other := w.Troops[i]
	reach := map[int]int{api.KWorker: 1, api.KSoldier: 2}[by.Kind]
	switch {
	case other.Owner == by.Owner:
		return atOwn
	case apart(by.Cell.X, other.Cell.X) > reach || apart(by.Cell.Y, other.Cell.Y) > reach:
		return tooFar
	case !sees(w.Field, by.Cell, other.Cell):
		return hidden
	}
	return counting
}

// wantBlows goes by troops, not by blows: of each the first that counts.
func wantBlows(w api.World, l []api.Blow) ([]int, api.Errno) {
	if err := troop.Check(w); err != api.OK {
		return nil, err
	}
	if len(l) > 200 {
		return nil, api.ErrLarge
	}
	took := map[int]int{}
	for _, by := range w.Troops {
		first := slices.IndexFunc(l, func(b api.Blow) bool { return b.By == by.Id && verdict(w, by, b.At) == counting })
		if first >= 0 {
			took[l[first].At] += map[int]int{api.KWorker: 1, api.KSoldier: 4}[by.Kind]
		}
	}
	var harm []int
	for _, t := range w.Troops {
		harm = append(harm, took[t.Id])
	}
	return harm, api.OK
}

func wantStruck(w api.World, l []api.Blow) (api.World, []int, api.Errno) {
	harm, err := wantBlows(w, l)
	if err != api.OK {
		return api.World{}, nil, err
	}
	w = troop.Copy(w)
	var left []api.Troop
	var gone []int
	for i, t := range w.Troops {
		if harm[i] >= t.Life {
			gone = append(gone, t.Id)
			continue
		}
		t.Life -= harm[i]
		left = append(left, t)
	}
	w.Troops = left
	return w, gone, api.OK
}

// P13.1.

func checkBlows(t *testing.T, w api.World, l []api.Blow, want ...int) {
	t.Helper()
	if got, err := Blows(w, l); !slices.Equal(got, want) || err != api.OK {
		t.Errorf("Blows of %s, %s = %d, %d, want %d, 0", brief(w), briefBlows(l), got, err, want)
	}
}

// checkError has what both calls tell beside an error be nothing at all.
func checkError(t *testing.T, w api.World, l []api.Blow, want api.Errno) {
	t.Helper()
	if got, err := Blows(w, l); got != nil || err != want {
		t.Errorf("Blows of %s, %s = %d, %d, want no list, %d", brief(w), briefBlows(l), got, err, want)
	}
	if struck, gone, err := Struck(w, l); !reflect.DeepEqual(struck, api.World{}) || gone != nil || err != want {
		t.Errorf("Struck of %s, %s = %s, %d, %d, want nothing, %d", brief(w), briefBlows(l), brief(struck), gone, err, want)
	}
}

func TestBlows(t *testing.T) {
	w := world(plain(3, 1), soldier(4, 0, 0, 0), soldier(7, 1, 1, 0), worker(8, 1, 2, 0))
	checkBlows(t, w, nil, 0, 0, 0)
	checkBlows(t, w, []api.Blow{}, 0, 0, 0)
	checkBlows(t, w, []api.Blow{{By: 4, At: 7}}, 0, 4, 0)
	checkBlows(t, w, []api.Blow{{By: 4, At: 8}}, 0, 0, 4)
	checkBlows(t, w, []api.Blow{{By: 7, At: 4}}, 4, 0, 0)
	// Two who hit one another are both harmed.
	checkBlows(t, w, []api.Blow{{By: 4, At: 7}, {By: 7, At: 4}}, 4, 4, 0)
	checkBlows(t, bare(), []api.Blow{{By: 1, At: 1}, {}})
	small := small()
	checkBlows(t, small, []api.Blow{{By: 2, At: 5}, {By: 5, At: 2}, {By: 6, At: 11}, {By: 11, At: 6}, {By: 12, At: 11}}, 4, 1, 1, 8, 0)
}

// What one troop takes of several is added up, beyond its Life, too.
func TestBlowsAreAddedUp(t *testing.T) {
	w := world(plain(5, 5))
	var l []api.Blow
	for i := range 25 {
		one := soldier(i+1, 1+i%2, i%5, i/5)
		if i == 12 {
			one.Owner = 0
		}
		w.Troops = append(w.Troops, one)
		l = append(l, api.Blow{By: i + 1, At: 13})
	}
	want := make([]int, 25)
	want[12] = 96
	checkBlows(t, w, l, want...)
	for i := range w.Troops {
		w.Troops[i].Kind, w.Troops[i].Life = api.KWorker, 2
	}
	// Of these only those beside it reach it.
	want[12] = 8
	checkBlows(t, w, l, want...)
}

// Each kind's Reach is in steps of a king, to each side.
func TestBlowsReach(t *testing.T) {
	f := plain(9, 9)
	for i := range f.Places {
		other := cellOf(f, i)
		if other == at(4, 4) {
			continue
		}
		far := max(apart(other.X, 4), apart(other.Y, 4))
		ofWorker, ofSoldier := 0, 0
		if far <= 1 {
			ofWorker = 1
		}
		if far <= 2 {
			ofSoldier = 4
		}
		blows := []api.Blow{{By: 1, At: 2}, {By: 2, At: 1}}
		checkBlows(t, world(f, worker(1, 0, 4, 4), worker(2, 1, other.X, other.Y)), blows, ofWorker, ofWorker)
		checkBlows(t, world(f, soldier(1, 0, 4, 4), soldier(2, 1, other.X, other.Y)), blows, ofSoldier, ofSoldier)
		// It is the Reach of who hits that is asked for, and its Harm.
		checkBlows(t, world(f, worker(1, 0, 4, 4), soldier(2, 1, other.X, other.Y)), blows, ofSoldier, ofWorker)
	}
}

// What stands between hides, but neither an end nor another troop does; one line
// that is open, of the two, there and back, is enough.
func TestBlowsSight(t *testing.T) {
	for rows, want := range map[string]int{
		"...": 4, ".o.": 4, "t.t": 4, "ooo": 4, "tot": 4, "o.t": 4,
		".#.": 0, ".t.": 0, "ttt": 0, "o#o": 0,
	} {
		blows := []api.Blow{{By: 1, At: 2}, {By: 2, At: 1}}
		checkBlows(t, world(read(rows), soldier(1, 0, 0, 0), soldier(2, 1, 2, 0)), blows, want, want)
		upright := strings.Split(rows, "")
		checkBlows(t, world(read(upright...), soldier(1, 0, 0, 0), soldier(2, 1, 0, 2)), blows, want, want)
		aslant := read(rows[:1]+"##", "#"+rows[1:2]+"#", "##"+rows[2:])
		if want == 4 || rows == ".t." || rows == "ttt" {
			checkBlows(t, world(aslant, soldier(1, 0, 0, 0), soldier(2, 1, 2, 2)), blows, want, want)
		}
	}
	for rows, want := range map[string]int{
		"... ...": 4, ".#. ...": 4, "... .#.": 4, ".t. .o.": 4, ".o. .#.": 4,
		".#. .#.": 0, ".t. .t.": 0, ".t. .#.": 0,
	} {
		f := read(strings.Fields(rows)...)
		blows := []api.Blow{{By: 1, At: 2}, {By: 2, At: 1}}
		checkBlows(t, world(f, soldier(1, 0, 0, 0), soldier(2, 1, 2, 1)), blows, want, want)
		checkBlows(t, world(f, soldier(1, 0, 2, 0), soldier(2, 1, 0, 1)), blows, want, want)
	}
	// A worker hits what is beside it, whatever stands around.
	f := read("t#t", "#t#", "t#t")
	checkBlows(t, world(f, worker(1, 0, 1, 1), worker(2, 1, 2, 2)), []api.Blow{{By: 1, At: 2}}, 0, 1)
	between := world(plain(3, 1), soldier(1, 0, 0, 0), soldier(2, 1, 1, 0), soldier(3, 1, 2, 0))
	checkBlows(t, between, []api.Blow{{By: 3, At: 1}}, 4, 0, 0)
}

// The own are not hit, nor is oneself.
func TestBlowsAtTheOwn(t *testing.T) {
	w := world(plain(3, 1), soldier(1, 0, 0, 0), soldier(2, 0, 1, 0), worker(3, 2, 2, 0))
	checkBlows(t, w, []api.Blow{{By: 1, At: 1}, {By: 1, At: 2}, {By: 2, At: 1}, {By: 3, At: 3}}, 0, 0, 0)
	checkBlows(t, w, []api.Blow{{By: 1, At: 2}, {By: 1, At: 3}, {By: 2, At: 2}, {By: 2, At: 3}, {By: 3, At: 2}}, 0, 1, 8)
}

// Whoever isn't there neither hits nor is hit: a troop is asked for by its Id,
// not by its place.
func TestBlowsOfNobody(t *testing.T) {
	w := world(plain(3, 1), soldier(4, 0, 0, 0), soldier(7, 1, 1, 0), worker(8, 2, 2, 0))
	for _, id := range append(wild(), 1, 2, 3, 5, 6, 9, 999, 260, 263) {
		checkBlows(t, w, []api.Blow{{By: id, At: 4}, {By: 7, At: id}, {By: id, At: id}, {By: 8, At: id}, {By: id, At: 8}}, 0, 0, 0)
		checkBlows(t, w, []api.Blow{{By: 4, At: id}, {By: id, At: 7}, {By: 4, At: 7}, {By: 7, At: id}}, 0, 4, 0)
		checkBlows(t, bare(), []api.Blow{{By: id, At: id}})
	}
}

// Ids that are alike in part are not taken for one another.
func TestBlowsOfGreatIds(t *testing.T) {
	w := world(plain(4, 1), soldier(7, 0, 0, 0), soldier(263, 1, 1, 0), soldier(65543, 2, 2, 0), worker(999999, 1, 3, 0))
	w.NextId = 1000000
	checkBlows(t, w, []api.Blow{{By: 7, At: 263}, {By: 263, At: 65543}, {By: 65543, At: 999999}, {By: 999999, At: 65543}}, 0, 4, 5, 4)
	for _, off := range []int{65536, 131072, 1 << 24, 1 << 31, -1 << 31, 1 << 32, 1 << 48} {
		checkBlows(t, w, []api.Blow{{By: 263 + off, At: 7}, {By: 65543 + off, At: 7}, {By: 263, At: 7 + 2*off}, {By: 7, At: 999999 - off}}, 0, 0, 0, 0)
	}
}

// Of those that count and are By one troop only the first does; those that don't
// count leave room for it.
func TestBlowsOfOneTroop(t *testing.T) {
	w := world(read(".....", ".#...", "....."), soldier(1, 0, 0, 0), soldier(2, 1, 1, 0), worker(3, 2, 2, 0), soldier(5, 0, 4, 0), soldier(6, 1, 2, 2))
	checkBlows(t, w, []api.Blow{{By: 1, At: 2}, {By: 1, At: 3}, {By: 1, At: 2}}, 0, 4, 0, 0, 0)
	checkBlows(t, w, []api.Blow{{By: 1, At: 3}, {By: 1, At: 2}}, 0, 0, 4, 0, 0)
	checkBlows(t, w, []api.Blow{{By: 1, At: 2}, {By: 1, At: 2}, {By: 1, At: 2}}, 0, 4, 0, 0, 0)
	// One by one: at nobody, at itself, at the own, behind the rock, too far.
	first := []api.Blow{{By: 1, At: 4}, {By: 1, At: 1}, {By: 1, At: 5}, {By: 1, At: 6}, {By: 2, At: 5}}
	checkBlows(t, w, append(first, api.Blow{By: 1, At: 3}, api.Blow{By: 1, At: 2}, api.Blow{By: 2, At: 1}, api.Blow{By: 2, At: 3}), 4, 0, 4, 0, 0)
	// Several troops hit one, and those in between are not taken for one another.
	checkBlows(t, w, []api.Blow{{By: 1, At: 3}, {By: 2, At: 3}, {By: 1, At: 2}, {By: 5, At: 3}, {By: 3, At: 2}, {By: 2, At: 1}}, 0, 1, 12, 0, 0)
}

func TestBlowsLimit(t *testing.T) {
	w := world(plain(3, 1), soldier(4, 0, 0, 0), soldier(7, 1, 1, 0), worker(8, 1, 2, 0))
	l := make([]api.Blow, 200)
	checkBlows(t, w, l, 0, 0, 0)
	l[0], l[199] = api.Blow{By: 8, At: 4}, api.Blow{By: 4, At: 8}
	checkBlows(t, w, l, 0, 0, 4)
	l[1] = api.Blow{By: 7, At: 4}
	checkBlows(t, w, l, 4, 0, 4)
	for _, n := range []int{201, 202, 256, 400, 65536} {
		checkError(t, w, make([]api.Blow, n), api.ErrLarge)
		checkError(t, w, append(l, make([]api.Blow, n-200)...), api.ErrLarge)
		checkError(t, bare(), make([]api.Blow, n), api.ErrLarge)
	}
	// 200 blows of 100 troops, two of each at who stands in its row as far from
	// the row's other end: the two in the middle reach one another.
	full := crowd()
	l = nil
	want := make([]int, 100)
	for k := range 200 {
		i := k % 100
		l = append(l, api.Blow{By: full.Troops[i].Id, At: full.Troops[i/10*10+9-i%10].Id})
		want[i/10*10+4], want[i/10*10+5] = 1, 4
	}
	checkBlows(t, full, l, want...)
}

// wrongWorlds are some of each error that troop.Check tells.
func wrongWorlds() []api.World {
	return []api.World{
		{}, {Field: plain(1, 1)}, {Field: plain(1, 1), Mines: []int{0}}, {Field: plain(1, 1), NextId: 1},
		with(small(), func(w *api.World) { w.Field.Wide = math.MaxInt }),
		with(small(), func(w *api.World) { w.Field.High = -3 }),
		with(small(), func(w *api.World) { w.Field.Wide, w.Field.High = 1<<32, 1<<32 }),
		with(small(), func(w *api.World) { w.Field.Places[7] = 4 }),
		with(small(), func(w *api.World) { w.Field.Places = w.Field.Places[:14] }),
		with(small(), func(w *api.World) { w.Bases = make([]api.Cell, 9) }),
		with(crowd(), func(w *api.World) { w.Troops = append(w.Troops, soldier(999, 0, 9, 9)) }),
		with(small(), func(w *api.World) { w.Stocks = w.Stocks[:2] }),
		with(small(), func(w *api.World) { w.Stocks[1] = -1 }),
		with(small(), func(w *api.World) { w.Mines = append(w.Mines, 0) }),
		with(small(), func(w *api.World) { w.Mines[0] = 1 }),
		with(small(), func(w *api.World) { w.Bases[0] = w.Bases[1] }),
		with(small(), func(w *api.World) { w.Bases[0] = at(4, 0) }),
		with(small(), func(w *api.World) { w.Troops[1].Id = 2 }),
		with(small(), func(w *api.World) { w.Troops[0].Id = 0 }),
		with(small(), func(w *api.World) { slices.Reverse(w.Troops) }),
		with(small(), func(w *api.World) { w.Troops[0].Owner = 3 }),
		with(small(), func(w *api.World) { w.Troops[0].Owner = math.MinInt }),
		with(small(), func(w *api.World) { w.Troops[1].Kind = 3 }),
		with(small(), func(w *api.World) { w.Troops[1].Kind = math.MaxInt }),
		with(small(), func(w *api.World) { w.Troops[3].Cell = w.Troops[2].Cell }),
		with(small(), func(w *api.World) { w.Troops[3].Cell = at(1, 1) }),
		with(small(), func(w *api.World) { w.Troops[3].Cell = at(math.MinInt, math.MaxInt) }),
		with(small(), func(w *api.World) { w.Troops[3].Life = 0 }),
		with(small(), func(w *api.World) { w.Troops[3].Life = math.MinInt }),
		with(small(), func(w *api.World) { w.Troops[0].Life = 11 }),
		with(small(), func(w *api.World) { w.Troops[1].Load = 1 }),
		with(small(), func(w *api.World) { w.NextId = 12 }),
		with(small(), func(w *api.World) { w.Now = -1 }),
	}
}

// What is wrong with a world is told ahead of that there are too many blows.
func TestErrorsOfWorlds(t *testing.T) {
	for _, w := range wrongWorlds() {
		want := troop.Check(w)
		if want == api.OK {
			t.Fatalf("nothing is wrong with %s", brief(w))
		}
		for _, l := range [][]api.Blow{nil, {}, {{By: 2, At: 5}}, {{By: 5, At: 2}, {By: math.MinInt, At: math.MaxInt}}, make([]api.Blow, 200), make([]api.Blow, 201)} {
			checkError(t, w, l, want)
		}
	}
}

// Each thing that a blow can come to is tried, and often.
func TestBlowsOfManyWorlds(t *testing.T) {
	tried := map[string]int{}
	for salt := range 400 {
		w := made(1+salt%13, 1+salt*7%11, salt)
		l := madeBlows(w, salt%201, salt)
		want, _ := wantBlows(w, l)
		checkBlows(t, w, l, want...)
		for _, b := range l {
			for _, by := range w.Troops {
				if b.By == by.Id {
					tried[verdict(w, by, b.At)]++
				}
			}
		}
	}
	for _, what := range []string{atNobody, atOwn, tooFar, hidden, counting} {
		if tried[what] < 300 {
			t.Errorf("%d blows are %s", tried[what], what)
		}
	}
}

// P13.2.

func sameWorld(a, b api.World) bool { return fmt.Sprint(a) == fmt.Sprint(b) }

func checkStruck(t *testing.T, w api.World, l []api.Blow, want api.World, wantGone ...int) {
	t.Helper()
	struck, gone, err := Struck(w, l)
	if !sameWorld(struck, want) || !slices.Equal(gone, wantGone) || err != api.OK {
		t.Errorf("Struck of %s, %s = %s, %d, %d, want %s, %d, 0", brief(w), briefBlows(l), brief(struck), gone, err, brief(want), wantGone)
	}
	if err := troop.Check(struck); err != api.OK {
		t.Errorf("Struck of %s, %s = %s, of which troop.Check = %d", brief(w), briefBlows(l), brief(struck), err)
	}
}

func TestStruck(t *testing.T) {
	checkStruck(t, bare(), nil, bare())
	checkStruck(t, small(), nil, small())
	checkStruck(t, small(), []api.Blow{}, small())
	checkStruck(t, small(), []api.Blow{{By: 5, At: 2}, {By: 2, At: 6}, {By: 99, At: 2}}, with(small(), func(w *api.World) { w.Troops = w.Troops[1:] }), 2)
	// All but the Life stays as it was, that of those that are not harmed, too.
	checkStruck(t, small(), []api.Blow{{By: 11, At: 6}, {By: 2, At: 5}}, with(small(), func(w *api.World) { w.Troops[1].Life, w.Troops[2].Life = 19, 8 }))
	checkStruck(t, small(), []api.Blow{{By: 5, At: 6}, {By: 12, At: 6}}, with(small(), func(w *api.World) { w.Troops[2].Life = 1 }))
}

// A troop that has one left stays; one that has none left, or would have less,
// is gone.
func TestStruckLife(t *testing.T) {
	blows := []api.Blow{{By: 1, At: 2}, {By: 3, At: 2}}
	for life := range 20 {
		w := world(plain(3, 1), soldier(1, 0, 0, 0), soldier(2, 1, 1, 0), worker(3, 2, 2, 0))
		w.Troops[1].Life = life + 1
		want := troop.Copy(w)
		if life+1 <= 5 {
			want.Troops = append(want.Troops[:1], want.Troops[2])
			checkStruck(t, w, blows, want, 2)
			continue
		}
		want.Troops[1].Life = life + 1 - 5
		checkStruck(t, w, blows, want)
	}
}

// It is all at once: who is gone has hit, wherever its blow stands.
func TestStruckAtOnce(t *testing.T) {
	w := world(plain(3, 1), soldier(1, 0, 0, 0), soldier(2, 1, 1, 0), soldier(3, 2, 2, 0))
	w.Troops[0].Life, w.Troops[1].Life, w.Troops[2].Life = 4, 1, 3
	none := with(w, func(w *api.World) { w.Troops = nil })
	checkStruck(t, w, []api.Blow{{By: 1, At: 2}, {By: 2, At: 3}, {By: 3, At: 1}}, none, 1, 2, 3)
	checkStruck(t, w, []api.Blow{{By: 3, At: 1}, {By: 2, At: 3}, {By: 1, At: 2}}, none, 1, 2, 3)
	checkStruck(t, w, []api.Blow{{By: 3, At: 2}, {By: 1, At: 2}, {By: 2, At: 1}}, with(w, func(w *api.World) { w.Troops = w.Troops[2:] }), 1, 2)
}

// What those that are gone carried is lost: it comes to no stock and no mine,
// and their Ids are not used anew.
func TestStruckLoads(t *testing.T) {
	w := world(read("ooo", "ooo"), worker(1, 0, 0, 0), worker(2, 1, 1, 0), soldier(3, 0, 2, 0), worker(999, 1, 1, 1))
	for _, i := range []int{0, 1, 3} {
		w.Troops[i].Load, w.Troops[i].Life = 5-i, 1
	}
	want := with(w, func(w *api.World) { w.Troops = w.Troops[2:3] })
	checkStruck(t, w, []api.Blow{{By: 999, At: 1}, {By: 3, At: 999}, {By: 1, At: 2}}, want, 1, 2, 999)
	want = with(w, func(w *api.World) { w.Troops = w.Troops[:3] })
	checkStruck(t, w, []api.Blow{{By: 3, At: 999}}, want, 999)
}

func TestStruckOfManyWorlds(t *testing.T) {
	gone, left, harmed := 0, 0, 0
	for salt := range 400 {
		w := made(1+salt%13, 1+salt*7%11, salt)
		l := madeBlows(w, salt%201, salt+9)
		want, wantGone, _ := wantStruck(w, l)
		checkStruck(t, w, l, want, wantGone...)
		gone, left = gone+len(wantGone), left+len(want.Troops)
		harm, _ := wantBlows(w, l)
		for _, n := range harm {
			harmed += min(n, 1)
		}
	}
	if gone < 300 || left < 300 || harmed < gone+300 {
		t.Errorf("%d are gone, %d left, %d harmed", gone, left, harmed)
	}
}

// P1.

// asked is what both calls are given; told is what they answer.
type asked struct {
	w api.World
	l []api.Blow
}

type told struct {
	harm      []int
	struck    api.World
	gone      []int
	blowsErr  api.Errno
	struckErr api.Errno
}

func ask(q asked) (r told) {
	r.harm, r.blowsErr = Blows(q.w, q.l)
	r.struck, r.gone, r.struckErr = Struck(q.w, q.l)
	return r
}

// wantTold is what the promises ask for.
func wantTold(q asked) (r told) {
	r.harm, r.blowsErr = wantBlows(q.w, q.l)
	r.struck, r.gone, r.struckErr = wantStruck(q.w, q.l)
	return r
}

func same(a, b told) bool { return fmt.Sprint(a) == fmt.Sprint(b) }

func (q asked) String() string { return brief(q.w) + "; " + briefBlows(q.l) }

func (r told) String() string {
	return fmt.Sprintf("harm %d, %d; struck %v, gone %d, %d", r.harm, r.blowsErr, r.struck, r.gone, r.struckErr)
}

// spoiltTroops are worlds with one number of a troop put to another one, most of
// them wrong.
func spoiltTroops() []api.World {
	var list []api.World
	d := dice(3)
	for range 120 {
		list = append(list, with(crowd(), func(w *api.World) {
			one := &w.Troops[d.below(100)]
			number := []*int{&one.Id, &one.Owner, &one.Kind, &one.Cell.X, &one.Cell.Y, &one.Life, &one.Load}[d.below(7)]
			*number = append(wild(), 1, 2, 3, 5)[d.below(20)]
		}))
	}
	return list
}

func questions() []asked {
	worlds := append(wrongWorlds(), bare(), small(), crowd())
	worlds = append(worlds, spoiltTroops()...)
	for salt := range 60 {
		worlds = append(worlds, made(1+salt*7%40, 1+salt*11%40, salt+1000))
	}
	numbers := append(wild(), 2, 5, 6, 11, 12)
	var wildBlows []api.Blow
	for i := range 200 {
		wildBlows = append(wildBlows, api.Blow{By: numbers[i%len(numbers)], At: numbers[i*8%len(numbers)]})
	}
	var list []asked
	for i, w := range worlds {
		list = append(list, asked{w, nil}, asked{w, wildBlows}, asked{w, make([]api.Blow, 199+i%4)})
		// Blows of a world that is wrong are made as if it weren't.
		if w.NextId > 0 && w.Field.Wide > 0 && w.Field.Wide <= 40 {
			list = append(list, asked{w, madeBlows(w, 1+i*7%200, i)}, asked{w, madeBlows(w, 200, i+1)})
		}
	}
	return list
}

// Whatever is given, an answer is the one that the promises ask for.
func TestEachCallAnswers(t *testing.T) {
	for _, q := range questions() {
		if got, want := ask(q), wantTold(q); !same(got, want) {
			t.Errorf("of %v: %v, want %v", q, got, want)
		}
	}
}

// P2.

// roomy is q with room behind each of its lists that has something in it.
func roomy(q asked) asked {
	w := &q.w
	w.Field.Places = append(slices.Clone(w.Field.Places), 1, 2, 3)[:len(w.Field.Places)]
	w.Bases = append(slices.Clone(w.Bases), at(1, 2), at(3, 4))[:len(w.Bases)]
	w.Stocks = append(slices.Clone(w.Stocks), 5, 6)[:len(w.Stocks)]
	w.Mines = append(slices.Clone(w.Mines), 7, 8)[:len(w.Mines)]
	w.Troops = append(slices.Clone(w.Troops), soldier(9, 0, 0, 0), worker(8, 1, 1, 1))[:len(w.Troops)]
	q.l = append(slices.Clone(q.l), api.Blow{By: 2, At: 5}, api.Blow{By: 5, At: 2})[:len(q.l)]
	return q
}

// whole is what a question holds, the room behind its lists included.
func whole(q asked) string {
	w := q.w
	return fmt.Sprint(w.Field, w.NextId, w.Now, w.Field.Places[:len(w.Field.Places)+3], w.Bases[:len(w.Bases)+2], w.Stocks[:len(w.Stocks)+2],
		w.Mines[:len(w.Mines)+2], w.Troops[:len(w.Troops)+2], q.l[:len(q.l)+2])
}

func TestQuestionsAreNotChanged(t *testing.T) {
	for _, q := range questions() {
		want := ask(q)
		q = roomy(q)
		old := whole(q)
		if got := ask(q); !same(got, want) {
			t.Fatalf("of %v: %v, with room behind the lists %v", q, want, got)
		}
		if whole(q) != old {
			t.Fatalf("of %v: left %s", q, whole(q))
		}
	}
}

// lists are those of an answer, the room behind each included.
func (r told) lists() []any {
	w := r.struck
	return []any{r.harm[:cap(r.harm)], r.gone[:cap(r.gone)], w.Field.Places[:cap(w.Field.Places)], w.Bases[:cap(w.Bases)],
		w.Stocks[:cap(w.Stocks)], w.Mines[:cap(w.Mines)], w.Troops[:cap(w.Troops)]}
}

// spoil puts each part of a list to another one.
func spoil(list any) {
	switch l := list.(type) {
	case []int:
		for i := range l {
			l[i] = ^l[i]
		}
	case []api.Cell:
		for i := range l {
			l[i].X = ^l[i].X
		}
	case []api.Troop:
		for i := range l {
			l[i].Id = ^l[i].Id
		}
	}
}

// Who changes a list of an answer, and the room behind it, changes no other
// list, no other answer and nothing that was handed in.
func TestAnswersAreNewMemory(t *testing.T) {
	for _, q := range questions() {
		q = roomy(q)
		old := whole(q)
		want, first, second := ask(q), ask(q), ask(q)
		for i, list := range first.lists() {
			was := fmt.Sprint(first.lists()[i+1:])
			spoil(list)
			if fmt.Sprint(first.lists()[i+1:]) != was {
				t.Fatalf("of %v: list %d, spoilt, spoils others", q, i)
			}
		}
		if whole(q) != old {
			t.Fatalf("of %v: spoilt %s", q, whole(q))
		}
		if third := ask(q); !same(second, want) || !same(third, want) {
			t.Fatalf("of %v: %v beside a spoilt answer, %v behind it, want %v", q, second, third, want)
		}
	}
}

func TestNothingIsKeptBetweenCalls(t *testing.T) {
	list := questions()
	answers := make([]told, len(list))
	for i, q := range list {
		answers[i] = ask(q)
	}
	for i := len(list) - 1; i >= 0; i-- {
		if got := ask(list[i]); !same(got, answers[i]) {
			t.Fatalf("of %v: first %v, then %v", list[i], answers[i], got)
		}
	}
}

// A world and blows that have become others in the same memory are read anew,
// and what was answered of them stays as it was.
func TestQuestionsAreNotKept(t *testing.T) {
	q := asked{small(), []api.Blow{{By: 5, At: 6}, {By: 6, At: 5}, {By: 11, At: 12}}}
	first, want := ask(q), wantTold(q)
	for i := range 600 {
		q.w.Troops[i%5].Life = 1 + i%10
		q.w.Troops[i%5].Cell = at(i%5, i/5%3)
		q.w.Troops[4].Id = 12 + i%8
		q.w.Stocks[i%3] = i
		q.l[i%3] = api.Blow{By: q.w.Troops[i%5].Id, At: q.w.Troops[i*3/5%5].Id}
		if got, want := ask(q), wantTold(q); !same(got, want) {
			t.Fatalf("of %v: %v, want %v", q, got, want)
		}
	}
	if !same(first, want) {
		t.Errorf("of the world at first, later on: %v, want %v", first, want)
	}
}
