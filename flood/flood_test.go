package flood

import (
	"fmt"
	"math"
	"slices"
	"strings"
	"testing"

	"musterfield/api"
	"musterfield/field"
)

// read is the field of some rows.
func read(rows ...string) api.Field {
	f, err := field.Read(strings.Join(rows, "\n") + "\n")
	if err != api.OK {
		panic(fmt.Sprint(rows, " are no field"))
	}
	return f
}

// made is a field of these sides in which, of each seven places or so, one is
// rock and some are wood; another salt makes another one.
func made(wide, high, salt int) api.Field {
	f := api.Field{Wide: wide, High: high, Places: make([]int, wide*high)}
	n := uint32(salt)
	for i := range f.Places {
		n = n*1664525 + 1013904223
		f.Places[i] = []int{0, 0, 1, 2, 2, 2, 3}[n>>16%7]
	}
	return f
}

// with is f with one place put to another number.
func with(f api.Field, i, place int) api.Field {
	f.Places = slices.Clone(f.Places)
	f.Places[i] = place
	return f
}

func cellOf(f api.Field, i int) api.Cell { return api.Cell{X: i % f.Wide, Y: i / f.Wide} }

// noSorts are numbers that no place has.
func noSorts() []int {
	return []int{-1, 4, -2, -3, 5, 6, 7, 8, 46, 255, 256, 257, 1 << 32, 1<<32 + 1, 1<<32 + 2, -1 << 32, math.MinInt, math.MinInt + 1, math.MaxInt}
}

// noCells are cells that are in no field.
func noCells() []api.Cell {
	list := []api.Cell{{X: 40, Y: 40}, {X: -1, Y: -1}, {X: math.MaxInt, Y: math.MinInt}, {X: math.MinInt, Y: math.MaxInt}}
	for _, off := range []int{-1, -40, 40, 1600, 1 << 32, 1 << 62, math.MinInt, math.MaxInt} {
		list = append(list, api.Cell{X: off}, api.Cell{Y: off})
	}
	return list
}

// wrongFields are some that field.Check refuses, of either error and of both.
func wrongFields() []api.Field {
	list := []api.Field{
		{}, {Wide: 1, High: 1}, {Wide: 40, High: 40}, {Places: []int{0}}, {Wide: -2, High: -3, Places: make([]int, 6)},
		made(41, 1, 1), made(1, 41, 1), {Wide: 41, High: 41}, {Wide: 1 << 32, High: 1 << 32}, {Wide: math.MinInt, High: math.MaxInt, Places: []int{4}},
		{Wide: 2, High: 2, Places: make([]int, 3)}, {Wide: 2, High: 2, Places: make([]int, 5)},
	}
	for _, wrong := range noSorts() {
		f := api.Field{Wide: 3, High: 2, Places: make([]int, 6)}
		list = append(list, with(f, 0, wrong), with(f, 5, wrong))
	}
	return list
}

// wantCost is the promise word by word.
func wantCost(place int) (int, api.Errno) {
	switch place {
	case 0, 3:
		return 2, api.OK
	case 2:
		return 3, api.OK
	case 1:
		return 0, api.ErrState
	}
	return 0, api.ErrArg
}

func wantError(f api.Field, l []api.Cell) api.Errno {
	if err := field.Check(f); err != api.OK {
		return err
	}
	if len(l) > 100 {
		return api.ErrLarge
	}
	for _, c := range l {
		if c.X < 0 || c.Y < 0 || c.X >= f.Wide || c.Y >= f.High {
			return api.ErrNone
		}
		if f.Places[c.X+c.Y*f.Wide] == api.GRock {
			return api.ErrState
		}
	}
	return api.OK
}

// wantFrom has each place take what is cheaper over a place beside it, until
// none is.
func wantFrom(f api.Field, l []api.Cell) ([]int, api.Errno) {
	if err := wantError(f, l); err != api.OK {
		return nil, err
	}
	const far = 1 << 30
	costs := slices.Repeat([]int{far}, f.Wide*f.High)
	for _, c := range l {
		costs[c.X+c.Y*f.Wide] = 0
	}
	for again := true; again; {
		again = false
		for i := range costs {
			for k := range 4 {
				x, y := i%f.Wide+[]int{0, 0, 1, -1}[k], i/f.Wide+[]int{1, -1, 0, 0}[k]
				if x < 0 || x >= f.Wide || y < 0 || y >= f.High || f.Places[i] == 1 {
					continue
				}
				enter, _ := wantCost(f.Places[i])
				if over := costs[x+y*f.Wide] + enter; over < costs[i] && over < far {
					costs[i], again = over, true
				}
			}
		}
	}
	for i := range costs {
		if costs[i] == far {
			costs[i] = -1
		}
	}
	return costs, api.OK
}

// brief tells of a great field only how it begins.
func brief(f api.Field) string {
	return fmt.Sprintf("%d x %d, %d places %d", f.Wide, f.High, len(f.Places), f.Places[:min(24, len(f.Places))])
}

func briefCells(l []api.Cell) string {
	return fmt.Sprintf("%d cells %d", len(l), l[:min(6, len(l))])
}

func briefCosts(l []int) string {
	return fmt.Sprintf("%d costs %d", len(l), l[:min(24, len(l))])
}

// P9.1.

func checkCost(t *testing.T, place, want int, wantErr api.Errno) {
	t.Helper()
	if got, err := Cost(place); got != want || err != wantErr {
		t.Errorf("Cost(%d) = %d, %d, want %d, %d", place, got, err, want, wantErr)
	}
}

func TestCost(t *testing.T) {
	checkCost(t, api.GPlain, 2, api.OK)
	checkCost(t, api.GOre, 2, api.OK)
	checkCost(t, api.GWood, 3, api.OK)
}

func TestCostOfRock(t *testing.T) {
	checkCost(t, api.GRock, 0, api.ErrState)
}

func TestCostOfNoSort(t *testing.T) {
	for _, place := range noSorts() {
		checkCost(t, place, 0, api.ErrArg)
	}
	for place := -300; place <= 300; place++ {
		want, err := wantCost(place)
		checkCost(t, place, want, err)
	}
}

// P9.2.

func checkFrom(t *testing.T, f api.Field, l []api.Cell, want []int, wantErr api.Errno) {
	t.Helper()
	if got, err := From(f, l); !slices.Equal(got, want) || err != wantErr {
		t.Errorf("From of %s, %s = %s, %d, want %s, %d", brief(f), briefCells(l), briefCosts(got), err, briefCosts(want), wantErr)
	}
}

func checkError(t *testing.T, f api.Field, l []api.Cell, want api.Errno) {
	t.Helper()
	got, err := From(f, l)
	if err != want || got != nil {
		t.Errorf("From of %s, %s = %s, %d, want no list, %d", brief(f), briefCells(l), briefCosts(got), err, want)
	}
}

// checkModel holds an answer against the slow way there.
func checkModel(t *testing.T, f api.Field, l []api.Cell) {
	t.Helper()
	want, err := wantFrom(f, l)
	checkFrom(t, f, l, want, err)
}

func TestFrom(t *testing.T) {
	for _, c := range []struct {
		f    api.Field
		l    []api.Cell
		want []int
	}{
		{read("."), []api.Cell{{}}, []int{0}},
		{read("t"), []api.Cell{{}}, []int{0}},
		{read("o"), []api.Cell{{}}, []int{0}},
		{read(".."), []api.Cell{{}}, []int{0, 2}},
		{read(".t"), []api.Cell{{}}, []int{0, 3}},
		{read(".o"), []api.Cell{{}}, []int{0, 2}},
		{read(".#"), []api.Cell{{}}, []int{0, -1}},
		// What is left costs nothing: only what is entered does.
		{read("t."), []api.Cell{{}}, []int{0, 2}},
		{read("t.", "t."), []api.Cell{{}}, []int{0, 2, 3, 4}},
		{read(".t.o.t"), []api.Cell{{X: 2}}, []int{5, 3, 0, 2, 4, 7}},
		{read(".", "t", "o", "#", "."), []api.Cell{{Y: 1}}, []int{2, 0, 2, -1, -1}},
		// Not across a corner.
		{read(".#", "#."), []api.Cell{{}}, []int{0, -1, -1, -1}},
		{read("..", ".."), []api.Cell{{}}, []int{0, 2, 2, 4}},
		// Not from the end of a row to the beginning of the next one.
		{read("...", "###", "..."), []api.Cell{{X: 2}}, []int{4, 2, 0, -1, -1, -1, -1, -1, -1}},
		{read("..#.", ".#..", "#..."), []api.Cell{{}}, []int{0, 2, -1, -1, 2, -1, -1, -1, -1, -1, -1, -1}},
		// Around a rock.
		{read(".#.", ".#.", "..."), []api.Cell{{}}, []int{0, -1, 12, 2, -1, 10, 4, 6, 8}},
		// Around woods, though that takes more steps.
		{read(".tttttt.", "........"), []api.Cell{{}}, []int{0, 3, 6, 9, 12, 15, 17, 18, 2, 4, 6, 8, 10, 12, 14, 16}},
		{read("..t.", ".##.", ".#.."), []api.Cell{{}}, []int{0, 2, 5, 7, 2, -1, -1, 9, 4, -1, 13, 11}},
	} {
		checkFrom(t, c.f, c.l, c.want, api.OK)
	}
}

func TestFromSeveralCells(t *testing.T) {
	f := read("....", ".t#.", "o#..")
	for _, c := range []struct {
		l    []api.Cell
		want []int
	}{
		{nil, slices.Repeat([]int{-1}, 12)},
		{[]api.Cell{}, slices.Repeat([]int{-1}, 12)},
		{[]api.Cell{{X: 1, Y: 1}}, []int{4, 2, 4, 6, 2, 0, -1, 8, 4, -1, 12, 10}},
		{[]api.Cell{{}, {X: 3, Y: 2}}, []int{0, 2, 4, 4, 2, 5, -1, 2, 4, -1, 2, 0}},
		// Whichever stands first, and however often.
		{[]api.Cell{{X: 3, Y: 2}, {}}, []int{0, 2, 4, 4, 2, 5, -1, 2, 4, -1, 2, 0}},
		{[]api.Cell{{}, {X: 3, Y: 2}, {}, {}, {X: 3, Y: 2}}, []int{0, 2, 4, 4, 2, 5, -1, 2, 4, -1, 2, 0}},
		// One beside another one costs nothing either.
		{[]api.Cell{{Y: 1}, {X: 1, Y: 1}}, []int{2, 2, 4, 6, 0, 0, -1, 8, 2, -1, 12, 10}},
	} {
		checkFrom(t, f, c.l, c.want, api.OK)
	}
}

func TestFromNowhere(t *testing.T) {
	for _, f := range []api.Field{read("."), read("#"), made(7, 5, 3), made(40, 40, 3)} {
		checkFrom(t, f, nil, slices.Repeat([]int{-1}, len(f.Places)), api.OK)
	}
}

// Each field of six places, from each of them and from each two.
func TestFromOfEachSmallField(t *testing.T) {
	for _, sides := range [][2]int{{3, 2}, {2, 3}, {6, 1}, {1, 6}} {
		for n := range 1 << 12 {
			f := api.Field{Wide: sides[0], High: sides[1], Places: make([]int, 6)}
			for i := range f.Places {
				f.Places[i] = n >> (2 * i) & 3
			}
			i, k := n%6, n/6%6
			checkModel(t, f, []api.Cell{cellOf(f, i)})
			checkModel(t, f, []api.Cell{cellOf(f, i), cellOf(f, k)})
		}
	}
}

// openCells are those of f that are no rock.
func openCells(f api.Field) []api.Cell {
	var l []api.Cell
	for i, place := range f.Places {
		if place != api.GRock {
			l = append(l, cellOf(f, i))
		}
	}
	return l
}

func TestFromOfManyFields(t *testing.T) {
	for salt := range 400 {
		f := made(1+salt*7%23, 1+salt*11%19, salt)
		l := openCells(f)
		for _, n := range []int{1, 2, 5, 100} {
			var some []api.Cell
			for k := range min(n, len(l)) {
				some = append(some, l[(salt+k*31)%len(l)])
			}
			checkModel(t, f, some)
		}
	}
}

// Woods are cheaper to go around the more of them lie there.
func TestFromAroundWoods(t *testing.T) {
	for wide := 1; wide <= 40; wide++ {
		for high := 1; high <= 4; high++ {
			f := api.Field{Wide: wide, High: high, Places: slices.Repeat([]int{api.GWood}, wide*high)}
			for x := range wide {
				f.Places[(high-1)*wide+x] = api.GPlain
			}
			checkModel(t, f, []api.Cell{{}})
			checkModel(t, f, []api.Cell{{X: wide - 1}, {X: wide / 2, Y: high - 1}})
		}
	}
}

// winding is the greatest field, all of one sort but for walls with a gap at
// either end in turn: the longest way leads through all of it.
func winding(place int) api.Field {
	f := api.Field{Wide: 40, High: 40, Places: slices.Repeat([]int{place}, 1600)}
	for y := 1; y < 40; y += 2 {
		for x := range 40 {
			if gap := 39 * (y / 2 % 2); x != 39-gap {
				f.Places[y*40+x] = api.GRock
			}
		}
	}
	return f
}

func TestFromOverTheLongestWay(t *testing.T) {
	for place, each := range map[int]int{api.GPlain: 2, api.GWood: 3, api.GOre: 2} {
		f := winding(place)
		got, err := From(f, []api.Cell{{}})
		if err != api.OK {
			t.Fatalf("From of %s: %d", brief(f), err)
		}
		// Twenty rows of 40, and a gap behind each.
		if last := f.Wide * 39; f.Places[last] == api.GRock || got[last] != each*(20*40+20-1) {
			t.Errorf("From of %s: the last place costs %d", brief(f), got[last])
		}
		checkModel(t, f, []api.Cell{{}})
	}
}

func TestFromOfTheGreatestField(t *testing.T) {
	for place, each := range map[int]int{api.GPlain: 2, api.GWood: 3, api.GOre: 2} {
		f := api.Field{Wide: 40, High: 40, Places: slices.Repeat([]int{place}, 1600)}
		want := make([]int, 1600)
		for i := range want {
			want[i] = each * (39 - i%40 + 39 - i/40)
		}
		checkFrom(t, f, []api.Cell{{X: 39, Y: 39}}, want, api.OK)
	}
	for salt := range 5 {
		f := made(40, 40, salt)
		l := openCells(f)
		checkModel(t, f, l[:1])
		checkModel(t, f, l[len(l)-100:])
	}
}

func TestFromTooManyCells(t *testing.T) {
	f := read("..#", "t.o")
	for n := 98; n <= 100; n++ {
		checkFrom(t, f, make([]api.Cell, n), []int{0, 2, -1, 3, 4, 6}, api.OK)
	}
	for _, n := range []int{101, 102, 200, 1600, 100000} {
		checkError(t, f, make([]api.Cell, n), api.ErrLarge)
		// Ahead of whatever is wrong with one of them.
		for _, wrong := range []api.Cell{{X: 2}, {X: 3}, {Y: -1}} {
			checkError(t, f, slices.Repeat([]api.Cell{wrong}, n), api.ErrLarge)
		}
	}
	great := made(40, 40, 1)
	checkModel(t, great, openCells(great)[:100])
	checkModel(t, great, openCells(great)[:101])
}

func TestFromNoCell(t *testing.T) {
	for _, f := range []api.Field{read("."), read("#"), read("..#", "t.o"), made(40, 1, 1), made(1, 40, 1), made(40, 40, 1)} {
		for _, wrong := range noCells() {
			checkError(t, f, []api.Cell{wrong}, api.ErrNone)
		}
		for _, open := range openCells(f)[:min(1, len(openCells(f)))] {
			for _, wrong := range append(noCells(), api.Cell{X: f.Wide}, api.Cell{Y: f.High}) {
				checkError(t, f, []api.Cell{open, wrong}, api.ErrNone)
				checkError(t, f, append(slices.Repeat([]api.Cell{open}, 99), wrong), api.ErrNone)
			}
		}
	}
	// Also where its place would be one.
	for _, c := range []api.Cell{{X: 3}, {X: -1, Y: 1}, {X: 5}, {X: -3, Y: 2}, {X: 9, Y: -1}} {
		checkError(t, read("...", "..."), []api.Cell{c}, api.ErrNone)
	}
}

func TestFromRock(t *testing.T) {
	f := read("..#", "#.o")
	for _, rock := range []api.Cell{{X: 2}, {Y: 1}} {
		checkError(t, f, []api.Cell{rock}, api.ErrState)
		checkError(t, f, []api.Cell{{}, rock, {X: 1}}, api.ErrState)
		checkError(t, f, append(make([]api.Cell, 99), rock), api.ErrState)
	}
	checkError(t, read("#"), []api.Cell{{}}, api.ErrState)
}

// Of several cells that are wrong the first one is told of.
func TestFromCellByCell(t *testing.T) {
	f := read("..#", "#.o")
	open, rock, out := api.Cell{X: 1}, api.Cell{X: 2}, api.Cell{X: 3}
	checkError(t, f, []api.Cell{rock, out}, api.ErrState)
	checkError(t, f, []api.Cell{out, rock}, api.ErrNone)
	checkError(t, f, []api.Cell{open, open, rock, open, out}, api.ErrState)
	checkError(t, f, []api.Cell{open, out, open, rock, rock}, api.ErrNone)
	checkError(t, f, append(append(make([]api.Cell, 98), rock), out), api.ErrState)
	checkError(t, f, append(append(make([]api.Cell, 98), out), rock), api.ErrNone)
}

// That there is no field is told ahead of whatever is wrong with the cells.
func TestFromOfNoField(t *testing.T) {
	for _, f := range wrongFields() {
		want := field.Check(f)
		if want == api.OK {
			t.Fatalf("%s is a field", brief(f))
		}
		for _, l := range [][]api.Cell{nil, {{}}, {{X: 1}}, {{X: -1}}, {{X: 40, Y: 40}}, make([]api.Cell, 101), slices.Repeat([]api.Cell{{X: 50}}, 200)} {
			checkError(t, f, l, want)
		}
	}
}

// P1.

// asked is what each call is given; told is what they answer.
type asked struct {
	place int
	f     api.Field
	l     []api.Cell
}

type told struct {
	cost             int
	costErr, fromErr api.Errno
	from             []int
}

func ask(q asked) (r told) {
	r.cost, r.costErr = Cost(q.place)
	r.from, r.fromErr = From(q.f, q.l)
	return r
}

// wantTold is what the promises ask for.
func wantTold(q asked) (r told) {
	r.cost, r.costErr = wantCost(q.place)
	r.from, r.fromErr = wantFrom(q.f, q.l)
	return r
}

func same(a, b told) bool {
	return a.cost == b.cost && a.costErr == b.costErr && a.fromErr == b.fromErr && slices.Equal(a.from, b.from)
}

func (q asked) String() string {
	return fmt.Sprintf("%d, %s and %s", q.place, brief(q.f), briefCells(q.l))
}

func (r told) String() string {
	return fmt.Sprintf("Cost %d, %d, From %s, %d", r.cost, r.costErr, briefCosts(r.from), r.fromErr)
}

func questions() []asked {
	places := append(noSorts(), 0, 1, 2, 3)
	fields := wrongFields()
	for i, sides := range [][2]int{{1, 1}, {2, 2}, {3, 2}, {2, 3}, {1, 40}, {40, 1}, {7, 31}, {40, 40}} {
		fields = append(fields, made(sides[0], sides[1], i), made(sides[0], sides[1], i+100))
	}
	fields = append(fields, read("#"), read("##", "##"), read("..#", "t.o"))
	var list []asked
	for i, f := range fields {
		lists := [][]api.Cell{nil, {{}}, {{}, {X: 1}}, make([]api.Cell, 100), make([]api.Cell, 101), {noCells()[i%len(noCells())]}}
		if field.Check(f) == api.OK {
			open := openCells(f)
			lists = append(lists, open, open[:min(3, len(open))], open[len(open)/2:min(len(open), len(open)/2+100)])
		}
		for k, l := range lists {
			list = append(list, asked{places[(i+k)%len(places)], f, l})
		}
	}
	return list
}

// Whatever is given, an answer is the one that the promises ask for.
func TestEachCallAnswers(t *testing.T) {
	for _, q := range questions() {
		if got, want := ask(q), wantTold(q); !same(got, want) {
			t.Errorf("of %v: %v, want %v", q, got, want)
		}
	}
}

// P2.

// roomy is q with room behind its lists that has something in it.
func roomy(q asked) asked {
	q.f.Places = append(slices.Clone(q.f.Places), 1, 2, 3)[:len(q.f.Places)]
	q.l = append(slices.Clone(q.l), api.Cell{X: 1}, api.Cell{X: -1}, api.Cell{Y: 7})[:len(q.l)]
	return q
}

// whole is what a question's lists hold, the room behind them included.
func whole(q asked) ([]int, []api.Cell) {
	return q.f.Places[:len(q.f.Places)+3], q.l[:len(q.l)+3]
}

func TestListsAreNotChanged(t *testing.T) {
	for _, q := range questions() {
		want := ask(q)
		q = roomy(q)
		places, cells := whole(q)
		oldPlaces, oldCells := slices.Clone(places), slices.Clone(cells)
		if got := ask(q); !same(got, want) {
			t.Fatalf("of %v: %v, with room behind the lists %v", q, want, got)
		}
		if !slices.Equal(places, oldPlaces) || !slices.Equal(cells, oldCells) {
			t.Fatalf("of %v: left %d and %d", q, places, cells)
		}
	}
}

// spoil puts each number of a list, and of the room behind it, to another one.
func spoil(l []int) {
	l = l[:cap(l)]
	for i := range l {
		l[i] = ^l[i]
	}
}

// Who changes an answer, and the room behind it, changes no other answer and
// nothing that was handed in.
func TestAnswersAreNewMemory(t *testing.T) {
	for _, q := range questions() {
		q = roomy(q)
		places, cells := whole(q)
		oldPlaces, oldCells := slices.Clone(places), slices.Clone(cells)
		want, first, second := wantTold(q), ask(q), ask(q)
		spoil(first.from)
		if !slices.Equal(places, oldPlaces) || !slices.Equal(cells, oldCells) {
			t.Fatalf("of %v: spoilt %d and %d", q, places, cells)
		}
		if !same(second, want) {
			t.Fatalf("of %v: %v, want %v", q, second, want)
		}
		if third := ask(q); !same(third, want) {
			t.Fatalf("of %v: %v behind a spoilt answer, want %v", q, third, want)
		}
	}
}

func TestNothingIsKeptBetweenCalls(t *testing.T) {
	list := questions()
	answers := make([]told, len(list))
	for i, q := range list {
		answers[i] = ask(q)
	}
	for i := len(list) - 1; i >= 0; i-- {
		if got := ask(list[i]); !same(got, answers[i]) {
			t.Fatalf("of %v: first %v, then %v", list[i], answers[i], got)
		}
	}
}

// Lists that have become others in the same memory are read anew, and what was
// answered of them stays as it was.
func TestListsAreNotKept(t *testing.T) {
	q := asked{f: read("...", "..."), l: make([]api.Cell, 2)}
	first, want := ask(q), []int{0, 2, 4, 2, 4, 6}
	for i := range 200 {
		for k := range q.f.Places {
			q.f.Places[k] = (i + i*k/5) % 4
		}
		q.l[0], q.l[1] = cellOf(q.f, i%6), cellOf(q.f, i/6%6)
		if got, want := ask(q), wantTold(q); !same(got, want) {
			t.Fatalf("of %v: %v, want %v", q, got, want)
		}
	}
	if !slices.Equal(first.from, want) {
		t.Errorf("of six plain places, later on: %v", first)
	}
}
