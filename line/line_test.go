package line

import (
	"math"
	"slices"
	"testing"

	"musterfield/api"
)

func cell(x, y int) api.Cell { return api.Cell{X: x, Y: y} }

// square is each cell that is at most reach places off from 0, 0.
func square(reach int) []api.Cell {
	var list []api.Cell
	for y := -reach; y <= reach; y++ {
		for x := -reach; x <= reach; x++ {
			list = append(list, cell(x, y))
		}
	}
	return list
}

// grid is cells from one bound to the other, the bounds with them.
func grid() []api.Cell {
	var list []api.Cell
	numbers := []int{-1000, -999, -667, -500, -1, 0, 1, 2, 333, 998, 999, 1000}
	for _, y := range numbers {
		for _, x := range numbers {
			list = append(list, cell(x, y))
		}
	}
	return list
}

// wrongNumbers are out of bounds: next to them, far off, such as would be in
// bounds if only their lower bits were looked at, and such as make a
// difference overflow.
func wrongNumbers() []int {
	list := []int{1001, 1002, 2000, 65536, 1<<31 - 1, 1 << 31, 1 << 32, 1<<32 + 5, 1 << 40, 1<<62 - 1, 1 << 62, math.MaxInt - 1000, math.MaxInt - 1, math.MaxInt}
	for _, n := range slices.Clone(list) {
		list = append(list, -n)
	}
	return append(list, math.MinInt, math.MinInt+1, math.MinInt+1000)
}

// wrongCells have one of their numbers out of bounds, or both.
func wrongCells() []api.Cell {
	var list []api.Cell
	for _, n := range wrongNumbers() {
		for _, right := range []int{-1000, 0, 7, 1000} {
			list = append(list, cell(n, right), cell(right, n))
		}
		list = append(list, cell(n, n), cell(n, -1001), cell(math.MaxInt, n))
	}
	return list
}

func flipped(c api.Cell) api.Cell { return cell(c.Y, c.X) }

func abs(n int) int {
	if n < 0 {
		return -n
	}
	return n
}

// P3.1.

func checkApart(t *testing.T, a, b api.Cell, king, rook int) {
	t.Helper()
	if k, r, err := Apart(a, b); k != king || r != rook || err != api.OK {
		t.Errorf("Apart(%v, %v) = %d, %d, %d, want %d, %d, OK", a, b, k, r, err, king, rook)
	}
}

func TestApart(t *testing.T) {
	for _, c := range []struct {
		a, b       api.Cell
		king, rook int
	}{
		{cell(0, 0), cell(0, 0), 0, 0}, {cell(-7, 9), cell(-7, 9), 0, 0},
		{cell(0, 0), cell(1, 0), 1, 1}, {cell(0, 0), cell(0, -1), 1, 1}, {cell(0, 0), cell(1, 1), 1, 2}, {cell(0, 0), cell(-1, 1), 1, 2},
		{cell(0, 0), cell(3, 1), 3, 4}, {cell(0, 0), cell(1, 3), 3, 4}, {cell(5, 5), cell(7, 3), 2, 4},
		{cell(1, 2), cell(-3, 4), 4, 6}, {cell(-3, 4), cell(1, 2), 4, 6}, {cell(-3, -4), cell(-1, -9), 5, 7},
		{cell(-1000, -1000), cell(1000, 1000), 2000, 4000}, {cell(1000, -1000), cell(-1000, 1000), 2000, 4000},
		{cell(-1000, 1000), cell(1000, 1000), 2000, 2000}, {cell(1000, -1000), cell(1000, 1000), 2000, 2000},
		{cell(-1000, -1000), cell(999, 1000), 2000, 3999}, {cell(1000, 1000), cell(1000, 1000), 0, 0}, {cell(-1000, -1000), cell(-1000, -1000), 0, 0},
	} {
		checkApart(t, c.a, c.b, c.king, c.rook)
		checkApart(t, c.b, c.a, c.king, c.rook)
	}
}

// steps finds by trying how many steps each cell of a square is from its
// middle, so that nothing of the rule is taken for granted.
func steps(reach int, mayGo func(x, y int) bool) map[api.Cell]int {
	found := map[api.Cell]int{{}: 0}
	waiting := []api.Cell{{}}
	for len(waiting) > 0 {
		from := waiting[0]
		waiting = waiting[1:]
		for _, by := range square(1) {
			to := cell(from.X+by.X, from.Y+by.Y)
			_, known := found[to]
			if known || !mayGo(by.X, by.Y) || max(abs(to.X), abs(to.Y)) > reach {
				continue
			}
			found[to] = found[from] + 1
			waiting = append(waiting, to)
		}
	}
	return found
}

func TestApartIsStepsOfKingAndRook(t *testing.T) {
	const reach = 12
	king := steps(reach, func(x, y int) bool { return true })
	rook := steps(reach, func(x, y int) bool { return x == 0 || y == 0 })
	for _, off := range square(reach) {
		for _, a := range []api.Cell{cell(0, 0), cell(3, -5), cell(988, 988), cell(-988, 988), cell(-988, -988)} {
			checkApart(t, a, cell(a.X+off.X, a.Y+off.Y), king[off], rook[off])
		}
	}
}

// P3.2.

func checkCells(t *testing.T, a, b api.Cell, want []api.Cell) {
	t.Helper()
	if got, err := Cells(a, b); !slices.Equal(got, want) || err != api.OK {
		t.Errorf("Cells(%v, %v) = %v, %d, want %v, OK", a, b, got, err, want)
	}
}

func TestCells(t *testing.T) {
	for _, want := range [][]api.Cell{
		{cell(0, 0)}, {cell(-8, 3)}, {cell(1000, -1000)},
		{cell(0, 0), cell(1, 0)}, {cell(0, 0), cell(0, -1)}, {cell(4, 4), cell(3, 5)},
		{cell(0, 0), cell(1, 0), cell(2, 1), cell(3, 1)},
		{cell(3, 1), cell(2, 1), cell(1, 0), cell(0, 0)},
		{cell(0, 0), cell(-1, 0), cell(-2, -1), cell(-3, -1)},
		{cell(5, 5), cell(6, 4), cell(7, 3)},
		{cell(-1, 2), cell(-1, 1), cell(-1, 0), cell(-1, -1)},
		{cell(0, 0), cell(1, 1), cell(2, 1), cell(3, 2), cell(4, 2), cell(5, 3)},
		{cell(-2, 7), cell(-1, 6), cell(0, 6), cell(1, 5), cell(2, 4), cell(3, 4), cell(4, 3)},
		{cell(998, 999), cell(999, 1000), cell(1000, 1000)},
		{cell(-1000, -999), cell(-999, -1000), cell(-998, -1000)},
	} {
		checkCells(t, want[0], want[len(want)-1], want)
	}
}

func TestCellsFlipped(t *testing.T) {
	for _, want := range [][]api.Cell{
		{cell(0, 0), cell(0, 1), cell(1, 2), cell(1, 3)},
		{cell(1, 3), cell(1, 2), cell(0, 1), cell(0, 0)},
		{cell(0, 0), cell(-1, 1), cell(-1, 2)},
		{cell(7, -2), cell(6, -1), cell(6, 0), cell(5, 1), cell(4, 2), cell(4, 3), cell(3, 4)},
	} {
		checkCells(t, want[0], want[len(want)-1], want)
	}
}

// A half goes towards b, whichever way that is: so a line back has other
// cells where it is halfway.
func TestCellsHalfway(t *testing.T) {
	for _, want := range [][]api.Cell{
		{cell(0, 0), cell(1, 1), cell(2, 1)}, {cell(2, 1), cell(1, 0), cell(0, 0)},
		{cell(0, 0), cell(-1, -1), cell(-2, -1)}, {cell(-2, -1), cell(-1, 0), cell(0, 0)},
		{cell(0, 0), cell(1, -1), cell(2, -1)}, {cell(0, 0), cell(-1, 1), cell(-2, 1)},
		{cell(0, 0), cell(1, 1), cell(1, 2)}, {cell(1, 2), cell(0, 1), cell(0, 0)},
		{cell(0, 0), cell(-1, -1), cell(-1, -2)}, {cell(-1, -2), cell(0, -1), cell(0, 0)},
		{cell(0, 0), cell(1, 0), cell(2, 1), cell(3, 1), cell(4, 1)}, {cell(4, 1), cell(3, 1), cell(2, 0), cell(1, 0), cell(0, 0)},
		{cell(0, 0), cell(1, 1), cell(2, 2), cell(3, 2), cell(4, 3)}, {cell(4, 3), cell(3, 2), cell(2, 1), cell(1, 1), cell(0, 0)},
	} {
		checkCells(t, want[0], want[len(want)-1], want)
	}
}

// nearestY looks at each Y that there may be, by the words of the promise: how
// far it is from the line is told in parts of how far the Xs are apart.
func nearestY(a, b api.Cell, k int) int {
	wide := abs(b.X - a.X)
	off := func(y int) int { return abs((y-a.Y)*wide - k*(b.Y-a.Y)) }
	best := a.Y
	for y := min(a.Y, b.Y); y <= max(a.Y, b.Y); y++ {
		if off(y) < off(best) || off(y) == off(best) && abs(b.Y-y) < abs(b.Y-best) {
			best = y
		}
	}
	return best
}

func wantAt(a, b api.Cell, k int) api.Cell {
	switch {
	case abs(b.X-a.X) < abs(b.Y-a.Y):
		return flipped(wantAt(flipped(a), flipped(b), k))
	case b.X < a.X:
		return cell(a.X-k, nearestY(a, b, k))
	}
	return cell(a.X+k, nearestY(a, b, k))
}

func wantCells(a, b api.Cell) []api.Cell {
	if a == b {
		return []api.Cell{a}
	}
	var list []api.Cell
	for k := range max(abs(b.X-a.X), abs(b.Y-a.Y)) + 1 {
		list = append(list, wantAt(a, b, k))
	}
	return list
}

func TestCellsOfEachShortLine(t *testing.T) {
	for _, a := range square(2) {
		for _, b := range square(12) {
			checkCells(t, a, b, wantCells(a, b))
		}
	}
}

func TestCellsOfLongLines(t *testing.T) {
	for _, a := range grid() {
		for _, b := range grid() {
			checkLongLine(t, a, b)
		}
	}
}

// checkLongLine looks into the list at its ends and at some places between, as
// to look for each cell of so many lines would take long.
func checkLongLine(t *testing.T, a, b api.Cell) {
	t.Helper()
	king := max(abs(b.X-a.X), abs(b.Y-a.Y))
	got, err := Cells(a, b)
	if len(got) != king+1 || err != api.OK {
		t.Fatalf("Cells(%v, %v): %d cells, %d, want %d, OK", a, b, len(got), err, king+1)
	}
	if got[0] != a || got[king] != b {
		t.Fatalf("Cells(%v, %v) goes from %v to %v", a, b, got[0], got[king])
	}
	for k := 1; k <= king; k++ {
		if step, _, _ := Apart(got[k-1], got[k]); step != 1 {
			t.Fatalf("Cells(%v, %v) goes from %v to %v", a, b, got[k-1], got[k])
		}
	}
	for _, k := range []int{1, king / 3, king / 2, king/2 + 1, king - 1} {
		if king > 0 && k <= king && got[k] != wantAt(a, b, k) {
			t.Fatalf("Cells(%v, %v) at %d: %v, want %v", a, b, k, got[k], wantAt(a, b, k))
		}
	}
}

func TestCellsOfLongestLines(t *testing.T) {
	for _, y := range []int{-1000, -999, -1, 0, 1, 667, 999, 1000} {
		for _, c := range [][2]api.Cell{{cell(-1000, -1000), cell(1000, y)}, {cell(1000, 1000), cell(-1000, y)}} {
			checkCells(t, c[0], c[1], wantCells(c[0], c[1]))
			a, b := flipped(c[0]), flipped(c[1])
			checkCells(t, a, b, wantCells(a, b))
		}
	}
}

// P1, and the wrong inputs of P3.1 and P3.2.

func checkRefused(t *testing.T, a, b api.Cell) {
	t.Helper()
	if king, rook, err := Apart(a, b); king != 0 || rook != 0 || err != api.ErrArg {
		t.Errorf("Apart(%v, %v) = %d, %d, %d, want 0, 0, ErrArg", a, b, king, rook, err)
	}
	if got, err := Cells(a, b); len(got) != 0 || err != api.ErrArg {
		t.Errorf("Cells(%v, %v): %d cells, %d, want none, ErrArg", a, b, len(got), err)
	}
}

func TestOutOfBounds(t *testing.T) {
	wrong := wrongCells()
	for _, a := range wrong {
		for _, b := range []api.Cell{cell(0, 0), cell(1000, 1000), cell(-1000, -1000), cell(1000, -1000)} {
			checkRefused(t, a, b)
			checkRefused(t, b, a)
		}
		for _, b := range wrong {
			checkRefused(t, a, b)
		}
	}
}

// P2.

// spoil writes over a list and over the room behind it.
func spoil(list []api.Cell) {
	list = list[:cap(list)]
	for i := range list {
		list[i] = cell(-5000, 5000)
	}
}

func TestCellsAreNewMemory(t *testing.T) {
	for _, b := range []api.Cell{cell(1, 2), cell(2, 2), cell(9, -4), cell(-1000, 3), cell(1000, 1000)} {
		a := cell(1, 2)
		want := wantCells(a, b)
		first, _ := Cells(a, b)
		second, _ := Cells(a, b)
		spoil(first)
		if !slices.Equal(second, want) {
			t.Errorf("Cells(%v, %v) shares memory with the one before", a, b)
		}
		spoil(second)
		checkCells(t, a, b, want)
	}
}

// answers are held as values, so that they can be compared.
type answers struct {
	king, rook, count   int
	apartErr, cellsErr  api.Errno
	first, middle, last api.Cell
}

func answersOf(a, b api.Cell) answers {
	var told answers
	told.king, told.rook, told.apartErr = Apart(a, b)
	cells, err := Cells(a, b)
	told.count, told.cellsErr = len(cells), err
	if len(cells) > 0 {
		told.first, told.middle, told.last = cells[0], cells[len(cells)/2], cells[len(cells)-1]
	}
	return told
}

func TestNothingIsKeptBetweenCalls(t *testing.T) {
	list := append(square(3), cell(1001, 0), cell(0, math.MinInt), cell(1000, -1000), cell(-1000, 999))
	told := map[[2]api.Cell]answers{}
	for _, a := range list {
		for _, b := range list {
			told[[2]api.Cell{a, b}] = answersOf(a, b)
		}
	}
	for i := len(list) - 1; i >= 0; i-- {
		for k := len(list) - 1; k >= 0; k-- {
			a, b := list[k], list[i]
			if got, want := answersOf(a, b), told[[2]api.Cell{a, b}]; got != want {
				t.Fatalf("of %v and %v: first %v, then %v", a, b, want, got)
			}
		}
	}
}
