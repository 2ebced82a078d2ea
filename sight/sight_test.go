package sight

import (
	"fmt"
	"math"
	"slices"
	"strings"
	"testing"

	"musterfield/api"
	"musterfield/field"
	"musterfield/line"
)

// read is the field of some rows.
func read(rows ...string) api.Field {
	f, err := field.Read(strings.Join(rows, "\n") + "\n")
	if err != api.OK {
		panic(fmt.Sprint(rows, " are no field"))
	}
	return f
}

// made is a field of these sides in which, of each nine places or so, one is
// rock and one wood; another salt makes another one.
func made(wide, high, salt int) api.Field {
	f := api.Field{Wide: wide, High: high, Places: make([]int, wide*high)}
	n := uint32(salt)
	for i := range f.Places {
		n = n*1664525 + 1013904223
		f.Places[i] = []int{0, 0, 1, 2, 0, 3, 3, 0, 0}[n>>16%9]
	}
	return f
}

// numbered is the field of these sides whose places are the digits of n, of
// which there are four.
func numbered(wide, high, n int) api.Field {
	f := api.Field{Wide: wide, High: high, Places: make([]int, wide*high)}
	for i := range f.Places {
		f.Places[i] = n >> (2 * i) & 3
	}
	return f
}

// all is a field of these sides that is of one sort.
func all(wide, high, place int) api.Field {
	return api.Field{Wide: wide, High: high, Places: slices.Repeat([]int{place}, wide*high)}
}

// with is f with one place put to another number.
func with(f api.Field, i, place int) api.Field {
	f.Places = slices.Clone(f.Places)
	f.Places[i] = place
	return f
}

func at(x, y int) api.Cell { return api.Cell{X: x, Y: y} }

func cellOf(f api.Field, i int) api.Cell { return at(i%f.Wide, i/f.Wide) }

// noCells are cells that are in no field.
func noCells() []api.Cell {
	list := []api.Cell{at(40, 40), at(-1, -1), at(math.MaxInt, math.MinInt), at(math.MinInt, math.MaxInt)}
	for _, off := range []int{-1, -40, 40, 1000, 1001, 1600, 1 << 32, 1 << 62, math.MinInt, math.MaxInt} {
		list = append(list, at(off, 0), at(0, off))
	}
	return list
}

// noReaches are numbers out of the bounds of a reach.
func noReaches() []int {
	return []int{-1, -2, -12, -13, 13, 14, 40, 255, 256, 1 << 32, 1<<32 + 5, -1 << 32, math.MinInt, math.MinInt + 1, math.MaxInt, math.MaxInt - 1}
}

// wrongFields are some that field.Check refuses, of either error and of both.
func wrongFields() []api.Field {
	list := []api.Field{
		{}, {Wide: 1, High: 1}, {Wide: 40, High: 40}, {Places: []int{0}}, {Wide: -2, High: -3, Places: make([]int, 6)},
		made(41, 1, 1), made(1, 41, 1), {Wide: 41, High: 41}, {Wide: 1 << 32, High: 1 << 32}, {Wide: math.MinInt, High: math.MaxInt, Places: []int{4}},
		{Wide: 2, High: 2, Places: make([]int, 3)}, {Wide: 2, High: 2, Places: make([]int, 5)},
	}
	for _, wrong := range []int{-1, 4, 5, 255, 256, 257, 1 << 32, 1<<32 + 3, math.MinInt, math.MaxInt} {
		list = append(list, with(all(3, 2, 0), 0, wrong), with(all(3, 2, 0), 5, wrong))
	}
	return list
}

// brief tells of a great field only how it begins.
func brief(f api.Field) string {
	return fmt.Sprintf("%d x %d, %d places %d", f.Wide, f.High, len(f.Places), f.Places[:min(32, len(f.Places))])
}

// What the promises ask for, word by word.

func isIn(f api.Field, c api.Cell) bool {
	return c.X >= 0 && c.Y >= 0 && c.X < f.Wide && c.Y < f.High
}

func apart(m, n int) int {
	if m < n {
		return n - m
	}
	return m - n
}

func kingSteps(a, b api.Cell) int { return max(apart(a.X, b.X), apart(a.Y, b.Y)) }

// nextTo is, of all numbers of a field's side, the one next to where k of n
// parts of the way from one number to another end; of two, the one nearer to
// where the way ends.
func nextTo(from, to, k, n int) int {
	best := from
	for m := range api.MaxSide {
		off, least := apart(n*m, n*from+k*(to-from)), apart(n*best, n*from+k*(to-from))
		if off < least || off == least && apart(m, to) < apart(best, to) {
			best = m
		}
	}
	return best
}

// wantClear: all cells of the line from a to b but these two are open.
func wantClear(f api.Field, a, b api.Cell) bool {
	n := kingSteps(a, b)
	for k := range n + 1 {
		c := a
		if n > 0 {
			c = at(nextTo(a.X, b.X, k, n), nextTo(a.Y, b.Y, k, n))
		}
		place := f.Places[c.X+c.Y*f.Wide]
		if c != a && c != b && (place == api.GRock || place == api.GWood) {
			return false
		}
	}
	return true
}

func wantSees(f api.Field, a, b api.Cell) (bool, api.Errno) {
	if err := field.Check(f); err != api.OK {
		return false, err
	}
	if !isIn(f, a) || !isIn(f, b) {
		return false, api.ErrNone
	}
	return wantClear(f, a, b) || wantClear(f, b, a), api.OK
}

// wantSeen asks of each place of the field, one by one.
func wantSeen(f api.Field, c api.Cell, reach int) ([]api.Cell, api.Errno) {
	if err := field.Check(f); err != api.OK {
		return nil, err
	}
	if !isIn(f, c) {
		return nil, api.ErrNone
	}
	if !slices.Contains([]int{0, 1, 2, 3, 4, 5, 6, 7, 8, 9, 10, 11, 12}, reach) {
		return nil, api.ErrArg
	}
	var l []api.Cell
	for i := range f.Places {
		b := cellOf(f, i)
		if ok, _ := wantSees(f, c, b); ok && kingSteps(c, b) <= reach {
			l = append(l, b)
		}
	}
	return l, api.OK
}

// P11.1.

func checkSees(t *testing.T, f api.Field, a, b api.Cell, want bool) {
	t.Helper()
	if got, err := Sees(f, a, b); got != want || err != api.OK {
		t.Errorf("Sees of %s, from %d to %d = %t, %d, want %t, 0", brief(f), a, b, got, err, want)
	}
}

// checkBoth asks from either end: what is seen sees back.
func checkBoth(t *testing.T, f api.Field, a, b api.Cell, want bool) {
	t.Helper()
	checkSees(t, f, a, b, want)
	checkSees(t, f, b, a, want)
}

func checkSeesError(t *testing.T, f api.Field, a, b api.Cell, want api.Errno) {
	t.Helper()
	if got, err := Sees(f, a, b); got || err != want {
		t.Errorf("Sees of %s, from %d to %d = %t, %d, want false, %d", brief(f), a, b, got, err, want)
	}
}

func TestSeesOneselfAndWhatIsBeside(t *testing.T) {
	for n := range 1 << 8 {
		f := numbered(2, 2, n)
		for i := range 4 {
			for k := range 4 {
				checkSees(t, f, cellOf(f, i), cellOf(f, k), true)
			}
		}
	}
	// Rocks and woods on all sides hide nothing that touches.
	for place := range 4 {
		f := all(3, 3, place)
		for i := range 9 {
			checkBoth(t, f, at(1, 1), cellOf(f, i), true)
		}
	}
}

// What is between the two hides, by its sort; what they are themselves does not.
func TestSeesPastEachSort(t *testing.T) {
	past := map[int]bool{api.GPlain: true, api.GRock: false, api.GWood: false, api.GOre: true}
	for n := range 1 << 6 {
		row, column := numbered(3, 1, n), numbered(1, 3, n)
		want := past[row.Places[1]]
		checkBoth(t, row, at(0, 0), at(2, 0), want)
		checkBoth(t, column, at(0, 0), at(0, 2), want)
		slope := all(3, 3, api.GRock)
		for i := range 3 {
			slope.Places[i*4] = row.Places[i]
		}
		checkBoth(t, slope, at(0, 0), at(2, 2), want)
	}
}

func TestSees(t *testing.T) {
	f := read(
		".....",
		"..#..",
		".....",
		"t.o.t")
	for _, c := range []struct {
		a, b api.Cell
		want bool
	}{
		{at(0, 0), at(4, 0), true},
		{at(0, 1), at(4, 1), false},
		{at(0, 1), at(2, 1), true},
		{at(2, 1), at(4, 3), true},
		{at(2, 0), at(2, 2), false},
		{at(1, 0), at(3, 2), false},
		{at(0, 3), at(4, 3), true},
		{at(0, 3), at(0, 0), true},
		{at(0, 0), at(4, 2), false},
		{at(0, 0), at(4, 1), true},
		// Halfway between the rock and what is below it: one of the lines is past it.
		{at(0, 1), at(4, 2), true},
		// A third of a place off the rock: both go over it.
		{at(1, 1), at(4, 2), false},
	} {
		checkBoth(t, f, c.a, c.b, c.want)
	}
}

// From 0, 0 to 2, 1 the line goes over 1, 1; the one back goes over 1, 0.
func TestSeesOnEitherLine(t *testing.T) {
	for _, c := range []struct {
		f    api.Field
		want bool
	}{
		{read("...", "..."), true},
		{read("...", ".#."), true},
		{read("...", ".t."), true},
		{read(".#.", "..."), true},
		{read(".t.", ".o."), true},
		{read(".#.", ".#."), false},
		{read(".t.", ".#."), false},
		{read(".t.", ".t."), false},
	} {
		checkBoth(t, c.f, at(0, 0), at(2, 1), c.want)
		turned, _ := field.Turn(c.f)
		checkBoth(t, turned, at(1, 0), at(0, 2), c.want)
	}
	// They do part.
	there, _ := line.Cells(at(0, 0), at(2, 1))
	back, _ := line.Cells(at(2, 1), at(0, 0))
	if there[1] != at(1, 1) || back[1] != at(1, 0) {
		t.Errorf("the lines are %d and %d", there, back)
	}
}

// One line is to be open as a whole: not the one up to here, and the other from
// here on. From 0, 0 to 4, 2 it goes over 1, 1 and 2, 1 and 3, 2; back over 3, 1
// and 2, 1 and 1, 0.
func TestSeesOnOneWholeLine(t *testing.T) {
	for _, c := range []struct {
		f    api.Field
		want bool
	}{
		{read("..###", "#...#", "###.."), true},
		{read(".####", "#..##", "###.."), true},
		{read("..###", "##..#", "####."), true},
		{read("..###", "#..##", "####."), false},
		{read(".####", "#...#", "####."), false},
		{read("..###", "##.##", "###.."), false},
		{read(".....", ".#.#.", "....."), false},
		{read(".t...", ".....", "...t."), false},
		{read(".....", "..#..", "....."), false},
	} {
		checkBoth(t, c.f, at(0, 0), at(4, 2), c.want)
	}
}

func TestSeesAcrossTheGreatestField(t *testing.T) {
	for _, place := range []int{api.GPlain, api.GOre} {
		f := all(40, 40, place)
		for _, b := range []api.Cell{at(39, 39), at(39, 0), at(0, 39), at(39, 1), at(1, 39), at(23, 39), at(39, 38)} {
			checkBoth(t, f, at(0, 0), b, true)
		}
		for _, wall := range []int{api.GRock, api.GWood} {
			f := all(40, 40, place)
			for y := range 40 {
				f.Places[y*40+20] = wall
			}
			for y := range 40 {
				checkBoth(t, f, at(0, 17), at(39, y), false)
				checkBoth(t, f, at(19, 17), at(21, 18), false)
				checkBoth(t, f, at(0, 17), at(19, y), true)
				checkBoth(t, f, at(20, 17), at(39, y), true)
			}
		}
	}
}

// One rock anywhere hides just what the lines say that it does.
func TestSeesPastOneRock(t *testing.T) {
	for i := range 9 * 7 {
		f := with(all(9, 7, api.GPlain), i, 1+i%2)
		for k := range f.Places {
			for _, a := range []api.Cell{at(0, 0), at(4, 3), at(8, 2)} {
				want, _ := wantSees(f, a, cellOf(f, k))
				checkBoth(t, f, a, cellOf(f, k), want)
			}
		}
	}
}

func TestSeesOfManyFields(t *testing.T) {
	for salt := range 60 {
		f := made(1+salt*7%23, 1+salt*11%19, salt)
		for k := range 4 {
			a := cellOf(f, (salt*5+k*31)%len(f.Places))
			for i := range f.Places {
				want, _ := wantSees(f, a, cellOf(f, i))
				checkBoth(t, f, a, cellOf(f, i), want)
			}
		}
	}
}

// That there is no field is told ahead of whatever is wrong with the cells.
func TestSeesOfNoField(t *testing.T) {
	for _, f := range wrongFields() {
		want := field.Check(f)
		if want == api.OK {
			t.Fatalf("%s is a field", brief(f))
		}
		for _, c := range append(noCells(), at(0, 0), at(1, 0)) {
			checkSeesError(t, f, c, at(0, 0), want)
			checkSeesError(t, f, at(0, 0), c, want)
			checkSeesError(t, f, c, c, want)
		}
	}
}

func TestSeesNoCell(t *testing.T) {
	for _, f := range []api.Field{read("."), read("#"), read("..#", "t.o"), made(40, 1, 1), made(1, 40, 1), made(40, 40, 1)} {
		for _, out := range append(noCells(), at(f.Wide, 0), at(0, f.High), at(f.Wide, f.High)) {
			checkSeesError(t, f, out, out, api.ErrNone)
			for i := range min(6, len(f.Places)) {
				checkSeesError(t, f, out, cellOf(f, i), api.ErrNone)
				checkSeesError(t, f, cellOf(f, i), out, api.ErrNone)
			}
		}
	}
	// Also where its place would be one.
	for _, out := range []api.Cell{at(3, 0), at(-1, 1), at(5, 0), at(-3, 2), at(9, -1)} {
		checkSeesError(t, read("...", "..."), out, at(0, 0), api.ErrNone)
		checkSeesError(t, read("...", "..."), at(0, 0), out, api.ErrNone)
	}
}

// P11.2.

func checkSeen(t *testing.T, f api.Field, c api.Cell, reach int, want []api.Cell) {
	t.Helper()
	if got, err := Seen(f, c, reach); !slices.Equal(got, want) || err != api.OK {
		t.Errorf("Seen of %s, from %d up to %d = %d, %d, want %d, 0", brief(f), c, reach, got, err, want)
	}
}

// checkSeenError has the list be nil, also where an empty one would look the same.
func checkSeenError(t *testing.T, f api.Field, c api.Cell, reach int, want api.Errno) {
	t.Helper()
	if got, err := Seen(f, c, reach); got != nil || err != want {
		t.Errorf("Seen of %s, from %d up to %d = %d, %d, want no list, %d", brief(f), c, reach, got, err, want)
	}
}

func TestSeenUpToNoStep(t *testing.T) {
	for place := range 4 {
		for _, c := range []api.Cell{at(0, 0), at(4, 0), at(2, 1), at(4, 2)} {
			checkSeen(t, all(5, 3, place), c, 0, []api.Cell{c})
		}
	}
}

func TestSeen(t *testing.T) {
	for _, c := range []struct {
		f     api.Field
		c     api.Cell
		reach int
		want  []api.Cell
	}{
		{read("#"), at(0, 0), 12, []api.Cell{at(0, 0)}},
		// A rock and a wood are seen, what is behind them is not.
		{read("..#.."), at(0, 0), 12, []api.Cell{at(0, 0), at(1, 0), at(2, 0)}},
		{read("..t.."), at(0, 0), 12, []api.Cell{at(0, 0), at(1, 0), at(2, 0)}},
		{read("..t.."), at(3, 0), 12, []api.Cell{at(2, 0), at(3, 0), at(4, 0)}},
		{read("..o.."), at(1, 0), 2, []api.Cell{at(0, 0), at(1, 0), at(2, 0), at(3, 0)}},
		// From a rock or a wood one sees as from any other.
		{read("..#.."), at(2, 0), 12, []api.Cell{at(0, 0), at(1, 0), at(2, 0), at(3, 0), at(4, 0)}},
		{read("..t.."), at(2, 0), 1, []api.Cell{at(1, 0), at(2, 0), at(3, 0)}},
		// Row by row; a king goes across corners.
		{read("....", "....", "....", "...."), at(1, 2), 1, []api.Cell{
			at(0, 1), at(1, 1), at(2, 1), at(0, 2), at(1, 2), at(2, 2), at(0, 3), at(1, 3), at(2, 3)}},
		{read("...", "...", "..."), at(2, 0), 1, []api.Cell{at(1, 0), at(2, 0), at(1, 1), at(2, 1)}},
		{read("...", ".#.", "..."), at(0, 0), 2, []api.Cell{
			at(0, 0), at(1, 0), at(2, 0), at(0, 1), at(1, 1), at(2, 1), at(0, 2), at(1, 2)}},
		{read("...", "##.", "..."), at(0, 0), 2, []api.Cell{
			at(0, 0), at(1, 0), at(2, 0), at(0, 1), at(1, 1), at(2, 1)}},
	} {
		checkSeen(t, c.f, c.c, c.reach, c.want)
	}
}

// In the open all is seen that is within reach, and nothing else.
func TestSeenInTheOpen(t *testing.T) {
	for _, place := range []int{api.GPlain, api.GOre} {
		f := all(40, 40, place)
		for reach := 0; reach <= 12; reach++ {
			for _, c := range []api.Cell{at(0, 0), at(39, 0), at(0, 39), at(39, 39), at(20, 20), at(12, 27), at(11, 28), at(3, 38)} {
				var want []api.Cell
				for i := range f.Places {
					if b := cellOf(f, i); kingSteps(b, c) <= reach {
						want = append(want, b)
					}
				}
				checkSeen(t, f, c, reach, want)
			}
			if got, _ := Seen(f, at(20, 20), reach); len(got) != (2*reach+1)*(2*reach+1) {
				t.Errorf("up to %d: %d cells", reach, len(got))
			}
		}
	}
}

// Where all is rock or wood, what is beside is seen, however far one looks.
func TestSeenInTheThick(t *testing.T) {
	for _, place := range []int{api.GRock, api.GWood} {
		f := all(40, 40, place)
		for reach := 1; reach <= 12; reach++ {
			checkSeen(t, f, at(5, 6), reach, []api.Cell{
				at(4, 5), at(5, 5), at(6, 5), at(4, 6), at(5, 6), at(6, 6), at(4, 7), at(5, 7), at(6, 7)})
			checkSeen(t, f, at(39, 39), reach, []api.Cell{at(38, 38), at(39, 38), at(38, 39), at(39, 39)})
		}
	}
}

func TestSeenOfManyFields(t *testing.T) {
	for salt := range 150 {
		f := made(1+salt*7%29, 1+salt*11%31, salt)
		c := cellOf(f, salt*37%len(f.Places))
		for _, reach := range []int{0, 1, 2, 1 + salt%12, 12} {
			want, _ := wantSeen(f, c, reach)
			checkSeen(t, f, c, reach, want)
		}
	}
	for salt := range 6 {
		f := made(40, 40, salt)
		for _, c := range []api.Cell{at(0, 0), at(39, 39), at(20, 19), at(13, 26)} {
			want, _ := wantSeen(f, c, 12)
			checkSeen(t, f, c, 12, want)
		}
	}
}

// What Seen tells is what Sees tells of each cell.
func TestSeenIsWhatSees(t *testing.T) {
	for salt := range 20 {
		f := made(17, 15, salt)
		c := cellOf(f, salt*13)
		got, _ := Seen(f, c, 12)
		for i := range f.Places {
			b := cellOf(f, i)
			if ok, _ := Sees(f, c, b); slices.Contains(got, b) != (ok && kingSteps(c, b) <= 12) {
				t.Errorf("of %s, from %d to %d: Sees tells %t", brief(f), c, b, ok)
			}
		}
	}
}

func TestSeenTooFar(t *testing.T) {
	for _, f := range []api.Field{read("."), read("#"), read("..#", "t.o"), made(40, 40, 1)} {
		for _, reach := range noReaches() {
			checkSeenError(t, f, at(0, 0), reach, api.ErrArg)
			checkSeenError(t, f, at(f.Wide-1, f.High-1), reach, api.ErrArg)
		}
	}
}

// That it is no cell is told ahead of what is wrong with the reach.
func TestSeenFromNoCell(t *testing.T) {
	for _, f := range []api.Field{read("."), read("#"), read("..#", "t.o"), made(40, 1, 1), made(1, 40, 1), made(40, 40, 1)} {
		for _, out := range append(noCells(), at(f.Wide, 0), at(0, f.High), at(f.Wide, f.High)) {
			for _, reach := range append(noReaches(), 0, 1, 12) {
				checkSeenError(t, f, out, reach, api.ErrNone)
			}
		}
	}
	for _, out := range []api.Cell{at(3, 0), at(-1, 1), at(5, 0), at(-3, 2), at(9, -1)} {
		checkSeenError(t, read("...", "..."), out, 1, api.ErrNone)
	}
}

// That there is no field is told ahead of both.
func TestSeenOfNoField(t *testing.T) {
	for _, f := range wrongFields() {
		want := field.Check(f)
		for _, c := range append(noCells(), at(0, 0), at(1, 0)) {
			for _, reach := range append(noReaches(), 0, 1, 12) {
				checkSeenError(t, f, c, reach, want)
			}
		}
	}
}

// P1.

// asked is what both calls are given; told is what they answer.
type asked struct {
	f     api.Field
	a, b  api.Cell
	reach int
}

type told struct {
	sees             bool
	seen             []api.Cell
	seesErr, seenErr api.Errno
}

func ask(q asked) (r told) {
	r.sees, r.seesErr = Sees(q.f, q.a, q.b)
	r.seen, r.seenErr = Seen(q.f, q.a, q.reach)
	return r
}

// wantTold is what the promises ask for.
func wantTold(q asked) (r told) {
	r.sees, r.seesErr = wantSees(q.f, q.a, q.b)
	r.seen, r.seenErr = wantSeen(q.f, q.a, q.reach)
	return r
}

func same(a, b told) bool {
	return a.sees == b.sees && slices.Equal(a.seen, b.seen) && a.seesErr == b.seesErr && a.seenErr == b.seenErr
}

func (q asked) String() string {
	return fmt.Sprintf("%s, from %d to %d, up to %d", brief(q.f), q.a, q.b, q.reach)
}

func (r told) String() string {
	return fmt.Sprintf("Sees %t, %d, Seen %d cells %d, %d", r.sees, r.seesErr, len(r.seen), r.seen[:min(24, len(r.seen))], r.seenErr)
}

func questions() []asked {
	fields := append(wrongFields(), read("#"), read("##", "##"), read("..#", "t.o"), read("...", "..."), all(40, 40, 0))
	for i, sides := range [][2]int{{1, 1}, {2, 2}, {3, 2}, {2, 3}, {1, 40}, {40, 1}, {7, 31}, {40, 40}} {
		fields = append(fields, made(sides[0], sides[1], i), made(sides[0], sides[1], i+100))
	}
	cells := append(noCells(), at(0, 0), at(1, 0), at(0, 1), at(1, 1), at(2, 1), at(6, 30), at(39, 0), at(0, 39), at(39, 39))
	reaches := append(noReaches(), 0, 1, 2, 5, 11, 12)
	var list []asked
	for i, f := range fields {
		for k := range 24 {
			list = append(list, asked{f, cells[(i+k)%len(cells)], cells[(i*5+k*7)%len(cells)], reaches[(i+k*3)%len(reaches)]})
		}
		if n := len(f.Places); field.Check(f) == api.OK {
			list = append(list, asked{f, cellOf(f, 0), cellOf(f, n-1), 12}, asked{f, cellOf(f, n-1), cellOf(f, 0), 3}, asked{f, cellOf(f, n/2), cellOf(f, n/3), 12})
		}
	}
	return list
}

// Whatever is given, an answer is the one that the promises ask for.
func TestEachCallAnswers(t *testing.T) {
	for _, q := range questions() {
		if got, want := ask(q), wantTold(q); !same(got, want) {
			t.Errorf("of %v: %v, want %v", q, got, want)
		}
	}
}

// P2.

// roomy is q with room behind its places that has something in it.
func roomy(q asked) asked {
	q.f.Places = append(slices.Clone(q.f.Places), 1, 2, 3)[:len(q.f.Places)]
	return q
}

// whole is what a question's places hold, the room behind them included.
func whole(q asked) []int { return q.f.Places[:len(q.f.Places)+3] }

func TestFieldsAreNotChanged(t *testing.T) {
	for _, q := range questions() {
		want := ask(q)
		q = roomy(q)
		old := slices.Clone(whole(q))
		if got := ask(q); !same(got, want) {
			t.Fatalf("of %v: %v, with room behind the places %v", q, want, got)
		}
		if !slices.Equal(whole(q), old) {
			t.Fatalf("of %v: left %d", q, whole(q))
		}
	}
}

// spoil puts each cell of a list, and of the room behind it, to another one.
func spoil(l []api.Cell) {
	l = l[:cap(l)]
	for i := range l {
		l[i] = at(^l[i].X, ^l[i].Y)
	}
}

// Who changes an answer, and the room behind it, changes no other answer and
// nothing that was handed in.
func TestAnswersAreNewMemory(t *testing.T) {
	for _, q := range questions() {
		q = roomy(q)
		old := slices.Clone(whole(q))
		want, first, second := wantTold(q), ask(q), ask(q)
		spoil(first.seen)
		if !slices.Equal(whole(q), old) {
			t.Fatalf("of %v: spoilt %d", q, whole(q))
		}
		if !same(second, want) {
			t.Fatalf("of %v: %v, want %v", q, second, want)
		}
		if third := ask(q); !same(third, want) {
			t.Fatalf("of %v: %v behind a spoilt answer, want %v", q, third, want)
		}
	}
}

func TestNothingIsKeptBetweenCalls(t *testing.T) {
	list := questions()
	answers := make([]told, len(list))
	for i, q := range list {
		answers[i] = ask(q)
	}
	for i := len(list) - 1; i >= 0; i-- {
		if got := ask(list[i]); !same(got, answers[i]) {
			t.Fatalf("of %v: first %v, then %v", list[i], answers[i], got)
		}
	}
}

// Places that have become others in the same memory are read anew, and what was
// answered of them stays as it was.
func TestFieldsAreNotKept(t *testing.T) {
	f := read("...", "...")
	first, want := ask(asked{f, at(0, 1), at(2, 0), 1}), []api.Cell{at(0, 0), at(1, 0), at(0, 1), at(1, 1)}
	for i := range 400 {
		for k := range f.Places {
			f.Places[k] = (i + i*k/5) % 4
		}
		q := asked{f, cellOf(f, i%6), cellOf(f, i/6%6), i % 3}
		if got, want := ask(q), wantTold(q); !same(got, want) {
			t.Fatalf("of %v: %v, want %v", q, got, want)
		}
	}
	if !same(first, told{sees: true, seen: want}) {
		t.Errorf("of six plain places, later on: %v", first)
	}
}
