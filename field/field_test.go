package field

import (
	"fmt"
	"math"
	"slices"
	"strings"
	"testing"

	"musterfield/api"
)

// made is a field of these sides, with each sort of places at no regular
// distance.
func made(wide, high int) api.Field {
	f := api.Field{Wide: wide, High: high, Places: make([]int, wide*high)}
	for i := range f.Places {
		f.Places[i] = (i*i + i/3 + 7*wide) % 13 % 4
	}
	return f
}

// with is f with one place put to another number.
func with(f api.Field, i, place int) api.Field {
	f.Places = slices.Clone(f.Places)
	f.Places[i] = place
	return f
}

// noSorts are numbers that no place has.
func noSorts() []int {
	return []int{-1, 4, -2, 5, 7, 8, -4, 46, 255, 256, 257, 1 << 32, 1<<32 + 1, -1 << 32, math.MinInt, math.MaxInt}
}

// noSides are numbers that no side has.
func noSides() []int {
	return []int{0, -1, 41, -40, 42, 100, 256, 1<<32 + 1, 1 << 62, math.MinInt, math.MinInt + 1, math.MaxInt}
}

// wantCheck is the promise word by word.
func wantCheck(f api.Field) api.Errno {
	for _, side := range []int{f.Wide, f.High} {
		if side < 1 || side > 40 {
			return api.ErrArg
		}
	}
	if len(f.Places) != f.Wide*f.High {
		return api.ErrForm
	}
	for _, place := range f.Places {
		switch place {
		case api.GPlain, api.GRock, api.GWood, api.GOre:
		default:
			return api.ErrForm
		}
	}
	return api.OK
}

func wantAt(f api.Field, c api.Cell) (int, api.Errno) {
	if err := wantCheck(f); err != api.OK {
		return 0, err
	}
	for i, place := range f.Places {
		if i%f.Wide == c.X && i/f.Wide == c.Y {
			return place, api.OK
		}
	}
	return 0, api.ErrNone
}

func wantWrite(f api.Field) (string, api.Errno) {
	if err := wantCheck(f); err != api.OK {
		return "", err
	}
	text := ""
	for i, place := range f.Places {
		text += map[int]string{0: ".", 1: "#", 2: "t", 3: "o"}[place]
		if i%f.Wide == f.Wide-1 {
			text += "\n"
		}
	}
	return text, api.OK
}

// wantRead takes s apart line by line.
func wantRead(s string) (api.Field, api.Errno) {
	lines := strings.Split(s, "\n")
	last := len(lines) - 1
	f := api.Field{Wide: len(lines[0]), High: last}
	if lines[last] != "" || last < 1 || last > 40 || f.Wide < 1 || f.Wide > 40 {
		return api.Field{}, api.ErrForm
	}
	for _, line := range lines[:last] {
		if len(line) != f.Wide || strings.Trim(line, ".#to") != "" {
			return api.Field{}, api.ErrForm
		}
		for _, sign := range []byte(line) {
			f.Places = append(f.Places, map[byte]int{'.': 0, '#': 1, 't': 2, 'o': 3}[sign])
		}
	}
	return f, api.OK
}

func wantTurn(f api.Field) (api.Field, api.Errno) {
	if err := wantCheck(f); err != api.OK {
		return api.Field{}, err
	}
	g := api.Field{Wide: f.High, High: f.Wide}
	for y := range g.High {
		for x := range g.Wide {
			place, _ := wantAt(f, api.Cell{X: y, Y: f.High - 1 - x})
			g.Places = append(g.Places, place)
		}
	}
	return g, api.OK
}

func sameField(f, g api.Field) bool {
	return f.Wide == g.Wide && f.High == g.High && slices.Equal(f.Places, g.Places)
}

// brief tells of a great field only how it begins.
func brief(f api.Field) string {
	return fmt.Sprintf("%d x %d, %d places %d", f.Wide, f.High, len(f.Places), f.Places[:min(12, len(f.Places))])
}

// P8.1.

func checkCheck(t *testing.T, f api.Field, want api.Errno) {
	t.Helper()
	if got := Check(f); got != want {
		t.Errorf("Check of %s = %d, want %d", brief(f), got, want)
	}
}

func TestCheckOfEachSize(t *testing.T) {
	for wide := 1; wide <= 40; wide++ {
		for high := 1; high <= 40; high++ {
			checkCheck(t, made(wide, high), api.OK)
		}
	}
}

func TestCheckOfWrongSides(t *testing.T) {
	checkCheck(t, api.Field{}, api.ErrArg)
	for _, wrong := range noSides() {
		for _, right := range []int{1, 2, 40} {
			// Of however many places there are.
			for _, n := range []int{0, 1, 40, 41, 82, 1600, 1640} {
				checkCheck(t, api.Field{Wide: wrong, High: right, Places: make([]int, n)}, api.ErrArg)
				checkCheck(t, api.Field{Wide: right, High: wrong, Places: make([]int, n)}, api.ErrArg)
			}
		}
		for _, other := range noSides() {
			checkCheck(t, api.Field{Wide: wrong, High: other, Places: make([]int, 1)}, api.ErrArg)
		}
	}
	checkCheck(t, api.Field{Wide: -2, High: -3, Places: make([]int, 6)}, api.ErrArg)
	checkCheck(t, made(41, 1), api.ErrArg)
	checkCheck(t, made(1, 41), api.ErrArg)
	// A wrong side is told ahead of a wrong place.
	checkCheck(t, with(made(41, 1), 3, 4), api.ErrArg)
	checkCheck(t, with(made(1, 41), 3, -1), api.ErrArg)
}

func TestCheckOfWrongCount(t *testing.T) {
	for _, sides := range [][2]int{{1, 1}, {1, 2}, {3, 2}, {2, 3}, {1, 40}, {40, 1}, {40, 40}} {
		f := made(sides[0], sides[1])
		right := len(f.Places)
		for _, n := range []int{0, 1, right - f.Wide, right - 1, right + 1, right + f.Wide, 2 * right, 1600, 1640, 5000} {
			if n != right {
				checkCheck(t, api.Field{Wide: f.Wide, High: f.High, Places: make([]int, n)}, api.ErrForm)
			}
		}
	}
	checkCheck(t, api.Field{Wide: 1, High: 1}, api.ErrForm)
}

func TestCheckOfWrongPlaces(t *testing.T) {
	for _, sides := range [][2]int{{1, 1}, {3, 2}, {1, 40}, {40, 40}} {
		f := made(sides[0], sides[1])
		for _, at := range []int{0, len(f.Places) / 2, len(f.Places) - 1} {
			for _, wrong := range noSorts() {
				checkCheck(t, with(f, at, wrong), api.ErrForm)
			}
			for right := range 4 {
				checkCheck(t, with(f, at, right), api.OK)
			}
		}
	}
	f := made(7, 5)
	for i := range f.Places {
		checkCheck(t, with(f, i, 4), api.ErrForm)
		checkCheck(t, with(f, i, -1), api.ErrForm)
	}
}

// P8.2.

func checkWrite(t *testing.T, f api.Field, want string, wantErr api.Errno) {
	t.Helper()
	if got, err := Write(f); got != want || err != wantErr {
		t.Errorf("Write of %s = %.60q, %d, want %.60q, %d", brief(f), got, err, want, wantErr)
	}
}

func checkRead(t *testing.T, s string, want api.Field, wantErr api.Errno) {
	t.Helper()
	if got, err := Read(s); !sameField(got, want) || err != wantErr {
		t.Errorf("Read(%.60q) = %s, %d, want %s, %d", s, brief(got), err, brief(want), wantErr)
	}
}

func TestText(t *testing.T) {
	for s, f := range map[string]api.Field{
		".\n":                 {Wide: 1, High: 1, Places: []int{api.GPlain}},
		"#\n":                 {Wide: 1, High: 1, Places: []int{api.GRock}},
		"t\n":                 {Wide: 1, High: 1, Places: []int{api.GWood}},
		"o\n":                 {Wide: 1, High: 1, Places: []int{api.GOre}},
		".#\nto\n":            {Wide: 2, High: 2, Places: []int{0, 1, 2, 3}},
		".#to\n":              {Wide: 4, High: 1, Places: []int{0, 1, 2, 3}},
		".\n#\nt\no\n":        {Wide: 1, High: 4, Places: []int{0, 1, 2, 3}},
		"..#\nt.o\n":          {Wide: 3, High: 2, Places: []int{0, 0, 1, 2, 0, 3}},
		"ot\n.#\n##\n":        {Wide: 2, High: 3, Places: []int{3, 2, 0, 1, 1, 1}},
		"oooo\n....\n":        {Wide: 4, High: 2, Places: []int{3, 3, 3, 3, 0, 0, 0, 0}},
		"#.\n.t\no.\n.\x23\n": {Wide: 2, High: 4, Places: []int{1, 0, 0, 2, 3, 0, 0, 1}},
		strings.Repeat(strings.Repeat("t", 40)+"\n", 40): {Wide: 40, High: 40, Places: slices.Repeat([]int{2}, 1600)},
	} {
		checkWrite(t, f, s, api.OK)
		checkRead(t, s, f, api.OK)
	}
}

func TestTextOfEachSize(t *testing.T) {
	for wide := 1; wide <= 40; wide++ {
		for high := 1; high <= 40; high++ {
			f := made(wide, high)
			s, _ := wantWrite(f)
			checkWrite(t, f, s, api.OK)
			checkRead(t, s, f, api.OK)
		}
	}
}

func TestWriteOfNoField(t *testing.T) {
	for _, f := range wrongFields() {
		checkWrite(t, f, "", wantCheck(f))
	}
}

func TestReadOfNoText(t *testing.T) {
	for _, s := range []string{
		"", "\n", "\n\n", ".", "..", "#", "\n.", "\n.\n", ".\n\n", "..\n..", "..\n.", ".\n..\n", "..\n.\n", "..\n\n..\n", "..\n..\n\n", "\n..\n..\n",
		"..\n.\n...\n", "..\n...\n.\n", ".\n...\n..\n", "....\n..\n\n..\n", "..\n.\n.\n", ".\n.\n..", "..\n..\n.",
		"x\n", "..\n.x\n", "x.\n..\n", "T\n", "O\n", "0\n", "1\n", ",\n", "/\n", " .\n", ". \n", ".\r\n", ".\r", "..\r\n..\r\n", ".\n\r", ".\t\n", ".\x00\n", "\x00\n", "\xff\n", "\x80\n",
		"é\n", "..\né\n", "\ufeff.\n", ".\u2028.\n", ".\x0b.\x0b", ".\x0c", ".;.;", ".\\n",
	} {
		checkRead(t, s, api.Field{}, api.ErrForm)
	}
}

// Each byte is a sign, or an end of a row, or neither.
func TestReadOfEachByte(t *testing.T) {
	for b := range 256 {
		for _, s := range []string{"%\n", ".%\n", "%.\n", "..\n%.\n", "..\n.%\n", ".%", "..%..\n", "..\n..%", "..\n..\n%", "%..\n", "%"} {
			s = strings.ReplaceAll(s, "%", string([]byte{byte(b)}))
			want, err := wantRead(s)
			checkRead(t, s, want, err)
		}
	}
}

func TestReadOfTooMany(t *testing.T) {
	row := func(n int) string { return strings.Repeat(".", n) + "\n" }
	for _, n := range []int{41, 42, 80, 1600, 1640, 1641, 100000} {
		for _, m := range []int{1, 2, 39, 40, 41} {
			checkRead(t, strings.Repeat(row(n), m), api.Field{}, api.ErrForm)
			checkRead(t, strings.Repeat(row(m), n), api.Field{}, api.ErrForm)
		}
		checkRead(t, strings.Repeat(".", n), api.Field{}, api.ErrForm)
		checkRead(t, strings.Repeat("\n", n), api.Field{}, api.ErrForm)
	}
	great := strings.Repeat(row(40), 40)
	for _, rest := range []string{"\n", ".", ".\n", row(40), "x", "\x00", great} {
		checkRead(t, great+rest, api.Field{}, api.ErrForm)
		checkRead(t, rest+great, api.Field{}, api.ErrForm)
	}
}

// With any byte put to another one, left out or doubled, a text is either
// refused or what Write writes of another field.
func TestReadOfSpoiltText(t *testing.T) {
	for _, sides := range [][2]int{{1, 1}, {2, 3}, {5, 1}, {1, 5}, {4, 4}, {40, 1}, {1, 40}, {13, 7}} {
		s, _ := wantWrite(made(sides[0], sides[1]))
		for i := range len(s) {
			for _, put := range []string{".", "#", "t", "o", "\n", "x", "", s[i:i+1] + s[i:i+1], "\n\n", ".\n"} {
				spoilt := s[:i] + put + s[i+1:]
				want, err := wantRead(spoilt)
				checkRead(t, spoilt, want, err)
				if err == api.OK {
					checkWrite(t, want, spoilt, api.OK)
				}
			}
			want, err := wantRead(s[:i])
			checkRead(t, s[:i], want, err)
			want, err = wantRead(s[i:])
			checkRead(t, s[i:], want, err)
		}
	}
}

// Each text of up to six signs, ends of rows and bytes that are neither.
func TestReadOfEachShortText(t *testing.T) {
	list := []string{""}
	for range 6 {
		var longer []string
		for _, s := range list {
			for _, sign := range []string{".", "o", "\n", "x"} {
				longer = append(longer, s+sign)
			}
		}
		for _, s := range longer {
			want, err := wantRead(s)
			checkRead(t, s, want, err)
		}
		list = longer
	}
}

// Rows are no more than are asked for.
func TestRowsEndWhereTheyAreLeft(t *testing.T) {
	f := made(3, 5)
	for most := 1; most <= 5; most++ {
		var got []int
		for y, row := range rows(f) {
			got = append(got, row...)
			if y == most-1 {
				break
			}
		}
		if want := f.Places[:most*3]; !slices.Equal(got, want) {
			t.Errorf("of %d rows: %d, want %d", most, got, want)
		}
	}
}

// P8.3.

func checkAt(t *testing.T, f api.Field, c api.Cell, want int, wantErr api.Errno) {
	t.Helper()
	if got, err := At(f, c); got != want || err != wantErr {
		t.Errorf("At of %s, %d = %d, %d, want %d, %d", brief(f), c, got, err, want, wantErr)
	}
}

func checkTurn(t *testing.T, f, want api.Field, wantErr api.Errno) {
	t.Helper()
	if got, err := Turn(f); !sameField(got, want) || err != wantErr {
		t.Errorf("Turn of %s = %s, %d, want %s, %d", brief(f), brief(got), err, brief(want), wantErr)
	}
}

func TestAt(t *testing.T) {
	f := api.Field{Wide: 3, High: 2, Places: []int{0, 1, 2, 3, 2, 1}}
	for c, want := range map[api.Cell]int{{X: 0, Y: 0}: 0, {X: 1, Y: 0}: 1, {X: 2, Y: 0}: 2, {X: 0, Y: 1}: 3, {X: 1, Y: 1}: 2, {X: 2, Y: 1}: 1} {
		checkAt(t, f, c, want, api.OK)
	}
}

func TestAtOfEachCell(t *testing.T) {
	for _, sides := range [][2]int{{1, 1}, {2, 3}, {3, 2}, {1, 40}, {40, 1}, {17, 23}, {40, 40}} {
		f := made(sides[0], sides[1])
		for i, place := range f.Places {
			checkAt(t, f, api.Cell{X: i % f.Wide, Y: i / f.Wide}, place, api.OK)
		}
	}
}

// A cell out of the field is none, also where its place would be one.
func TestAtOfNoCell(t *testing.T) {
	for _, sides := range [][2]int{{1, 1}, {2, 3}, {3, 2}, {1, 40}, {40, 1}, {40, 40}} {
		f := made(sides[0], sides[1])
		for _, off := range []int{-1, -2, -40, 40, 41, 1600, 1 << 32, 1 << 62, math.MaxInt / f.Wide, math.MaxInt, math.MinInt} {
			for in := range min(f.Wide, f.High) {
				checkAt(t, f, api.Cell{X: off, Y: in}, 0, api.ErrNone)
				checkAt(t, f, api.Cell{X: in, Y: off}, 0, api.ErrNone)
			}
			checkAt(t, f, api.Cell{X: off, Y: off}, 0, api.ErrNone)
			checkAt(t, f, api.Cell{X: off, Y: -off}, 0, api.ErrNone)
		}
		for y := range f.High {
			checkAt(t, f, api.Cell{X: f.Wide, Y: y}, 0, api.ErrNone)
			checkAt(t, f, api.Cell{X: -1, Y: y + 1}, 0, api.ErrNone)
			checkAt(t, f, api.Cell{X: f.Wide + 1, Y: y - 1}, 0, api.ErrNone)
		}
		for x := range f.Wide {
			checkAt(t, f, api.Cell{X: x, Y: f.High}, 0, api.ErrNone)
			checkAt(t, f, api.Cell{X: x, Y: -1}, 0, api.ErrNone)
		}
	}
}

// That there is no field is told ahead of there being no such cell.
func TestAtOfNoField(t *testing.T) {
	for _, f := range wrongFields() {
		for _, c := range []api.Cell{{}, {X: 1}, {Y: 1}, {X: -1}, {X: 40, Y: 40}, {X: math.MinInt, Y: math.MaxInt}} {
			checkAt(t, f, c, 0, wantCheck(f))
		}
	}
}

func TestTurn(t *testing.T) {
	for _, c := range [][2]string{
		{".\n", ".\n"}, {"o\n", "o\n"}, {".#\nto\n", "t.\no#\n"}, {"..#\nt.o\n", "t.\n..\no#\n"}, {".#to\n", ".\n#\nt\no\n"}, {".\n#\nt\no\n", "ot#.\n"},
		{"#..\n...\n...\n", "..#\n...\n...\n"}, {".#.\n...\n...\n", "...\n..#\n...\n"}, {"...\n.t.\n...\n", "...\n.t.\n...\n"},
	} {
		f, _ := wantRead(c[0])
		want, _ := wantRead(c[1])
		checkTurn(t, f, want, api.OK)
	}
}

func TestTurnOfEachSize(t *testing.T) {
	for wide := 1; wide <= 40; wide += 3 {
		for high := 1; high <= 40; high++ {
			f := made(wide, high)
			want, _ := wantTurn(f)
			checkTurn(t, f, want, api.OK)
		}
	}
}

// Four quarters are the whole; two of them are all places from the last one on.
func TestTurnsComeAround(t *testing.T) {
	for _, sides := range [][2]int{{1, 1}, {2, 3}, {3, 2}, {1, 40}, {40, 1}, {40, 39}, {40, 40}} {
		f := made(sides[0], sides[1])
		back := with(f, 0, f.Places[0])
		slices.Reverse(back.Places)
		once, _ := Turn(f)
		checkTurn(t, once, back, api.OK)
		twice, _ := Turn(once)
		thrice, _ := Turn(twice)
		checkTurn(t, thrice, f, api.OK)
	}
}

func TestTurnOfNoField(t *testing.T) {
	for _, f := range wrongFields() {
		checkTurn(t, f, api.Field{}, wantCheck(f))
	}
}

// P1.

// wrongFields are some that Check refuses, of either error and of both.
func wrongFields() []api.Field {
	list := []api.Field{{}, {Wide: 1, High: 1}, {Wide: 40, High: 40}, {Places: []int{0}}, {Wide: -2, High: -3, Places: make([]int, 6)}, made(41, 1), made(1, 41), made(41, 41)}
	for _, wrong := range noSides() {
		list = append(list, api.Field{Wide: wrong, High: 1, Places: make([]int, 1)}, api.Field{Wide: 1, High: wrong, Places: make([]int, 1)},
			api.Field{Wide: wrong, High: wrong, Places: []int{4}}, api.Field{Wide: wrong, High: 40}, api.Field{Wide: 40, High: wrong, Places: make([]int, 40)})
	}
	for _, f := range []api.Field{made(1, 1), made(3, 2), made(1, 40), made(40, 40)} {
		last := len(f.Places) - 1
		list = append(list, api.Field{Wide: f.Wide, High: f.High, Places: f.Places[:last]}, api.Field{Wide: f.Wide, High: f.High, Places: append(slices.Clone(f.Places), 0)})
		for _, wrong := range noSorts() {
			list = append(list, with(f, 0, wrong), with(f, last, wrong))
		}
	}
	return list
}

// asked is what each call is given; told is what they answer.
type asked struct {
	f api.Field
	c api.Cell
	s string
}

type told struct {
	check, readErr, writeErr, atErr, turnErr api.Errno
	read, turn                               api.Field
	write                                    string
	at                                       int
}

func ask(q asked) told {
	r := told{check: Check(q.f)}
	r.read, r.readErr = Read(q.s)
	r.write, r.writeErr = Write(q.f)
	r.at, r.atErr = At(q.f, q.c)
	r.turn, r.turnErr = Turn(q.f)
	return r
}

// wantTold is what the promises ask for.
func wantTold(q asked) told {
	r := told{check: wantCheck(q.f)}
	r.read, r.readErr = wantRead(q.s)
	r.write, r.writeErr = wantWrite(q.f)
	r.at, r.atErr = wantAt(q.f, q.c)
	r.turn, r.turnErr = wantTurn(q.f)
	return r
}

func same(a, b told) bool {
	return a.check == b.check && a.readErr == b.readErr && a.writeErr == b.writeErr && a.atErr == b.atErr && a.turnErr == b.turnErr &&
		sameField(a.read, b.read) && sameField(a.turn, b.turn) && a.write == b.write && a.at == b.at
}

func (q asked) String() string {
	return fmt.Sprintf("%s, %d and %.60q", brief(q.f), q.c, q.s)
}

func (r told) String() string {
	return fmt.Sprintf("Check %d, Read %s, %d, Write %.60q, %d, At %d, %d, Turn %s, %d",
		r.check, brief(r.read), r.readErr, r.write, r.writeErr, r.at, r.atErr, brief(r.turn), r.turnErr)
}

func questions() []asked {
	fields := wrongFields()
	texts := []string{"", "\n", ".\n", ".", "..\n.\n", "\xff\n", ".#\nto\n", strings.Repeat(".", 41) + "\n", strings.Repeat(".\n", 41), strings.Repeat("\xff", 5000)}
	for i, sides := range [][2]int{{1, 1}, {2, 2}, {3, 2}, {2, 3}, {1, 40}, {40, 1}, {7, 31}, {40, 40}} {
		f := made(sides[0], sides[1])
		s, _ := wantWrite(f)
		texts = append(texts, s, s[1:], s+s)
		fields = append(fields, f, with(f, len(f.Places)/2, i%4))
	}
	cells := []api.Cell{{}, {X: 1}, {Y: 1}, {X: 1, Y: 1}, {X: -1}, {Y: -1}, {X: 39, Y: 39}, {X: 40}, {Y: 40}, {X: math.MaxInt, Y: math.MaxInt}, {X: math.MinInt, Y: math.MinInt}}
	var list []asked
	for i, f := range fields {
		for k := range 3 {
			list = append(list, asked{f, cells[(i+k)%len(cells)], texts[(i+k)%len(texts)]})
		}
	}
	return list
}

// Whatever is given, an answer is the one that the promises ask for.
func TestEachCallAnswers(t *testing.T) {
	for _, q := range questions() {
		if got, want := ask(q), wantTold(q); !same(got, want) {
			t.Errorf("of %v: %v, want %v", q, got, want)
		}
	}
}

// P2.

// roomy is f with room behind its places that has something in it.
func roomy(f api.Field) api.Field {
	f.Places = append(slices.Clone(f.Places), 1, 2, 3)[:len(f.Places)]
	return f
}

func TestFieldsAreNotChanged(t *testing.T) {
	for _, q := range questions() {
		want := ask(q)
		q.f = roomy(q.f)
		whole := q.f.Places[:len(q.f.Places)+3]
		old := slices.Clone(whole)
		if got := ask(q); !same(got, want) {
			t.Fatalf("of %v: %v, with room behind the places %v", q, want, got)
		}
		if !slices.Equal(whole, old) {
			t.Fatalf("of %v: left %d", q, whole)
		}
	}
}

// spoil puts each number of a list, and of the room behind it, to another one.
func spoil(l []int) {
	l = l[:cap(l)]
	for i := range l {
		l[i] = ^l[i]
	}
}

// Who changes an answer, and the room behind it, changes no other answer and
// nothing that was handed in.
func TestAnswersAreNewMemory(t *testing.T) {
	for _, q := range questions() {
		q.f = roomy(q.f)
		whole := q.f.Places[:len(q.f.Places)+3]
		old := slices.Clone(whole)
		want, first, second := wantTold(q), ask(q), ask(q)
		spoil(first.read.Places)
		spoil(first.turn.Places)
		if !slices.Equal(whole, old) {
			t.Fatalf("of %v: spoilt %d", q, whole)
		}
		if !same(second, want) {
			t.Fatalf("of %v: %v, want %v", q, second, want)
		}
		if third := ask(q); !same(third, want) {
			t.Fatalf("of %v: %v behind a spoilt answer, want %v", q, third, want)
		}
	}
}

func TestNothingIsKeptBetweenCalls(t *testing.T) {
	list := questions()
	answers := make([]told, len(list))
	for i, q := range list {
		answers[i] = ask(q)
	}
	for i := len(list) - 1; i >= 0; i-- {
		if got := ask(list[i]); !same(got, answers[i]) {
			t.Fatalf("of %v: first %v, then %v", list[i], answers[i], got)
		}
	}
}

// Places that have become others in the same memory are read anew, and what was
// answered of them stays as it was.
func TestFieldsAreNotKept(t *testing.T) {
	f := api.Field{Wide: 3, High: 2, Places: make([]int, 6)}
	first, text := ask(asked{f: f}), "...\n...\n"
	for i := range 100 {
		for k := range f.Places {
			f.Places[k] = (i + i*k/5) % 4
		}
		q := asked{f: f, c: api.Cell{X: i % 3, Y: i % 2}}
		if got, want := ask(q), wantTold(q); !same(got, want) {
			t.Fatalf("of %v: %v, want %v", q, got, want)
		}
	}
	if first.write != text || !sameField(first.turn, api.Field{Wide: 2, High: 3, Places: make([]int, 6)}) {
		t.Errorf("of six plain places, later on: %v", first)
	}
}
