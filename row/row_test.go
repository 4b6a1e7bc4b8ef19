package row

import (
	"math"
	"slices"
	"strings"
	"testing"
	"unicode/utf8"

	"jalousie/api"
)

// plain is the attribute without flags; other is one that no cell of these tests has before it is handed in.
var (
	plain api.Attr
	other = api.Attr{Flags: 0x83, Fg: api.Color{Kind: 2, N: 0xabcdef}, Bg: api.Color{Kind: 1, N: 77}}
)

const wide = '中'

// own is an attribute for column i alone.
func own(i int) api.Attr {
	return api.Attr{Flags: uint16(i + 1), Fg: api.Color{Kind: 1, N: uint32(i)}, Bg: api.Color{Kind: 2, N: uint32(9 * i)}}
}

// cells is the row that a text says: < and > are the halves of a wide character, ? is of another Wide, _ a blank, others stand for themselves. Each has the attribute of its column.
func cells(text string) []api.Cell {
	var l []api.Cell
	for i, r := range []rune(text) {
		c := api.Cell{Rune: r, Attr: own(i)}
		switch r {
		case '_':
			c.Rune = ' '
		case '<':
			c.Rune, c.Wide = wide, 1
		case '>':
			c.Rune, c.Wide = wide, 2
		case '?':
			c.Rune, c.Wide = 'q', 3
		}
		l = append(l, c)
	}
	return l
}

// rows calls f with each row of at most so many cells of these kinds.
func rows(most int, kinds string, f func(l []api.Cell)) {
	var grow func(text string)
	grow = func(text string) {
		f(cells(text))
		if len(text) == most {
			return
		}
		for _, r := range kinds {
			grow(text + string(r))
		}
	}
	grow("")
}

// places are columns of a row of n cells, and numbers that are none.
func places(n int) []int {
	l := []int{math.MinInt, math.MinInt + 1, -n - 1, -2, n + 1, n + 2, math.MaxInt - 1, math.MaxInt}
	for x := -1; x <= n; x++ {
		l = append(l, x)
	}
	return l
}

// counts are how many columns of a row of n cells may be asked for.
func counts(n int) []int {
	l := []int{math.MinInt, math.MaxInt - 1, math.MaxInt}
	for i := -1; i <= n+1; i++ {
		l = append(l, i)
	}
	return l
}

// chance answers numbers below n, always the same ones.
func chance(seed uint32) func(n int) int {
	return func(n int) int {
		seed = seed*1664525 + 1013904223
		return int(seed>>8) % n
	}
}

// anyRow is a row of n cells of any kind, more of them halves that stand together than not.
func anyRow(next func(n int) int, n int) []api.Cell {
	l := make([]api.Cell, 0, n+1)
	for len(l) < n {
		switch next(5) {
		case 0:
			l = append(l, api.Cell{Rune: rune('a' + next(26)), Attr: own(next(99))})
		case 1:
			l = append(l, api.Cell{Rune: ' ', Attr: own(next(99))})
		case 2:
			l = append(l, api.Cell{Rune: wide, Wide: uint8(next(4)), Attr: own(next(99))})
		default:
			l = append(l, api.Cell{Rune: wide, Wide: 1, Attr: own(next(99))}, api.Cell{Rune: wide, Wide: 2, Attr: own(next(99))})
		}
	}
	return l[:n]
}

// The chapter's words, column by column.

func wantsParted(l []api.Cell, x int) []api.Cell {
	l = slices.Clone(l)
	if x >= 1 && x <= len(l)-1 && l[x].Wide == 2 {
		l[x-1] = api.Cell{Rune: 32, Attr: l[x-1].Attr}
		l[x] = api.Cell{Rune: 32, Attr: l[x].Attr}
	}
	return l
}

// wantsCount is n, made at most what there is from x on; 0, if nothing is to happen.
func wantsCount(l []api.Cell, x, n int) int {
	if x < 0 || x >= len(l) || n < 1 {
		return 0
	}
	there := 0
	for i := x; i < len(l) && there < n; i++ {
		there++
	}
	return there
}

// wantsCells is a row of w cells, each one what f says; of those that the row l has not, blanks.
func wantsCells(w int, l []api.Cell, a api.Attr, f func(i int) int) []api.Cell {
	m := make([]api.Cell, w)
	for i := range m {
		m[i] = api.Cell{Rune: 32, Attr: a}
		if from := f(i); from >= 0 && from < len(l) {
			m[i] = l[from]
		}
	}
	return m
}

func wantsWrite(l []api.Cell, x int, r rune, isWide bool, a api.Attr) ([]api.Cell, bool) {
	isColumn := func(x int) bool { return x >= 0 && x < len(l) }
	if !isColumn(x) || isWide && !isColumn(x+1) {
		return nil, false
	}
	if !isWide {
		m := wantsParted(wantsParted(l, x), x+1)
		m[x] = api.Cell{Rune: r, Attr: a}
		return m, true
	}
	m := wantsParted(wantsParted(l, x), x+2)
	m[x] = api.Cell{Rune: r, Wide: 1, Attr: a}
	m[x+1] = api.Cell{Rune: r, Wide: 2, Attr: a}
	return m, true
}

func wantsInsert(l []api.Cell, x, n int, a api.Attr) []api.Cell {
	if n = wantsCount(l, x, n); n == 0 {
		return l
	}
	m := wantsParted(wantsParted(l, x), len(l)-n)
	return wantsCells(len(l), m, a, func(i int) int {
		switch {
		case i < x:
			return i
		case i < x+n:
			return -1
		}
		return i - n
	})
}

func wantsDelete(l []api.Cell, x, n int, a api.Attr) []api.Cell {
	if n = wantsCount(l, x, n); n == 0 {
		return l
	}
	m := wantsParted(wantsParted(l, x), x+n)
	return wantsCells(len(l), m, a, func(i int) int {
		if i < x {
			return i
		}
		return i + n
	})
}

func wantsErase(l []api.Cell, x, n int, a api.Attr) []api.Cell {
	if n = wantsCount(l, x, n); n == 0 {
		return l
	}
	m := wantsParted(wantsParted(l, x), x+n)
	return wantsCells(len(l), m, a, func(i int) int {
		if i >= x && i < x+n {
			return -1
		}
		return i
	})
}

func wantsResize(l []api.Cell, w int, a api.Attr) []api.Cell {
	if w < 1 || w > 400 {
		return l
	}
	return wantsCells(w, wantsParted(l, w), a, func(i int) int { return i })
}

func wantsWhole(l []api.Cell) bool {
	wideAt := func(i int) uint8 {
		if i < 0 || i >= len(l) {
			return 0
		}
		return l[i].Wide
	}
	for i, c := range l {
		if c.Wide > 2 || c.Wide == 1 && wideAt(i+1) != 2 || c.Wide == 2 && wideAt(i-1) != 1 {
			return false
		}
	}
	return true
}

func wantsText(l []api.Cell) string {
	l = slices.Clone(l)
	l = slices.DeleteFunc(l, func(c api.Cell) bool { return c.Wide == 2 })
	for len(l) > 0 && l[len(l)-1].Rune == 32 && l[len(l)-1].Wide == 0 {
		l = l[:len(l)-1]
	}
	var s strings.Builder
	for _, c := range l {
		if utf8.ValidRune(c.Rune) {
			s.WriteRune(c.Rune)
		} else {
			s.WriteString("\xef\xbf\xbd")
		}
	}
	return s.String()
}

// scribble writes over all of a list, its spare room too.
func scribble(l []api.Cell) {
	l = l[:cap(l)]
	for i := range l {
		l[i] = api.Cell{Rune: '!', Wide: 9, Attr: api.Attr{Flags: 0xffff}}
	}
}

// answers wants a row of a call that l is handed to, with spare room behind it: twice the same, in new memory each time, and nothing of l or of that room may turn (R3, R4).
func answers(t *testing.T, l, want []api.Cell, call func(l []api.Cell) []api.Cell) {
	t.Helper()
	want = slices.Clone(want)
	room := append(slices.Clone(l), cells("xy<>z")...)
	before := slices.Clone(room)
	handed := room[:len(l)]
	got := call(handed)
	if !slices.Equal(got, want) {
		t.Fatalf("of %v: %v, not %v", l, got, want)
	}
	again := call(handed)
	if !slices.Equal(room, before) {
		t.Fatalf("of %v: the list that was handed in is %v", before, room)
	}
	scribble(got)
	if !slices.Equal(room, before) {
		t.Fatalf("of %v: the answer shares memory with what was handed in", l)
	}
	if !slices.Equal(again, want) {
		t.Fatalf("of %v: the second answer is %v, not %v", l, again, want)
	}
	scribble(room)
	if !slices.Equal(again, want) {
		t.Fatalf("of %v: the answer hangs on what the list becomes that was handed in", l)
	}
}

// writes wants what the chapter says of Write.
func writes(t *testing.T, l []api.Cell, x int, r rune, isWide bool) {
	t.Helper()
	want, wantOk := wantsWrite(l, x, r, isWide, other)
	answers(t, l, want, func(l []api.Cell) []api.Cell {
		m, ok := Write(l, x, r, isWide, other)
		if ok != wantOk {
			t.Errorf("Write(%v, %d, %x, %v): %v", l, x, r, isWide, ok)
		}
		return m
	})
}

// changes wants what the chapter says of Insert, Delete and Erase.
func changes(t *testing.T, l []api.Cell, x, n int) {
	t.Helper()
	answers(t, l, wantsInsert(l, x, n, other), func(l []api.Cell) []api.Cell { return Insert(l, x, n, other) })
	answers(t, l, wantsDelete(l, x, n, other), func(l []api.Cell) []api.Cell { return Delete(l, x, n, other) })
	answers(t, l, wantsErase(l, x, n, other), func(l []api.Cell) []api.Cell { return Erase(l, x, n, other) })
}

// resizes wants what the chapter says of Resize.
func resizes(t *testing.T, l []api.Cell, w int) {
	t.Helper()
	answers(t, l, wantsResize(l, w, other), func(l []api.Cell) []api.Cell { return Resize(l, w, other) })
}

// is wants a row by its text (as of cells), whatever its attributes are.
func is(t *testing.T, l []api.Cell, text string) {
	t.Helper()
	want := cells(text)
	same := slices.EqualFunc(l, want, func(a, b api.Cell) bool { return a.Rune == b.Rune && a.Wide == b.Wide })
	if !same {
		t.Errorf("%v, not %s", l, text)
	}
}

// equal wants a row, its attributes too.
func equal(t *testing.T, l []api.Cell, want ...api.Cell) {
	t.Helper()
	if !slices.Equal(l, want) {
		t.Errorf("%v, not %v", l, want)
	}
}

// The chapter's examples.
func TestExamples(t *testing.T) {
	m, ok := Write(cells("a<>b"), 2, 'x', false, plain)
	if !ok {
		t.Error("Write")
	}
	is(t, m, "a_xb")
	is(t, Insert(cells("a<>b"), 2, 1, plain), "a___")
	is(t, Delete(cells("a<>b"), 2, 1, plain), "a_b_")
	is(t, Erase(cells("a<>b"), 1, 1, plain), "a__b")
	is(t, Resize(cells("a<>b"), 2, plain), "a_")
	m, ok = Write(cells("ab"), 1, 'x', true, plain)
	if ok || len(m) > 0 {
		t.Error("Write of a wide one into the last column:", m, ok)
	}
	if s := Text(cells("a<>__")); s != "a\u4e2d" {
		t.Errorf("Text: %q", s)
	}
}

// P11.1: Blank, within its bounds and beyond them.
func TestBlank(t *testing.T) {
	for _, w := range []int{-1, 0, 401, 402, -400, math.MinInt, math.MinInt + 1, math.MaxInt, math.MaxInt - 1, 1<<32 + 1} {
		if l := Blank(w, other); len(l) > 0 {
			t.Errorf("Blank(%d): %d cells", w, len(l))
		}
	}
	for _, a := range []api.Attr{plain, other, {Flags: 0xffff, Fg: api.Color{Kind: 9, N: math.MaxUint32}}} {
		for _, w := range []int{1, 2, 80, 399, 400} {
			l := Blank(w, a)
			if len(l) != w {
				t.Fatalf("Blank(%d): %d cells", w, len(l))
			}
			for i, c := range l {
				if c != (api.Cell{Rune: 32, Attr: a}) {
					t.Fatalf("Blank(%d, %v): column %d is %v", w, a, i, c)
				}
			}
			if !Whole(l) || Text(l) != "" {
				t.Errorf("Blank(%d) is not whole, or has a text", w)
			}
		}
	}
}

// R4: two answers of Blank share nothing.
func TestBlankIsNew(t *testing.T) {
	a, b := Blank(3, other), Blank(3, other)
	scribble(a)
	equal(t, b, api.Cell{Rune: 32, Attr: other}, api.Cell{Rune: 32, Attr: other}, api.Cell{Rune: 32, Attr: other})
}

// P11.1: Whole.
func TestWhole(t *testing.T) {
	if !Whole(nil) || !Whole([]api.Cell{}) || !Whole(make([]api.Cell, 0, 3)) || !Whole(make([]api.Cell, 3)) {
		t.Error("no cells, or zero ones")
	}
	for text, want := range map[string]bool{
		"a": true, "_": true, "ab_": true, "<>": true, "a<>": true, "<>a": true, "<><>": true, "<>a<>": true, "<>_<>": true,
		"<": false, ">": false, "a<": false, ">a": false, "<a": false, "a>": false, "<a>": false, "<_>": false, "><": false,
		"<<>": false, "<>>": false, "<<": false, ">>": false, "<<>>": false, "<><": false, "><>": false, "a<>>b": false, "a<<>b": false,
		"?": false, "a?": false, "?a": false, "<>?": false, "?<>": false, "<?": false, "<?>": false, "?>": false,
	} {
		if Whole(cells(text)) != want {
			t.Errorf("Whole(%s): %v", text, !want)
		}
	}
	for wide := 3; wide <= 255; wide++ {
		if Whole([]api.Cell{{Rune: 'a', Wide: uint8(wide)}}) {
			t.Errorf("Whole of a cell with Wide %d", wide)
		}
	}
	rows(6, "a<>?", func(l []api.Cell) {
		if Whole(l) != wantsWhole(l) {
			t.Errorf("Whole(%v): %v", l, Whole(l))
		}
	})
}

// P11.1: what Runes and Attrs halves have, and how long the row is, is nothing to Whole.
func TestWholeOfOtherRunes(t *testing.T) {
	for _, r := range []rune{0, 'a', -1, math.MaxInt32, 0xd800} {
		if !Whole([]api.Cell{{Rune: r, Wide: 1}, {Rune: 7, Wide: 2, Attr: other}, {Rune: r}}) {
			t.Errorf("Whole of the Rune %x", r)
		}
	}
	long := slices.Repeat(cells("<>"), 500)
	if !Whole(long) || Whole(long[1:]) || Whole(long[:999]) {
		t.Error("Whole of a long row")
	}
}

// P11.1: Write at each column of all short rows, and where none is.
func TestWrite(t *testing.T) {
	rows(5, "a<>?", func(l []api.Cell) {
		for _, x := range places(len(l)) {
			writes(t, l, x, 'x', false)
			writes(t, l, x, wide, true)
		}
	})
	writes(t, nil, 0, 'x', false)
	writes(t, nil, 0, 'x', true)
}

// P11.1: a wide character has the Rune and the Attr in both columns.
func TestWriteWide(t *testing.T) {
	half := func(n uint8) api.Cell { return api.Cell{Rune: wide, Wide: n, Attr: other} }
	l := cells("abcd")
	m, ok := Write(l, 1, wide, true, other)
	equal(t, m, l[0], half(1), half(2), l[3])
	n, ok2 := Write(l, 2, wide, true, other)
	equal(t, n, l[0], l[1], half(1), half(2))
	o, ok3 := Write(l, 3, wide, true, other)
	equal(t, o)
	p, ok4 := Write(l[:1], 0, wide, true, other)
	equal(t, p)
	if !ok || !ok2 || ok3 || ok4 {
		t.Error(ok, ok2, ok3, ok4)
	}
}

// P11.1: what is written upon a half leaves a blank with its own Attr in the other one's place.
func TestWriteUponHalves(t *testing.T) {
	for _, c := range []struct {
		l, want string
		x       int
		wide    bool
	}{
		{"a<>b", "ax_b", 1, false},
		{"a<>b", "a_xb", 2, false},
		{"<>", "x_", 0, false},
		{"<>", "_x", 1, false},
		{"<><>", "<>_x", 3, false},
		{"<><>", "_x<>", 1, false},
		{"a<>b", "<>_b", 0, true},
		{"a<>b", "a<>b", 1, true},
		{"a<>b", "a_<>", 2, true},
		{"<><>", "_<>_", 1, true},
		{"<><>", "<><>", 2, true},
		{"<>", "<>", 0, true},
	} {
		r, own := 'x', cells(c.l)
		if c.wide {
			r = wide
		}
		m, ok := Write(cells(c.l), c.x, r, c.wide, other)
		is(t, m, c.want)
		if !ok {
			t.Error(c)
		}
		for i, cell := range m {
			written := i == c.x || c.wide && i == c.x+1
			if written && cell.Attr != other || !written && cell.Attr != own[i].Attr {
				t.Errorf("%v: column %d is %v", c, i, cell)
			}
		}
	}
}

// P11.1: any Rune is written as it is, whatever it is.
func TestWriteAnyRune(t *testing.T) {
	for _, r := range []rune{0, 31, 32, 0x301, 0xd800, 0xdfff, 0xfffd, 0x10ffff, 0x110000, -1, math.MinInt32, math.MaxInt32} {
		for _, isWide := range []bool{false, true} {
			writes(t, cells("<><>"), 1, r, isWide)
			writes(t, cells("ab"), 0, r, isWide)
		}
	}
}

// P11.2: Insert, Delete and Erase at each place of all short rows, with each number of columns.
func TestChanges(t *testing.T) {
	rows(4, "a<>?", func(l []api.Cell) {
		for _, x := range places(len(l)) {
			for _, n := range counts(len(l)) {
				changes(t, l, x, n)
			}
		}
	})
}

// P11.2: likewise of longer rows.
func TestChangesOfLongerRows(t *testing.T) {
	next := chance(11)
	for range 4000 {
		l := anyRow(next, next(12))
		x, n := next(len(l)+3)-1, next(len(l)+3)-1
		changes(t, l, x, n)
		writes(t, l, x, wide, next(2) == 0)
		resizes(t, l, next(15)-1)
	}
	l := anyRow(next, 1000) // more than a page may have
	for _, x := range []int{-1, 0, 1, 500, 998, 999, 1000} {
		for _, n := range []int{0, 1, 2, 500, 1000, math.MaxInt} {
			changes(t, l, x, n)
		}
		writes(t, l, x, wide, true)
	}
}

// P11.2: what is shifted keeps all that it has, in order; what is new are blanks with the Attr of the call.
func TestShifted(t *testing.T) {
	l := cells("abcde")
	b := api.Cell{Rune: 32, Attr: other}
	equal(t, Insert(l, 0, 1, other), b, l[0], l[1], l[2], l[3])
	equal(t, Insert(l, 1, 2, other), l[0], b, b, l[1], l[2])
	equal(t, Insert(l, 4, 1, other), l[0], l[1], l[2], l[3], b)
	equal(t, Insert(l, 3, 9, other), l[0], l[1], l[2], b, b)
	equal(t, Insert(l, 0, math.MaxInt, other), b, b, b, b, b)
	equal(t, Delete(l, 0, 1, other), l[1], l[2], l[3], l[4], b)
	equal(t, Delete(l, 1, 2, other), l[0], l[3], l[4], b, b)
	equal(t, Delete(l, 4, 1, other), l[0], l[1], l[2], l[3], b)
	equal(t, Delete(l, 3, 9, other), l[0], l[1], l[2], b, b)
	equal(t, Delete(l, 0, math.MaxInt, other), b, b, b, b, b)
	equal(t, Erase(l, 1, 2, other), l[0], b, b, l[3], l[4])
	equal(t, Erase(l, 3, 9, other), l[0], l[1], l[2], b, b)
	equal(t, Erase(l, 0, math.MaxInt, other), b, b, b, b, b)
}

// P11.2: characters that a change goes through are parted at both ends, and what is parted keeps the Attr that it has.
func TestParted(t *testing.T) {
	l := cells("a<><>b")
	b := api.Cell{Rune: 32, Attr: other}
	kept := func(i int) api.Cell { return api.Cell{Rune: 32, Attr: own(i)} }
	equal(t, Insert(l, 2, 1, other), l[0], kept(1), b, kept(2), l[3], l[4])
	equal(t, Insert(l, 1, 1, other), l[0], b, l[1], l[2], l[3], l[4])
	equal(t, Insert(l, 1, 2, other), l[0], b, b, l[1], l[2], kept(3))
	equal(t, Insert(l, 2, 2, other), l[0], kept(1), b, b, kept(2), kept(3))
	equal(t, Insert(l, 4, 2, other), l[0], l[1], l[2], kept(3), b, b)
	equal(t, Delete(l, 2, 1, other), l[0], kept(1), l[3], l[4], l[5], b)
	equal(t, Delete(l, 1, 1, other), l[0], kept(2), l[3], l[4], l[5], b)
	equal(t, Delete(l, 2, 2, other), l[0], kept(1), kept(4), l[5], b, b)
	equal(t, Delete(l, 4, 2, other), l[0], l[1], l[2], kept(3), b, b)
	equal(t, Erase(l, 2, 1, other), l[0], kept(1), b, l[3], l[4], l[5])
	equal(t, Erase(l, 1, 1, other), l[0], b, kept(2), l[3], l[4], l[5])
	equal(t, Erase(l, 2, 2, other), l[0], kept(1), b, b, kept(4), l[5])
	equal(t, Erase(l, 1, 4, other), l[0], b, b, b, b, l[5])
	equal(t, Resize(l, 2, other), l[0], kept(1))
	equal(t, Resize(l, 4, other), l[0], l[1], l[2], kept(3))
}

// P11.2: what is ahead of a second half becomes a blank, whatever it is; one at the row's beginning has none ahead.
func TestPartedWhereNothingIsWhole(t *testing.T) {
	l := cells("a>>?>")
	b := api.Cell{Rune: 32, Attr: other}
	kept := func(i int) api.Cell { return api.Cell{Rune: 32, Attr: own(i)} }
	equal(t, Erase(l, 1, 1, other), kept(0), b, kept(2), l[3], l[4])
	equal(t, Erase(l, 4, 1, other), l[0], l[1], l[2], kept(3), b)
	equal(t, Delete(l, 0, 2, other), kept(2), l[3], l[4], b, b)
	equal(t, Insert(l, 2, 2, other), l[0], kept(1), b, b, kept(2))
	m, _ := Write(l, 3, 'x', false, other)
	equal(t, m, l[0], l[1], l[2], api.Cell{Rune: 'x', Attr: other}, kept(4))
	equal(t, Resize(l, 1, other), kept(0))
	first := cells(">a<")
	equal(t, Erase(first, 1, 1, other), first[0], b, first[2])
	equal(t, Insert(first, 0, 1, other), b, first[0], first[1])
	equal(t, Delete(first, 0, 1, other), first[1], first[2], b)
}

// P11.2: of a place that is none, and of no columns, the row stays as it is, whole or not.
func TestNothingHappens(t *testing.T) {
	for _, text := range []string{"", "a", "<>", ">", ">>", "a<><", "?>?"} {
		l := cells(text)
		for _, x := range []int{math.MinInt, -400, -1, len(l), len(l) + 1, 400, math.MaxInt} {
			for _, n := range []int{math.MinInt, -1, 0, 1, 2, 400, math.MaxInt} {
				equal(t, Insert(l, x, n, other), l...)
				equal(t, Delete(l, x, n, other), l...)
				equal(t, Erase(l, x, n, other), l...)
			}
		}
		for x := range l {
			for _, n := range []int{math.MinInt, math.MinInt + 1, -400, -1, 0} {
				equal(t, Insert(l, x, n, other), l...)
				equal(t, Delete(l, x, n, other), l...)
				equal(t, Erase(l, x, n, other), l...)
			}
		}
	}
}

// P11.2: Resize of all short rows to each width, and to none.
func TestResize(t *testing.T) {
	rows(5, "a<>?", func(l []api.Cell) {
		for w := 1; w <= len(l)+2; w++ {
			resizes(t, l, w)
		}
		for _, w := range []int{math.MinInt, -400, -1, 0, 401, 402, math.MaxInt} {
			resizes(t, l, w)
		}
	})
	resizes(t, nil, 3)
	resizes(t, nil, 0)
}

// P11.2: the greatest width, and rows that are longer than a page may be.
func TestResizeAtTheBound(t *testing.T) {
	b := api.Cell{Rune: 32, Attr: other}
	for _, text := range []string{"", "a", "<>", "a<", "ab_"} {
		l := cells(text)
		m := Resize(l, 400, other)
		if len(m) != 400 || !slices.Equal(m[:len(l)], l) {
			t.Errorf("Resize(%s, 400): %d cells", text, len(m))
		}
		for i, c := range m[len(l):] {
			if c != b {
				t.Errorf("Resize(%s, 400): %v, %d columns behind", text, c, i)
			}
		}
		equal(t, Resize(l, 401, other), l...)
		equal(t, Resize(l, 0, other), l...)
		equal(t, Resize(l, -1, other), l...)
	}
	long := append(cells("a"), slices.Repeat(cells("<>"), 250)...)
	for _, w := range []int{399, 400, 401, 402, 500, 501, 502, 0, -1, math.MaxInt, math.MinInt} {
		resizes(t, long, w)
		resizes(t, long[:401], w)
		resizes(t, long[:400], w)
		resizes(t, long[1:], w)
	}
	if c := Resize(long, 400, other)[399]; c != (api.Cell{Rune: 32, Attr: long[399].Attr}) {
		t.Errorf("column 399, parted: %v", c)
	}
}

// P11.3: Text of single rows.
func TestText(t *testing.T) {
	for _, c := range []struct{ l, want string }{
		{"", ""},
		{"_", ""},
		{"___", ""},
		{"a", "a"},
		{"a_", "a"},
		{"a___", "a"},
		{"_a", " a"},
		{"_a__b__", " a  b"},
		{"<>", "\u4e2d"},
		{"a<>_<>__", "a\u4e2d \u4e2d"},
		{"a<", "a\u4e2d"},
		{"<a", "\u4e2da"},
		{">a", "a"},
		{">", ""},
		{"a>>", "a"},
		{"a_>", "a"},
		{"a>_", "a"},
		{"_>_>", ""},
		{"a_>b", "a b"},
		{"?", "q"},
		{"?_a?_", "q aq"},
	} {
		if s := Text(cells(c.l)); s != c.want {
			t.Errorf("Text(%s): %q, not %q", c.l, s, c.want)
		}
	}
	if Text(nil) != "" || Text([]api.Cell{}) != "" {
		t.Error("Text of nothing")
	}
}

// P11.3: Runes as UTF-8; those that are none as U+FFFD; 0 and other spaces than 32 are no blanks'.
func TestTextOfAnyRune(t *testing.T) {
	for r, want := range map[rune]string{
		0: "\x00", 1: "\x01", 9: "\t", 10: "\n", 0x7f: "\x7f", 0x80: "\xc2\x80", 0xa0: "\xc2\xa0", 0x7ff: "\xdf\xbf", 0x800: "\xe0\xa0\x80", 0x3000: "\xe3\x80\x80", 0xd7ff: "\xed\x9f\xbf", 0xe000: "\xee\x80\x80", 0xfffd: "\xef\xbf\xbd", 0xffff: "\xef\xbf\xbf", 0x10000: "\xf0\x90\x80\x80", 0x10ffff: "\xf4\x8f\xbf\xbf",
		-1: "\xef\xbf\xbd", -32: "\xef\xbf\xbd", math.MinInt32: "\xef\xbf\xbd", 0xd800: "\xef\xbf\xbd", 0xdbff: "\xef\xbf\xbd", 0xdc00: "\xef\xbf\xbd", 0xdfff: "\xef\xbf\xbd", 0x110000: "\xef\xbf\xbd", 1<<24 + 32: "\xef\xbf\xbd", math.MaxInt32: "\xef\xbf\xbd",
	} {
		for _, wide := range []uint8{0, 1, 3, 255} {
			c := api.Cell{Rune: r, Wide: wide, Attr: other}
			b := api.Cell{Rune: 32, Attr: other}
			if s := Text([]api.Cell{c}); s != want {
				t.Errorf("Text of the Rune %x with Wide %d: %q", r, wide, s)
			}
			if s := Text([]api.Cell{b, c, b, c, {Rune: r, Wide: 2}, b, b}); s != " "+want+" "+want {
				t.Errorf("Text of the Rune %x with Wide %d among blanks: %q", r, wide, s)
			}
		}
		if s := Text([]api.Cell{{Rune: r, Wide: 2}}); s != "" {
			t.Errorf("Text of the Rune %x with Wide 2: %q", r, s)
		}
	}
}

// P11.3: a blank's Attr counts for nothing; a cell with Rune 32 of another Wide is no blank.
func TestTextOfBlanks(t *testing.T) {
	a := api.Cell{Rune: 'a'}
	for i := range 20 {
		if s := Text([]api.Cell{a, {Rune: 32, Attr: own(i)}, {Rune: 32, Attr: other}}); s != "a" {
			t.Errorf("Text with blanks of an Attr: %q", s)
		}
	}
	for _, wide := range []uint8{1, 3, 4, 255} {
		if s := Text([]api.Cell{a, {Rune: 32}, {Rune: 32, Wide: wide}, {Rune: 32, Wide: 2}, {Rune: 32}}); s != "a  " {
			t.Errorf("Text with a cell with Rune 32 and Wide %d: %q", wide, s)
		}
	}
}

// P11.3: Text of all short rows, and of longer ones.
func TestTextOfRows(t *testing.T) {
	check := func(l []api.Cell) {
		room := append(slices.Clone(l), cells("xy")...)
		if s := Text(room[:len(l)]); s != wantsText(l) {
			t.Errorf("Text(%v): %q, not %q", l, s, wantsText(l))
		}
		if !slices.Equal(room[:len(l)], l) || !slices.Equal(room[len(l):], cells("xy")) {
			t.Errorf("Text(%v) changed it: %v", l, room)
		}
	}
	rows(5, "a_<>?", check)
	next := chance(5)
	for range 500 {
		check(anyRow(next, next(500)))
	}
}

// P11.4: what is whole stays whole, and a row keeps its length but by Resize.
func TestWholeStaysWhole(t *testing.T) {
	check := func(l, m []api.Cell, call string) {
		if !Whole(m) || len(m) != len(l) {
			t.Errorf("%s of %v: %v", call, l, m)
		}
	}
	rows(6, "a<>", func(l []api.Cell) {
		if !Whole(l) {
			return
		}
		for x := -1; x <= len(l); x++ {
			for _, isWide := range []bool{false, true} {
				if m, ok := Write(l, x, wide, isWide, other); ok {
					check(l, m, "Write")
				}
			}
			for n := -1; n <= len(l)+1; n++ {
				check(l, Insert(l, x, n, other), "Insert")
				check(l, Delete(l, x, n, other), "Delete")
				check(l, Erase(l, x, n, other), "Erase")
			}
		}
		for w := 1; w <= len(l)+2; w++ {
			if m := Resize(l, w, other); !Whole(m) || len(m) != w {
				t.Errorf("Resize of %v to %d: %v", l, w, m)
			}
		}
		check(l, Resize(l, 0, other), "Resize to 0")
		check(l, Resize(l, 401, other), "Resize to 401")
	})
}

// P11.4: Delete behind Insert at the same place leaves all but what was pushed out or parted.
func TestDeleteBehindInsert(t *testing.T) {
	rows(5, "a<>", func(l []api.Cell) {
		for x := range l {
			if x == 0 && l[0].Wide == 2 {
				continue // Insert brings something ahead of it: see below
			}
			for n := 1; n <= len(l)+1; n++ {
				there := min(n, len(l)-x)
				want := wantsParted(wantsParted(l, x), len(l)-there)
				for i := len(l) - there; i < len(l); i++ {
					want[i] = api.Cell{Rune: 32, Attr: other}
				}
				got := Delete(Insert(l, x, n, plain), x, n, other)
				if !slices.Equal(got, want) {
					t.Fatalf("%v at %d by %d: %v, not %v", l, x, n, got, want)
				}
			}
		}
	})
	l := cells("ab<>cd")
	got := Delete(Insert(l, 1, 2, plain), 1, 2, plain)
	equal(t, got[:4], l[:4]...)
	is(t, got, "ab<>__")
}

// P11.4: a second half that nothing stood ahead of is parted by Delete from the blank that Insert brings.
func TestDeleteBehindInsertAheadOfALoneHalf(t *testing.T) {
	l := cells(">ab")
	equal(t, Delete(Insert(l, 0, 1, plain), 0, 1, other), api.Cell{Rune: 32, Attr: own(0)}, l[1], api.Cell{Rune: 32, Attr: other})
}

// R4: where the row stays, its answer is new memory, too.
func TestRowThatStaysIsNew(t *testing.T) {
	l := cells("a<>b")
	for _, call := range []func(l []api.Cell) []api.Cell{
		func(l []api.Cell) []api.Cell { return Insert(l, -1, 1, other) },
		func(l []api.Cell) []api.Cell { return Insert(l, 4, 1, other) },
		func(l []api.Cell) []api.Cell { return Insert(l, 2, 0, other) },
		func(l []api.Cell) []api.Cell { return Delete(l, -1, 1, other) },
		func(l []api.Cell) []api.Cell { return Delete(l, 4, 1, other) },
		func(l []api.Cell) []api.Cell { return Delete(l, 2, 0, other) },
		func(l []api.Cell) []api.Cell { return Erase(l, -1, 1, other) },
		func(l []api.Cell) []api.Cell { return Erase(l, 4, 1, other) },
		func(l []api.Cell) []api.Cell { return Erase(l, 2, 0, other) },
		func(l []api.Cell) []api.Cell { return Resize(l, 0, other) },
		func(l []api.Cell) []api.Cell { return Resize(l, 4, other) },
		func(l []api.Cell) []api.Cell { return Resize(l, 401, other) },
	} {
		answers(t, l, l, call)
	}
}

// R4: what one answer becomes is nothing to one that was made of it.
func TestAnswersShareNothing(t *testing.T) {
	l := cells("a<>b")
	a, _ := Write(l, 0, 'x', false, other)
	b := Insert(a, 1, 1, other)
	c := Delete(b, 1, 1, other)
	d := Erase(c, 3, 1, other)
	e := Resize(d, 3, other)
	f := Resize(e, 3, other)
	want := slices.Clone(f)
	for _, l := range [][]api.Cell{l, a, b, c, d, e} {
		scribble(l)
		equal(t, f, want...)
	}
	is(t, f, "x<>")
}
