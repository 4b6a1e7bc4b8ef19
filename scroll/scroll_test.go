package scroll

import (
	"math"
	"slices"
	"testing"

	"jalousie/api"
)

// plain is the attribute without flags; other is one that no cell of these tests has before it is handed in.
var (
	plain api.Attr
	other = api.Attr{Flags: 0x83, Fg: api.Color{Kind: 2, N: 0xabcdef}, Bg: api.Color{Kind: 1, N: 77}}
)

const wide = '中'

var extremes = []int{math.MinInt, math.MinInt + 1, -1 << 32, 1<<32 + 1, math.MaxInt - 1, math.MaxInt}

// numbers are those from a to b, and the greatest and the least ones.
func numbers(a, b int) []int {
	l := slices.Clone(extremes)
	for i := a; i <= b; i++ {
		l = append(l, i)
	}
	return l
}

// line is the line that a text says: < and > are the halves of a wide character, ? is of another Wide, _ a blank, others stand for themselves. Each cell has the attribute a.
func line(text string, a api.Attr) []api.Cell {
	l := []api.Cell{}
	for _, r := range text {
		c := api.Cell{Rune: r, Attr: a}
		switch r {
		case '_':
			c.Rune = ' '
		case '<':
			c.Rune, c.Wide = wide, 1
		case '>':
			c.Rune, c.Wide = wide, 2
		case '?':
			c.Rune, c.Wide = 'q', 3
		}
		l = append(l, c)
	}
	return l
}

// lines are those that texts say, each with an attribute of its own.
func lines(texts ...string) [][]api.Cell {
	l := [][]api.Cell{}
	for i, text := range texts {
		l = append(l, line(text, api.Attr{Flags: uint16(i + 1), Fg: api.Color{Kind: 1, N: uint32(i)}}))
	}
	return l
}

// several are the first h of some lines, of which each is another one.
func several(h int) [][]api.Cell {
	return lines("a", "bb", "", "<>", "d_", "ee?", "f")[:h]
}

// many are h lines of one cell, of which each is another one.
func many(h int) [][]api.Cell {
	l := make([][]api.Cell, h)
	for i := range l {
		l[i] = []api.Cell{{Rune: rune(0x4000 + i)}}
	}
	return l
}

func deep(l [][]api.Cell) [][]api.Cell {
	m := [][]api.Cell{}
	for _, x := range l {
		m = append(m, slices.Clone(x))
	}
	return m
}

func same(a, b [][]api.Cell) bool {
	return slices.EqualFunc(a, b, slices.Equal[[]api.Cell])
}

// The chapter's words, line by line.

func wantsFreshLine(w int, a api.Attr) []api.Cell {
	var l []api.Cell
	for i := 0; i < w && w <= 400; i++ {
		l = append(l, api.Cell{Rune: 32, Wide: 0, Attr: a})
	}
	return l
}

// wantsHas is how many lines the region has; 0, if there is none.
func wantsHas(l [][]api.Cell, top, bottom int) int {
	has := 0
	for y := range l {
		if 0 <= top && top <= y && y <= bottom && bottom < len(l) {
			has++
		}
	}
	return has
}

func wantsSteps(l [][]api.Cell, top, bottom, n int) int {
	has := wantsHas(l, top, bottom)
	if n < 1 {
		return 0
	}
	if n > has {
		return has
	}
	return n
}

func wantsUp(l [][]api.Cell, top, bottom, n, w int, a api.Attr) (out, gone [][]api.Cell) {
	n = wantsSteps(l, top, bottom, n)
	for y := range l {
		from := y
		if n > 0 && y >= top && y <= bottom {
			from = y + n
			if y < top+n {
				gone = append(gone, l[y])
			}
		}
		if from != y && from > bottom {
			out = append(out, wantsFreshLine(w, a))
		} else {
			out = append(out, l[from])
		}
	}
	return out, gone
}

func wantsDown(l [][]api.Cell, top, bottom, n, w int, a api.Attr) (out, gone [][]api.Cell) {
	n = wantsSteps(l, top, bottom, n)
	for y := range l {
		from := y
		if n > 0 && y >= top && y <= bottom {
			from = y - n
			if y > bottom-n {
				gone = append(gone, l[y])
			}
		}
		if from != y && from < top {
			out = append(out, wantsFreshLine(w, a))
		} else {
			out = append(out, l[from])
		}
	}
	return out, gone
}

// wantsFrom is how many lines of the region stand from y on; 0, if y is not in it.
func wantsFrom(l [][]api.Cell, y, top, bottom int) int {
	if wantsHas(l, top, bottom) == 0 || y < top || y > bottom {
		return 0
	}
	return bottom - y + 1
}

func wantsInsert(l [][]api.Cell, y, top, bottom, n, w int, a api.Attr) [][]api.Cell {
	if wantsFrom(l, y, top, bottom) == 0 {
		return l
	}
	out, _ := wantsDown(l, y, bottom, n, w, a)
	return out
}

func wantsDelete(l [][]api.Cell, y, top, bottom, n, w int, a api.Attr) [][]api.Cell {
	if wantsFrom(l, y, top, bottom) == 0 {
		return l
	}
	out, _ := wantsUp(l, y, bottom, n, w, a)
	return out
}

// roomy is l with spare room behind it and behind each line.
func roomy(l [][]api.Cell) [][]api.Cell {
	m := make([][]api.Cell, 0, len(l)+2)
	for _, x := range append(deep(l), lines("xy", "z")...) {
		m = append(m, append(make([]api.Cell, 0, len(x)+3), x...))
	}
	return m[:len(l)]
}

// room is all of l, the spare room of the list and of its lines too.
func room(l [][]api.Cell) [][]api.Cell {
	l = slices.Clone(l[:cap(l)])
	for i := range l {
		l[i] = l[i][:cap(l[i])]
	}
	return l
}

// apart wants no line of these lists to share memory with another one, nor a list with another one: each is written over in turn, spare room too, and none may lose what was written.
func apart(t *testing.T, lists ...[][]api.Cell) {
	t.Helper()
	mark := func(i int) api.Cell { return api.Cell{Rune: rune(i), Wide: 9} }
	var all [][]api.Cell
	for _, l := range lists {
		all = append(all, room(l)...)
	}
	for i, x := range all {
		for j := range x {
			x[j] = mark(i)
		}
	}
	for i, x := range all {
		if slices.ContainsFunc(x, func(c api.Cell) bool { return c != mark(i) }) {
			t.Fatalf("line %d shares memory with one behind it", i)
		}
	}
	for i, l := range lists {
		for j := range l[:cap(l)] {
			l[:cap(l)][j] = []api.Cell{mark(i)}
		}
	}
	for i, l := range lists {
		for _, x := range l[:cap(l)] {
			if x[0] != mark(i) {
				t.Fatalf("list %d shares memory with one behind it", i)
			}
		}
	}
}

// answers wants these lines of a call that l is handed to: twice the same, in new memory each time, and nothing of l may turn (R3, R4).
func answers(t *testing.T, l, wantOut, wantGone [][]api.Cell, call func(l [][]api.Cell) (out, gone [][]api.Cell)) {
	t.Helper()
	wantOut, wantGone = deep(wantOut), deep(wantGone)
	handed := roomy(l)
	before := deep(room(handed))
	out, gone := call(handed)
	out2, gone2 := call(handed)
	if !same(out, wantOut) || !same(gone, wantGone) {
		t.Fatalf("of %v: %v, gone %v, not %v, gone %v", l, out, gone, wantOut, wantGone)
	}
	if !same(out2, wantOut) || !same(gone2, wantGone) {
		t.Fatalf("of %v: the second answer is %v, gone %v", l, out2, gone2)
	}
	if !same(room(handed), before) {
		t.Fatalf("of %v: what was handed in is %v", before, room(handed))
	}
	apart(t, handed, out, gone, out2, gone2)
}

// moves wants what the chapter says of Up and Down.
func moves(t *testing.T, l [][]api.Cell, top, bottom, n, w int, a api.Attr) {
	t.Helper()
	out, gone := wantsUp(l, top, bottom, n, w, a)
	answers(t, l, out, gone, func(l [][]api.Cell) (out, gone [][]api.Cell) { return Up(l, top, bottom, n, w, a) })
	out, gone = wantsDown(l, top, bottom, n, w, a)
	answers(t, l, out, gone, func(l [][]api.Cell) (out, gone [][]api.Cell) { return Down(l, top, bottom, n, w, a) })
}

// changes wants what the chapter says of Insert and Delete.
func changes(t *testing.T, l [][]api.Cell, y, top, bottom, n, w int, a api.Attr) {
	t.Helper()
	answers(t, l, wantsInsert(l, y, top, bottom, n, w, a), nil, func(l [][]api.Cell) (out, gone [][]api.Cell) {
		return Insert(l, y, top, bottom, n, w, a), nil
	})
	answers(t, l, wantsDelete(l, y, top, bottom, n, w, a), nil, func(l [][]api.Cell) (out, gone [][]api.Cell) {
		return Delete(l, y, top, bottom, n, w, a), nil
	})
}

// said is what lines of one character say, one beside another; a fresh one of one blank is f.
func said(l [][]api.Cell) string {
	s := ""
	for _, x := range l {
		switch {
		case len(x) != 1:
			s += "!"
		case x[0] == (api.Cell{Rune: 32, Attr: other}):
			s += "f"
		default:
			s += string(x[0].Rune)
		}
	}
	return s
}

func abcde() [][]api.Cell { return lines("a", "b", "c", "d", "e") }

// The chapter's examples.
func TestExamples(t *testing.T) {
	for _, x := range []struct {
		down           bool
		top, bottom, n int
		out, gone      string
	}{
		{false, 1, 3, 1, "acdfe", "b"}, {false, 1, 3, 9, "afffe", "bcd"}, {true, 1, 3, 2, "affbe", "cd"}, {false, 3, 1, 1, "abcde", ""},
	} {
		call := Up
		if x.down {
			call = Down
		}
		out, gone := call(abcde(), x.top, x.bottom, x.n, 1, other)
		if said(out) != x.out || said(gone) != x.gone {
			t.Errorf("%v: %s, gone %s", x, said(out), said(gone))
		}
	}
	if s := said(Insert(abcde(), 2, 1, 3, 1, 1, other)); s != "abfce" {
		t.Errorf("Insert at 2: %s", s)
	}
	if s := said(Delete(abcde(), 2, 1, 3, 1, 1, other)); s != "abdfe" {
		t.Errorf("Delete at 2: %s", s)
	}
	if s := said(Insert(abcde(), 0, 1, 3, 1, 1, other)); s != "abcde" {
		t.Errorf("Insert at 0: %s", s)
	}
}

// P13.1: regions at the top, at the bottom, in the midst, of one line and of all lines, by as many lines as there are kinds of.
func TestRegions(t *testing.T) {
	for _, x := range []struct {
		top, bottom, n             int
		up, upGone, down, downGone string
	}{
		{0, 2, 1, "bcfde", "a", "fabde", "c"}, {0, 2, 2, "cffde", "ab", "ffade", "bc"}, {0, 2, 3, "fffde", "abc", "fffde", "abc"}, {0, 2, 4, "fffde", "abc", "fffde", "abc"},
		{2, 4, 1, "abdef", "c", "abfcd", "e"}, {2, 4, 2, "abeff", "cd", "abffc", "de"}, {2, 4, 3, "abfff", "cde", "abfff", "cde"},
		{1, 2, 1, "acfde", "b", "afbde", "c"}, {1, 2, math.MaxInt, "affde", "bc", "affde", "bc"},
		{0, 0, 1, "fbcde", "a", "fbcde", "a"}, {2, 2, 1, "abfde", "c", "abfde", "c"}, {2, 2, 2, "abfde", "c", "abfde", "c"}, {4, 4, 1, "abcdf", "e", "abcdf", "e"},
		{0, 4, 1, "bcdef", "a", "fabcd", "e"}, {0, 4, 4, "effff", "abcd", "ffffa", "bcde"}, {0, 4, 5, "fffff", "abcde", "fffff", "abcde"}, {0, 4, 6, "fffff", "abcde", "fffff", "abcde"},
		{1, 3, 0, "abcde", "", "abcde", ""}, {1, 3, -1, "abcde", "", "abcde", ""}, {1, 3, math.MinInt, "abcde", "", "abcde", ""},
	} {
		out, gone := Up(abcde(), x.top, x.bottom, x.n, 1, other)
		if said(out) != x.up || said(gone) != x.upGone {
			t.Errorf("Up of %v: %s, gone %s", x, said(out), said(gone))
		}
		out, gone = Down(abcde(), x.top, x.bottom, x.n, 1, other)
		if said(out) != x.down || said(gone) != x.downGone {
			t.Errorf("Down of %v: %s, gone %s", x, said(out), said(gone))
		}
	}
}

// P13.1, R4: all regions, and what is none, of few lines, by all numbers of lines.
func TestMoves(t *testing.T) {
	for h := range 6 {
		for _, top := range numbers(-2, h+1) {
			for _, bottom := range numbers(-2, h+1) {
				for _, n := range numbers(-2, h+2) {
					moves(t, several(h), top, bottom, n, 2, other)
				}
			}
		}
	}
}

// P13.1, P13.2: where there is no region nothing moves, and nothing is gone.
func TestNoRegion(t *testing.T) {
	for _, r := range [][2]int{{-1, 3}, {-1, -1}, {2, 1}, {4, 0}, {0, 5}, {4, 5}, {5, 5}, {5, 4}, {6, 6}, {0, math.MaxInt}, {math.MinInt, 4}, {math.MinInt, math.MinInt}, {math.MinInt, math.MaxInt}, {math.MaxInt, math.MinInt}, {math.MaxInt, math.MaxInt}} {
		for _, n := range numbers(-1, 6) {
			out, gone := Up(abcde(), r[0], r[1], n, 1, other)
			if said(out) != "abcde" || len(gone) > 0 {
				t.Errorf("Up of %v by %d: %s, gone %s", r, n, said(out), said(gone))
			}
			out, gone = Down(abcde(), r[0], r[1], n, 1, other)
			if said(out) != "abcde" || len(gone) > 0 {
				t.Errorf("Down of %v by %d: %s, gone %s", r, n, said(out), said(gone))
			}
			for _, y := range numbers(-1, 6) {
				if s := said(Insert(abcde(), y, r[0], r[1], n, 1, other)); s != "abcde" {
					t.Errorf("Insert at %d of %v by %d: %s", y, r, n, s)
				}
				if s := said(Delete(abcde(), y, r[0], r[1], n, 1, other)); s != "abcde" {
					t.Errorf("Delete at %d of %v by %d: %s", y, r, n, s)
				}
			}
		}
	}
}

// P13.1, P13.2, R1: of no lines there is no region; of lines that are nil or empty there is.
func TestNoLines(t *testing.T) {
	for _, l := range [][][]api.Cell{nil, {}, make([][]api.Cell, 0, 3)} {
		for _, top := range numbers(-1, 1) {
			for _, bottom := range numbers(-1, 1) {
				out, gone := Up(l, top, bottom, 1, 1, other)
				out2, gone2 := Down(l, top, bottom, 1, 1, other)
				if len(out)+len(gone)+len(out2)+len(gone2) > 0 {
					t.Errorf("of no lines: %v, gone %v, %v, gone %v", out, gone, out2, gone2)
				}
				if out, out2 := Insert(l, top, top, bottom, 1, 1, other), Delete(l, top, top, bottom, 1, 1, other); len(out)+len(out2) > 0 {
					t.Errorf("of no lines: %v, %v", out, out2)
				}
			}
		}
	}
	for _, l := range [][][]api.Cell{{nil}, {{}}, {nil, nil, {}}, {make([]api.Cell, 0, 5), nil}} {
		for _, n := range numbers(-1, 4) {
			moves(t, l, 0, len(l)-1, n, 2, other)
			moves(t, l, 0, len(l), n, 2, other)
			changes(t, l, 0, 0, len(l)-1, n, 2, other)
		}
	}
}

// P13.1, P13.2: fresh lines of all widths, with an Attr and without; of a width that may not be they have no cells.
func TestFreshLines(t *testing.T) {
	for _, a := range []api.Attr{plain, other, {Flags: 0xffff, Fg: api.Color{Kind: 9, N: math.MaxUint32}}} {
		for _, w := range append(extremes, -400, -1, 0, 1, 2, 80, 399, 400, 401, 402) {
			for _, n := range []int{1, 2, 9} {
				moves(t, several(5), 1, 3, n, w, a)
				changes(t, several(5), 2, 1, 3, n, w, a)
			}
			for _, h := range []int{1, 3} {
				var want [][]api.Cell
				for range h {
					want = append(want, wantsFreshLine(w, a))
				}
				answers(t, nil, want, nil, func([][]api.Cell) (out, gone [][]api.Cell) { return Fresh(h, w, a), nil })
			}
		}
	}
}

// P13.1: fresh lines in words: their number, their cells, and that no other line is one.
func TestFreshLinesInWords(t *testing.T) {
	for w, want := range map[int]int{math.MinInt: 0, -1: 0, 0: 0, 1: 1, 2: 2, 400: 400, 401: 0, math.MaxInt: 0} {
		out, _ := Up(abcde(), 0, 4, 2, w, other)
		if len(out) != 5 || len(out[3]) != want || len(out[4]) != want || len(out[2]) != 1 {
			t.Errorf("of width %d: %v", w, out)
			continue
		}
		for _, c := range out[4] {
			if c != (api.Cell{Rune: ' ', Attr: other}) {
				t.Errorf("of width %d there is the cell %v", w, c)
			}
		}
	}
}

// P13.1: lines move as they are, of whatever lengths and cells, also where a character is cut through.
func TestLinesAsTheyAre(t *testing.T) {
	long := line("<>", other)
	for len(long) < 1000 {
		long = append(long, long...)
	}
	strange := []api.Cell{{}, {Rune: -1, Wide: 255, Attr: api.Attr{Flags: 0xffff}}, {Rune: math.MaxInt32, Wide: 2}}
	l := append(lines("", "<>", "a<>b", ">", "<", "a<", ">a", "??", "____", "ab__"), long, strange, nil)
	last := len(l) - 1
	for _, n := range numbers(-1, len(l)+1) {
		moves(t, l, 0, last, n, 3, other)
		moves(t, l, 2, last-2, n, 3, other)
		changes(t, l, 3, 2, last, n, 3, other)
	}
}

// P13.2: y above, in, at both ends of and below the region.
func TestInsertDelete(t *testing.T) {
	for _, x := range []struct {
		y, n           int
		insert, delete string
	}{
		{-1, 1, "abcde", "abcde"}, {0, 1, "abcde", "abcde"}, {0, 9, "abcde", "abcde"},
		{1, 1, "afbce", "acdfe"}, {1, 2, "affbe", "adffe"}, {1, 3, "afffe", "afffe"}, {1, 4, "afffe", "afffe"},
		{2, 1, "abfce", "abdfe"}, {2, 2, "abffe", "abffe"}, {2, 9, "abffe", "abffe"}, {2, math.MaxInt, "abffe", "abffe"},
		{3, 1, "abcfe", "abcfe"}, {3, 2, "abcfe", "abcfe"},
		{4, 1, "abcde", "abcde"}, {5, 1, "abcde", "abcde"}, {math.MinInt, 1, "abcde", "abcde"}, {math.MaxInt, 1, "abcde", "abcde"},
		{2, 0, "abcde", "abcde"}, {2, -1, "abcde", "abcde"}, {2, math.MinInt, "abcde", "abcde"},
	} {
		if s := said(Insert(abcde(), x.y, 1, 3, x.n, 1, other)); s != x.insert {
			t.Errorf("Insert at %d by %d: %s, not %s", x.y, x.n, s, x.insert)
		}
		if s := said(Delete(abcde(), x.y, 1, 3, x.n, 1, other)); s != x.delete {
			t.Errorf("Delete at %d by %d: %s, not %s", x.y, x.n, s, x.delete)
		}
	}
}

// P13.2, R4: each y of all regions, and of what is none, of few lines.
func TestChanges(t *testing.T) {
	for h := range 5 {
		for _, top := range append(extremes[:1:1], -1, 0, 1, h-2, h-1, h, math.MaxInt) {
			for _, bottom := range append(extremes[:1:1], -1, 0, h-2, h-1, h, math.MaxInt) {
				for _, y := range numbers(-1, h+1) {
					for _, n := range []int{math.MinInt, -1, 0, 1, 2, h - 1, h, h + 1, math.MaxInt} {
						changes(t, several(h), y, top, bottom, n, 2, other)
					}
				}
			}
		}
	}
}

// P13.2: heights within what a page may have, and beyond it.
func TestFresh(t *testing.T) {
	for _, h := range append(extremes, -400, -1, 0, 401, 402, 500) {
		for _, w := range []int{-1, 0, 1, 400, 401} {
			if l := Fresh(h, w, other); len(l) > 0 {
				t.Errorf("Fresh(%d, %d) has %d lines", h, w, len(l))
			}
		}
	}
	for _, h := range []int{1, 2, 80, 399, 400} {
		for _, w := range append(extremes, -1, 0, 1, 7, 400, 401) {
			l := Fresh(h, w, other)
			if len(l) != h {
				t.Fatalf("Fresh(%d, %d) has %d lines", h, w, len(l))
			}
			want := wantsFreshLine(w, other)
			for y, x := range l {
				if !slices.Equal(x, want) {
					t.Fatalf("Fresh(%d, %d): line %d has %d cells: %v", h, w, y, len(x), x)
				}
			}
		}
	}
}

// R4: no line of Fresh shares memory with another one, nor with one of another answer.
func TestFreshIsNew(t *testing.T) {
	for _, h := range []int{1, 2, 50, 400} {
		apart(t, Fresh(h, 3, plain), Fresh(h, 3, plain), Fresh(h, 0, other))
	}
}

// P13.1: nothing bounds how many lines a region has, nor how many of them are fresh.
func TestManyLines(t *testing.T) {
	const h = 1200
	for _, n := range []int{1, 399, 400, 401, 799, h - 3, h - 2, h - 1, h, h + 1, math.MaxInt} {
		moves(t, many(h), 0, h-1, n, 1, other)
		moves(t, many(h), 1, h-2, n, 1, other)
		changes(t, many(h), 1, 0, h-1, n, 1, other)
	}
}

// P13.2: each line's text.
func TestText(t *testing.T) {
	for _, l := range [][][]api.Cell{nil, {}, make([][]api.Cell, 0, 2)} {
		if texts := Text(l); len(texts) > 0 {
			t.Errorf("Text of no lines: %q", texts)
		}
	}
	l := append(lines("a", "", "ab__", "__b_", "____", "<>", "a<>b", "<>__", "_", "é<><>"), nil, []api.Cell{{Rune: -1}, {Rune: 0xd800}, {Rune: 0}, {Rune: 32, Attr: other}})
	want := []string{"a", "", "ab", "  b", "", "中", "a中b", "中", "", "é中中", "", "\ufffd\ufffd\x00"}
	if texts := Text(l); !slices.Equal(texts, want) {
		t.Errorf("Text is %q, not %q", texts, want)
	}
	if texts := Text([][]api.Cell{nil, {}}); !slices.Equal(texts, []string{"", ""}) {
		t.Errorf("Text of lines without cells: %q", texts)
	}
	if texts := Text(many(1000)); len(texts) != 1000 || texts[999] != "\u43e7" {
		t.Errorf("Text of 1000 lines has %d", len(texts))
	}
}

// R4: Text changes nothing of what is handed in, and its answers share nothing.
func TestTextIsNew(t *testing.T) {
	l := roomy(several(6))
	before := deep(room(l))
	want := []string{"a", "bb", "", "中", "d", "eeq"}
	texts, again := Text(l), Text(l)
	if !same(room(l), before) {
		t.Errorf("what was handed in is %v", room(l))
	}
	for i := range texts[:cap(texts)] {
		texts[:cap(texts)][i] = "!"
	}
	apart(t, l)
	if !slices.Equal(again, want) {
		t.Errorf("the second answer is %q", again)
	}
}

// R4: lines that are handed in may share memory; those of the answers share none.
func TestHandedInShared(t *testing.T) {
	shared := line("abcdefgh", plain)
	l := [][]api.Cell{shared, shared[:4], shared[2:], shared, shared[4:4], shared[:2]}
	before := deep(l)
	for _, n := range numbers(-1, 7) {
		for _, r := range [][2]int{{0, 5}, {1, 4}, {2, 2}, {3, 2}, {-1, 9}} {
			wantOut, wantGone := wantsUp(before, r[0], r[1], n, 8, plain)
			up, upGone := Up(l, r[0], r[1], n, 8, plain)
			down, downGone := Down(l, r[0], r[1], n, 8, plain)
			inserted, deleted := Insert(l, r[0], r[0], r[1], n, 8, plain), Delete(l, r[0], r[0], r[1], n, 8, plain)
			if !same(up, wantOut) || !same(upGone, wantGone) {
				t.Fatalf("Up of %v by %d: %v, gone %v", r, n, up, upGone)
			}
			apart(t, up, upGone, down, downGone, inserted, deleted)
			if !same(l, before) {
				t.Fatalf("of %v by %d: what was handed in is %v", r, n, l)
			}
		}
	}
}

// regions calls f with each region of few lines, and with each number of steps from none to more than it has.
func regions(f func(l [][]api.Cell, top, bottom, n int)) {
	for h := 1; h <= 7; h++ {
		for top := range h {
			for bottom := top; bottom < h; bottom++ {
				for n := -1; n <= h+2; n++ {
					f(several(h), top, bottom, n)
				}
			}
		}
	}
}

// P13.3: there and back, the lines that were not pushed out and all others are where they were.
func TestThereAndBack(t *testing.T) {
	regions(func(l [][]api.Cell, top, bottom, n int) {
		m := min(max(n, 0), bottom-top+1)
		down, _ := Down(l, top, bottom, n, 4, other)
		back, fresh := Up(down, top, bottom, n, 4, other)
		if !same(back[:bottom+1-m], l[:bottom+1-m]) || !same(back[bottom+1:], l[bottom+1:]) || !same(fresh, Fresh(m, 4, other)) {
			t.Fatalf("Up behind Down of %d to %d by %d: %v, gone %v", top, bottom, n, back, fresh)
		}
		up, _ := Up(l, top, bottom, n, 4, other)
		back, fresh = Down(up, top, bottom, n, 4, other)
		if !same(back[:top], l[:top]) || !same(back[top+m:], l[top+m:]) || !same(fresh, Fresh(m, 4, other)) {
			t.Fatalf("Down behind Up of %d to %d by %d: %v, gone %v", top, bottom, n, back, fresh)
		}
	})
}

// P13.3: what is gone and what stays are, in order, what was there; all other lines stay.
func TestGoneAndStays(t *testing.T) {
	regions(func(l [][]api.Cell, top, bottom, n int) {
		m := min(max(n, 0), bottom-top+1)
		out, gone := Up(l, top, bottom, n, 4, other)
		there := slices.Concat(out[:top], gone, out[top:bottom+1-m], out[bottom+1:])
		if !same(there, l) || len(gone) != m || len(out) != len(l) {
			t.Fatalf("Up of %d to %d by %d: %v, gone %v", top, bottom, n, out, gone)
		}
		out, gone = Down(l, top, bottom, n, 4, other)
		there = slices.Concat(out[:top], out[top+m:bottom+1], gone, out[bottom+1:])
		if !same(there, l) || len(gone) != m || len(out) != len(l) {
			t.Fatalf("Down of %d to %d by %d: %v, gone %v", top, bottom, n, out, gone)
		}
	})
}

// chance answers numbers below n, always the same ones.
func chance(seed uint32) func(n int) int {
	return func(n int) int {
		seed = seed*1664525 + 1013904223
		return int(seed>>8) % n
	}
}

// P13.1, P13.2: whatever came before, each answer handed in to the next call.
func TestRowsOfCalls(t *testing.T) {
	next := chance(3)
	for range 200 {
		l := several(next(8))
		for range 20 {
			y, top, bottom, n, w := next(9)-1, next(8)-1, next(9)-1, next(7)-1, next(5)-1
			a := api.Attr{Flags: uint16(next(99))}
			want, got := l, l
			switch next(4) {
			case 0:
				want, _ = wantsUp(l, top, bottom, n, w, a)
				got, _ = Up(l, top, bottom, n, w, a)
			case 1:
				want, _ = wantsDown(l, top, bottom, n, w, a)
				got, _ = Down(l, top, bottom, n, w, a)
			case 2:
				want, got = wantsInsert(l, y, top, bottom, n, w, a), Insert(l, y, top, bottom, n, w, a)
			default:
				want, got = wantsDelete(l, y, top, bottom, n, w, a), Delete(l, y, top, bottom, n, w, a)
			}
			if !same(got, want) {
				t.Fatalf("of %v with y %d, %d to %d, by %d: %v, not %v", l, y, top, bottom, n, got, want)
			}
			l = got
		}
	}
}
