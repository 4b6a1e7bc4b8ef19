package reflow

import (
	"math"
	"slices"
	"strconv"
	"strings"
	"testing"

	"jalousie/api"
	"jalousie/row"
)

// other is an attribute that no cell of these tests has but those that are said to.
var other = api.Attr{Flags: 0x83, Fg: api.Color{Kind: 2, N: 0xabcdef}, Bg: api.Color{Kind: 1, N: 77}}

const wide = '中'

var extremes = []int{math.MinInt, math.MinInt + 1, -1 << 32, 1<<32 + 1, math.MaxInt - 1, math.MaxInt}

// numbers are those from a to b, and the greatest and the least ones.
func numbers(a, b int) []int {
	l := slices.Clone(extremes)
	for i := a; i <= b; i++ {
		l = append(l, i)
	}
	return l
}

// chance is a row of numbers that looks like chance and is always the same.
func chance(seed uint64) func(n int) int {
	return func(n int) int {
		seed = seed*6364136223846793005 + 1442695040888963407
		return int(seed>>33) % n
	}
}

// cell is the one that a sign says: _ is a plain blank, < and > the halves of a wide character; * . : , are blanks by their Rune that are not plain ones, by each field of an Attr; ; { } are such by another Wide; 0 has no Rune; others stand for themselves.
func cell(sign rune) api.Cell {
	switch sign {
	case '_':
		return api.Cell{Rune: ' '}
	case '<':
		return api.Cell{Rune: wide, Wide: 1}
	case '>':
		return api.Cell{Rune: wide, Wide: 2}
	case '*':
		return api.Cell{Rune: ' ', Attr: other}
	case '.':
		return api.Cell{Rune: ' ', Attr: api.Attr{Flags: 1}}
	case ':':
		return api.Cell{Rune: ' ', Attr: api.Attr{Fg: api.Color{N: 1}}}
	case ',':
		return api.Cell{Rune: ' ', Attr: api.Attr{Bg: api.Color{Kind: 1}}}
	case '{':
		return api.Cell{Rune: ' ', Wide: 1}
	case '}':
		return api.Cell{Rune: ' ', Wide: 2}
	case ';':
		return api.Cell{Rune: ' ', Wide: 3}
	case '0':
		return api.Cell{}
	}
	return api.Cell{Rune: sign}
}

const signs = "_<>*.:,{};0abcdefghijklmnopqrstuvwxyz"

func sign(c api.Cell) string {
	for _, s := range signs {
		if cell(s) == c {
			return string(s)
		}
	}
	return "!"
}

func cellsOf(text string) []api.Cell {
	l := []api.Cell{}
	for _, s := range text {
		l = append(l, cell(s))
	}
	return l
}

// lines are those that texts say: behind a line's cells + says that it is Joined, - that it is Joined and Short, ~ that it is Short alone.
func lines(texts ...string) []Line {
	l := []Line{}
	for _, text := range texts {
		body := strings.TrimRight(text, "+-~")
		end := text[len(body):]
		l = append(l, Line{cellsOf(body), end == "+" || end == "-", end == "-" || end == "~"})
	}
	return l
}

// split is the lines that one text says, one beside another.
func split(text string) []Line {
	return lines(strings.Split(text, "|")...)
}

func said(l []Line) string {
	var texts []string
	for _, x := range l {
		text := spelled(x.Cells)
		switch {
		case x.Joined && x.Short:
			text += "-"
		case x.Joined:
			text += "+"
		case x.Short:
			text += "~"
		}
		texts = append(texts, text)
	}
	return strings.Join(texts, "|")
}

func spelled(cells []api.Cell) string {
	text := ""
	for _, c := range cells {
		text += sign(c)
	}
	return text
}

func deep(l []Line) []Line {
	m := slices.Clone(l)
	for i := range m {
		m[i].Cells = slices.Clone(m[i].Cells)
	}
	return m
}

func same(a, b []Line) bool {
	return slices.EqualFunc(a, b, func(x, y Line) bool {
		return x.Joined == y.Joined && x.Short == y.Short && slices.Equal(x.Cells, y.Cells)
	})
}

func sameCells(a, b [][]api.Cell) bool {
	return slices.EqualFunc(a, b, slices.Equal[[]api.Cell])
}

// The chapter's words, cell by cell.

func wantsCounts(l Line) int {
	n := len(l.Cells)
	if l.Joined && l.Short && n > 0 {
		return n - 1
	}
	return n
}

// wantsParagraphs are the numbers of each paragraph's lines.
func wantsParagraphs(l []Line) [][]int {
	var all [][]int
	for i := range l {
		if i > 0 && l[i-1].Joined {
			all[len(all)-1] = append(all[len(all)-1], i)
		} else {
			all = append(all, []int{i})
		}
	}
	return all
}

func wantsCells(l []Line, p []int) []api.Cell {
	var cells []api.Cell
	end := 0 // behind the last one that is no plain blank
	for _, i := range p {
		for _, c := range l[i].Cells[:wantsCounts(l[i])] {
			cells = append(cells, c)
			if c.Rune != 32 || c.Wide != 0 || c.Attr.Flags != 0 || c.Attr.Fg.Kind != 0 || c.Attr.Fg.N != 0 || c.Attr.Bg.Kind != 0 || c.Attr.Bg.N != 0 {
				end = len(cells)
			}
		}
	}
	return cells[:end]
}

// wantsAt is a paragraph at a width, put together cell by cell, and at which column of which line each cell stands.
func wantsAt(cells []api.Cell, w int) (lines []Line, places [][2]int) {
	var line Line
	for _, c := range cells {
		left := w - len(line.Cells)
		if left == 1 && c.Wide == 1 {
			line.Cells = append(line.Cells, api.Cell{Rune: 32})
			line.Short = true
			left = 0
		}
		if left == 0 {
			line.Joined = true
			lines = append(lines, line)
			line = Line{}
		}
		places = append(places, [2]int{len(line.Cells), len(lines)})
		line.Cells = append(line.Cells, c)
	}
	for len(line.Cells) < w {
		line.Cells = append(line.Cells, api.Cell{Rune: 32})
	}
	return append(lines, line), places
}

func wantsLines(l []Line, w int) []Line {
	var all []Line
	for _, p := range wantsParagraphs(l) {
		if w >= 2 && w <= 400 {
			at, _ := wantsAt(wantsCells(l, p), w)
			all = append(all, at...)
		}
	}
	return all
}

func wantsPlace(l []Line, w, x, y int) (int, int) {
	if w < 2 || w > 400 || x < 0 {
		return 0, 0
	}
	above := 0
	for _, p := range wantsParagraphs(l) {
		cells := wantsCells(l, p)
		at, places := wantsAt(cells, w)
		if !slices.Contains(p, y) {
			above += len(at)
			continue
		}
		columns := uint64(x) // twice the greatest int goes into it
		if l[y].Joined && y < len(l)-1 {
			columns = uint64(min(x, wantsCounts(l[y])))
		}
		for _, i := range p {
			if i < y {
				columns += uint64(wantsCounts(l[i]))
			}
		}
		if columns < uint64(len(cells)) {
			return places[columns][0], above + places[columns][1]
		}
		column := columns - uint64(len(cells))
		if len(cells) > 0 {
			column += uint64(places[len(cells)-1][0]) + 1
		}
		return int(min(column, uint64(w-1))), above + len(at) - 1
	}
	return 0, 0
}

// holds wants what the chapter says of Lines, Paragraphs and Text.
func holds(t *testing.T, l []Line, w int) {
	t.Helper()
	if got, want := Lines(l, w), wantsLines(l, w); !same(got, want) {
		t.Fatalf("Lines(%s, %d): %s, not %s", said(l), w, said(got), said(want))
	}
	var cells [][]api.Cell
	var texts []string
	for _, p := range wantsParagraphs(l) {
		cells = append(cells, wantsCells(l, p))
		texts = append(texts, row.Text(wantsCells(l, p)))
	}
	if got := Paragraphs(l); !sameCells(got, cells) {
		t.Fatalf("Paragraphs(%s): %v, not %v", said(l), got, cells)
	}
	if got := Text(l); !slices.Equal(got, texts) {
		t.Fatalf("Text(%s): %q, not %q", said(l), got, texts)
	}
}

// places wants what the chapter says of Place.
func places(t *testing.T, l []Line, w, x, y int) {
	t.Helper()
	gotX, gotY := Place(l, w, x, y)
	if wantX, wantY := wantsPlace(l, w, x, y); gotX != wantX || gotY != wantY {
		t.Fatalf("Place(%s, %d, %d, %d): %d %d, not %d %d", said(l), w, x, y, gotX, gotY, wantX, wantY)
	}
}

// allPlaces wants it of all places of l, those beside them and the extreme ones.
func allPlaces(t *testing.T, l []Line, w int) {
	t.Helper()
	most := 0
	for _, x := range l {
		most = max(most, len(x.Cells))
	}
	for y := -1; y <= len(l); y++ {
		for _, x := range append(numbers(-1, most+2), most+w, most+w+1, 10*(most+w)) {
			places(t, l, w, x, y)
		}
	}
	for _, y := range extremes {
		for _, x := range numbers(-1, 1) {
			places(t, l, w, x, y)
		}
	}
}

// whatFollows wants what the chapter promises of the lines of l at the width w (P15.3).
func whatFollows(t *testing.T, l []Line, w int) {
	t.Helper()
	at := Lines(l, w)
	if got, want := Paragraphs(at), Paragraphs(l); !sameCells(got, want) {
		t.Fatalf("of %s at %d the paragraphs are %v, not %v", said(l), w, got, want)
	}
	for i, x := range at {
		if len(x.Cells) != w {
			t.Fatalf("of %s at %d line %d has %d cells", said(l), w, i, len(x.Cells))
		}
		if x.Joined && i == len(at)-1 {
			t.Fatalf("of %s at %d the last line is joined", said(l), w)
		}
		if x.Short && (!x.Joined || at[i+1].Cells[0].Wide != 1 || x.Cells[w-1] != api.Cell{Rune: 32}) {
			t.Fatalf("of %s at %d line %d is short: %s", said(l), w, i, said(at))
		}
	}
	for _, v := range []int{2, 3, 5, 400} {
		if got, want := Lines(at, v), Lines(l, v); !same(got, want) {
			t.Fatalf("of %s at %d, then at %d: %s, not %s", said(l), w, v, said(got), said(want))
		}
	}
}

// wellMade says whether l is whole, and each Short line of l has a plain blank at its end.
func wellMade(l []Line) bool {
	return !slices.ContainsFunc(l, func(x Line) bool {
		return !row.Whole(x.Cells) || x.Short && len(x.Cells) > 0 && x.Cells[len(x.Cells)-1] != api.Cell{Rune: 32}
	})
}

func isWhole(t *testing.T, l []Line, w int) {
	t.Helper()
	for _, x := range Lines(l, w) {
		if !row.Whole(x.Cells) {
			t.Fatalf("of %s at %d there is %s", said(l), w, spelled(x.Cells))
		}
	}
}

// all wants everything of l at all these widths.
func all(t *testing.T, l []Line, widths ...int) {
	t.Helper()
	for _, w := range widths {
		holds(t, l, w)
		allPlaces(t, l, w)
		if w < 2 || w > 400 {
			continue
		}
		whatFollows(t, l, w)
		if wellMade(l) {
			isWhole(t, l, w)
		}
	}
}

// The chapter's examples.
func TestExamples(t *testing.T) {
	l := split("abcd+|ef|gh")
	if s := said(Lines(l, 3)); s != "abc+|def|gh_" {
		t.Errorf("Lines: %s", s)
	}
	for _, p := range [][4]int{{1, 1, 2, 1}, {0, 2, 0, 2}, {9, 2, 2, 2}, {9, 0, 1, 1}} {
		if x, y := Place(l, 3, p[0], p[1]); x != p[2] || y != p[3] {
			t.Errorf("Place of %d %d: %d %d", p[0], p[1], x, y)
		}
	}
	if s := said(Lines(split("ab<>c"), 3)); s != "ab_-|<>c" {
		t.Errorf("Lines: %s", s)
	}
}

// P15.1, in words: lines at a width.
func TestLines(t *testing.T) {
	for _, x := range []struct {
		lines string
		w     int
		want  string
	}{
		{"", 2, "__"}, {"", 5, "_____"}, {"+", 3, "___"}, {"-", 3, "___"}, {"~", 3, "___"}, {"|", 2, "__|__"}, {"+|", 2, "__"}, {"-|+|a", 2, "a_"}, {"-|ab", 2, "ab"},
		{"a", 2, "a_"}, {"ab", 2, "ab"}, {"abc", 2, "ab+|c_"}, {"abcd", 2, "ab+|cd"}, {"abcde", 2, "ab+|cd+|e_"}, {"abcd", 3, "abc+|d__"}, {"abcd", 4, "abcd"}, {"abcd", 5, "abcd_"},
		{"ab|cd", 4, "ab__|cd__"}, {"ab+|cd", 4, "abcd"}, {"ab+|cd", 3, "abc+|d__"}, {"ab+|cd+", 4, "abcd"}, {"a+|b+|c+|d", 2, "ab+|cd"}, {"a+|b|c+|d", 2, "ab|cd"}, {"a+|+|b", 2, "ab"},
		{"ab-|cd", 3, "acd"}, {"ab~|cd", 3, "ab_|cd_"}, {"ab-", 3, "a__"}, {"ab~", 3, "ab_"}, {"a-|b-|c", 2, "c_"}, {"ab_-|cd", 2, "ab+|cd"},
		{"ab__", 2, "ab"}, {"ab__+|___", 2, "ab"}, {"ab__+|___+|c", 9, "ab_____c_"}, {"ab__+|___|c", 4, "ab__|c___"}, {"a_b", 2, "a_+|b_"}, {"__a", 2, "__+|a_"}, {"____", 2, "__"}, {"__+|__|__", 2, "__|__"}, {"__|__", 3, "___|___"},
		{"a_*", 2, "a_+|*_"}, {"a_.", 2, "a_+|._"}, {"a_:", 2, "a_+|:_"}, {"a_,", 2, "a_+|,_"}, {"a_;", 2, "a_+|;_"}, {"a_}_", 2, "a_+|}_"}, {"a_{_", 2, "a_+|{_"}, {"a_0_", 2, "a_+|0_"}, {"**", 3, "**_"}, {"*_*_", 3, "*_*"},
		{"<>", 2, "<>"}, {"<>", 3, "<>_"}, {"a<>", 2, "a_-|<>"}, {"a<>", 3, "a<>"}, {"a<>b", 3, "a<>+|b__"}, {"ab<>", 3, "ab_-|<>_"}, {"ab<>", 2, "ab+|<>"}, {"<><>", 2, "<>+|<>"}, {"<><>", 3, "<>_-|<>_"}, {"<><>", 4, "<><>"}, {"<><><>", 5, "<><>_-|<>___"}, {"a<>b<>c", 2, "a_-|<>+|b_-|<>+|c_"}, {"a<>|b", 2, "a_-|<>|b_"},
		{"_<>", 2, "__-|<>"}, {"a_<>", 3, "a__-|<>_"}, {"*<>", 2, "*_-|<>"},
		{"<", 2, "<_"}, {">", 2, ">_"}, {"a<", 2, "a_-|<_"}, {"a>", 2, "a>"}, {"<<<", 2, "<_-|<_-|<_"}, {">>>", 2, ">>+|>_"}, {"a+|>b", 2, "a>+|b_"}, {"a<+|>b", 3, "a<>+|b__"}, {"a<|>b", 3, "a<_|>b_"}, {"ab{", 3, "ab_-|{__"}, {"ab}", 3, "ab}"}, {"ab;", 3, "ab;"}, {"a<>-|b", 3, "a<b"},
	} {
		if s := said(Lines(split(x.lines), x.w)); s != x.want {
			t.Errorf("Lines(%s, %d): %s, not %s", x.lines, x.w, s, x.want)
		}
		all(t, split(x.lines), 2, 3, 4, 5, 6, 399, 400)
	}
}

// P15.1, in words: paragraphs and texts.
func TestParagraphs(t *testing.T) {
	for _, x := range []struct{ lines, cells, text string }{
		{"", "", ""}, {"+", "", ""}, {"|", "|", "|"}, {"___", "", ""}, {"ab", "ab", "ab"}, {"ab|cd", "ab|cd", "ab|cd"}, {"ab+|cd|e", "abcd|e", "abcd|e"}, {"ab+|cd+", "abcd", "abcd"},
		{"ab-|cd", "acd", "acd"}, {"ab~|cd", "ab|cd", "ab|cd"}, {"ab-", "a", "a"}, {"-|ab", "ab", "ab"}, {"a_+|__", "a", "a"}, {"a_+|__+|b_", "a___b", "a   b"}, {"_a_", "_a", " a"},
		{"a*", "a*", "a"}, {"a.:,", "a.:,", "a"}, {"a<>b", "a<>b", "a中b"}, {"a;", "a;", "a_"}, {"a_;_", "a_;", "a__"}, {"a<", "a<", "a中"}, {"a>", "a>", "a"}, {"a0_", "a0", "a\x00"},
	} {
		var got []string
		for _, c := range Paragraphs(split(x.lines)) {
			got = append(got, spelled(c))
		}
		if s := strings.Join(got, "|"); s != x.cells {
			t.Errorf("Paragraphs(%s): %s, not %s", x.lines, s, x.cells)
		}
		if s := strings.Join(Text(split(x.lines)), "|"); s != strings.ReplaceAll(x.text, "_", " ") {
			t.Errorf("Text(%s): %q, not %q", x.lines, s, x.text)
		}
	}
}

// P15.2, in words.
func TestPlace(t *testing.T) {
	for _, p := range []struct {
		lines                string
		w, x, y, atX, atLine int
	}{
		{"abcd", 2, 0, 0, 0, 0}, {"abcd", 2, 1, 0, 1, 0}, {"abcd", 2, 2, 0, 0, 1}, {"abcd", 2, 3, 0, 1, 1}, {"abcd", 2, 4, 0, 1, 1}, {"abcd", 2, math.MaxInt, 0, 1, 1},
		{"abc", 2, 3, 0, 1, 1}, {"abc", 4, 3, 0, 3, 0}, {"abc", 5, 3, 0, 3, 0}, {"abc", 5, 4, 0, 4, 0}, {"abc", 5, 5, 0, 4, 0}, {"abc", 400, 398, 0, 398, 0}, {"abc", 400, 399, 0, 399, 0}, {"abc", 400, 400, 0, 399, 0},
		{"ab+|cd", 3, 0, 1, 2, 0}, {"ab+|cd", 3, 1, 1, 0, 1}, {"ab+|cd", 3, 2, 0, 2, 0}, {"ab+|cd", 3, 3, 0, 2, 0}, {"ab+|cd", 3, math.MaxInt, 0, 2, 0}, {"ab+|cd", 3, 2, 1, 1, 1}, {"ab+|cd", 3, 3, 1, 2, 1}, {"ab+|cd", 3, math.MaxInt, 1, 2, 1},
		{"ab+|cd+", 5, 2, 1, 4, 0}, {"ab+|cd+", 8, 4, 1, 6, 0}, {"ab+|cd|e+", 8, 4, 2, 4, 1},
		{"ab_-|<>", 9, 2, 0, 2, 0}, {"ab_-|<>", 9, 5, 0, 2, 0}, {"ab_-|<>", 9, 0, 1, 2, 0}, {"ab_-|<>", 9, 2, 1, 4, 0}, {"ab_-", 9, 4, 0, 4, 0}, {"ab_~|c", 9, 2, 0, 2, 0}, {"ab_~|c", 9, 7, 0, 7, 0},
		{"ab<>c", 3, 2, 0, 0, 1}, {"ab<>c", 3, 3, 0, 1, 1}, {"ab<>c", 3, 4, 0, 2, 1}, {"ab<>c", 3, 5, 0, 2, 1}, {"ab<>c", 3, 1, 0, 1, 0},
		{"a____", 2, 1, 0, 1, 0}, {"a____", 2, 2, 0, 1, 0}, {"a____", 5, 3, 0, 3, 0}, {"a_b__", 5, 1, 0, 1, 0}, {"___", 5, 2, 0, 2, 0}, {"___", 2, 2, 0, 1, 0}, {"__+|__", 5, 1, 1, 3, 0}, {"__+|__", 3, 1, 1, 2, 0},
		{"", 5, 0, 0, 0, 0}, {"", 5, 3, 0, 3, 0}, {"|", 5, 3, 1, 3, 1}, {"-|", 5, 3, 0, 0, 0}, {"+|", 5, 3, 0, 0, 0}, {"+|", 5, 3, 1, 3, 0},
		{"abcd|ef|gh", 2, 0, 2, 0, 3}, {"abcd|ef|gh", 2, 1, 1, 1, 2}, {"abcd+|ef|gh", 400, 1, 2, 1, 1},
		{"abcd", 1, 2, 0, 0, 0}, {"abcd", 0, 2, 0, 0, 0}, {"abcd", -2, 2, 0, 0, 0}, {"abcd", 401, 2, 0, 0, 0}, {"abcd", math.MaxInt, 2, 0, 0, 0}, {"abcd", math.MinInt, 2, 0, 0, 0},
		{"abcd|e", 2, 1, -1, 0, 0}, {"abcd|e", 2, 1, 2, 0, 0}, {"abcd|e", 2, 1, math.MaxInt, 0, 0}, {"abcd|e", 2, 1, math.MinInt, 0, 0},
		{"abcd|e", 2, -1, 1, 0, 0}, {"abcd|e", 2, math.MinInt, 1, 0, 0},
	} {
		if x, y := Place(split(p.lines), p.w, p.x, p.y); x != p.atX || y != p.atLine {
			t.Errorf("Place(%s, %d, %d, %d): %d %d, not %d %d", p.lines, p.w, p.x, p.y, x, y, p.atX, p.atLine)
		}
	}
}

// P15.1, P15.2: what is a width, and what is none.
func TestWidths(t *testing.T) {
	long := strings.Repeat("abcdefg", 100)
	for _, l := range [][]Line{split("ab+|cd|e"), lines(long), lines(long+"+", long), lines(long[:399], long[:400], long[:401]), lines(long[:399] + "<>")} {
		for _, w := range numbers(-1, 1) {
			x, y := Place(l, w, 1, 0)
			if got := Lines(l, w); len(got) > 0 || x != 0 || y != 0 {
				t.Errorf("of the width %d: %s, %d %d", w, said(got), x, y)
			}
		}
		for _, w := range []int{401, 402, -399, -400} {
			x, y := Place(l, w, 1, 0)
			if got := Lines(l, w); len(got) > 0 || x != 0 || y != 0 {
				t.Errorf("of the width %d: %s, %d %d", w, said(got), x, y)
			}
		}
		for _, w := range []int{2, 3, 80, 399, 400} {
			if got := Lines(l, w); len(got) == 0 || len(got[0].Cells) != w {
				t.Errorf("of the width %d: %s", w, said(got))
			}
		}
		all(t, l, 399, 400, 401)
		holds(t, l, 2)
		holds(t, l, 3)
		whatFollows(t, l, 2)
	}
}

// P15.1, P15.2, R1, R5: no lines, and lines whose cells are nil or empty.
func TestNoLines(t *testing.T) {
	for _, l := range [][]Line{nil, {}, make([]Line, 0, 3)} {
		for _, w := range append(numbers(-1, 3), 400, 401) {
			if got := Lines(l, w); len(got) > 0 {
				t.Errorf("of no lines at %d: %s", w, said(got))
			}
			for _, y := range numbers(-1, 1) {
				for _, x := range numbers(-1, 1) {
					if x, y := Place(l, w, x, y); x != 0 || y != 0 {
						t.Errorf("of no lines: %d %d", x, y)
					}
				}
			}
		}
		if len(Paragraphs(l)) > 0 || len(Text(l)) > 0 {
			t.Errorf("of no lines: %v, %q", Paragraphs(l), Text(l))
		}
	}
	for _, cells := range [][]api.Cell{nil, {}, make([]api.Cell, 0, 4)} {
		for flags := range 4 {
			x := Line{cells, flags&1 > 0, flags&2 > 0}
			all(t, []Line{x}, 0, 1, 2, 3, 400, 401)
			all(t, []Line{x, x}, 2, 3)
			all(t, []Line{x, x, {Cells: cellsOf("ab")}, x}, 2, 3)
			all(t, []Line{{Cells: cellsOf("ab"), Joined: true}, x, x}, 2, 3)
		}
	}
}

// P15.1, P15.2, P15.3: all lists of two lines of few cells.
func TestSmallLines(t *testing.T) {
	var some []string
	for _, a := range "a_<>" {
		for _, b := range "_<>" {
			some = append(some, string(a)+string(b))
		}
	}
	some = append(some, "", "a", "_", "<", "*", "a<>", "<><", "a__", "a_*")
	for _, a := range some {
		for _, b := range some {
			for _, end := range []string{"", "+", "-", "~"} {
				all(t, lines(a+end, b), 2, 3)
				all(t, lines(b, a+end), 2)
			}
		}
	}
}

// P15.1, P15.2, P15.3: longer lists, of cells as they come.
func TestLongerLines(t *testing.T) {
	next := chance(15)
	for _, alphabet := range []string{"ab_", "a<>_", "<>", "_*.", signs} {
		for range 80 {
			l := make([]Line, next(6))
			for i := range l {
				for range next(9) {
					l[i].Cells = append(l[i].Cells, cell(rune(alphabet[next(len(alphabet))])))
				}
				l[i].Joined, l[i].Short = next(3) > 0, next(3) == 0
			}
			all(t, l, 2, 3, 4, 7)
		}
	}
}

// P15.3: what is whole, with wide characters wherever they may stand, stays whole.
func TestWhole(t *testing.T) {
	pieces := []string{"a", "<>", "_", "b", "<>", "*"}
	next := chance(3)
	for range 150 {
		text := ""
		for range next(20) {
			text += pieces[next(len(pieces))]
		}
		first := Lines(lines(text), 2+next(6))
		if !wellMade(first) {
			t.Fatalf("of %s: %s", text, said(first))
		}
		all(t, first, 2, 3, 4, 5, 7)
	}
	for n := range 12 {
		for _, text := range []string{strings.Repeat("<>", n), "a" + strings.Repeat("<>", n), strings.Repeat("<>", n) + "a", strings.Repeat("<>", n) + "a" + strings.Repeat("<>", n)} {
			for w := 2; w <= 13; w++ {
				all(t, lines(text), w)
			}
		}
	}
	for _, text := range []string{strings.Repeat("<>", 210), "a" + strings.Repeat("<>", 210)} {
		for w := 2; w <= 400; w++ {
			holds(t, lines(text), w)
			isWhole(t, lines(text), w)
			places(t, lines(text), w, w-1, 0)
			places(t, lines(text), w, w, 0)
		}
	}
}

// P15.2: each cell stands where Place says that it does.
func TestPlaceOfCells(t *testing.T) {
	next := chance(7)
	for range 300 {
		l, marks := make([]Line, 1+next(5)), 0
		for i := range l {
			for range next(9) {
				marks++
				l[i].Cells = append(l[i].Cells, api.Cell{Rune: 'x', Wide: uint8(next(3)), Attr: api.Attr{Fg: api.Color{N: uint32(marks)}}})
			}
			l[i].Joined, l[i].Short = next(3) > 0, next(3) == 0
		}
		for w := 2; w < 9; w++ {
			at := Lines(l, w)
			for y := range l {
				for x, c := range l[y].Cells[:wantsCounts(l[y])] {
					atX, atY := Place(l, w, x, y)
					if at[atY].Cells[atX] != c {
						t.Fatalf("Place of %d %d in %v at %d: %d %d", x, y, l, w, atX, atY)
					}
				}
			}
		}
	}
}

// roomy is l with spare room behind it and behind each line's cells.
func roomy(l []Line) []Line {
	m := make([]Line, 0, len(l)+2)
	for _, x := range append(deep(l), lines("xy", "z+")...) {
		m = append(m, Line{append(make([]api.Cell, 0, len(x.Cells)+3), x.Cells...), x.Joined, x.Short})
	}
	return m[:len(l)]
}

// room is all of l, the spare room of the list and of its lines too.
func room(l []Line) []Line {
	l = slices.Clone(l[:cap(l)])
	for i := range l {
		l[i].Cells = l[i].Cells[:cap(l[i].Cells)]
	}
	return l
}

// apart wants none of these lists to share memory with another one: each is written over in turn, its spare room too, and none may lose what was written.
func apart[T comparable](t *testing.T, what string, lists [][]T, mark func(i int) T) {
	t.Helper()
	for i, l := range lists {
		for j := range l[:cap(l)] {
			l[:cap(l)][j] = mark(i)
		}
	}
	for i, l := range lists {
		if slices.ContainsFunc(l[:cap(l)], func(x T) bool { return x != mark(i) }) {
			t.Fatalf("%s: list %d shares memory with one behind it", what, i)
		}
	}
}

// R3, R4: what is answered is new memory, the same each time; what is handed in stays as it is.
func TestMemory(t *testing.T) {
	for _, text := range []string{"", "a", "ab", "abcd+|ef|gh", "ab<>c", "a_+|b_|__", "|+|", "abc-|<>|a~|b+", "****", "abcdefghijklmnop"} {
		for _, w := range []int{1, 2, 3, 4, 400} {
			l := roomy(split(text))
			before := deep(room(l))
			answers := [][]Line{l, Lines(l, w), Lines(l, w)}
			paragraphs := [][][]api.Cell{Paragraphs(l), Paragraphs(l)}
			texts := [][]string{Text(l), Text(l)}
			x, y := Place(l, w, 1, 0)
			if x2, y2 := Place(l, w, 1, 0); x != x2 || y != y2 {
				t.Fatalf("Place of %s: %d %d, then %d %d", text, x, y, x2, y2)
			}
			if !same(answers[1], answers[2]) || !sameCells(paragraphs[0], paragraphs[1]) || !slices.Equal(texts[0], texts[1]) {
				t.Fatalf("of %s the second answer is another one", text)
			}
			if !same(room(l), before) {
				t.Fatalf("of %s what was handed in is %s", text, said(room(l)))
			}
			var cells [][]api.Cell
			for _, a := range answers {
				for _, x := range room(a) {
					cells = append(cells, x.Cells)
				}
			}
			for _, p := range paragraphs {
				cells = append(cells, p[:cap(p)]...)
			}
			apart(t, text, cells, func(i int) api.Cell { return api.Cell{Rune: rune(i), Wide: 9} })
			apart(t, text, texts, strconv.Itoa)
			listsApart(t, text, answers, paragraphs)
		}
	}
}

// listsApart wants the lists themselves, of lines and of paragraphs, to share no memory.
func listsApart(t *testing.T, what string, answers [][]Line, paragraphs [][][]api.Cell) {
	t.Helper()
	for i, l := range answers {
		for j := range l[:cap(l)] {
			l[:cap(l)][j] = Line{Cells: make([]api.Cell, i+1)}
		}
	}
	for i, p := range paragraphs {
		for j := range p[:cap(p)] {
			p[:cap(p)][j] = make([]api.Cell, i+1)
		}
	}
	for i, l := range answers {
		if slices.ContainsFunc(l[:cap(l)], func(x Line) bool { return len(x.Cells) != i+1 }) {
			t.Fatalf("%s: list %d shares memory with one behind it", what, i)
		}
	}
	for i, p := range paragraphs {
		if slices.ContainsFunc(p[:cap(p)], func(x []api.Cell) bool { return len(x) != i+1 }) {
			t.Fatalf("%s: list %d of paragraphs shares memory with one behind it", what, i)
		}
	}
}
