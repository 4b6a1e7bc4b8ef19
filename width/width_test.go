package width

import (
	"math"
	"slices"
	"testing"
)

// span is characters in a row, both ends among them.
type span struct{ first, last rune }

// none and two are the chapter's lists.
var (
	none = []span{{0x0000, 0x001f}, {0x007f, 0x009f}, {0x0300, 0x036f}, {0x0483, 0x0489}, {0x0591, 0x05bd}, {0x0610, 0x061a}, {0x064b, 0x065f}, {0x200b, 0x200f}, {0x20d0, 0x20ff}, {0xfe00, 0xfe0f}, {0xfe20, 0xfe2f}, {0xe0100, 0xe01ef}}
	two  = []span{{0x1100, 0x115f}, {0x2e80, 0x303e}, {0x3041, 0x33ff}, {0x3400, 0x4dbf}, {0x4e00, 0x9fff}, {0xa000, 0xa4cf}, {0xac00, 0xd7a3}, {0xf900, 0xfaff}, {0xfe30, 0xfe6f}, {0xff00, 0xff60}, {0xffe0, 0xffe6}, {0x1f300, 0x1f64f}, {0x1f900, 0x1f9ff}, {0x20000, 0x3fffd}}
)

func (s span) has(r rune) bool { return s.first <= r && r <= s.last }

func anyHas(l []span, r rune) bool {
	return slices.ContainsFunc(l, func(s span) bool { return s.has(r) })
}

// wants is how many columns r has, by the chapter's lists.
func wants(r rune) int {
	switch {
	case anyHas(none, r):
		return 0
	case anyHas(two, r):
		return 2
	}
	return 1
}

func wantsText(l []rune) int {
	n := 0
	for _, r := range l {
		n += wants(r)
	}
	return n
}

// wantsCut is the longest beginning of l that has at most so many columns: each one is looked at, the longest first.
func wantsCut(l []rune, columns int) (n, rest int) {
	if columns < 0 {
		return 0, 0
	}
	for n = len(l); wantsText(l[:n]) > columns; n-- {
	}
	return n, columns - wantsText(l[:n])
}

// of wants so many columns of each character.
func of(t *testing.T, columns int, l ...rune) {
	t.Helper()
	for _, r := range l {
		if got := Of(r); got != columns {
			t.Errorf("Of(%x): %d, not %d", r, got, columns)
		}
	}
}

// text wants so many columns of a text.
func text(t *testing.T, columns int, l ...rune) {
	t.Helper()
	if got := Text(l); got != columns {
		t.Errorf("Text(%x): %d, not %d", l, got, columns)
	}
}

// cut wants n and rest of a text that is cut to so many columns.
func cut(t *testing.T, l []rune, columns, n, rest int) {
	t.Helper()
	gotN, gotRest := Cut(l, columns)
	if gotN != n || gotRest != rest {
		t.Errorf("Cut(%x, %d): %d, %d, not %d, %d", l, columns, gotN, gotRest, n, rest)
	}
}

// texts calls f with each text of at most so many of these characters; f may change nothing of it.
func texts(most int, characters []rune, f func(l []rune)) {
	var grow func(l []rune)
	grow = func(l []rune) {
		f(l)
		if len(l) == most {
			return
		}
		for _, r := range characters {
			grow(append(slices.Clone(l), r))
		}
	}
	grow(nil)
}

// chance answers numbers below n, always the same ones.
func chance(seed uint32) func(n int) int {
	return func(n int) int {
		seed = seed*1664525 + 1013904223
		return int(seed>>8) % n
	}
}

// anyText is a text of n characters, of none, one and two columns and any others.
func anyText(next func(n int) int, n int) []rune {
	var l []rune
	for range n {
		switch next(4) {
		case 0:
			s := none[next(len(none))]
			l = append(l, s.first+rune(next(int(s.last-s.first)+1)))
		case 1:
			s := two[next(len(two))]
			l = append(l, s.first+rune(next(int(s.last-s.first)+1)))
		case 2:
			l = append(l, rune(0x20+next(0x5f)))
		default:
			l = append(l, rune(next(0x110000)))
		}
	}
	return l
}

// The chapter's examples.
func TestExamples(t *testing.T) {
	of(t, 1, 0x61, 0xe9, 0xfffd)
	of(t, 2, 0x4e2d, 0x1f600)
	of(t, 0, 0x301, 0xa)
	cut(t, []rune{0x61, 0x4e2d, 0x62}, 2, 1, 1)
	cut(t, []rune{0x61, 0x4e2d, 0x62}, 3, 2, 0)
	cut(t, []rune{0x65, 0x301, 0x62}, 1, 2, 0)
}

// P9.1: the first and the last character of each list, and those within beside them.
func TestBounds(t *testing.T) {
	for _, s := range none {
		of(t, 0, s.first, s.first+1, (s.first+s.last)/2, s.last-1, s.last)
	}
	for _, s := range two {
		of(t, 2, s.first, s.first+1, (s.first+s.last)/2, s.last-1, s.last)
	}
}

// P9.1: the characters ahead of each list and behind it, each as the chapter has it: most are of one column.
func TestBesides(t *testing.T) {
	of(t, 1, -1, 0x20, 0x7e, 0xa0, 0x2ff, 0x370, 0x482, 0x48a, 0x590, 0x5be, 0x60f, 0x61b, 0x64a, 0x660, 0x200a, 0x2010, 0x20cf, 0x2100, 0xfdff, 0xfe10, 0xfe1f, 0xe00ff, 0xe01f0)
	of(t, 1, 0x10ff, 0x1160, 0x2e7f, 0x303f, 0x3040, 0x4dc0, 0x4dff, 0xa4d0, 0xabff, 0xd7a4, 0xf8ff, 0xfb00, 0xfe70, 0xfeff, 0xff61, 0xffdf, 0xffe7, 0x1f2ff, 0x1f650, 0x1f8ff, 0x1fa00, 0x1ffff, 0x3fffe)
	of(t, 2, 0x33ff, 0x3400, 0x9fff, 0xa000, 0xfe30)
	of(t, 0, 0xfe2f)
}

// P9.1: characters that other tables have otherwise: the soft hyphen, a joiner, marks that stand in no list, halves of pairs, ends of planes.
func TestOthers(t *testing.T) {
	of(t, 0, 0x200d, 0xfe0f)
	of(t, 1, 0xad, 0x1ab0, 0x1dc0, 0x2028, 0x2060, 0x231a, 0x2705, 0xd800, 0xdbff, 0xdc00, 0xdfff, 0xfeff, 0xffff, 0x1f680, 0x40000, 0x10ffff)
	of(t, 2, 0x3000, 0xff01, 0x2ffff, 0x3fffd)
}

// P9.1, R1: numbers below 0 and above 10ffff are of one column.
func TestNoCharacters(t *testing.T) {
	of(t, 1, math.MinInt32, math.MinInt32+1, -0x110000, -0x4e2d, -0x301, -0x100, -0x80, -2, -1)
	of(t, 1, 0x110000, 0x110001, 0x120000, 0x1000000+0x301, 0x10000000+0x4e2d, math.MaxInt32-1, math.MaxInt32)
	for i := range 32 {
		of(t, wants(1<<i), 1<<i)
		of(t, 1, -1<<i)
	}
}

// P9.1: all characters, and numbers on both sides of them.
func TestAllCharacters(t *testing.T) {
	for r := rune(-0x2000); r < 0x112000; r++ {
		if got := Of(r); got != wants(r) {
			t.Fatalf("Of(%x): %d, not %d", r, got, wants(r))
		}
	}
}

// P9.1: numbers from all of the type.
func TestAllNumbers(t *testing.T) {
	for n := int64(math.MinInt32); n <= math.MaxInt32; n += 9973 {
		r := rune(n)
		if got := Of(r); got != wants(r) {
			t.Fatalf("Of(%x): %d, not %d", r, got, wants(r))
		}
	}
}

// P9.1: texts of no characters, of one, of many.
func TestText(t *testing.T) {
	text(t, 0)
	if Text([]rune{}) != 0 || Text(make([]rune, 0, 5)) != 0 {
		t.Error("a text of no characters has columns")
	}
	text(t, 0, 0x301)
	text(t, 1, 0x61)
	text(t, 2, 0x4e2d)
	text(t, 0, 0, 0xa, 0x1b, 0x7f, 0x200b)
	text(t, 4, 0x61, 0x4e2d, 0x62)
	text(t, 2, 0x65, 0x301, 0x62)
	text(t, 3, -1, 0x110000, 0x301, math.MaxInt32)
	const many = 1 << 18
	text(t, many, slices.Repeat([]rune{0x61}, many)...)
	text(t, 2*many, slices.Repeat([]rune{0x4e2d}, many)...)
	text(t, 0, slices.Repeat([]rune{0x301}, many)...)
	text(t, 3*many, slices.Repeat([]rune{0x61, 0x301, 0x4e2d}, many)...)
}

// P9.1, P9.3: any texts, and two of them together.
func TestAnyTexts(t *testing.T) {
	next := chance(1)
	for range 2000 {
		a, b := anyText(next, next(40)), anyText(next, next(40))
		text(t, wantsText(a), a...)
		text(t, wantsText(b), b...)
		text(t, Text(a)+Text(b), slices.Concat(a, b)...)
	}
}

// P9.2: no columns.
func TestCutToNone(t *testing.T) {
	cut(t, nil, 0, 0, 0)
	cut(t, []rune{}, 0, 0, 0)
	cut(t, []rune{0x61}, 0, 0, 0)
	cut(t, []rune{0x4e2d}, 0, 0, 0)
	cut(t, []rune{0x301}, 0, 1, 0)
	cut(t, []rune{0x301, 0xa, 0x61, 0x301}, 0, 2, 0)
	cut(t, []rune{0x301, 0xa, 0x4e2d, 0x301}, 0, 2, 0)
}

// P9.2: columns below 0: not even characters of no columns.
func TestCutBelowNone(t *testing.T) {
	for _, columns := range []int{-1, -2, -3, math.MinInt32, math.MinInt + 1, math.MinInt} {
		cut(t, nil, columns, 0, 0)
		cut(t, []rune{0x301}, columns, 0, 0)
		cut(t, []rune{0x301, 0x61, 0x4e2d}, columns, 0, 0)
		cut(t, []rune{0x61}, columns, 0, 0)
	}
}

// P9.2: just so many columns as there are, one less and one more.
func TestCutAtTheEnd(t *testing.T) {
	for _, x := range []struct {
		l                []rune
		columns, n, rest int
	}{
		{[]rune{0x61}, 1, 1, 0},
		{[]rune{0x61}, 0, 0, 0},
		{[]rune{0x61}, 2, 1, 1},
		{[]rune{0x4e2d}, 2, 1, 0},
		{[]rune{0x4e2d}, 1, 0, 1},
		{[]rune{0x4e2d}, 3, 1, 1},
		{[]rune{0x61, 0x4e2d, 0x62}, 4, 3, 0},
		{[]rune{0x61, 0x4e2d, 0x62}, 5, 3, 1},
		{[]rune{0x62, 0x61, 0x4e2d}, 4, 3, 0},
		{[]rune{0x62, 0x61, 0x4e2d}, 3, 2, 1},
		{[]rune{0x62, 0x61, 0x4e2d}, 5, 3, 1},
		{[]rune{0x4e2d, 0x301}, 2, 2, 0},
		{[]rune{0x4e2d, 0x301}, 1, 0, 1},
		{[]rune{0x4e2d, 0x301}, 3, 2, 1},
	} {
		cut(t, x.l, x.columns, x.n, x.rest)
	}
}

// P9.2: the greatest number of columns, and others that no text has.
func TestCutToMany(t *testing.T) {
	for _, columns := range []int{1 << 20, math.MaxInt32, math.MaxInt - 1, math.MaxInt} {
		cut(t, nil, columns, 0, columns)
		cut(t, []rune{0x301}, columns, 1, columns)
		cut(t, []rune{0x61}, columns, 1, columns-1)
		cut(t, []rune{0x61, 0x4e2d, 0x301, 0x62}, columns, 4, columns-4)
	}
	const many = 1 << 18
	cut(t, slices.Repeat([]rune{0x4e2d}, many), math.MaxInt, many, math.MaxInt-2*many)
	cut(t, slices.Repeat([]rune{0x4e2d}, many), 2*many-1, many-1, 1)
	cut(t, slices.Repeat([]rune{0x301}, many), 0, many, 0)
}

// P9.2: characters of no columns behind the last one that fits come too, ahead of the one that does not they do where a column is left.
func TestCutBehindTheLast(t *testing.T) {
	e := []rune{0x65, 0x301, 0x308, 0xa, 0x200d, 0x62, 0x301}
	cut(t, e, 0, 0, 0)
	cut(t, e, 1, 5, 0)
	cut(t, e, 2, 7, 0)
	cut(t, []rune{0x4e2d, 0x301, 0x4e2d, 0x301}, 2, 2, 0)
	cut(t, []rune{0x4e2d, 0x301, 0x4e2d, 0x301}, 3, 2, 1)
	cut(t, []rune{0x4e2d, 0x301, 0x4e2d, 0x301}, 4, 4, 0)
	cut(t, []rune{0x301, 0x4e2d, 0x301, 0x61}, 1, 1, 1)
	cut(t, []rune{0xfe0f, 0xe0100, 0x1f600, 0xfe0f}, 2, 4, 0)
}

// P9.2: what does not fit ends it, though a later character would fit.
func TestCutEndsAtTheFirst(t *testing.T) {
	cut(t, []rune{0x4e2d, 0x61, 0x301}, 1, 0, 1)
	cut(t, []rune{0x61, 0x4e2d, 0x301, 0x62}, 2, 1, 1)
	cut(t, []rune{0x61, 0x62, 0x301, 0x63}, 1, 1, 0)
}

// P9.2, P9.3: all short texts of some characters, at all columns about them.
func TestCutShortTexts(t *testing.T) {
	texts(6, []rune{0x301, 0x61, 0x4e2d, 0xa0}, func(l []rune) {
		for columns := -1; columns <= 2*len(l)+1; columns++ {
			n, rest := wantsCut(l, columns)
			cut(t, l, columns, n, rest)
			tooMany(t, l, columns)
		}
	})
}

// P9.2, P9.3: any texts at any columns.
func TestCutAnyTexts(t *testing.T) {
	next := chance(2)
	for range 3000 {
		l := anyText(next, next(30))
		columns := next(50)
		n, rest := wantsCut(l, columns)
		cut(t, l, columns, n, rest)
		tooMany(t, l, columns)
	}
}

// tooMany wants that what is cut off has the columns that are not left, and with the next character that has some more than there are.
func tooMany(t *testing.T, l []rune, columns int) {
	t.Helper()
	if columns < 0 {
		return
	}
	n, rest := Cut(l, columns)
	if Text(l[:n])+rest != columns || rest < 0 {
		t.Errorf("Cut(%x, %d): %d, %d", l, columns, n, rest)
	}
	next := slices.IndexFunc(l[n:], func(r rune) bool { return Of(r) > 0 })
	if next >= 0 && Text(l[:n+next+1]) <= columns {
		t.Errorf("Cut(%x, %d): %d, but the next one fits", l, columns, n)
	}
	if next < 0 && n != len(l) {
		t.Errorf("Cut(%x, %d): %d, but what comes has no columns", l, columns, n)
	}
}

// R3, R4: what is handed in, with its spare room, stays as it is, and calls change nothing for later ones.
func TestNothingChanges(t *testing.T) {
	all := []rune{0x61, 0x4e2d, 0x301, -1, 0x110000, 0xa, 0x62}
	before := slices.Clone(all)
	for range 2 {
		for n := range len(all) + 1 {
			text(t, wantsText(before[:n]), all[:n]...)
			for _, columns := range []int{-1, 0, 1, 2, 3, 4, 5, 6, 7, math.MaxInt} {
				wantN, wantRest := wantsCut(before[:n], columns)
				cut(t, all[:n], columns, wantN, wantRest)
			}
			if !slices.Equal(all, before) {
				t.Fatalf("%x is now %x", before, all)
			}
		}
		of(t, 1, all[0])
		of(t, 2, all[1])
		of(t, 0, all[2])
	}
}
