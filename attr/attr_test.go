package attr

import (
	"math"
	"slices"
	"strconv"
	"strings"
	"testing"

	"jalousie/api"
)

// none is the attribute without flags, of default colors.
var none api.Attr

// full is an attribute with all flags and two colors of red, green and blue.
var full = api.Attr{Flags: 255, Fg: rgb(0x010203), Bg: rgb(0xfffefd)}

// wrong are attributes that may not be, one for each thing that may be wrong.
var wrong = []api.Attr{
	{Flags: 256},
	{Flags: 0xffff},
	{Flags: 0x8001, Fg: index(1)},
	{Fg: api.Color{N: 1}},
	{Bg: api.Color{N: 1}},
	{Fg: index(256)},
	{Bg: index(256)},
	{Fg: rgb(0x1000000)},
	{Bg: rgb(math.MaxUint32)},
	{Fg: api.Color{Kind: 3}},
	{Bg: api.Color{Kind: 255}},
	{Flags: 1, Fg: index(1), Bg: api.Color{Kind: 3, N: 5}},
}

func index(n uint32) api.Color { return api.Color{Kind: 1, N: n} }

func rgb(n uint32) api.Color { return api.Color{Kind: 2, N: n} }

// fg and bg are the attribute with that color alone.
func fg(c api.Color) api.Attr { return api.Attr{Fg: c} }

func bg(c api.Color) api.Attr { return api.Attr{Bg: c} }

// list is the parameters that a text says: ; stands between them, : between their parts; a part without digits is 0.
func list(text string) [][]int {
	var l [][]int
	for _, param := range strings.Split(text, ";") {
		var parts []int
		for _, part := range strings.Split(param, ":") {
			n, _ := strconv.Atoi(part)
			parts = append(parts, n)
		}
		l = append(l, parts)
	}
	return l
}

// apply wants b of what these parameters make of a.
func apply(t *testing.T, a api.Attr, params [][]int, b api.Attr) {
	t.Helper()
	if got := Apply(a, params); got != b {
		t.Errorf("Apply(%v, %v): %v, not %v", a, params, got, b)
	}
}

// says wants b of what the parameters of a text make of none.
func says(t *testing.T, text string, b api.Attr) {
	t.Helper()
	apply(t, none, list(text), b)
}

// between wants a text of Between.
func between(t *testing.T, a, b api.Attr, text string) {
	t.Helper()
	if got := Between(a, b); got != text {
		t.Errorf("Between(%v, %v): %q, not %q", a, b, got, text)
	}
}

// The chapter's lists: what sets a flag, and what takes flags back.
var (
	sets = map[int]uint16{1: Bold, 2: Faint, 3: Italic, 5: Blink, 7: Reverse, 8: Hidden, 9: Strike}
	ends = map[int]uint16{22: Bold | Faint, 23: Italic, 24: Under, 25: Blink, 27: Reverse, 28: Hidden, 29: Strike}
)

func firstOf(param []int) int {
	return append(slices.Clone(param), 0)[0]
}

// wants is what the chapter's words say of Apply, one parameter behind the other.
func wants(a api.Attr, params [][]int) api.Attr {
	if len(params) == 0 {
		params = [][]int{{0}}
	}
	for i := 0; i < len(params); i++ {
		n := firstOf(params[i])
		a.Flags = (a.Flags | sets[n]) &^ ends[n]
		switch {
		case n == 0:
			a = none
		case n == 4 && len(params[i]) > 1 && params[i][1] == 0:
			a.Flags &^= Under
		case n == 4:
			a.Flags |= Under
		case n >= 30 && n <= 37, n >= 90 && n <= 97:
			a.Fg = index(uint32(n%10 + 8*(n/90)))
		case n >= 40 && n <= 47, n >= 100 && n <= 107:
			a.Bg = index(uint32(n%10 + 8*(n/100)))
		case n == 39:
			a.Fg = api.Color{}
		case n == 49:
			a.Bg = api.Color{}
		case n == 38:
			i += wantsColor(&a.Fg, params[i], params[i+1:])
		case n == 48:
			i += wantsColor(&a.Bg, params[i], params[i+1:])
		}
	}
	return a
}

// wantsColor changes a color to what 38 or 48 says with what comes next, and answers how many of these are taken.
func wantsColor(c *api.Color, own []int, next [][]int) int {
	if n := len(own); n > 1 {
		own = append(slices.Clone(own), -1, -1, -1)
		switch {
		case own[1] == 5:
			wantsValues(c, 1, own[2:3])
		case own[1] == 2 && n > 5:
			wantsValues(c, 2, own[3:6])
		case own[1] == 2:
			wantsValues(c, 2, own[2:5])
		}
		return 0
	}
	var l []int
	for _, param := range next[:min(len(next), 4)] {
		l = append(l, firstOf(param))
	}
	switch {
	case len(l) > 0 && l[0] == 5:
		wantsValues(c, 1, append(l, -1)[1:2])
		return min(len(l), 2)
	case len(l) > 0 && l[0] == 2:
		wantsValues(c, 2, append(l, -1, -1, -1)[1:4])
		return min(len(l), 4)
	}
	return min(len(l), 1)
}

func wantsValues(c *api.Color, kind uint8, values []int) {
	n := 0
	for _, v := range values {
		if v < 0 || v > 255 {
			return
		}
		n = 256*n + v
	}
	*c = api.Color{Kind: kind, N: uint32(n)}
}

// chance answers numbers below n, always the same ones.
func chance(seed uint32) func(n int) int {
	return func(n int) int {
		seed = seed*1664525 + 1013904223
		return int(seed>>8) % n
	}
}

// anyColor is a color that may be.
func anyColor(next func(n int) int) api.Color {
	switch next(3) {
	case 0:
		return index(uint32(next(256)))
	case 1:
		return rgb(uint32(next(256)<<16 | next(256)<<8 | next(256)))
	}
	return api.Color{}
}

// anyAttr is an attribute that may be.
func anyAttr(next func(n int) int) api.Attr {
	return api.Attr{Flags: uint16(next(256)), Fg: anyColor(next), Bg: anyColor(next)}
}

// anyList is up to six parameters of up to seven parts, most of them numbers that say something.
func anyList(next func(n int) int) [][]int {
	common := []int{0, 1, 2, 4, 5, 22, 31, 38, 38, 38, 48, 48, 255, 256, -1, 107}
	l := make([][]int, next(7))
	for i := range l {
		n := 1
		if next(3) == 0 {
			n = next(8)
		}
		for range n {
			if next(4) == 0 {
				l[i] = append(l[i], next(300)-10)
			} else {
				l[i] = append(l[i], common[next(len(common))])
			}
		}
	}
	return l
}

// The chapter's examples.
func TestExamples(t *testing.T) {
	bold := api.Attr{Flags: Bold, Fg: index(1)}
	says(t, "1;31", bold)
	apply(t, bold, list("22;39"), none)
	says(t, "38;5;200;4", api.Attr{Flags: Under, Fg: index(200)})
	says(t, "38:2::1:2:3", fg(rgb(0x010203)))
	between(t, none, bold, "\x1b[0;1;38:5:1m")
	between(t, bold, none, "\x1b[0m")
}

// The flags' numbers.
func TestFlags(t *testing.T) {
	l := []int{Bold, Faint, Italic, Under, Blink, Reverse, Hidden, Strike}
	if !slices.Equal(l, []int{1, 2, 4, 8, 16, 32, 64, 128}) {
		t.Error(l)
	}
}

// P10.1: each number alone, and the greatest and the least ones, held against the chapter's list.
func TestEachNumberAlone(t *testing.T) {
	l := []int{math.MinInt, math.MinInt + 1, -256, -38, -22, -4, -2, 111, 255, 256, 257, 260, 278, 287, 9999, 1 << 16, 1<<16 + 1, 1 << 32, 1<<32 + 1, 1<<32 + 31, math.MaxInt - 1, math.MaxInt}
	for n := -1; n <= 110; n++ {
		l = append(l, n)
	}
	for _, n := range l {
		for _, a := range append([]api.Attr{none, full, {Flags: 0x55, Fg: index(7)}, {Flags: 0xaa, Bg: index(0)}}, wrong...) {
			apply(t, a, [][]int{{n}}, wants(a, [][]int{{n}}))
		}
	}
}

// P10.1: numbers that say nothing leave all as it is.
func TestNumbersThatSayNothing(t *testing.T) {
	for _, n := range []int{math.MinInt, -1, 6, 10, 11, 19, 20, 21, 26, 38, 48, 50, 53, 58, 59, 89, 98, 99, 108, 110, 256, 257, 1 << 32, 1<<32 + 1, math.MaxInt} {
		apply(t, none, [][]int{{n}}, none)
		apply(t, full, [][]int{{n}}, full)
		apply(t, full, [][]int{{n, 0}, {n, 1}}, full)
	}
}

// P10.1: 0 takes all back, whatever stood there; what comes behind goes on.
func TestAllTakenBack(t *testing.T) {
	for _, a := range append([]api.Attr{none, full}, wrong...) {
		apply(t, a, list("0"), none)
		apply(t, a, list("0:1"), none)
		apply(t, a, list("0;3"), api.Attr{Flags: Italic})
		apply(t, a, list("3;0"), none)
	}
}

// P10.1: each flag is set alone, and taken back alone, but for Bold and Faint.
func TestFlagsSetAndTakenBack(t *testing.T) {
	for _, x := range []struct {
		set, end    string
		flag, ended uint16
	}{
		{"1", "22", Bold, Bold | Faint},
		{"2", "22", Faint, Bold | Faint},
		{"3", "23", Italic, Italic},
		{"4", "24", Under, Under},
		{"5", "25", Blink, Blink},
		{"7", "27", Reverse, Reverse},
		{"8", "28", Hidden, Hidden},
		{"9", "29", Strike, Strike},
	} {
		says(t, x.set, api.Attr{Flags: x.flag})
		says(t, x.set+";"+x.set, api.Attr{Flags: x.flag})
		says(t, x.set+";"+x.end, none)
		says(t, x.end+";"+x.set, api.Attr{Flags: x.flag})
		says(t, x.end, none)
		says(t, x.set+":0", api.Attr{Flags: x.flag &^ Under})
		apply(t, full, list(x.set), full)
		without := full
		without.Flags &^= x.ended
		apply(t, full, list(x.end), without)
		apply(t, without, list(x.end), without)
		without.Flags |= x.flag
		apply(t, full, list(x.end+";"+x.set), without)
		apply(t, api.Attr{Flags: 0xff00}, list(x.set), api.Attr{Flags: 0xff00 | x.flag})
		apply(t, api.Attr{Flags: 0xffff}, list(x.end), api.Attr{Flags: 0xffff &^ x.ended})
	}
	says(t, "1;2;3;4;5;7;8;9", api.Attr{Flags: 255})
	apply(t, full, list("22;23;24;25;27;28;29"), api.Attr{Fg: full.Fg, Bg: full.Bg})
}

// P10.1: 4 with parts: only a second one that is 0 takes Under back; parts of other numbers count for nothing.
func TestUnderWithParts(t *testing.T) {
	under := api.Attr{Flags: Under}
	for _, text := range []string{"4", "4:1", "4:2", "4:3", "4:5", "4:-1", "4:256", "4:9999", "4:1:0", "4:3:0:0", "4:24"} {
		says(t, text, under)
		apply(t, full, list(text), full)
		apply(t, api.Attr{Flags: 255 &^ Under}, list(text), api.Attr{Flags: 255})
	}
	for _, text := range []string{"4:0", "4:", "4:0:1", "4:0:0", "4::3", "24:1", "24:4"} {
		says(t, text, none)
		apply(t, under, list(text), none)
		apply(t, api.Attr{Flags: 255}, list(text), api.Attr{Flags: 255 &^ Under})
	}
	says(t, "4;0", none)
	says(t, "4:0;4", under)
	says(t, "1:0;22:1;31:5:2;41:0", api.Attr{Fg: index(1), Bg: index(1)})
}

// P10.1: no parameters are one, 0; so is each one that has no parts.
func TestNoParameters(t *testing.T) {
	for _, a := range append([]api.Attr{none, full}, wrong...) {
		for _, l := range [][][]int{nil, {}, make([][]int, 0, 3), {nil}, {{}}, {{}, nil}, {make([]int, 0, 3)}, {{0}}, {{1}, {}}, {{31}, nil}} {
			apply(t, a, l, none)
		}
		apply(t, a, [][]int{{}, {1}}, api.Attr{Flags: Bold})
		apply(t, a, [][]int{{9}, nil, {32}}, fg(index(2)))
	}
}

// P10.1: the colors of one number, at their bounds.
func TestColors(t *testing.T) {
	for i := range 8 {
		n := uint32(i)
		apply(t, none, [][]int{{30 + i}}, fg(index(n)))
		apply(t, none, [][]int{{40 + i}}, bg(index(n)))
		apply(t, none, [][]int{{90 + i}}, fg(index(n+8)))
		apply(t, none, [][]int{{100 + i}}, bg(index(n+8)))
		apply(t, full, [][]int{{30 + i}, {100 + i}}, api.Attr{Flags: 255, Fg: index(n), Bg: index(n + 8)})
	}
	apply(t, full, list("39"), api.Attr{Flags: 255, Bg: full.Bg})
	apply(t, full, list("49"), api.Attr{Flags: 255, Fg: full.Fg})
	apply(t, none, list("39;49"), none)
	apply(t, full, list("39;49;32;44"), api.Attr{Flags: 255, Fg: index(2), Bg: index(4)})
}

// both wants a color of what stands behind 38 and behind 48, of none and of a full attribute; nothing, if ok is false.
func both(t *testing.T, text string, c api.Color, ok bool) {
	t.Helper()
	for _, a := range []api.Attr{none, full, {Fg: index(9), Bg: index(10)}} {
		withFg, withBg := a, a
		if ok {
			withFg.Fg, withBg.Bg = c, c
		}
		apply(t, a, list("38"+text), withFg)
		apply(t, a, list("48"+text), withBg)
		withFg.Flags |= Italic
		withBg.Flags |= Italic
		apply(t, a, list("38"+text+";3"), withFg)
		apply(t, a, list("48"+text+";3"), withBg)
	}
}

// P10.1: 38 and 48 with parts of their own, 5 the second one.
func TestTableInParts(t *testing.T) {
	both(t, ":5:0", index(0), true)
	both(t, ":5:", index(0), true)
	both(t, ":5:1", index(1), true)
	both(t, ":5:255", index(255), true)
	both(t, ":5:7:300", index(7), true)
	both(t, ":5:7:-1:2", index(7), true)
	both(t, ":5:7:1:2:3:4:5:6", index(7), true)
	for _, text := range []string{":5", ":5:256", ":5:-1", ":5:9999", ":5:256:1", ":5:-1:1:2:3", ":5:4294967296", ":5:-256"} {
		both(t, text, api.Color{}, false)
	}
}

// P10.1: 38 and 48 with parts of their own, 2 the second one: five of them have no place for a color space.
func TestMixedInParts(t *testing.T) {
	both(t, ":2:1:2:3", rgb(0x010203), true)
	both(t, ":2:0:0:0", rgb(0), true)
	both(t, ":2:::", rgb(0), true)
	both(t, ":2:255:255:255", rgb(0xffffff), true)
	both(t, ":2:255:0:0", rgb(0xff0000), true)
	both(t, ":2::1:2:3", rgb(0x010203), true)
	both(t, ":2:9:1:2:3", rgb(0x010203), true)
	both(t, ":2:9999:1:2:3", rgb(0x010203), true)
	both(t, ":2:-1:1:2:3", rgb(0x010203), true)
	both(t, ":2:9:0:255:0", rgb(0x00ff00), true)
	both(t, ":2:9:1:2:3:4", rgb(0x010203), true)
	both(t, ":2:9:1:2:3:256:-1", rgb(0x010203), true)
	both(t, ":2:9:1:2:3:4:5:6:7:8", rgb(0x010203), true)
	for _, text := range []string{
		":2", ":2:1", ":2:1:2", ":2:",
		":2:256:2:3", ":2:1:256:3", ":2:1:2:256", ":2:-1:2:3", ":2:1:-1:3", ":2:1:2:-1",
		":2::256:2:3", ":2::1:256:3", ":2::1:2:256", ":2::-1:2:3", ":2::1:-1:3", ":2::1:2:-1",
		":2:1:2:3:256", ":2:1:2:3:-1", ":2::1:2:256:3", ":2::1:2:4294967296", ":2::1:2:-4294967295",
	} {
		both(t, text, api.Color{}, false)
	}
}

// P10.1: 38 and 48 with parts of their own, another second one; what comes behind goes on, and is none of the color's.
func TestOthersInParts(t *testing.T) {
	for _, text := range []string{":0", ":", ":1", ":3", ":4", ":6", ":-1", ":38", ":256", ":9999", ":1:5:7", ":0:1:2:3", ":3:1:2:3:4", ":-5:1", ":-2:1:2:3"} {
		both(t, text, api.Color{}, false)
	}
	says(t, "38:5;7", api.Attr{Flags: Reverse})
	says(t, "38:2;1;2;3", api.Attr{Flags: Bold | Faint | Italic})
	says(t, "48:;5;7", api.Attr{Flags: Blink | Reverse})
	says(t, "38:5:7;48:5:8;1", api.Attr{Flags: Bold, Fg: index(7), Bg: index(8)})
}

// P10.1: 38 and 48 without parts, 5 next: two parameters are taken, whatever they are.
func TestTableBehind(t *testing.T) {
	both(t, ";5;0", index(0), true)
	both(t, ";5;", index(0), true)
	both(t, ";5;1", index(1), true)
	both(t, ";5;38", index(38), true)
	both(t, ";5;255", index(255), true)
	both(t, ";5:9;7", index(7), true)
	both(t, ";5:2:1;7:9:300", index(7), true)
	for _, text := range []string{";5;256", ";5;-1", ";5;9999", ";5;300:1", ";5;4294967297"} {
		both(t, text, api.Color{}, false)
	}
	for _, a := range []api.Attr{none, full} {
		apply(t, a, list("38;5"), a)
		apply(t, a, list("48;5"), a)
		apply(t, a, list("48;5:1"), a)
	}
	says(t, "38;5;1;2", api.Attr{Flags: Faint, Fg: index(1)})
	says(t, "38;5;300;2", api.Attr{Flags: Faint})
	says(t, "1;38;5", api.Attr{Flags: Bold})
	says(t, "38;5;5;48;5;5", api.Attr{Fg: index(5), Bg: index(5)})
	says(t, "38;5;48;5;5", api.Attr{Flags: Blink, Fg: index(48)})
	apply(t, none, [][]int{{38}, {5}, {}}, fg(index(0)))
	apply(t, none, [][]int{{48}, {5}, nil, {}}, none)
}

// P10.1: 38 and 48 without parts, 2 next: four parameters are taken, or as many as there are.
func TestMixedBehind(t *testing.T) {
	both(t, ";2;1;2;3", rgb(0x010203), true)
	both(t, ";2;0;0;0", rgb(0), true)
	both(t, ";2;;;", rgb(0), true)
	both(t, ";2;255;255;255", rgb(0xffffff), true)
	both(t, ";2;0;0;255", rgb(0x0000ff), true)
	both(t, ";2:5:7;1:300;2:-1;3:1:2", rgb(0x010203), true)
	for _, text := range []string{";2;256;2;3", ";2;1;256;3", ";2;1;2;256", ";2;-1;2;3", ";2;1;-1;3", ";2;1;2;-1", ";2;1;2;4294967296"} {
		both(t, text, api.Color{}, false)
	}
	for _, text := range []string{"38;2", "38;2;1", "38;2;1;2", "48;2", "48;2;4", "48;2;4;0", "38;2;256", "48;2;;", "38;2:1"} {
		apply(t, none, list(text), none)
		apply(t, full, list(text), full)
	}
	says(t, "38;2;1;2;3;4", api.Attr{Flags: Under, Fg: rgb(0x010203)})
	says(t, "38;2;1;2;300;4", api.Attr{Flags: Under})
	says(t, "48;2;38;5;7;9", api.Attr{Flags: Strike, Bg: rgb(0x260507)})
	says(t, "1;48;2;1;2", api.Attr{Flags: Bold})
	apply(t, none, [][]int{{38}, {2}, {}, {7}, nil}, fg(rgb(0x000700)))
}

// P10.1: 38 and 48 without parts, another one next: that alone is taken, whatever it says where it stands for itself.
func TestOthersBehind(t *testing.T) {
	for _, text := range []string{
		";0", ";", ";1", ";3", ";4", ";4:0", ";6", ";7", ";22", ";27", ";30", ";31", ";39", ";47", ";49", ";97", ";107", ";-1", ";-2", ";-5", ";255", ";256", ";258", ";261", ";9999", ";4294967298", ";4294967301",
		";38", ";48", ";38:5:7", ";48:5:7", ";38:2:1:2:3", ";0:5", ";0:2", ";:5:7", ";1:5:7", ";31:2:1:2:3", ";4:5:1",
	} {
		both(t, text, api.Color{}, false)
	}
	for _, a := range append([]api.Attr{none, full}, wrong...) {
		for _, n := range []int{38, 48} {
			apply(t, a, [][]int{{n}, {}}, a)
			apply(t, a, [][]int{{n}, nil}, a)
			apply(t, a, [][]int{{n}, make([]int, 0, 3)}, a)
			apply(t, a, [][]int{{n}, {}, {}}, none)
			apply(t, a, [][]int{{n}, {30}}, a)
			apply(t, a, [][]int{{n}, {0}, {n}, {0}}, a)
		}
	}
}

// P10.1: what stands behind the one that is taken says what it says, a color's numbers too.
func TestBehindTheOthers(t *testing.T) {
	says(t, "38;1;3", api.Attr{Flags: Italic})
	says(t, "48;7;1", api.Attr{Flags: Bold})
	says(t, "48;30;31", fg(index(1)))
	says(t, "38;1;5;7", api.Attr{Flags: Blink | Reverse})
	says(t, "48;3;2;1", api.Attr{Flags: Faint | Bold})
	says(t, "38;0;38;5;7", fg(index(7)))
	says(t, "38;48;5;7", api.Attr{Flags: Blink | Reverse})
	says(t, "48;38;2;1;3", api.Attr{Flags: Faint | Bold | Italic})
	says(t, "38;38;38;5;7", fg(index(7)))
	says(t, "38;38;38;38;5;7", api.Attr{Flags: Blink | Reverse})
	says(t, "48;38:5:7;38:5:8", fg(index(8)))
	says(t, "3;38;9;1", api.Attr{Flags: Italic | Bold})
	apply(t, none, [][]int{{48}, {}, {5}, {7}}, api.Attr{Flags: Blink | Reverse})
	apply(t, full, [][]int{{38}, {1}, nil}, none)
}

// P10.1: 38 and 48 that nothing comes behind change nothing.
func TestNothingBehind(t *testing.T) {
	for _, a := range append([]api.Attr{none, full}, wrong...) {
		apply(t, a, list("38"), a)
		apply(t, a, list("48"), a)
		apply(t, a, list("38;1;48"), a)
		apply(t, a, list("0;38"), none)
	}
	says(t, "1;38", api.Attr{Flags: Bold})
	says(t, "3;38;1;48", api.Attr{Flags: Italic})
}

// P10.1: parameters say what they say one behind the other.
func TestOneBehindTheOther(t *testing.T) {
	next := chance(1)
	for range 5000 {
		a, l, m := anyAttr(next), anyList(next), anyList(next)
		apply(t, a, l, wants(a, l))
		apply(t, full, l, wants(full, l))
		whole := append([][]int{{1}}, m...) // a 38 or 48 at the end of l alone would take what m begins with
		l = append(l, []int{7}, []int{7}, []int{7}, []int{7})
		apply(t, a, slices.Concat(l, whole), Apply(Apply(a, l), whole))
	}
}

// P10.1, P10.3: all short lists of some parameters, also of what may not be.
func TestShortLists(t *testing.T) {
	some := [][]int{nil, {0}, {1}, {2}, {5}, {38}, {48}, {256}, {-1}, {38, 5, 7}, {5, 2}}
	starts := []api.Attr{none, full, wrong[2]}
	var grow func(l [][]int)
	grow = func(l [][]int) {
		for _, a := range starts {
			got := Apply(a, l)
			if got != wants(a, l) || Right(a) && !Right(got) {
				t.Fatalf("Apply(%v, %v): %v, not %v", a, l, got, wants(a, l))
			}
		}
		if len(l) == 5 {
			return
		}
		for _, param := range some {
			grow(append(slices.Clone(l), param))
		}
	}
	grow(nil)
}

// P10.1: what may not be is kept where parameters say nothing of it.
func TestApplyToWrong(t *testing.T) {
	apply(t, api.Attr{Flags: 0x0100}, list("1"), api.Attr{Flags: 0x0101})
	apply(t, api.Attr{Flags: 0x0103}, list("22"), api.Attr{Flags: 0x0100})
	a := api.Attr{Fg: api.Color{Kind: 9, N: 9}, Bg: api.Color{N: 7}}
	apply(t, a, list("31"), api.Attr{Fg: index(1), Bg: a.Bg})
	apply(t, a, list("49"), api.Attr{Fg: a.Fg})
	apply(t, a, list("38;5;256"), a)
}

// P10.3: of what may be Apply tells only what may be.
func TestApplyTellsWhatMayBe(t *testing.T) {
	next := chance(2)
	for range 20000 {
		a, l := anyAttr(next), anyList(next)
		if got := Apply(a, l); !Right(got) {
			t.Fatalf("Apply(%v, %v): %v", a, l, got)
		}
	}
}

// P10.1: Right at the bounds.
func TestRight(t *testing.T) {
	for _, c := range []api.Color{{}, index(0), index(1), index(255), rgb(0), rgb(1), rgb(256), rgb(0xffffff)} {
		for _, a := range []api.Attr{fg(c), bg(c), {Flags: 255, Fg: c, Bg: c}, {Flags: 128, Fg: c, Bg: rgb(0xffffff)}} {
			if !Right(a) {
				t.Errorf("%v may be", a)
			}
		}
	}
	for _, c := range []api.Color{{N: 1}, {N: 255}, {N: math.MaxUint32}, index(256), index(257), index(math.MaxUint32), rgb(0x1000000), rgb(0x1000001), rgb(math.MaxUint32), {Kind: 3}, {Kind: 3, N: 1}, {Kind: 4}, {Kind: 128}, {Kind: 255}, {Kind: 255, N: 255}} {
		for _, a := range []api.Attr{fg(c), bg(c), {Flags: 255, Fg: c, Bg: c}, {Flags: 1, Fg: c, Bg: index(1)}, {Fg: rgb(1), Bg: c}} {
			if Right(a) {
				t.Errorf("%v may not be", a)
			}
		}
	}
	for n := range 1 << 16 {
		if Right(api.Attr{Flags: uint16(n)}) != (n <= 255) {
			t.Errorf("flags %x", n)
		}
	}
	for n := range 256 {
		if Right(fg(api.Color{Kind: uint8(n)})) != (n <= 2) {
			t.Errorf("kind %d", n)
		}
	}
	for _, a := range wrong {
		if Right(a) {
			t.Errorf("%v may not be", a)
		}
	}
}

// P10.2: nothing leads from an attribute to itself, also if it may not be.
func TestBetweenEqual(t *testing.T) {
	for _, a := range append([]api.Attr{none, full, {Flags: 1}, fg(index(0)), bg(rgb(0))}, wrong...) {
		between(t, a, a, "")
	}
}

// P10.2: nothing leads to what may not be; from there the way is as from all others.
func TestBetweenWrong(t *testing.T) {
	for _, a := range wrong {
		between(t, none, a, "")
		between(t, full, a, "")
		for _, b := range wrong {
			between(t, a, b, "")
		}
		between(t, a, none, "\x1b[0m")
		between(t, a, api.Attr{Flags: Strike, Fg: index(0)}, "\x1b[0;9;38:5:0m")
	}
}

// P10.2: each flag, each kind of color, and both at once.
func TestBetween(t *testing.T) {
	for _, a := range []api.Attr{full, {Flags: 1, Fg: index(1)}, bg(index(0))} {
		between(t, a, none, "\x1b[0m")
		for i, n := range []string{"1", "2", "3", "4", "5", "7", "8", "9"} {
			between(t, a, api.Attr{Flags: 1 << i}, "\x1b[0;"+n+"m")
		}
		between(t, a, api.Attr{Flags: 255}, "\x1b[0;1;2;3;4;5;7;8;9m")
		between(t, a, api.Attr{Flags: Bold | Blink | Strike}, "\x1b[0;1;5;9m")
		between(t, a, fg(index(0)), "\x1b[0;38:5:0m")
		between(t, a, fg(index(255)), "\x1b[0;38:5:255m")
		between(t, a, fg(rgb(0)), "\x1b[0;38:2::0:0:0m")
		between(t, a, fg(rgb(0xffffff)), "\x1b[0;38:2::255:255:255m")
		between(t, a, fg(rgb(0x0a0b0c)), "\x1b[0;38:2::10:11:12m")
		between(t, a, bg(index(16)), "\x1b[0;48:5:16m")
		between(t, a, bg(rgb(0x010000)), "\x1b[0;48:2::1:0:0m")
		between(t, a, bg(rgb(0xff)), "\x1b[0;48:2::0:0:255m")
		between(t, a, api.Attr{Fg: index(3), Bg: index(4)}, "\x1b[0;38:5:3;48:5:4m")
		between(t, a, api.Attr{Flags: Under, Fg: rgb(0x000100), Bg: index(8)}, "\x1b[0;4;38:2::0:1:0;48:5:8m")
	}
	between(t, none, full, "\x1b[0;1;2;3;4;5;7;8;9;38:2::1:2:3;48:2::255:254:253m")
	between(t, api.Attr{Flags: Bold}, api.Attr{Flags: Bold | Faint}, "\x1b[0;1;2m")
	between(t, fg(index(0)), none, "\x1b[0m")
	between(t, fg(index(1)), fg(rgb(1)), "\x1b[0;38:2::0:0:1m")
	between(t, fg(index(1)), bg(index(1)), "\x1b[0;48:5:1m")
}

// leads wants that what Between says is one sequence of at most eleven parameters, and makes b of any attribute.
func leads(t *testing.T, a, b api.Attr, others ...api.Attr) {
	t.Helper()
	s := Between(a, b)
	if a == b {
		between(t, a, b, "")
		return
	}
	text, begins := strings.CutPrefix(s, "\x1b[")
	text, finishes := strings.CutSuffix(text, "m")
	if !begins || !finishes || strings.Trim(text, "0123456789:;") != "" {
		t.Fatalf("Between(%v, %v): %q", a, b, s)
	}
	l := list(text)
	if len(l) > 11 {
		t.Fatalf("Between(%v, %v): %d parameters", a, b, len(l))
	}
	for _, x := range append(others, a) {
		apply(t, x, l, b)
	}
}

// P10.2, P10.3: every flag of all, and every color of the table, on both sides.
func TestBetweenLeads(t *testing.T) {
	for n := range 256 {
		leads(t, none, api.Attr{Flags: uint16(n)}, full, wrong[2])
		leads(t, full, api.Attr{Flags: uint16(n), Fg: index(uint32(n)), Bg: index(uint32(255 - n))}, none, wrong[2])
		leads(t, none, fg(rgb(uint32(n)<<16|uint32(255-n)<<8)), full, wrong[3])
		leads(t, full, api.Attr{Flags: 255, Fg: rgb(uint32(n) << 8), Bg: rgb(uint32(n) * 0x010101)}, none, wrong[9])
	}
}

// P10.2, P10.3: any two, and what may not be on the left.
func TestBetweenAnyTwo(t *testing.T) {
	next := chance(3)
	for range 10000 {
		a, b := anyAttr(next), anyAttr(next)
		leads(t, a, b, append(wrong, none, full, anyAttr(next))...)
		leads(t, wrong[next(len(wrong))], b, a)
	}
}

// spare is a list that is like l, with room behind it and behind each parameter; marks stand in that room.
func spare(l [][]int) [][]int {
	room := make([][]int, 0, len(l)+1)
	for _, param := range append(slices.Clone(l), []int{99}) {
		parts := make([]int, 0, len(param)+8)
		parts = append(parts, param...)
		for i := len(param); i < cap(parts); i++ {
			parts[:cap(parts)][i] = 77
		}
		room = append(room, parts)
	}
	return room[:len(l)]
}

// R3, R4: the list that is handed in, with its spare room, stays as it is and counts for nothing; calls change nothing for later ones.
func TestNothingChanges(t *testing.T) {
	next := chance(4)
	for range 3000 {
		l := anyList(next)
		room := spare(l)
		for range 2 {
			apply(t, full, room, wants(full, l))
		}
		whole := room[:cap(room)]
		for i, param := range append(slices.Clone(l), []int{99}) {
			parts := whole[i][:cap(whole[i])]
			if !slices.Equal(parts[:len(param)], param) || len(whole[i]) != len(param) || slices.ContainsFunc(parts[len(param):], func(n int) bool { return n != 77 }) {
				t.Fatalf("%v is now %v", l, whole)
			}
		}
	}
	if none != (api.Attr{}) || full.Flags != 255 {
		t.Error(none, full)
	}
}

// R1: long lists, and long parameters.
func TestLongLists(t *testing.T) {
	const many = 1 << 17
	for i, x := range []struct {
		some [][]int
		b    api.Attr
	}{
		{[][]int{{38}}, none},
		{[][]int{{38}, {1}, {3}}, api.Attr{Flags: Italic}},
		{[][]int{{48}, {5}, {7}}, bg(index(7))},
		{[][]int{{38}, {2}, {1}, {2}, {3}, {38}, {2}}, api.Attr{Flags: Faint | Italic, Fg: rgb(0x260201)}},
		{[][]int{append([]int{38, 2, 0, 1, 2, 3}, make([]int, 100)...), {4}, append([]int{4, 0}, make([]int, 100)...)}, fg(rgb(0x010203))},
	} {
		if got := Apply(none, slices.Repeat(x.some, many)); got != x.b {
			t.Errorf("list %d: %v, not %v", i, got, x.b)
		}
	}
	if got := Apply(none, [][]int{append([]int{48, 5, 3}, make([]int, many)...)}); got != bg(index(3)) {
		t.Error(got)
	}
}
