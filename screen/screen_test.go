package screen

import (
	"math"
	"slices"
	"strconv"
	"strings"
	"testing"

	"jalousie/api"
	"jalousie/events"
	"jalousie/reflow"
	"jalousie/row"
)

const wide = '中'

var extremes = []int{math.MinInt, math.MinInt + 1, -1 << 32, -1, 0, 401, 1<<32 + 3, math.MaxInt - 1, math.MaxInt}

// chance is a row of numbers that looks like chance and is always the same.
func chance(seed uint64) func(n int) int {
	return func(n int) int {
		seed = seed*6364136223846793005 + 1442695040888963407
		return int(seed>>33) % n
	}
}

func made(t testing.TB, w, h, back int) *Screen {
	t.Helper()
	s, e := New(w, h, back)
	if e != api.OK || s == nil {
		t.Fatalf("New(%d, %d, %d): %v, %d", w, h, back, s, e)
	}
	return s
}

// told is the events that a stream tells; ~ stands for the byte 1b.
func told(stream string) []events.Event {
	p := events.New()
	p.Feed(strings.ReplaceAll(stream, "~", "\x1b"))
	p.End()
	var all []events.Event
	for {
		e, ok := p.Next()
		if !ok {
			return all
		}
		all = append(all, e)
	}
}

func feed(s *Screen, stream string) *Screen {
	for _, e := range told(stream) {
		s.Apply(e)
	}
	return s
}

// sign is what stands for a cell: _ for a plain blank, * for another one, < and > for the halves of a wide character.
func sign(c api.Cell) string {
	switch {
	case c == api.Cell{Rune: ' '}:
		return "_"
	case c.Rune == ' ':
		return "*"
	case c.Wide == 1:
		return "<"
	case c.Wide == 2:
		return ">"
	}
	return string(c.Rune)
}

// said is lines, one beside another: behind a line's cells + says that it is Joined, - that it is Joined and Short, ! that it is Short alone.
func said(lines []reflow.Line) string {
	var texts []string
	for _, l := range lines {
		text := ""
		for _, c := range l.Cells {
			text += sign(c)
		}
		switch {
		case l.Joined && l.Short:
			text += "-"
		case l.Joined:
			text += "+"
		case l.Short:
			text += "!"
		}
		texts = append(texts, text)
	}
	return strings.Join(texts, "|")
}

// shows is a screen's page, its cursor, and what the back has, if it has some: the page, x y, late, ^ and the back.
func shows(s *Screen) string {
	x, y, late := s.Cursor()
	text := said(s.Lines()) + " " + strconv.Itoa(x) + " " + strconv.Itoa(y)
	if late {
		text += " late"
	}
	if b := s.Back(); len(b) > 0 {
		text += " ^" + said(b)
	}
	return text
}

// streams wants of screens of w by h what each stream leaves; in want the lines at the page's end that are left out are plain blanks.
func streams(t *testing.T, w, h, back int, pairs ...string) {
	t.Helper()
	for i := 0; i < len(pairs); i += 2 {
		stream, want := pairs[i], filledUp(pairs[i+1], w, h)
		if got := shows(feed(made(t, w, h, back), stream)); got != want {
			t.Errorf("%d by %d, back %d: %q: %s, not %s", w, h, back, stream, got, want)
		}
	}
}

func filledUp(want string, w, h int) string {
	page, rest, _ := strings.Cut(want, " ")
	var lines []string
	if page != "" {
		lines = strings.Split(page, "|")
	}
	for len(lines) < h {
		lines = append(lines, strings.Repeat("_", w))
	}
	return strings.Join(lines, "|") + " " + rest
}

// The chapter's examples, and the document's own of a page.
func TestExamples(t *testing.T) {
	streams(t, 4, 3, 5,
		"abcde", "abcd+|e___ 1 1",
		"abcd", "abcd 3 0 late",
		"~[2;3Hx~[1K", "____|____ 3 1",
		"a\nb\nc\n", "_b__|__c_|____ 3 2 ^a___",
	)
}

// P16.1: which sizes and rooms may be, and what is at first.
func TestNew(t *testing.T) {
	for _, w := range append([]int{1, 2, 3, 80, 399, 400, 401}, extremes...) {
		for _, h := range append([]int{1, 2, 24, 399, 400, 401}, extremes...) {
			for _, back := range append([]int{0, 1, 250, 499, 500, 501}, extremes...) {
				s, e := New(w, h, back)
				if w < 2 || w > 400 || h < 1 || h > 400 || back < 0 || back > 500 {
					if s != nil || e != api.ErrArg {
						t.Fatalf("New(%d, %d, %d): %v, %d", w, h, back, s, e)
					}
					continue
				}
				if s == nil || e != api.OK {
					t.Fatalf("New(%d, %d, %d): %v, %d", w, h, back, s, e)
				}
				if back < 2 && (w < 4 || h < 3 || w == h) {
					holds(t, s, atFirst(w, h, back), "at first")
				}
			}
		}
	}
}

// P16.1: characters of none, one and two columns, wrap and what is Joined and Short.
func TestCharacters(t *testing.T) {
	streams(t, 4, 3, 0,
		"", "____ 0 0",
		"a", "a___ 1 0",
		"aé", "aé__ 2 0",
		"a\u0301b", "ab__ 2 0",
		"\u0301", "____ 0 0",
		"abcd\u0301", "abcd 3 0 late",
		"abcd\u200be", "abcd+|e___ 1 1",
		"中", "<>__ 2 0",
		"a中", "a<>_ 3 0",
		"ab中", "ab<> 3 0 late",
		"ab中c", "ab<>+|c___ 1 1",
		"abc中", "abc_-|<>__ 2 1",
		"abcd中", "abcd+|<>__ 2 1",
		"中中中", "<><>+|<>__ 2 1",
		"a中中", "a<>_-|<>__ 2 1",
		"abcdefghijkl", "abcd+|efgh+|ijkl 3 2 late",
		"abcdefghijklm", "efgh+|ijkl+|m___ 1 2",
		"abcdefghijk中", "efgh+|ijk_-|<>__ 2 2",
		"中中\rb", "b_<> 1 0",
		"中中\r~[Cb", "_b<> 2 0",
		"中中\r~[C中", "_<>_ 3 0",
		"中中\r中", "<><> 2 0",
		"中b\r~[C中", "_<>_ 3 0",
		"a中b\r中", "<>_b 2 0",
		"ab中~[1;4Hx", "ab_x 3 0 late",
		"ab中~[1;4H中", "ab__-|<>__ 2 1",
		"a中~[1;4H中", "a<>_-|<>__ 2 1",
	)
	streams(t, 2, 2, 1,
		"中", "<> 1 0 late",
		"a中", "a_-|<> 1 1 late",
		"a中b", "<>+|b_ 1 1 ^a_-",
		"a中中", "<>+|<> 1 1 late ^a_-",
		"ab中c", "<>+|c_ 1 1 ^ab+",
	)
	streams(t, 3, 1, 2,
		"abcd", "d__ 1 0 ^abc+",
		"ab中", "<>_ 2 0 ^ab_-",
		"ab中中", "<>_ 2 0 ^ab_-|<>_-",
		"abcdefghij", "j__ 1 0 ^def+|ghi+",
	)
}

// P16.1: characters while wrap is off, and while insert is on.
func TestWrapAndInsert(t *testing.T) {
	streams(t, 4, 2, 1,
		"~[?7labcd", "abcd 3 0",
		"~[?7labcde", "abce 3 0",
		"~[?7labc中", "abc_ 3 0",
		"~[?7lab中", "ab<> 3 0",
		"~[?7lab中中", "ab<> 3 0",
		"~[?7lab中c", "ab_c 3 0",
		"abcd~[?7le", "abce 3 0",
		"abcd~[?7l~[?7he", "abce 3 0 late",
		"~[?7labcd~[?7he", "abce 3 0 late",
		"~[?7l~[4habcde", "abce 3 0",
		"~[?7l~[4ha中bc", "a<>c 3 0",
		"~[4habcde", "abcd+|e___ 1 1",
		"abcd\r~[4hX", "Xabc 1 0",
		"abcd\r~[4h中", "<>ab 2 0",
		"abcd\r~[4h~[4lX", "Xbcd 1 0",
		"abcd~[4h~[1;4HX", "abcX 3 0 late",
		"abcd~[4h~[1;3HX", "abXc 3 0",
		"abcd~[4h~[1;3H中", "ab<> 3 0 late",
		"abcd~[4h~[1;4H中", "abc_-|<>__ 2 1",
		"ab中\r~[4hX", "Xab_ 1 0",
		"ab中~[4h\r中", "<>ab 2 0",
		"a中b\r~[C~[C~[4hX", "a_X_ 3 0",
		"a中b\r~[C~[4hX", "aX<> 2 0",
		"a中b\r~[4h\u0301", "a<>b 0 0",
		"abcde~[1;1H~[4hX", "Xabc|e___ 1 0",
		"abc中~[1;1H~[4hX", "Xabc|<>__ 1 0",
		"abcdeX~[1;1H~[4h\u0301", "abcd+|eX__ 0 0",
	)
}

// P16.1: which lines are touched, and which stay Joined and Short.
func TestTouched(t *testing.T) {
	for _, x := range []struct{ does, joined, short string }{
		{"~[1;1HX", "Xbcd+|e___ 1 0", "Xbc_-|<>__ 1 0"},
		{"~[1;3HX", "abXd+|e___ 3 0", "abX_-|<>__ 3 0"},
		{"~[1;4HX", "abcX|e___ 3 0 late", "abcX|<>__ 3 0 late"},
		{"~[1;2H中", "a<>d+|e___ 3 0", "a<>_-|<>__ 3 0"},
		{"~[1;3H中", "ab<>|e___ 3 0 late", "ab<>|<>__ 3 0 late"},
		{"~[1;4H中", "abc_-|<>__ 2 1", "abc_-|<>__ 2 1"},
		{"~[1;4HXY", "abcX+|Y___ 1 1", "abcX+|Y___ 1 1"},
		{"~[1;1H~[@", "_abc|e___ 0 0", "_abc|<>__ 0 0"},
		{"~[1;1H~[P", "bcd_|e___ 0 0", "bc__|<>__ 0 0"},
		{"~[1;1H~[X", "_bcd|e___ 0 0", "_bc_|<>__ 0 0"},
		{"~[1;3H~[9X", "ab__|e___ 2 0", "ab__|<>__ 2 0"},
		{"~[1;2H~[K", "a___|e___ 1 0", "a___|<>__ 1 0"},
		{"~[1;2H~[1K", "__cd|e___ 1 0", "__c_|<>__ 1 0"},
		{"~[1;2H~[2K", "____|e___ 1 0", "____|<>__ 1 0"},
		{"~[1;2H~[3K", "abcd+|e___ 1 0", "abc_-|<>__ 1 0"},
		{"~[1;2H~[J", "a___|____ 1 0", "a___|____ 1 0"},
		{"~[1;2H~[1J", "__cd|e___ 1 0", "__c_|<>__ 1 0"},
		{"~[2;1H~[J", "abcd+|____ 0 1", "abc_-|____ 0 1"},
		{"~[2;2H~[1J", "____|____ 1 1", "____|____ 1 1"},
		{"~[2;1H~[2J", "____|____ 0 1", "____|____ 0 1"},
		{"~[2;1H~[3J", "abcd+|e___ 0 1", "abc_-|<>__ 0 1"},
		{"~[1;1H~[L", "____|abcd+|e___ 0 0", "____|abc_-|<>__ 0 0"},
		{"~[2;1H~[L", "abcd+|____|e___ 0 1", "abc_-|____|<>__ 0 1"},
		{"~[2;1H~[M", "abcd+|____|____ 0 1", "abc_-|____|____ 0 1"},
		{"~[1;1H~[T", "____|abcd+|e___ 0 0", "____|abc_-|<>__ 0 0"},
		{"~[1;1H~M", "____|abcd+|e___ 0 0", "____|abc_-|<>__ 0 0"},
		{"~[1;1H~[S", "e___|____ 0 0 ^abcd+", "<>__|____ 0 0 ^abc_-"},
		{"~[3;1H\n", "e___|____ 0 2 ^abcd+", "<>__|____ 0 2 ^abc_-"},
		{"~[1;1H\b\t\r\v", "abcd+|e___ 0 1", "abc_-|<>__ 0 1"},
		{"~[1;1H~H~[g~7~8~[2;3r~[?6h~[?25l~[4h~[1m", "abcd+|e___ 0 1", "abc_-|<>__ 0 1"},
	} {
		streams(t, 4, 3, 2, "abcde"+x.does, x.joined, "abc中"+x.does, x.short)
	}
}

// P16.1: down and up at the region's edges and outside of it, and what comes into the back.
func TestRegion(t *testing.T) {
	const page = "a~[2;1Hb~[3;1Hc~[4;1Hd~[5;1He"
	regions := map[string]string{"all": "", "top": "~[1;3r", "middle": "~[2;4r", "bottom": "~[3;5r"}
	for _, x := range []struct{ region, does, want string }{
		{"all", "~[5;2H\n", "b_|c_|d_|e_|__ 1 4 ^a_"},
		{"all", "~[4;2H\n", "a_|b_|c_|d_|e_ 1 4"},
		{"all", "~[1;2H~M", "__|a_|b_|c_|d_ 1 0"},
		{"all", "~[2;2H~M", "a_|b_|c_|d_|e_ 1 0"},
		{"all", "~[5;2H~D~D~D", "d_|e_|__|__|__ 1 4 ^b_|c_"},
		{"all", "~[5;2H~E", "b_|c_|d_|e_|__ 0 4 ^a_"},
		{"all", "~[1;2H~E", "a_|b_|c_|d_|e_ 0 1"},
		{"all", "~[3;2H~[2S", "c_|d_|e_|__|__ 1 2 ^a_|b_"},
		{"all", "~[3;2H~[9999S", "__|__|__|__|__ 1 2 ^d_|e_"},
		{"all", "~[3;2H~[9999T", "__|__|__|__|__ 1 2"},
		{"all", "~[3;2H~[0S", "b_|c_|d_|e_|__ 1 2 ^a_"},
		{"all", "~[3;2H~[4T", "__|__|__|__|a_ 1 2"},
		{"all", "~[5;2HxY", "b_|c_|d_|ex+|Y_ 1 4 ^a_"},
		{"top", "~[3;2H\n", "b_|c_|__|d_|e_ 1 2 ^a_"},
		{"top", "~[4;2H\n", "a_|b_|c_|d_|e_ 1 4"},
		{"top", "~[5;2H\n", "a_|b_|c_|d_|e_ 1 4"},
		{"top", "~[5;2H~M", "a_|b_|c_|d_|e_ 1 3"},
		{"top", "~[4;2H~M", "a_|b_|c_|d_|e_ 1 2"},
		{"top", "~[1;2H~M", "__|a_|b_|d_|e_ 1 0"},
		{"top", "~[5;2H~[2S", "c_|__|__|d_|e_ 1 4 ^a_|b_"},
		{"top", "~[5;2H~[2T", "__|__|a_|d_|e_ 1 4"},
		{"top", "~[5;2H~[9S", "__|__|__|d_|e_ 1 4 ^b_|c_"},
		{"top", "~[5;1Hxyz", "a_|b_|c_|d_|zy+ 1 4"},
		{"top", "~[5;2H中", "a_|b_|c_|d_|<> 1 4 late"},
		{"top", "~[5;2H中z", "a_|b_|c_|d_|z_+ 1 4"},
		{"top", "~[3;2HxY", "b_|cx+|Y_|d_|e_ 1 2 ^a_"},
		{"middle", "~[4;2H\n", "a_|c_|d_|__|e_ 1 3"},
		{"middle", "~[1;2H\n", "a_|b_|c_|d_|e_ 1 1"},
		{"middle", "~[5;2H\n", "a_|b_|c_|d_|e_ 1 4"},
		{"middle", "~[2;2H~M", "a_|__|b_|c_|e_ 1 1"},
		{"middle", "~[1;2H~M", "a_|b_|c_|d_|e_ 1 0"},
		{"middle", "~[5;2H~M", "a_|b_|c_|d_|e_ 1 3"},
		{"middle", "~[1;2H~[S", "a_|c_|d_|__|e_ 1 0"},
		{"middle", "~[1;2H~[9T", "a_|__|__|__|e_ 1 0"},
		{"middle", "~[2;2H~[L", "a_|__|b_|c_|e_ 0 1"},
		{"middle", "~[3;2H~[9L", "a_|b_|__|__|e_ 0 2"},
		{"middle", "~[4;2H~[2L", "a_|b_|c_|__|e_ 0 3"},
		{"middle", "~[1;2H~[L", "a_|b_|c_|d_|e_ 1 0"},
		{"middle", "~[5;2H~[L", "a_|b_|c_|d_|e_ 1 4"},
		{"middle", "~[2;2H~[M", "a_|c_|d_|__|e_ 0 1"},
		{"middle", "~[3;2H~[9M", "a_|b_|__|__|e_ 0 2"},
		{"middle", "~[1;2H~[M", "a_|b_|c_|d_|e_ 1 0"},
		{"middle", "~[5;2H~[M", "a_|b_|c_|d_|e_ 1 4"},
		{"bottom", "~[5;2H\n", "a_|b_|d_|e_|__ 1 4"},
		{"bottom", "~[3;2H~M", "a_|b_|__|c_|d_ 1 2"},
		{"bottom", "~[2;2H~M", "a_|b_|c_|d_|e_ 1 0"},
		{"bottom", "~[2;2H\n", "a_|b_|c_|d_|e_ 1 2"},
		{"bottom", "~[1;2H~[2S", "a_|b_|e_|__|__ 1 0"},
		{"all", "~[1;2H~[M", "b_|c_|d_|e_|__ 0 0"},
		{"all", "~[1;2H~[9M", "__|__|__|__|__ 0 0"},
		{"top", "~[1;2H~[2M", "c_|__|__|d_|e_ 0 0"},
	} {
		streams(t, 2, 5, 2, page+regions[x.region]+x.does, x.want)
	}
	streams(t, 2, 2, 0, "a\r\nb\r\nc", "b_|c_ 1 1")
	streams(t, 2, 2, 1, "a\r\nb\r\nc\r\nd", "c_|d_ 1 1 ^b_")
	streams(t, 2, 1, 3, "a\n\n\n\n", "__ 1 0 ^__|__|__")
	streams(t, 2, 1, 3, "a~M", "__ 1 0")
}

// P16.1: the other page has no back, and what is scrolled out of it is gone.
func TestOtherPageAndBack(t *testing.T) {
	streams(t, 2, 2, 3,
		"a\r\nb\r\nc~[?47hx\r\ny\r\nz", "y_|z_ 1 1 ^a_",
		"a\r\nb\r\nc~[?47h~[2S~D", "__|__ 1 1 ^a_",
		"a\r\nb\r\nc~[?47hxy~[?47l\r\nd", "c_|d_ 1 1 ^a_|b_",
		"a\r\nb\r\nc~[?47h~[3J", "__|__ 1 1",
	)
}

// P16.1: Csi r.
func TestSetRegion(t *testing.T) {
	for _, x := range []struct {
		stream            string
		top, bottom, x, y int
	}{
		{"", 0, 4, 2, 3}, {"~[r", 0, 4, 0, 0}, {"~[2r", 1, 4, 0, 0}, {"~[;3r", 0, 2, 0, 0}, {"~[2;4r", 1, 3, 0, 0}, {"~[2;3r", 1, 2, 0, 0}, {"~[4;5r", 3, 4, 0, 0},
		{"~[2;2r", 0, 4, 2, 3}, {"~[3;2r", 0, 4, 2, 3}, {"~[5r", 0, 4, 2, 3}, {"~[5;5r", 0, 4, 2, 3}, {"~[6;9r", 0, 4, 2, 3}, {"~[9999;9999r", 0, 4, 2, 3}, {"~[1;1r", 0, 4, 2, 3},
		{"~[0;0r", 0, 4, 0, 0}, {"~[2;0r", 1, 4, 0, 0}, {"~[2;9999r", 1, 4, 0, 0}, {"~[4;6r", 3, 4, 0, 0}, {"~[2:9;4:1r", 1, 3, 0, 0}, {"~[2;4;1r", 1, 3, 0, 0}, {"~[?2;4r", 0, 4, 2, 3}, {"~[2;4!r", 0, 4, 2, 3},
		{"~[2;4r~[4;3H~[4;3r", 1, 3, 2, 3}, {"~[2;4r~[4;3H~[r", 0, 4, 0, 0}, {"~[2;4r~[1;2r", 0, 1, 0, 0},
		{"~[?6h~[3;4r", 2, 3, 0, 2}, {"~[3;4r~[?6h", 2, 3, 0, 2}, {"~[3;4r~[?6h~[?6l", 2, 3, 0, 0}, {"~[?6h~[3;4r~[2;2H~[4;3r", 2, 3, 1, 3},
	} {
		s := feed(made(t, 4, 5, 0), "~[4;3H"+x.stream)
		top, bottom := s.Region()
		if cx, cy, _ := s.Cursor(); top != x.top || bottom != x.bottom || cx != x.x || cy != x.y {
			t.Errorf("%q: region %d %d, cursor %d %d", x.stream, top, bottom, cx, cy)
		}
	}
	for _, p := range [][2]int{{-5, 3}, {math.MinInt, 3}, {0, 3}, {1, 3}} {
		s := made(t, 4, 5, 0)
		s.Apply(csi('r', p[0], p[1]))
		if top, bottom := s.Region(); top != 0 || bottom != 2 {
			t.Errorf("Csi r of %v: %d %d", p, top, bottom)
		}
	}
	for _, b := range []int{-1, math.MinInt, math.MinInt + 1, 1} {
		s := made(t, 4, 5, 0)
		s.Apply(csi('r', 1, b))
		if top, bottom := s.Region(); top != 0 || bottom != 4 {
			t.Errorf("Csi r of 1, %d: %d %d", b, top, bottom)
		}
	}
}

// csi is a control sequence without Mids, each parameter of one part.
func csi(final byte, numbers ...int) events.Event {
	e := events.Event{Kind: events.Csi, Final: final}
	for _, n := range numbers {
		e.Params = append(e.Params, []int{n})
	}
	return e
}

// P16.1: each move of the cursor, from the corners, the middle, in a region and outside of it, with origin and without.
func TestMoves(t *testing.T) {
	for _, x := range []struct {
		stream string
		x, y   int
	}{
		{"\b", 4, 3}, {"~[1;1H\b", 0, 0}, {"\b\b\b\b\b\b", 0, 3}, {"\r", 0, 3}, {"\t", 8, 3}, {"\t\t", 11, 3}, {"\t\t\b\t", 11, 3}, {"\n", 5, 4}, {"\v", 5, 4}, {"\f", 5, 4}, {"\a", 5, 3}, {"\x0e", 5, 3}, {"\x07\x0f\x00", 5, 3},
		{"~D", 5, 4}, {"~E", 0, 4}, {"~M", 5, 2}, {"~#D", 5, 3}, {"~(M", 5, 3}, {"~A", 5, 3}, {"~#8", 5, 3}, {"~(c", 5, 3}, {"~=", 5, 3},
		{"~[A", 5, 2}, {"~[0A", 5, 2}, {"~[1A", 5, 2}, {"~[2A", 5, 1}, {"~[9999A", 5, 0}, {"~[2:9A", 5, 1}, {"~[;9A", 5, 2}, {"~[?A", 5, 3}, {"~[ A", 5, 3}, {"~[>2A", 5, 3},
		{"~[B", 5, 4}, {"~[2B", 5, 5}, {"~[9999B", 5, 6}, {"~[e", 5, 4}, {"~[2e", 5, 5}, {"~[9999e", 5, 6},
		{"~[C", 6, 3}, {"~[3C", 8, 3}, {"~[9999C", 11, 3}, {"~[a", 6, 3}, {"~[3a", 8, 3}, {"~[9999a", 11, 3}, {"~[D", 4, 3}, {"~[3D", 2, 3}, {"~[9999D", 0, 3},
		{"~[E", 0, 4}, {"~[2E", 0, 5}, {"~[99E", 0, 6}, {"~[F", 0, 2}, {"~[2F", 0, 1}, {"~[99F", 0, 0},
		{"~[G", 0, 3}, {"~[0G", 0, 3}, {"~[1G", 0, 3}, {"~[3G", 2, 3}, {"~[12G", 11, 3}, {"~[13G", 11, 3}, {"~[`", 0, 3}, {"~[3`", 2, 3}, {"~[9999`", 11, 3},
		{"~[d", 5, 0}, {"~[2d", 5, 1}, {"~[7d", 5, 6}, {"~[8d", 5, 6}, {"~[9999d", 5, 6},
		{"~[H", 0, 0}, {"~[2H", 0, 1}, {"~[;2H", 1, 0}, {"~[2;3H", 2, 1}, {"~[7;12H", 11, 6}, {"~[8;13H", 11, 6}, {"~[9999;9999H", 11, 6}, {"~[0;0H", 0, 0}, {"~[f", 0, 0}, {"~[2;3f", 2, 1}, {"~[9999;9999f", 11, 6}, {"~[2:7;3:7H", 2, 1}, {"~[2;3;4H", 2, 1}, {"~[?2;3H", 5, 3},
		{"~[I", 8, 3}, {"~[2I", 11, 3}, {"~[9999I", 11, 3}, {"~[0I", 8, 3}, {"~[Z", 0, 3}, {"~[12G~[Z", 8, 3}, {"~[12G~[2Z", 0, 3}, {"~[12G~[9999Z", 0, 3}, {"~[9G~[Z", 0, 3},
		{"~[3;5r~[4;6H~[9A", 5, 2}, {"~[3;5r~[3;6H~[9A", 5, 2}, {"~[3;5r~[2;6H~[9A", 5, 0}, {"~[3;5r~[7;6H~[9A", 5, 2}, {"~[3;5r~[4;6H~[9B", 5, 4}, {"~[3;5r~[5;6H~[9B", 5, 4}, {"~[3;5r~[6;6H~[9B", 5, 6}, {"~[3;5r~[1;6H~[9B", 5, 4}, {"~[3;5r~[1;6H~[9e", 5, 4}, {"~[3;5r~[4;6H~[9E", 0, 4}, {"~[3;5r~[4;6H~[9F", 0, 2},
		{"~[3;5r~[4;6H~[1d", 5, 0}, {"~[3;5r~[?6h~[2;6H", 5, 3}, {"~[3;5r~[?6h~[9;6H", 5, 4}, {"~[3;5r~[?6h~[1;6H", 5, 2}, {"~[3;5r~[?6h~[2;6f", 5, 3}, {"~[3;5r~[?6h~[4G~[1d", 3, 2}, {"~[3;5r~[?6h~[4G~[3d", 3, 4}, {"~[3;5r~[?6h~[4G~[4d", 3, 4}, {"~[3;5r~[?6h~[2d~[G", 0, 3}, {"~[3;5r~[?6h~[2d~[7`", 6, 3},
		{"~[3;5r~[7;6H~[2G", 1, 6}, {"~[3;5r~7~[2;6H~[?6h~8~[2G", 1, 0}, {"~[7;6H~7~[?6h~[3;5r~8~[2G", 1, 6}, {"~[?6h~[7;6H~7~[3;5r~8~[2G", 1, 6}, {"~[?6h~[7;6H~7~[3;5r~8~[2d", 5, 3},
	} {
		s := feed(made(t, 12, 7, 0), "~[4;6H"+x.stream)
		if cx, cy, late := s.Cursor(); cx != x.x || cy != x.y || late {
			t.Errorf("%q: cursor %d %d %v, not %d %d", x.stream, cx, cy, late, x.x, x.y)
		}
	}
}

// P16.1, R1: parameters that no stream has: below 0, as great as can be, and without parts.
func TestStrangeParams(t *testing.T) {
	const finals = "@ABCDEFGHIJKLMPSTXZ`abdefghlmrsu"
	for _, final := range []byte(finals) {
		for _, a := range append([]int{2, 3, 7, 25, 47, -47}, extremes...) {
			for _, b := range append([]int{1, 2}, extremes...) {
				for _, mids := range []string{"", "?"} {
					for _, params := range [][][]int{{{a}}, {{a}, {b}}, {{a, b}, {b, a}}, {{}, {a}}, {nil, {b}, {}}, {{a}, {}}, {{}}, {nil}} {
						e := events.Event{Kind: events.Csi, Final: final, Mids: mids, Params: params}
						s, m := made(t, 5, 4, 2), atFirst(5, 4, 2)
						for _, x := range append(told("abcdefg中hijkl\r\nmn\r\nop~[2;4r~[3;3H"), e) {
							s.Apply(x)
							m.apply(x)
						}
						holds(t, s, m, string(final))
					}
				}
			}
		}
	}
}

// P16.1: what ends late, and what does not.
func TestLate(t *testing.T) {
	for _, stream := range []string{"\b", "\t", "\n", "\v", "\f", "\r"} {
		lates(t, stream, false)
	}
	ends := "~7 ~8 ~D ~E ~M ~H ~c ~[A ~[B ~[e ~[C ~[a ~[D ~[E ~[F ~[G ~[4` ~[d ~[H ~[f ~[I ~[Z ~[J ~[1J ~[2J ~[3J ~[K ~[1K ~[2K ~[L ~[M ~[@ ~[P ~[X ~[S ~[T ~[g ~[3g ~[r ~[9r ~[2;1r ~[s ~[u ~[h ~[l ~[4h ~[4l ~[99h ~[?h ~[?l ~[?1h ~[?6l ~[?7h ~[?7l ~[?25l ~[?47h ~[?1047l ~[?1049l ~[?2004h ~[?12h ~[?4l"
	for _, stream := range strings.Fields(ends) {
		lates(t, stream, false)
	}
	stays := "~[m ~[1m ~[31;4m ~[9999m \u0301 \a \x0e \x00 ~[?m ~[?J ~[?K ~[>H ~[!p ~[4J ~[9999J ~[3K ~[9999K ~[1g ~[2g ~[4g ~[?A ~[?g ~[?s ~[?u ~[?r ~[=h ~[>25l ~[!h ~[4$h ~[?25$l ~[c ~[n ~[6n ~[b ~[i ~[j ~[k ~[q ~[t ~[v ~[w ~[x ~[y ~[z ~[N ~[O ~[Q ~[R ~[U ~[V ~[W ~[Y ~[[ ~[\\ ~[] ~[^ ~[_ ~[{ ~[| ~[} ~#8 ~(B ~(7 ~#D ~(E ~(M ~(H ~#c ~= ~> ~1 ~6 ~9 ~A ~C ~N ~O ~d ~e ~m ~]0;t\a ~P1$qm~\\ ~Xabc~\\ ~\\"
	for _, stream := range strings.Fields(stays) {
		lates(t, stream, true)
	}
	for kind := -3; kind < 12; kind++ {
		if kind >= events.Print && kind <= events.Csi {
			continue
		}
		for _, final := range []byte("\n\rcDEHJK7") {
			s := feed(made(t, 4, 3, 2), "abcd")
			s.Apply(events.Event{Kind: kind, Final: final, Rune: 'x', Text: "x"})
			if got := shows(s); got != "abcd|____|____ 3 0 late" {
				t.Errorf("kind %d, %q: %s", kind, final, got)
			}
		}
	}
}

// lates wants a stream to leave the page late, or not to, whatever else it does.
func lates(t *testing.T, stream string, want bool) {
	t.Helper()
	s := feed(made(t, 4, 3, 2), "abcd")
	feed(s, stream)
	x, y, late := s.Cursor()
	if late != want {
		t.Errorf("behind %q: late %v", stream, late)
	}
	if want && (x != 3 || y != 0 || shows(s) != "abcd|____|____ 3 0 late") {
		t.Errorf("behind %q: %s", stream, shows(s))
	}
}

// P16.1: what stands where late has ended, and where it has not.
func TestBehindLate(t *testing.T) {
	streams(t, 4, 3, 2,
		"abcd~[1me", "abcd+|e___ 1 1",
		"abcd~[Ce", "abce 3 0 late",
		"abcd\be", "abed 3 0",
		"abcd\re", "ebcd 1 0",
		"abcd\ne", "abcd|___e 3 1 late",
		"abcd\r\ne", "abcd|e___ 1 1",
		"abcd\te", "abce 3 0 late",
		"abcd~7~8e", "abce 3 0 late",
		"abcd~7e~8f", "abcf 3 0 late",
		"abcd~[Ke", "abce 3 0 late",
		"abcd~[K", "abc_ 3 0",
		"abcd~[P", "abc_ 3 0",
		"abcd~[@e", "abce 3 0 late",
		"abcd\ae", "abcd+|e___ 1 1",
		"abcd~[9Je", "abcd+|e___ 1 1",
		"abcd~[9he", "abce 3 0 late",
	)
}

// P16.1: erasing and moving cells, at the first and the last columns, over halves of wide characters.
func TestCells(t *testing.T) {
	streams(t, 6, 3, 0,
		"abcdef~[1;1H~[@", "_abcde 0 0",
		"abcdef~[1;3H~[2@", "ab__cd 2 0",
		"abcdef~[1;6H~[@", "abcde_ 5 0",
		"abcdef~[1;3H~[9999@", "ab____ 2 0",
		"abcdef~[1;3H~[0@", "ab_cde 2 0",
		"abc中d~[1;1H~[@", "_abc<> 0 0",
		"abcd中~[1;1H~[@", "_abcd_ 0 0",
		"a中bcd~[1;3H~[@", "a___bc 2 0",
		"abcdef~[1;1H~[P", "bcdef_ 0 0",
		"abcdef~[1;3H~[2P", "abef__ 2 0",
		"abcdef~[1;6H~[P", "abcde_ 5 0",
		"abcdef~[1;3H~[9999P", "ab____ 2 0",
		"a中bcd~[1;3H~[P", "a_bcd_ 2 0",
		"a中bcd~[1;1H~[2P", "_bcd__ 0 0",
		"abcdef~[1;1H~[X", "_bcdef 0 0",
		"abcdef~[1;3H~[2X", "ab__ef 2 0",
		"abcdef~[1;6H~[2X", "abcde_ 5 0",
		"abcdef~[1;3H~[9999X", "ab____ 2 0",
		"a中中d~[1;3H~[2X", "a____d 2 0",
		"abcdef~[1;3H~[K", "ab____ 2 0",
		"abcdef~[1;3H~[0K", "ab____ 2 0",
		"abcdef~[1;3H~[1K", "___def 2 0",
		"abcdef~[1;3H~[2K", "______ 2 0",
		"abcdef~[1;1H~[1K", "_bcdef 0 0",
		"abcdef~[1;6H~[1K", "______ 5 0",
		"abcdef~[1;1H~[K", "______ 0 0",
		"abcdef~[1;6H~[K", "abcde_ 5 0",
		"abcdef~[1;3H~[1:2K", "___def 2 0",
		"abcdef~[1;3H~[;2K", "ab____ 2 0",
		"a中bcd~[1;3H~[K", "a_____ 2 0",
		"a中bcd~[1;2H~[1K", "___bcd 1 0",
	)
	const page = "abcdef~[2;1Hghijkl~[3;1Hmnopqr~[2;3H"
	streams(t, 6, 3, 0,
		page+"~[J", "abcdef|gh____|______ 2 1",
		page+"~[0J", "abcdef|gh____|______ 2 1",
		page+"~[1J", "______|___jkl|mnopqr 2 1",
		page+"~[2J", "______|______|______ 2 1",
		page+"~[3J", "abcdef|ghijkl|mnopqr 2 1",
		page+"~[4J", "abcdef|ghijkl|mnopqr 2 1",
		page+"~[9999J", "abcdef|ghijkl|mnopqr 2 1",
		page+"~[1:2J", "______|___jkl|mnopqr 2 1",
		page+"~[;2J", "abcdef|gh____|______ 2 1",
		page+"~[1;1H~[J", "______|______|______ 0 0",
		page+"~[1;1H~[1J", "_bcdef|ghijkl|mnopqr 0 0",
		page+"~[3;6H~[J", "abcdef|ghijkl|mnopq_ 5 2",
		page+"~[3;6H~[1J", "______|______|______ 5 2",
		page+"~[2;3r~[1;2H~[J", "a_____|______|______ 1 0",
		page+"~[L", "abcdef|______|ghijkl 0 1",
		page+"~[0L", "abcdef|______|ghijkl 0 1",
		page+"~[9999L", "abcdef|______|______ 0 1",
		page+"~[M", "abcdef|mnopqr|______ 0 1",
		page+"~[9999M", "abcdef|______|______ 0 1",
	)
	streams(t, 6, 1, 3, "a\nb\nc~[3J", "__c___ 3 0", "a\nb\nc~[2J", "______ 3 0 ^a_____|_b____", "a\nb\nc~[3J~[S", "______ 3 0 ^__c___")
}

// P16.1: what is erased, inserted or comes in has no attribute; what is written has the Attr.
func TestAttr(t *testing.T) {
	s := feed(made(t, 4, 3, 2), "~[1;31;44mab~[4;33m中")
	a := api.Attr{Flags: 1, Fg: api.Color{Kind: 1, N: 1}, Bg: api.Color{Kind: 1, N: 4}}
	b := api.Attr{Flags: 9, Fg: api.Color{Kind: 1, N: 3}, Bg: api.Color{Kind: 1, N: 4}}
	want := []api.Cell{{Rune: 'a', Attr: a}, {Rune: 'b', Attr: a}, {Rune: wide, Wide: 1, Attr: b}, {Rune: wide, Wide: 2, Attr: b}}
	if got := s.Lines()[0].Cells; !slices.Equal(got, want) || s.Attr() != b {
		t.Errorf("%v, %v", got, s.Attr())
	}
	for _, does := range []string{"~[2J", "~[1;1H~[J", "~[1J", "~[2K", "~[K~[1K", "~[1;1H~[4X", "~[1;1H~[4P", "~[1;1H~[4@", "~[S", "~[1;1H~[M", "~[3T", "~[3;1H\n\n\n", "~[1;1H~M~M~M", "~[1;1H~[3L", "~[?47h"} {
		s := feed(made(t, 4, 3, 0), "~[1;31;44mab~[4;33m中"+does)
		if got := said(s.Lines()); strings.Trim(got, "_|") != "" || s.Attr() != b {
			t.Errorf("%q: %s, %v", does, got, s.Attr())
		}
	}
	// The halves of a wide character that is cut through keep what they were shown with.
	streams(t, 4, 1, 0, "~[1m中中~[m\rx", "x*<> 1 0", "~[1m中中~[m~[1;2H~[K", "*___ 1 0", "~[1m中中~[m~[1;2H~[1K", "__<> 1 0", "~[1mab中~[1;1H~[@", "_ab* 0 0", "~[1ma中~[1;4H中", "<>__ 2 0", "~[1mab中~[1;4H中", "<>__ 2 0")
	streams(t, 4, 2, 0, "~[1mab中~[1;4H中", "ab*_-|<>__ 2 1")
	if got := feed(made(t, 4, 1, 0), "~[1;31m~[m").Attr(); got != (api.Attr{}) {
		t.Errorf("behind m: %v", got)
	}
}

// P16.1: stops.
func TestStops(t *testing.T) {
	for _, x := range []struct {
		stream string
		want   []int
	}{
		{"", []int{8, 16}}, {"~[3g", nil}, {"~[1;9H~[g", []int{16}}, {"~[1;9H~[0g", []int{16}}, {"~[1;8H~[g", []int{8, 16}}, {"~[1;4H~H", []int{3, 8, 16}}, {"~H", []int{0, 8, 16}}, {"~[1;20H~H", []int{8, 16, 19}}, {"~[1;9H~H", []int{8, 16}},
		{"~[3g~[1;4H~H~[1;2H~H", []int{1, 3}}, {"~[1g~[2g~[4g~[9999g~[?3g~[3!g", []int{8, 16}}, {"~[3:1g", nil}, {"~[;3g", []int{8, 16}}, {"~[3g~H~c", []int{8, 16}}, {"abcdefghijklmnopqrst~H", []int{8, 16, 19}}, {"~[3g~[?47h~H~[?47l", []int{0}},
	} {
		if got := feed(made(t, 20, 2, 0), x.stream).Stops(); !slices.Equal(got, x.want) {
			t.Errorf("%q: %v, not %v", x.stream, got, x.want)
		}
	}
	for _, x := range []struct {
		stream string
		want   int
	}{{"~[3g\t", 19}, {"~[3g~[1;4H~H\r\t", 3}, {"~[1;4H~H\r\t\t", 8}, {"~[1;4H~H\r~[3I", 16}, {"~[1;4H~H~[1;20H~[3Z", 3}, {"~[1;4H~H~[1;20H~[4Z", 0}, {"~[1;9H~[g\r\t", 16}} {
		if got, _, _ := feed(made(t, 20, 2, 0), x.stream).Cursor(); got != x.want {
			t.Errorf("%q: %d, not %d", x.stream, got, x.want)
		}
	}
	s := feed(made(t, 20, 2, 0), "~[3g~[1;4H~H~[1;18H~H")
	s.Resize(10, 2)
	s.Resize(30, 2)
	if got := s.Stops(); !slices.Equal(got, []int{3, 16, 24}) {
		t.Errorf("resized: %v", got)
	}
}

// P16.1, P16.2: modes, by each of their numbers, one and several in a sequence.
func TestModes(t *testing.T) {
	all := []int{1, 4, 6, 7, 25, 47, 1047, 1049, 2004}
	for _, x := range []struct {
		stream string
		on     []int
	}{
		{"", []int{7, 25}}, {"~[4h", []int{4, 7, 25}}, {"~[4h~[4l", []int{7, 25}}, {"~[?4h", []int{7, 25}}, {"~[?1h", []int{1, 7, 25}}, {"~[?1h~[1l", []int{1, 7, 25}}, {"~[1h~[6h~[47h~[2004h~[7l~[25l", []int{7, 25}},
		{"~[?6h", []int{6, 7, 25}}, {"~[?7l", []int{25}}, {"~[?25l", []int{7}}, {"~[?2004h", []int{7, 25, 2004}}, {"~[?47h", []int{7, 25, 47, 1047, 1049}}, {"~[?1047h", []int{7, 25, 47, 1047, 1049}}, {"~[?1049h", []int{7, 25, 47, 1047, 1049}},
		{"~[?47h~[?1049l", []int{7, 25}}, {"~[?1047h~[?47l", []int{7, 25}}, {"~[?1049h~[?1047l", []int{7, 25}}, {"~[?47;47h~[?1049l", []int{7, 25}},
		{"~[?1;6;7;25;47;2004h", []int{1, 6, 7, 25, 47, 1047, 1049, 2004}}, {"~[?1;6;7;25;47;2004h~[?2004;47;25;7;6;1l", nil}, {"~[?1;99;7l", []int{25}}, {"~[?99;0;;1h", []int{1, 7, 25}}, {"~[?1:6h", []int{1, 7, 25}}, {"~[?6:1;7:25l", []int{25}},
		{"~[4;4h", []int{4, 7, 25}}, {"~[1;4h", []int{4, 7, 25}}, {"~[4;9h~[9;4l", []int{7, 25}}, {"~[h~[l~[?h~[?l", []int{7, 25}}, {"~[>1h~[=4h~[<6h~[!4h~[?1$h", []int{7, 25}}, {"~[?9999h~[9999h~[?1048h~[?46;48h", []int{7, 25}},
		{"~[?1;6;47;2004h~[4h~[?7;25l~c", []int{7, 25}},
	} {
		s := feed(made(t, 4, 3, 2), x.stream)
		for _, n := range append(all, append(extremes, 2, 3, 5, 8, 24, 26, 46, 48, 1046, 1048, 1050, 2003, 2005, 9999)...) {
			if got, want := s.Mode(n), slices.Contains(x.on, n); got != want {
				t.Errorf("%q: Mode(%d) is %v", x.stream, n, got)
			}
		}
	}
	streams(t, 4, 3, 2,
		"~[2;3r~[3;3H~[?6h", "____ 0 1",
		"~[2;3r~[3;3H~[?6l", "____ 0 0",
		"~[2;3r~[?6h~[?6h", "____ 0 1",
		"~[2;3r~[?6h~[2;2H~[?6h", "____ 0 1",
		"~[2;3r~[?6h~[2;2H~[?6;25h", "____ 0 1",
		"~[2;3r~[?6h~[2;2H~[?25;6l", "____ 0 0",
		"~[2;3r~[?6;6l~[2;2Hx", "____|_x__ 2 1",
		"~[3;3H~[6h", "____ 2 2",
	)
}

// P16.1: a place is kept, and come back to.
func TestKept(t *testing.T) {
	for _, pair := range [][2]string{{"~7", "~8"}, {"~[s", "~[u"}, {"~7", "~[u"}, {"~[s", "~8"}, {"~[9s", "~[9;9u"}} {
		keep, come := pair[0], pair[1]
		streams(t, 4, 4, 0,
			"ab"+come, "ab__ 0 0",
			"~[1mab"+come+"c", "cb__ 1 0",
			"~[2;3H"+keep+"~[4;1H"+come, "____ 2 1",
			"~[2;3H"+keep+"~[4;1H"+come+"~[3;2H"+come, "____ 2 1",
			"~[2;3H"+keep+"~[4;1H"+keep+"~[H"+come, "____ 0 3",
			"~[2;4r~[?6h~[2;3H"+keep+"~[1;1H"+come, "____ 2 2",
			"~[2;4r~[?6h~[2;3H"+keep+"~[?6l"+come+"~[1;1H", "____ 0 1",
			"~[2;3H"+keep+"~[2;4r~[?6h"+come+"~[1;1H", "____ 0 0",
			"~[2;4r~[?6h~[2;3H"+come+"~[1;2H", "____ 1 0",
			"~[1;1H"+keep+"~[2;4r~[?6h"+come, "____ 0 0",
			"abcd"+keep+come, "abcd 3 0",
			"~[2;3H"+keep+"~c"+come, "____ 0 0",
		)
		s := feed(made(t, 4, 4, 0), "~[1;31m"+keep+"~[m"+come)
		if s.Attr() != (api.Attr{Flags: 1, Fg: api.Color{Kind: 1, N: 1}}) {
			t.Errorf("%q, %q: %v", keep, come, s.Attr())
		}
		s = feed(made(t, 4, 4, 0), "~[1;31m~[?6h"+come)
		if s.Attr() != (api.Attr{}) || s.Mode(6) {
			t.Errorf("%q without a place: %v, %v", come, s.Attr(), s.Mode(6))
		}
		s = feed(made(t, 4, 4, 0), "~[?6h"+keep+"~[?6l~[?25l~[?7l"+come)
		if !s.Mode(6) || s.Mode(7) || s.Mode(25) {
			t.Errorf("%q, %q: modes", keep, come)
		}
		s = feed(made(t, 9, 9, 0), "~[8;7H"+keep)
		s.Resize(5, 4)
		if x, y, _ := feed(s, come).Cursor(); x != 4 || y != 3 {
			t.Errorf("%q, %q, narrower: %d %d", keep, come, x, y)
		}
		s.Resize(9, 9)
		if x, y, _ := feed(s, "~[2;2H"+come).Cursor(); x != 4 || y != 3 {
			t.Errorf("%q, %q, wider again: %d %d", keep, come, x, y)
		}
	}
	streams(t, 4, 4, 0, "~[2;3H~(7~#7~[?s~[1;1H~8", "____ 0 0", "~[2;3H~7~[1;1H~(8~#8~[?u", "____ 0 0")
}

// P16.1: the other page: shown, written to and left.
func TestOtherPage(t *testing.T) {
	for _, n := range []string{"47", "1047", "1049"} {
		on, off := "~[?"+n+"h", "~[?"+n+"l"
		streams(t, 4, 2, 1,
			"abcd"+on, "____|____ 3 0",
			"ab"+on, "____|____ 2 0",
			"ab"+on+"cd", "__cd|____ 3 0 late",
			"ab"+on+"cd"+off, "ab__|____ 2 0",
			"ab"+on+"cd"+off+on, "____|____ 2 0",
			"ab"+on+"cd"+on, "__cd|____ 3 0",
			"ab"+on+"cd"+on+"e"+off, "ab__|____ 2 0",
			"ab"+off, "ab__|____ 2 0",
			"~[2;1H"+off+"x", "____|x___ 1 1",
			"abcde"+on+"~[H~[2J\n\n\n"+off, "abcd+|e___ 1 1",
			"abcde"+on+"~[Hfghij"+off+"k", "abcd+|ek__ 2 1",
			"ab"+on+"~[?6h"+off+"~[Hc", "cb__|____ 1 0",
			"ab"+on+"~7~[2;4H"+off+"~8c", "abc_|____ 3 0",
			"a~7b"+on+"~[2;4H~8c", "_c__|____ 2 0",
			"a\r\nb\r\nc"+on+"x\r\ny\r\nz"+off, "b___|c___ 1 1 ^a___",
			"ab"+on+"~c", "____|____ 0 0",
			"ab"+on+"~cx"+off, "x___|____ 1 0",
			"ab"+on+off+on+"c"+off, "ab__|____ 2 0",
			"ab~[?"+n+";6h"+off+"c", "abc_|____ 3 0",
			"ab~[?6;"+n+"h"+off+"c", "cb__|____ 1 0",
		)
		s := feed(made(t, 4, 3, 1), "~[1m~[2;3r~[?6h~[2;2H"+on+"~[m~[?6l~[1;2r~[?25l~[3;3H"+off)
		top, bottom := s.Region()
		if x, y, _ := s.Cursor(); x != 1 || y != 2 || s.Attr().Flags != 1 || !s.Mode(6) || s.Mode(25) || top != 0 || bottom != 1 {
			t.Errorf("%s: %d %d, %v, region %d %d", n, x, y, s.Attr(), top, bottom)
		}
	}
}

// P16.1: Esc c brings all back to how it is at first.
func TestReset(t *testing.T) {
	for _, stream := range []string{"", "abcdef\n\n\n\n", "abcd", "~[1;31m", "~[2;3r", "~[?6h~[4h~[?7l~[?25l~[?1h~[?2004h", "~[3g~[1;2H~H", "~7~[2;2H~[1m~7", "~[?47habc\n", "ab~[?47habc~[?47l", "~[2;2H~[?1049hx~7"} {
		s := feed(made(t, 4, 3, 2), stream)
		feed(s, "~c")
		m := atFirst(4, 3, 2)
		holds(t, s, m, stream)
		for _, e := range told("~8x~[?47h~[2;3Hy~[?47l~8\n\n\n\nabcd\n") {
			s.Apply(e)
			m.apply(e)
			holds(t, s, m, stream)
		}
		s = feed(made(t, 4, 3, 2), stream)
		s.Resize(6, 2)
		feed(s, "~c")
		holds(t, s, atFirst(6, 2, 2), stream)
	}
}

// P16.1: which sizes Resize takes, and that an error changes nothing.
func TestResizeSizes(t *testing.T) {
	sizes := append([]int{1, 2, 3, 80, 399, 400, 401}, extremes...)
	for _, w := range sizes {
		for _, h := range sizes {
			s := feed(made(t, 4, 3, 2), "abcdefg~[2;3r~[1m~[2;4Hx")
			before := shows(s)
			e := s.Resize(w, h)
			gotW, gotH := s.Size()
			if w < 2 || w > 400 || h < 1 || h > 400 {
				if e != api.ErrArg || gotW != 4 || gotH != 3 || shows(s) != before {
					t.Errorf("Resize(%d, %d): %d, %d by %d, %s", w, h, e, gotW, gotH, shows(s))
				}
				continue
			}
			if e != api.OK || gotW != w || gotH != h {
				t.Errorf("Resize(%d, %d): %d, %d by %d", w, h, e, gotW, gotH)
			}
			fits(t, s, 2)
		}
	}
}

// P16.1: what a stream and then a new size leave.
func TestResize(t *testing.T) {
	for _, x := range []struct {
		w, h, back int
		stream     string
		toW, toH   int
		want       string
	}{
		{4, 3, 5, "abcde", 4, 3, "abcd+|e___|____ 1 1"},
		{4, 3, 5, "abcd", 4, 3, "abcd|____|____ 3 0"},
		{4, 3, 5, "abcde", 8, 3, "abcde___|________|________ 5 0"},
		{4, 3, 5, "abcde", 5, 3, "abcde|_____|_____ 4 0"},
		{4, 3, 5, "abcde", 3, 3, "abc+|de_|___ 2 1"},
		{4, 3, 5, "abcde", 2, 3, "ab+|cd+|e_ 1 2"},
		{4, 3, 5, "abcdefghijkl", 3, 3, "def+|ghi+|jkl 2 2 ^abc+"},
		{4, 3, 5, "abcdefghijkl", 3, 4, "abc+|def+|ghi+|jkl 2 3"},
		{4, 3, 5, "abcdefghijkl", 2, 1, "kl 1 0 ^ab+|cd+|ef+|gh+|ij+"},
		{4, 3, 2, "abcdefghijkl", 2, 1, "kl 1 0 ^gh+|ij+"},
		{4, 3, 0, "abcdefghijkl", 2, 1, "kl 1 0"},
		{4, 2, 5, "a\r\nb\r\nc\r\nd", 4, 4, "a___|b___|c___|d___ 1 3"},
		{4, 2, 5, "a\r\nb\r\nc\r\nd", 4, 3, "b___|c___|d___ 1 2 ^a___"},
		{4, 2, 5, "a\r\nb\r\nc\r\nd", 4, 6, "a___|b___|c___|d___|____|____ 1 3"},
		{4, 2, 5, "a\r\nb\r\nc\r\nd", 4, 2, "c___|d___ 1 1 ^a___|b___"},
		{4, 2, 5, "a\r\nb\r\nc\r\nd\x1b[H", 4, 2, "c___|d___ 0 0 ^a___|b___"},
		{4, 2, 5, "a\r\nb\r\nc\r\nd\x1b[2J\x1b[H", 4, 2, "b___|____ 0 1 ^a___"},
		{4, 4, 5, "a\r\nb\r\nc", 4, 2, "b___|c___ 1 1 ^a___"},
		{4, 4, 5, "a\r\nb\r\nc", 4, 3, "a___|b___|c___ 1 2"},
		{4, 4, 5, "a\r\nb\r\nc\x1b[H", 4, 2, "b___|c___ 0 0 ^a___"},
		{4, 4, 0, "a\r\nb\r\nc\x1b[H", 4, 2, "b___|c___ 0 0"},
		{4, 4, 5, "a\x1b[4;2H", 4, 2, "____|____ 1 1 ^a___|____"},
		{4, 4, 5, "a\x1b[4;2H", 4, 5, "a___|____|____|____|____ 1 3"},
		{4, 4, 5, "a\x1b[3;2H", 4, 2, "____|____ 1 1 ^a___"},
		{4, 4, 5, "a", 4, 1, "a___ 1 0"},
		{4, 4, 5, "\x1b[4;4H", 4, 1, "____ 3 0 ^____|____|____"},
		{4, 4, 5, "\x1b[4;4H", 2, 1, "__ 1 0 ^__|__|__"},
		{4, 2, 5, "ab中c", 3, 3, "ab_-|<>c|___ 2 1"},
		{4, 2, 5, "ab中", 3, 2, "ab_-|<>_ 1 1"},
		{4, 2, 5, "abc中", 5, 2, "abc<>|_____ 4 0"},
		{4, 2, 5, "abc中", 6, 2, "abc<>_|______ 5 0"},
		{4, 2, 5, "abc中", 3, 2, "abc+|<>_ 2 1"},
		{4, 2, 5, "abc中", 2, 2, "c_-|<> 1 1 ^ab+"},
		{4, 2, 5, "abcde\x1b[1;4H中", 6, 2, "abc<>_|______ 5 0"},
		{4, 2, 5, "ab\x1b[1;4H", 2, 2, "ab|__ 1 0"},
		{4, 2, 5, "ab\x1b[1;4H", 8, 2, "ab______|________ 3 0"},
		{4, 2, 5, "ab  \x1b[1;2H", 2, 2, "ab|__ 1 0"},
		{4, 2, 5, "ab  c", 8, 2, "ab__c___|________ 5 0"},
		{4, 2, 5, "ab  c\x1b[D\x1b[K", 8, 2, "ab______|________ 4 0"},
		{4, 3, 5, "\x1b[2;3rab", 4, 5, "ab__|____|____|____|____ 2 0"},
		{4, 3, 5, "\x1b[1mabcd   e", 3, 3, "abc+|d**+|*e_ 1 2"},
	} {
		s := feed(made(t, x.w, x.h, x.back), x.stream)
		if e := s.Resize(x.toW, x.toH); e != api.OK || shows(s) != x.want {
			t.Errorf("%d by %d, back %d: %q to %d by %d: %s, not %s", x.w, x.h, x.back, x.stream, x.toW, x.toH, shows(s), x.want)
		}
		if top, bottom := s.Region(); top != 0 || bottom != x.toH-1 {
			t.Errorf("%q to %d by %d: region %d %d", x.stream, x.toW, x.toH, top, bottom)
		}
	}
}

// P16.1: resizing while the other page is shown: both pages, both cursors, and the way back.
func TestResizeOther(t *testing.T) {
	for _, x := range []struct {
		stream     string
		toW, toH   int
		want, then string
	}{
		{"abcde\x1b[?47h\x1b[Hfghijk", 6, 3, "fghi__|jk____|______ 2 1", "abcde_|______|______ 5 0"},
		{"abcde\x1b[?47h\x1b[Hfghijk", 3, 2, "fgh|jk_ 2 1", "abc+|de_ 2 1"},
		{"abcde\x1b[?47h\x1b[Hfghijk", 2, 1, "fg 1 0", "e_ 1 0 ^ab+|cd+"},
		{"abcde\x1b[?47h\x1b[H中中", 3, 3, "<>_|___|___ 2 0", "abc+|de_|___ 2 1"},
		{"abcde\x1b[?47h\x1b[2;4H", 2, 1, "__ 1 0", "e_ 1 0 ^ab+|cd+"},
		{"\x1b[2;4H\x1b[?47h\x1b[1;1H", 2, 1, "__ 0 0", "__ 1 0 ^__"},
		{"\x1b[2;4H\x1b[?47h\x1b[1;1H", 4, 1, "____ 0 0", "____ 3 0 ^____"},
		{"abcd\x1b[1;1H\x1b[?47h\x1b[2;2Hx", 8, 2, "________|_x______ 2 1", "abcd____|________ 0 0"},
		{"a\r\nb\r\nc\r\nd\x1b[?47hxyz", 4, 5, "____|_xyz|____|____|____ 3 1", "a___|b___|c___|d___|____ 1 3"},
	} {
		for _, back := range []int{500, 2} {
			s := feed(made(t, 4, 2, back), x.stream)
			s.Resize(x.toW, x.toH)
			got, _, _ := strings.Cut(shows(s), " ^")
			if got != x.want {
				t.Errorf("%q to %d by %d: %s, not %s", x.stream, x.toW, x.toH, got, x.want)
			}
			if got := shows(feed(s, "~[?47l")); got != x.then {
				t.Errorf("%q to %d by %d, and back: %s, not %s", x.stream, x.toW, x.toH, got, x.then)
			}
		}
	}
	s := feed(made(t, 4, 2, 5), "~[?47habcdefgh~[?47l")
	s.Resize(3, 3)
	if got := shows(feed(s, "~[?47h")); got != "___|___|___ 0 0" {
		t.Errorf("shown anew: %s", got)
	}
}

// P16.1: late, a region and a kept place are others behind a Resize, also to the same size; modes, stops and the Attr stay.
func TestResizeState(t *testing.T) {
	s := feed(made(t, 4, 3, 5), "~[1;31m~[2;3r~[?6h~[?25l~[?2004h~[4h~[1;2H~Habcd")
	s.Resize(4, 3)
	top, bottom := s.Region()
	if _, _, late := s.Cursor(); late || top != 0 || bottom != 2 || !s.Mode(6) || s.Mode(25) || !s.Mode(2004) || !s.Mode(4) || s.Attr().Flags != 1 || !slices.Equal(s.Stops(), []int{1}) {
		t.Errorf("%s, region %d %d, %v, %v", shows(s), top, bottom, s.Attr(), s.Stops())
	}
	s = feed(made(t, 4, 3, 5), "abcd")
	s.Resize(4, 3)
	if got := shows(feed(s, "e")); got != "abce|____|____ 3 0 late" {
		t.Errorf("behind a size: %s", got)
	}
}

// P16.1: wider and narrower, there and back; with room enough the paragraphs stay.
func TestThereAndBack(t *testing.T) {
	next := chance(16)
	for range 300 {
		s := made(t, 2+next(8), 1+next(5), 500)
		text := ""
		for range next(80) {
			text += []string{"a", "b", " ", "中", "\r\n", "c"}[next(6)]
		}
		feed(s, text)
		want := paragraphs(s)
		for range 4 {
			s.Resize(2+next(12), 1+next(8))
			if got := paragraphs(s); !slices.Equal(got, want) {
				t.Fatalf("%q: %q, not %q", text, got, want)
			}
		}
	}
}

// paragraphs is the texts of the back's and the page's paragraphs, without those at the end that are empty.
func paragraphs(s *Screen) []string {
	texts := reflow.Text(slices.Concat(s.Back(), s.Lines()))
	for len(texts) > 0 && texts[len(texts)-1] == "" {
		texts = texts[:len(texts)-1]
	}
	return texts
}

// P16.3: a stream that prints alone and is not wider than the page is the page's text.
func TestPlainStream(t *testing.T) {
	next := chance(5)
	runes := []rune{'a', 'é', ' ', wide, 0x1f600, 'z', 0x301, 0x10ffff, 0xd800, -1, 0x110000, math.MaxInt32, math.MinInt32}
	for range 400 {
		w := 2 + next(12)
		s, left, text := made(t, w, 2, 0), w, []rune{}
		for {
			r := runes[next(len(runes))]
			n := columns(r)
			if n > left {
				break
			}
			left -= n
			if n > 0 {
				text = append(text, r)
			}
			s.Apply(events.Event{Kind: events.Print, Rune: r})
			if left == 0 && next(2) == 0 {
				break
			}
		}
		want := strings.TrimRight(string(text), " ")
		if got := s.Text(); !slices.Equal(got, []string{want, ""}) {
			t.Fatalf("%q: %q", want, got)
		}
	}
	s := feed(made(t, 400, 400, 0), strings.Repeat("x", 400))
	if got := s.Text(); got[0] != strings.Repeat("x", 400) || got[1] != "" || len(got) != 400 {
		t.Errorf("%q", got[:2])
	}
}

func columns(r rune) int {
	switch r {
	case 0x301:
		return 0
	case wide, 0x1f600:
		return 2
	}
	return 1
}

// P16.2: texts are the lines' texts.
func TestText(t *testing.T) {
	s := feed(made(t, 5, 4, 2), "a中b\r\n  c\r\n~[1m  ~[m\r\n")
	if got := s.Text(); !slices.Equal(got, []string{"a中b", "  c", "", ""}) {
		t.Errorf("%q", got)
	}
	if got := feed(s, "~[?47hx").Text(); !slices.Equal(got, []string{"", "", "", "x"}) {
		t.Errorf("%q", got)
	}
}

// P16.1, P16.2, R1: a nil screen, and one that New did not make.
func TestNoScreen(t *testing.T) {
	for _, s := range []*Screen{nil, {}, new(Screen)} {
		for range 2 {
			for _, e := range told("a中\r\n\t\b~7~8~D~E~M~H~c~[A~[2;2H~[J~[K~[L~[M~[@~[P~[X~[S~[T~[g~[3g~[1m~[r~[2;3r~[4h~[?6;7;25;47h~[?47l~[s~[u~]0;x\a~P1$qm~\\") {
				s.Apply(e)
			}
			for _, n := range append([]int{2, 4, 24, 80, 400}, extremes...) {
				if e := s.Resize(n, 3); e != api.ErrNil {
					t.Errorf("Resize(%d, 3): %d", n, e)
				}
				if e := s.Resize(4, n); e != api.ErrNil {
					t.Errorf("Resize(4, %d): %d", n, e)
				}
			}
			x, y, late := s.Cursor()
			top, bottom := s.Region()
			w, h := s.Size()
			if len(s.Lines()) > 0 || len(s.Back()) > 0 || len(s.Text()) > 0 || len(s.Stops()) > 0 || x != 0 || y != 0 || late || top != 0 || bottom != 0 || w != 0 || h != 0 || s.Attr() != (api.Attr{}) {
				t.Errorf("%v: %s", s, shows(s))
			}
			for _, n := range append([]int{1, 4, 6, 7, 25, 47, 1047, 1049, 2004}, extremes...) {
				if s.Mode(n) {
					t.Errorf("Mode(%d)", n)
				}
			}
		}
	}
}

// fits wants what the chapter promises of every screen (P16.3).
func fits(t *testing.T, s *Screen, room int) {
	t.Helper()
	w, h := s.Size()
	lines := s.Lines()
	if len(lines) != h {
		t.Fatalf("%d lines of %d", len(lines), h)
	}
	for _, l := range slices.Concat(lines, s.Back()) {
		if len(l.Cells) != w || !row.Whole(l.Cells) {
			t.Fatalf("a line: %s", said([]reflow.Line{l}))
		}
	}
	x, y, late := s.Cursor()
	if x < 0 || x >= w || y < 0 || y >= h || late && (x != w-1 || !s.Mode(7)) {
		t.Fatalf("the cursor: %d %d %v", x, y, late)
	}
	top, bottom := s.Region()
	if top < 0 || bottom >= h || top > bottom || top == bottom && h > 1 {
		t.Fatalf("the region: %d %d", top, bottom)
	}
	if len(s.Back()) > room {
		t.Fatalf("the back has %d lines", len(s.Back()))
	}
}

func sameLines(a, b []reflow.Line) bool {
	return slices.EqualFunc(a, b, func(x, y reflow.Line) bool {
		return x.Joined == y.Joined && x.Short == y.Short && slices.Equal(x.Cells, y.Cells)
	})
}

// holds wants all that a screen answers to be what the chapter's words have.
func holds(t *testing.T, s *Screen, m *model, what string) {
	t.Helper()
	x, y, late := s.Cursor()
	top, bottom := s.Region()
	w, h := s.Size()
	if !sameLines(s.Lines(), m.shown()) || !sameLines(s.Back(), m.back) {
		t.Fatalf("%q: %s, not %s ^%s", what, shows(s), said(m.shown()), said(m.back))
	}
	if x != m.x || y != m.y || late != m.late || top != m.top || bottom != m.bottom || w != m.w || h != m.h || s.Attr() != m.attr {
		t.Fatalf("%q: cursor %d %d %v, region %d %d, size %d %d, %v; not %d %d %v, %d %d, %d %d, %v", what, x, y, late, top, bottom, w, h, s.Attr(), m.x, m.y, m.late, m.top, m.bottom, m.w, m.h, m.attr)
	}
	for _, n := range []int{0, 1, 4, 6, 7, 25, 47, 1047, 1048, 1049, 2004} {
		if s.Mode(n) != m.isOn(n) {
			t.Fatalf("%q: Mode(%d) is %v", what, n, s.Mode(n))
		}
	}
	stops := s.Stops()
	for x, on := range m.stop {
		if on != slices.Contains(stops, x) {
			t.Fatalf("%q: stops %v", what, stops)
		}
	}
	if !slices.IsSorted(stops) || len(slices.Compact(slices.Clone(stops))) != len(stops) {
		t.Fatalf("%q: stops %v", what, stops)
	}
	for y, text := range s.Text() {
		if want := row.Text(m.shown()[y].Cells); text != want {
			t.Fatalf("%q: text %d is %q", what, y, text)
		}
	}
}
