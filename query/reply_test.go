package query

import (
	"math"
	"reflect"
	"slices"
	"strconv"
	"strings"
	"testing"

	"jalousie/api"
	"jalousie/events"
	"jalousie/reflow"
	"jalousie/screen"
)

// queries are the numbers that are asked for: those that there are, those beside them, and the extreme ones.
var queries = []int{
	math.MinInt, math.MinInt + 1, -1 << 32, -4, -1, 0, 1, 2, 3, 4, 5, 6, 7, 47, 1<<32 + 3, 1<<32 + 4, math.MaxInt - 1, math.MaxInt,
}

func made(t testing.TB, w, h int) *screen.Screen {
	t.Helper()
	s, e := screen.New(w, h, 9)
	if e != api.OK || s == nil {
		t.Fatalf("New(%d, %d): %v, %d", w, h, s, e)
	}
	return s
}

// escaped is a text in which ~ stands for the byte 1b.
func escaped(text string) string {
	return strings.ReplaceAll(text, "~", "\x1b")
}

// told is the events that a stream tells.
func told(stream string) []events.Event {
	p := events.New()
	p.Feed(stream)
	p.End()
	var all []events.Event
	for {
		e, ok := p.Next()
		if !ok {
			return all
		}
		all = append(all, e)
	}
}

// feed has a screen apply what a stream tells; ~ stands for the byte 1b.
func feed(s *screen.Screen, stream string) *screen.Screen {
	for _, e := range told(escaped(stream)) {
		s.Apply(e)
	}
	return s
}

// goTo is a stream that brings the cursor to a column and a row, counted from 0 on, without origin.
func goTo(x, y int) string {
	return "~[" + strconv.Itoa(y+1) + ";" + strconv.Itoa(x+1) + "H"
}

// region is a stream that makes the rows from top to bottom, counted from 0 on, the region.
func region(top, bottom int) string {
	return "~[" + strconv.Itoa(top+1) + ";" + strconv.Itoa(bottom+1) + "r"
}

// wantsReplies fails if a screen's replies to all numbers are not those that the chapter tells, with this row and column (in digits).
func wantsReplies(t *testing.T, s *screen.Screen, row, column, what string) {
	t.Helper()
	wanted := map[int]string{
		1: "~[?62;22c",
		2: "~[>1;10;0c",
		3: "~[0n",
		4: "~[" + row + ";" + column + "R",
		5: "~[?" + row + ";" + column + "R",
	}
	for _, n := range queries {
		if got, want := Reply(s, n), escaped(wanted[n]); got != want {
			t.Errorf("%s: Reply %d is %q, not %q", what, n, got, want)
		}
	}
}

func TestReplyExample(t *testing.T) {
	s := feed(made(t, 4, 3), goTo(2, 1))
	if got := Reply(s, 4); got != "\x1b[2;3R" {
		t.Errorf("Reply 4 of a cursor at 2, 1 is %q", got)
	}
	if got := Reply(s, 5); got != "\x1b[?2;3R" {
		t.Errorf("Reply 5 of a cursor at 2, 1 is %q", got)
	}
}

func TestReplyAtFirst(t *testing.T) {
	wantsReplies(t, made(t, 4, 3), "1", "1", "at first")
}

func TestReplyOfNoScreen(t *testing.T) {
	for _, n := range queries {
		if got := Reply(nil, n); got != "" {
			t.Errorf("Reply %d of a nil screen is %q", n, got)
		}
	}
}

// One that New did not make is no nil screen: its cursor is at 0, 0, as the screen itself tells.
func TestReplyOfAScreenThatNewDidNotMake(t *testing.T) {
	wantsReplies(t, &screen.Screen{}, "1", "1", "a zero screen")
	wantsReplies(t, feed(new(screen.Screen), "ab~[?6h~[2;3H"), "1", "1", "a zero screen that was fed")
}

// digits are places, counted from 1 on, of one, two and three digits.
var digits = map[int]string{1: "1", 2: "2", 9: "9", 10: "10", 11: "11", 99: "99", 100: "100", 101: "101", 399: "399", 400: "400"}

func TestReplyDigits(t *testing.T) {
	s := made(t, 400, 400)
	for r, row := range digits {
		for c, column := range digits {
			feed(s, "~["+row+";"+column+"H")
			if x, y, _ := s.Cursor(); x != c-1 || y != r-1 {
				t.Fatalf("the cursor is at %d %d, not at %d %d", x, y, c-1, r-1)
			}
			wantsReplies(t, s, row, column, "row "+row+", column "+column)
		}
	}
}

// Each corner of small and great pages.
func TestReplyCorners(t *testing.T) {
	for _, size := range [][2]int{{2, 1}, {2, 400}, {400, 1}, {9, 10}, {10, 9}, {99, 100}, {100, 99}, {400, 400}} {
		w, h := size[0], size[1]
		s := made(t, w, h)
		for _, x := range []int{0, w - 1} {
			for _, y := range []int{0, h - 1} {
				feed(s, goTo(x, y))
				wantsReplies(t, s, strconv.Itoa(y+1), strconv.Itoa(x+1), strconv.Itoa(w)+" by "+strconv.Itoa(h))
			}
		}
	}
}

func TestReplyLate(t *testing.T) {
	for _, c := range []struct {
		stream, row, column string
		late                bool
	}{
		{"abc", "1", "4", false},
		{"abcd", "1", "4", true},
		{"abcd~[31m", "1", "4", true},
		{"abcde", "2", "2", false},
		{"~[1;4H", "1", "4", false},
		{"~[3;4Hd", "3", "4", true},
		{"~[?7labcd", "1", "4", false},
		{"ab中", "1", "4", true},
		{"~[2;3r~[?6habcd", "1", "4", true},
		{"~[2;3r~[?6habcde", "2", "2", false},
	} {
		s := feed(made(t, 4, 3), c.stream)
		if _, _, late := s.Cursor(); late != c.late {
			t.Errorf("%q: late is %v", c.stream, late)
		}
		wantsReplies(t, s, c.row, c.column, c.stream)
	}
}

func TestReplyOrigin(t *testing.T) {
	for _, c := range []struct{ stream, row, column string }{
		{"~[3;6r~[5;2H", "5", "2"},
		{"~[3;6r~[?6h", "1", "1"},
		{"~[3;6r~[?6h~[1;2H", "1", "2"},
		{"~[3;6r~[?6h~[2;2H", "2", "2"},
		{"~[3;6r~[?6h~[4;8H", "4", "8"},
		{"~[3;6r~[?6h~[9;9H", "4", "8"}, // no further than the region
		{"~[3;6r~[?6h~[2;2H~[?6l", "1", "1"},
		{"~[3;6r~[?6h~[2;2H~[?6l~[4;2H", "4", "2"},
		{"~[?6h~[5;2H", "5", "2"},         // the region is all rows
		{"~[?6h~[5;2H~[3;6r", "1", "1"},   // at the region's first row
		{"~[3;6r~[?6h~[2;2H~c", "1", "1"}, // all is as at first
		// the place is kept with origin, then the region is another one
		{"~[?6h~[2;2H~7~[3;6r~8", "2", "2"},   // above the region
		{"~[?6h~[1;5H~7~[3;6r~8", "1", "5"},   // above the region, at the page's first row
		{"~[?6h~[3;2H~7~[3;6r~8", "1", "2"},   // at its first row
		{"~[?6h~[4;2H~7~[3;6r~8", "2", "2"},   // within
		{"~[?6h~[6;2H~7~[3;6r~8", "4", "2"},   // at its last row
		{"~[?6h~[7;2H~7~[3;6r~8", "5", "2"},   // below
		{"~[?6h~[8;8H~7~[3;6r~8", "6", "8"},   // below, at the page's last row
		{"~[7;2H~7~[?6h~[3;6r~8", "7", "2"},   // likewise, but origin was off where it was kept
		{"~[2;2H~7~[?6h~[3;6r~8", "2", "2"},   // likewise
		{"~[4;2H~7~[?6h~[3;6r~8", "4", "2"},   // likewise
		{"~[3;6r~[?6h~[2;2H~[?47h", "2", "2"}, // the other page is shown
	} {
		wantsReplies(t, feed(made(t, 8, 8), c.stream), c.row, c.column, c.stream)
	}
}

// plainRow is the row that a reply tells, in the chapter's words.
func plainRow(y, top int, origin bool) int {
	if origin && y >= top {
		return y - top + 1
	}
	return y + 1
}

// Every region, every place of the cursor above, in and below it, with origin and without.
func TestReplyAllRegions(t *testing.T) {
	const w, h = 3, 7
	for top := range h - 1 {
		for bottom := top + 1; bottom < h; bottom++ {
			for y := range h {
				for x := range w {
					for _, origin := range []bool{false, true} {
						mode := "~[?6l"
						if origin {
							mode = "~[?6h"
						}
						stream := mode + goTo(x, y) + "~7" + region(top, bottom) + "~8"
						s := feed(made(t, w, h), stream)
						if a, b, _ := s.Cursor(); a != x || b != y || s.Mode(6) != origin {
							t.Fatalf("%q: the cursor is at %d %d, origin %v", stream, a, b, s.Mode(6))
						}
						if a, b := s.Region(); a != top || b != bottom {
							t.Fatalf("%q: the region is %d to %d", stream, a, b)
						}
						wantsReplies(t, s, strconv.Itoa(plainRow(y, top, origin)), strconv.Itoa(x+1), stream)
					}
				}
			}
		}
	}
}

// Rows of three digits on the page that are of one and two in the region.
func TestReplyOriginDigits(t *testing.T) {
	s := feed(made(t, 400, 400), region(90, 399)+"~[?6h")
	for row, text := range map[int]string{1: "1", 9: "9", 10: "10", 11: "11", 99: "99", 100: "100", 310: "310"} {
		feed(s, "~["+text+";400H")
		if x, y, _ := s.Cursor(); x != 399 || y != 90+row-1 {
			t.Fatalf("the cursor is at %d %d", x, y)
		}
		wantsReplies(t, s, text, "400", "row "+text+" of the region")
	}
}

// Only mode 6 has to do with it.
func TestReplyOtherModes(t *testing.T) {
	for _, mode := range []string{"4", "?1", "?7", "?25", "?2004"} {
		for _, final := range []string{"h", "l"} {
			stream := region(2, 5) + "~[" + mode + final + goTo(1, 4)
			wantsReplies(t, feed(made(t, 8, 8), stream), "5", "2", stream)
			stream = region(2, 5) + "~[?6h~[" + mode + final + goTo(1, 2)
			wantsReplies(t, feed(made(t, 8, 8), stream), "3", "2", stream)
		}
	}
}

// A reply is one control sequence, without anything behind it.
func TestReplyIsOneSequence(t *testing.T) {
	s := feed(made(t, 20, 20), goTo(11, 3))
	for n, want := range map[int]events.Event{
		1: {Kind: events.Csi, Mids: "?", Final: 'c', Params: [][]int{{62}, {22}}},
		2: {Kind: events.Csi, Mids: ">", Final: 'c', Params: [][]int{{1}, {10}, {0}}},
		3: {Kind: events.Csi, Final: 'n', Params: [][]int{{0}}},
		4: {Kind: events.Csi, Final: 'R', Params: [][]int{{4}, {12}}},
		5: {Kind: events.Csi, Mids: "?", Final: 'R', Params: [][]int{{4}, {12}}},
	} {
		if got := told(Reply(s, n)); len(got) != 1 || !events.Same(got[0], want) {
			t.Errorf("Reply %d tells %v", n, got)
		}
	}
}

// standing is all that a screen tells.
type standing struct {
	lines, back []reflow.Line
	x, y, w, h  int
	late        bool
	attr        api.Attr
	top, bottom int
	stops       []int
	on          [8]bool
	text        []string
}

func stands(s *screen.Screen) standing {
	var l standing
	l.lines, l.back = s.Lines(), s.Back()
	l.x, l.y, l.late = s.Cursor()
	l.w, l.h = s.Size()
	l.attr = s.Attr()
	l.top, l.bottom = s.Region()
	l.stops = s.Stops()
	for i, n := range []int{1, 4, 6, 7, 25, 47, 2004, 2005} {
		l.on[i] = s.Mode(n)
	}
	l.text = s.Text()
	return l
}

// streams bring screens to where all of what they tell is not as at first.
var streams = []string{
	"", "abcdefgh中ij", "abcd", "~[2;3r~[?6h~[1;31mx~[2;2H", "~[4h~[?1;2004h~[?7l~[?25l~[3gab\r\nc\r\nd\r\ne", "ab~[?1049hcd~[?6h~7", "~[?6h~7~[2;3r~8abcd",
}

// A screen that is asked stands as it stood; and one that is asked between all events goes on as one that is not.
func TestReplyChangesNothing(t *testing.T) {
	for _, first := range streams {
		s := feed(made(t, 4, 3), first)
		before := stands(s)
		for _, n := range queries {
			Reply(s, n)
		}
		if after := stands(s); !reflect.DeepEqual(after, before) {
			t.Errorf("%q: %v, not %v", first, after, before)
		}
		for _, next := range streams {
			asked, plain := made(t, 4, 3), made(t, 4, 3)
			for _, e := range told(escaped(first + next + "~8xyz\r\n~[?47lq")) {
				asked.Apply(e)
				plain.Apply(e)
				for n := range 7 {
					Reply(asked, n)
				}
			}
			if !reflect.DeepEqual(stands(asked), stands(plain)) {
				t.Errorf("%q, %q: %v, not %v", first, next, stands(asked), stands(plain))
			}
		}
	}
}

// What is told hangs on the screen as it is now, not on what was told ahead.
func TestReplyFollowsTheScreen(t *testing.T) {
	s, other := made(t, 8, 8), feed(made(t, 8, 8), goTo(6, 6))
	var got []string
	for _, stream := range []string{"", "ab", "\r\n", region(3, 6), "~[?6h", "~[2;4H", "~[?6l", "~c"} {
		feed(s, stream)
		got = append(got, Reply(s, 4))
		if again := Reply(s, 4); again != got[len(got)-1] {
			t.Errorf("%q: asked again %q", stream, again)
		}
		if r := Reply(other, 4); r != "\x1b[7;7R" {
			t.Errorf("%q: of another screen %q", stream, r)
		}
	}
	want := strings.Fields(escaped("~[1;1R ~[1;3R ~[2;1R ~[1;1R ~[1;1R ~[2;4R ~[1;1R ~[1;1R"))
	if !slices.Equal(got, want) {
		t.Errorf("%q, not %q", got, want)
	}
	feed(s, region(3, 6)+"~[?6h~[3;8H")
	if got := Reply(s, 5); got != "\x1b[?3;8R" {
		t.Errorf("%q", got)
	}
	s.Resize(4, 8)
	if x, y, _ := s.Cursor(); Reply(s, 5) != "\x1b[?"+strconv.Itoa(y+1)+";"+strconv.Itoa(x+1)+"R" || x > 3 {
		t.Errorf("of a new size: %q", Reply(s, 5))
	}
}
