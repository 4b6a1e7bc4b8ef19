package screen

import (
	"slices"
	"strings"
	"testing"

	"jalousie/api"
	"jalousie/events"
	"jalousie/reflow"
)

// both is a screen and the chapter's words, side by side.
type both struct {
	s *Screen
	m *model
}

func besides(t *testing.T, w, h, back int) both {
	t.Helper()
	return both{made(t, w, h, back), atFirst(w, h, back)}
}

func (b both) apply(e events.Event) {
	b.s.Apply(e)
	b.m.apply(e)
}

func (b both) resize(t *testing.T, w, h int) {
	t.Helper()
	if e := b.s.Resize(w, h); e != api.OK {
		t.Fatalf("Resize(%d, %d): %d", w, h, e)
	}
	b.m.resize(w, h)
}

// hold wants both to be alike, and what is promised of every screen.
func (b both) hold(t *testing.T, what string) {
	t.Helper()
	holds(t, b.s, b.m, what)
	fits(t, b.s, b.m.room)
}

// few are streams of one event each, of which many do something at nearly every place.
func few() []string {
	return []string{
		"a", " ", "中", "\u0301", "\b", "\t", "\n", "\r", "\a",
		"~7", "~8", "~D", "~E", "~M", "~H", "~c", "~#8",
		"~[A", "~[2A", "~[B", "~[9e", "~[C", "~[2a", "~[D", "~[E", "~[F", "~[2G", "~[`", "~[2d", "~[H", "~[2;2H", "~[9;9f", "~[I", "~[Z",
		"~[J", "~[1J", "~[2J", "~[3J", "~[4J", "~[K", "~[1K", "~[2K", "~[3K", "~[L", "~[2L", "~[M", "~[2M", "~[@", "~[2@", "~[P", "~[2P", "~[X", "~[2X", "~[S", "~[2S", "~[T", "~[2T",
		"~[g", "~[3g", "~[m", "~[1;31m", "~[r", "~[1;2r", "~[2;3r", "~[s", "~[u",
		"~[4h", "~[4l", "~[?6h", "~[?6l", "~[?7l", "~[?7h", "~[?47h", "~[?1049l", "~[?25l", "~[?A",
	}
}

// begins are streams that bring a small screen into many states.
func begins() []string {
	return []string{
		"", "abc", "abcdefghijklm", "ab中c中d中", "中中中中", "a\r\nb\r\nc\r\nd\r\ne", "abcde~[1;2r~[1;3H", "abcdefgh~[2;3r~[2;3H", "abcdefghi~[2;3r~[?6h",
		"ab中c~[1;1H~[4h", "abcd~[?7l~[1;3H", "abcdefg~[?47hxyzuv", "~[2;3H~7~[1;1Hab中cd", "~[1mab中cde~[2;2H", "abcdefghijk", "abc中\u0301中~[2;2H", "~[3;1Habc",
	}
}

// P16.1, P16.3: each event, and each two of them, behind each beginning.
func TestFewEvents(t *testing.T) {
	for _, size := range [][3]int{{2, 1, 1}, {3, 3, 0}, {4, 3, 1}} {
		for _, begin := range begins() {
			for _, first := range few() {
				head := append(told(begin), told(first)...)
				for _, second := range few() {
					b := besides(t, size[0], size[1], size[2])
					for _, e := range append(slices.Clone(head), told(second)...) {
						b.apply(e)
					}
					b.hold(t, begin+first+second)
				}
			}
		}
	}
}

// P16.1: each new size behind each event.
func TestFewResizes(t *testing.T) {
	for _, size := range [][3]int{{2, 1, 1}, {3, 3, 0}, {4, 2, 3}, {4, 3, 500}} {
		for _, begin := range begins() {
			for _, last := range few() {
				for _, to := range [][2]int{{2, 1}, {2, 4}, {3, 2}, {3, 3}, {4, 2}, {5, 3}, {7, 1}, {7, 5}} {
					b := besides(t, size[0], size[1], size[2])
					for _, e := range told(begin + last) {
						b.apply(e)
					}
					b.resize(t, to[0], to[1])
					b.hold(t, begin+last)
					for _, e := range told("x中~8y~[?47lz") {
						b.apply(e)
					}
					b.resize(t, size[0], size[1])
					b.hold(t, begin+last)
				}
			}
		}
	}
}

// anyEvent is one as it comes.
func anyEvent(next func(n int) int) events.Event {
	finals := "@ABCDEFGHIJKLMPSTXZ`abdefghlmnrsu"
	switch next(9) {
	case 0, 1, 2, 3:
		runes := []rune{'a', 'b', 'c', ' ', 'é', wide, 0x1f600, 0x301, 0xd800, -1}
		return events.Event{Kind: events.Print, Rune: runes[next(len(runes))]}
	case 4:
		return events.Event{Kind: events.Execute, Final: byte(7 + next(8))}
	case 5:
		e := events.Event{Kind: events.Esc, Final: "778DDEMMH"[next(9)]}
		if next(12) == 0 {
			e.Final = 'c'
		}
		if next(12) == 0 {
			e.Mids = "#"
		}
		return e
	case 6:
		modes := []int{1, 4, 6, 6, 7, 7, 25, 47, 47, 1047, 1049, 2004, 5}
		e := csi("hhlh"[next(4)])
		for range 1 + next(3) {
			e.Params = append(e.Params, []int{modes[next(len(modes))]})
		}
		if next(3) > 0 {
			e.Mids = "?"
		}
		return e
	}
	e := csi(finals[next(len(finals))])
	for range next(4) {
		e.Params = append(e.Params, []int{[]int{0, 1, 2, 3, 4, 5, 9, 9999, -1, 31, 44}[next(11)], next(3)}[:1+next(2)])
	}
	if next(20) == 0 {
		e.Mids = "?"
	}
	return e
}

// P16.1, P16.3: long streams as they come, act by act.
func TestLongStreams(t *testing.T) {
	next := chance(160)
	for i := range 300 {
		b := besides(t, 2+next(9), 1+next(6), []int{0, 1, 2, 5, 500}[next(5)])
		for range 250 {
			if next(40) == 0 {
				b.resize(t, 2+next(11), 1+next(7))
			} else {
				b.apply(anyEvent(next))
			}
			b.hold(t, "stream "+string(rune('0'+i%10)))
		}
	}
}

// P16.1, P16.3: large pages.
func TestLargeStreams(t *testing.T) {
	next := chance(161)
	for _, size := range [][3]int{{400, 400, 500}, {400, 1, 500}, {2, 400, 3}, {80, 24, 50}} {
		b := besides(t, size[0], size[1], size[2])
		for i := range 600 {
			e := anyEvent(next)
			for range 1 + next(30) {
				b.apply(e)
			}
			if i%60 == 0 {
				b.hold(t, "large")
			}
			if i%120 == 119 {
				b.resize(t, []int{2, 37, 80, 399, 400}[next(5)], []int{1, 24, 399, 400}[next(4)])
				b.hold(t, "large, resized")
			}
		}
	}
}

// sample is a stream of bytes and pieces of sequences.
func sample(next func(n int) int, long int) string {
	pieces := append(few(), "~[", "~]0;t\a", "~P1$qx~\\", "~[?", ";", "1", "2", "h", "l", "m", "H", "~", "\xe4", "\xe4\xb8", "\xf0\x9f\x98\x80", "\x18", "abcd", "ef")
	var s strings.Builder
	for s.Len() < long {
		if next(12) == 0 {
			s.WriteByte(byte(next(256)))
		} else {
			s.WriteString(strings.ReplaceAll(pieces[next(len(pieces))], "~", "\x1b"))
		}
	}
	return s.String()
}

// P16.1: streams of bytes, out of the parser of events, cut in pieces.
func TestBytes(t *testing.T) {
	next := chance(162)
	for range 300 {
		stream := sample(next, 300)
		w, h, back := 2+next(7), 1+next(5), next(4)
		b, p := besides(t, w, h, back), events.New()
		for rest := stream; rest != ""; {
			n := min(1+next(9), len(rest))
			p.Feed(rest[:n])
			rest = rest[n:]
			for e, ok := p.Next(); ok; e, ok = p.Next() {
				b.apply(e)
			}
			b.hold(t, stream)
		}
		whole := made(t, w, h, back)
		p = events.New()
		p.Feed(stream)
		for e, ok := p.Next(); ok; e, ok = p.Next() {
			whole.Apply(e)
		}
		holds(t, whole, b.m, stream)
	}
}

// writeOver writes over all that lines have, their spare room too.
func writeOver(lines []reflow.Line) {
	lines = lines[:cap(lines)]
	for i, l := range lines {
		cells := l.Cells[:cap(l.Cells)]
		for j := range cells {
			cells[j] = api.Cell{Rune: 'W', Wide: 7, Attr: api.Attr{Flags: 99}}
		}
		lines[i] = reflow.Line{Joined: !l.Joined, Short: !l.Short}
	}
}

// R4: what is answered, written over, changes nothing of the screen, nor of another answer.
func TestOwn(t *testing.T) {
	next := chance(163)
	for range 150 {
		b := besides(t, 2+next(7), 1+next(5), 5)
		for range 60 {
			if next(15) == 0 {
				b.resize(t, 2+next(7), 1+next(5))
			}
			b.apply(anyEvent(next))
			lines, back, stops, text := b.s.Lines(), b.s.Back(), b.s.Stops(), b.s.Text()
			again, backAgain := b.s.Lines(), b.s.Back()
			writeOver(lines)
			writeOver(back)
			for i := range stops[:cap(stops)] {
				stops[:cap(stops)][i] = 1
			}
			for i := range text[:cap(text)] {
				text[:cap(text)][i] = "W"
			}
			if !sameLines(again, b.m.shown()) || !sameLines(backAgain, b.m.back) {
				t.Fatal("answers share memory")
			}
			b.hold(t, "written over")
		}
	}
}

// R4: lines of one answer share no memory.
func TestLinesApart(t *testing.T) {
	for _, stream := range []string{"", "abcdefghijkl", "~[2J", "~[9S", "~[9T", "~[L", "~c", "~[?47h", "a\r\nb\r\nc\r\nd\r\ne\r\nf", "~[J", "~[1J"} {
		s := feed(made(t, 3, 4, 5), stream)
		for range 2 {
			for _, lines := range [][]reflow.Line{s.Lines(), s.Back()} {
				for i, l := range lines {
					for j := range l.Cells[:cap(l.Cells)] {
						l.Cells[:cap(l.Cells)][j].Rune = rune('A' + i)
					}
				}
				for i, l := range lines {
					if slices.ContainsFunc(l.Cells, func(c api.Cell) bool { return c.Rune != rune('A'+i) }) {
						t.Fatalf("%q: line %d", stream, i)
					}
				}
			}
			s.Resize(5, 2)
		}
	}
}

// R4: an event is the caller's: Apply neither changes nor keeps its parameters.
func TestEventStays(t *testing.T) {
	for _, final := range []byte("mhlHrJ") {
		room := []int{6, 7, 25, 2, 3, 9, 9}
		list := [][]int{room[:2:3], room[3:5], {8}, {9}}
		e := events.Event{Kind: events.Csi, Final: final, Params: list[:2]}
		if final == 'h' || final == 'l' {
			e.Mids = "?"
		}
		s, other := feed(made(t, 4, 3, 2), "abcdefg"), feed(made(t, 4, 3, 2), "abcdefg")
		s.Apply(e)
		other.Apply(e)
		if !slices.Equal(room, []int{6, 7, 25, 2, 3, 9, 9}) || len(list[2]) != 1 || list[2][0] != 8 || !slices.Equal(list[0], []int{6, 7}) {
			t.Errorf("%q: %v, %v", final, room, list)
		}
		for i := range room {
			room[i] = 1
		}
		list[0], list[1] = nil, nil
		if shows(s) != shows(other) || s.Attr() != other.Attr() {
			t.Errorf("%q: %s, %s", final, shows(s), shows(other))
		}
		feed(s, "x~[2;2Hy")
		feed(other, "x~[2;2Hy")
		if shows(s) != shows(other) {
			t.Errorf("%q: %s, %s", final, shows(s), shows(other))
		}
	}
}

// R3: two screens know nothing of one another, and asking changes nothing.
func TestApart(t *testing.T) {
	next := chance(164)
	for range 100 {
		a, b := besides(t, 2+next(7), 1+next(5), 3), besides(t, 2+next(7), 1+next(5), 3)
		for range 80 {
			a.apply(anyEvent(next))
			b.apply(anyEvent(next))
			if next(20) == 0 {
				a.resize(t, 2+next(7), 1+next(5))
			}
			a.hold(t, "the one")
			b.hold(t, "the other")
		}
	}
	for _, stream := range []string{"~[1m", "~[?25l~[4h", "~[3g", "~[2;3r", "~7", "~[?47h", "\n\n\n\n"} {
		feed(made(t, 4, 3, 2), stream)
		holds(t, made(t, 4, 3, 2), atFirst(4, 3, 2), stream)
	}
}
