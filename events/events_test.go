package events

import (
	"math"
	"slices"
	"strings"
	"testing"

	"jalousie/decode"
	"jalousie/params"
	"jalousie/states"
)

// maxOsc and maxDcs are the document's limits.
const (
	maxOsc = 1024
	maxDcs = 256
)

func pr(r rune) Event              { return Event{Kind: Print, Rune: r} }
func ex(c byte) Event              { return Event{Kind: Execute, Final: c} }
func es(mids string, c byte) Event { return Event{Kind: Esc, Mids: mids, Final: c} }
func os(text string) Event         { return Event{Kind: Osc, Text: text} }

func cs(mids string, l [][]int, c byte) Event {
	return Event{Kind: Csi, Mids: mids, Params: l, Final: c}
}

func dc(mids string, l [][]int, c byte, text string) Event {
	return Event{Kind: Dcs, Mids: mids, Params: l, Final: c, Text: text}
}

// ones is parameters of one part each.
func ones(n ...int) [][]int {
	var l [][]int
	for _, n := range n {
		l = append(l, []int{n})
	}
	return l
}

// like is whether two events are alike; it is not Same, which is on trial itself.
func like(a, b Event) bool {
	if len(a.Params) != len(b.Params) {
		return false
	}
	for i := range a.Params {
		if !slices.Equal(a.Params[i], b.Params[i]) {
			return false
		}
	}
	return a.Kind == b.Kind && a.Rune == b.Rune && a.Final == b.Final && a.Mids == b.Mids && a.Text == b.Text
}

// taken is all events that a parser has.
func taken(p *Parser) []Event {
	var all []Event
	for {
		e, ok := p.Next()
		if !ok {
			return all
		}
		all = append(all, e)
	}
}

func fed(s string) *Parser {
	p := New()
	p.Feed(s)
	return p
}

func hold(t *testing.T, s string, got, want []Event) {
	t.Helper()
	if !slices.EqualFunc(got, want, like) {
		t.Errorf("%.80q tells %.400v, not %.400v", s, got, want)
	}
}

// tells wants what a text tells, and nothing more.
func tells(t *testing.T, s string, want ...Event) {
	t.Helper()
	hold(t, s, taken(fed(s)), want)
}

// chance answers numbers below n, always the same ones.
func chance(seed uint32) func(n int) int {
	return func(n int) int {
		seed = seed*1664525 + 1013904223
		return int(seed>>16) % n
	}
}

// The chapter's examples, and those of the document that tell of a stream.
func TestExamples(t *testing.T) {
	tells(t, "a\xc3\xa9", pr('a'), pr(0xe9))
	tells(t, "\x1b[1;31m", cs("", ones(1, 31), 'm'))
	tells(t, "\x1b[?25l", cs("?", ones(25), 'l'))
	tells(t, "\x1b]0;hi\a", os("0;hi"))
	tells(t, "\x1b]0;hi\x1b\\", os("0;hi"))
	tells(t, "\x1b(0", es("(", '0'))
	tells(t, "\xc3\n", pr(0xfffd), ex('\n'))
	tells(t, "\xc3a", pr(0xfffd), pr('a'))
	tells(t, "\x1b]52;c;aGk=\a", os("52;c;aGk="))
}

// The kinds have the document's numbers.
func TestKinds(t *testing.T) {
	if got := []int{Print, Execute, Esc, Csi, Osc, Dcs}; !slices.Equal(got, []int{1, 2, 3, 4, 5, 6}) {
		t.Error(got)
	}
}

// P8.1: what each byte alone tells of a new parser.
func TestBytes(t *testing.T) {
	for c := range 256 {
		b := byte(c)
		s := string([]byte{b})
		switch {
		case b == 0x1b || b == 0x7f || 0xc2 <= b && b <= 0xf4:
			tells(t, s)
		case b < 0x20:
			tells(t, s, ex(b))
		case b < 0x7f:
			tells(t, s, pr(rune(b)))
		default:
			tells(t, s, pr(0xfffd))
		}
	}
}

// P8.1: escape sequences of each last byte, and of none to three collected bytes.
func TestEsc(t *testing.T) {
	for c := byte(0x30); c < 0x7f; c++ {
		last := string([]byte{c})
		if strings.IndexByte("P[X]^_\\", c) < 0 {
			tells(t, "\x1b"+last, es("", c))
		}
		tells(t, "\x1b#"+last, es("#", c))
		tells(t, "\x1b /"+last, es(" /", c))
		tells(t, "\x1b !/"+last+"a", pr('a'))
		tells(t, "\x1b !/$"+last+"a", pr('a'))
	}
	for c := byte(0x20); c < 0x30; c++ {
		tells(t, "\x1b"+string([]byte{c})+"B", es(string([]byte{c}), 'B'))
	}
	tells(t, "\x1b\xc3(\xa9\x7f0a", es("(", '0'), pr('a'))
	tells(t, "\x1b(\n0\x1b\r7", ex('\n'), es("(", '0'), ex('\r'), es("", '7'))
}

// P8.1: Esc of 5c is told if bytes were collected, and not if there were none, whatever came before.
func TestBackslash(t *testing.T) {
	tells(t, "\x1b\\")
	tells(t, "\x1b\\\x1b\\a", pr('a'))
	tells(t, "\x1b\n\\", ex('\n'))
	tells(t, "\x1b\x1b\\")
	tells(t, "\x1b(\\", es("(", '\\'))
	tells(t, "\x1b()\\", es("()", '\\'))
	tells(t, "\x1b()*\\")
	tells(t, "\x1b(\x1b\\")
	tells(t, "\x1bXabc\x1b\\a", pr('a'))
	tells(t, "\x1b[1$\x1b\\a", pr('a'))
	tells(t, "\\\x1b]\x1b\\\\", pr('\\'), os(""), pr('\\'))
	tells(t, "\x1b[\\", cs("", nil, '\\'))
}

// P8.1: control sequences of each last byte, with private marks, and of none to three collected bytes.
func TestCsi(t *testing.T) {
	for c := byte(0x40); c < 0x7f; c++ {
		last := string([]byte{c})
		tells(t, "\x1b["+last, cs("", nil, c))
		tells(t, "\x1b[7"+last, cs("", ones(7), c))
		for _, m := range []string{"<", "=", ">", "?"} {
			tells(t, "\x1b["+m+last, cs(m, nil, c))
			tells(t, "\x1b["+m+"1;2"+last, cs(m, ones(1, 2), c))
			tells(t, "\x1b["+m+"3$"+last, cs(m+"$", ones(3), c))
			tells(t, "\x1b["+m+"3 $"+last+"a", pr('a'))
			tells(t, "\x1b["+m+m+last+"a", pr('a'))
			tells(t, "\x1b[1"+m+last+"a", pr('a'))
		}
		tells(t, "\x1b[!"+last, cs("!", nil, c))
		tells(t, "\x1b[4 q\x1b[!p\x1b[2$"+last, cs(" ", ones(4), 'q'), cs("!", nil, 'p'), cs("$", ones(2), c))
		tells(t, "\x1b[1!$"+last, cs("!$", ones(1), c))
		tells(t, "\x1b[1!$ "+last+"a", pr('a'))
		tells(t, "\x1b[1!$ +"+last+"a", pr('a'))
		tells(t, "\x1b[!1"+last+"a", pr('a'))
	}
	tells(t, "\x1b[1\n;\xc3\xa9\x7f2\tma", ex('\n'), ex('\t'), cs("", ones(1, 2), 'm'), pr('a'))
	tells(t, "\x1b[1?2\nm", ex('\n'))
}

// P8.1: as many parameters and parts as may be, and one more; numbers up to 9999.
func TestParams(t *testing.T) {
	var many, parts []int
	for n := range 16 {
		many = append(many, n+1)
	}
	for n := range params.MaxParts {
		parts = append(parts, n+1)
	}
	full := "1;2;3;4;5;6;7;8;9;10;11;12;13;14;15;16"
	for _, s := range []string{full, full + ";", full + ";17", full + ";17;18:9"} {
		tells(t, "\x1b["+s+"m", cs("", ones(many...), 'm'))
		tells(t, "\x1bP"+s+"q\x1b\\", dc("", ones(many...), 'q', ""))
	}
	wide := "1:2:3:4:5:6:7:8"
	for _, s := range []string{wide, wide + ":", wide + ":9", wide + ":9:9"} {
		tells(t, "\x1b["+s+"m", cs("", [][]int{parts}, 'm'))
		tells(t, "\x1b["+s+";5m", cs("", [][]int{parts, {5}}, 'm'))
		tells(t, "\x1bP"+s+";5q\x1b", dc("", [][]int{parts, {5}}, 'q', ""))
	}
	tells(t, "\x1b[9999;10000;99999999999999999999m", cs("", ones(9999, 9999, 9999), 'm'))
	tells(t, "\x1b[;m\x1b[:m", cs("", ones(0, 0), 'm'), cs("", [][]int{{0, 0}}, 'm'))
	tells(t, "\x1b[38:2::1:2:3;4:3m", cs("", [][]int{{38, 2, 0, 1, 2, 3}, {4, 3}}, 'm'))
}

// P8.1: nothing of a sequence goes over to the next one.
func TestCleared(t *testing.T) {
	tells(t, "\x1b[1;2$\x1b[m", cs("", nil, 'm'))
	tells(t, "\x1b[?1;2h\x1b[m\x1b7", cs("?", ones(1, 2), 'h'), cs("", nil, 'm'), es("", '7'))
	tells(t, "\x1b[ !$\x18\x1b[m", ex(0x18), cs("", nil, 'm'))
	tells(t, "\x1b !$z\x1b7", es("", '7'))
	tells(t, "\x1b(\x1b)0", es(")", '0'))
	tells(t, "\x1b[1$\x1bPq\x1b\\", dc("", nil, 'q', ""))
	tells(t, "\x1bP>1!qabc\x1b[m", dc(">!", ones(1), 'q', "abc"), cs("", nil, 'm'))
	tells(t, "\x1bP1qabc\x1bPz\x1b\\", dc("", ones(1), 'q', "abc"), dc("", nil, 'z', ""))
	tells(t, "\x1b]abc\a\x1b]\a\x1b]d\a", os("abc"), os(""), os("d"))
	tells(t, "\x1b]abc\x1b]de\x1b\\", os("abc"), os("de"))
	tells(t, "\x1b]abc\x18\x1b]d\a", ex(0x18), os("d"))
	tells(t, "\x1b]"+strings.Repeat("x", 2000)+"\a\x1b]d\a\x1bPqe\x1b", os("d"), dc("", nil, 'q', "e"))
	tells(t, "\x1bP !$q\x1b\\\x1bPqe\x1b", dc("", nil, 'q', "e"))
}

// P8.1: Osc texts about their bound, ended in each way.
func TestOscBounds(t *testing.T) {
	for _, n := range []int{0, 1, 255, 256, 257, 1022, maxOsc - 1, maxOsc, maxOsc + 1, maxOsc + 2, 2 * maxOsc, 5000} {
		text := strings.Repeat("abcdefg", n)[:n]
		for _, end := range []string{"\a", "\x1b\\", "\x1b7"} {
			var want []Event
			if n <= maxOsc {
				want = append(want, os(text))
			}
			if end == "\x1b7" {
				want = append(want, es("", '7'))
			}
			tells(t, "\x1b]"+text+end+"z", append(want, pr('z'))...)
		}
		tells(t, "\x1b]"+text)
		tells(t, "\x1b]"+text+"\x18z", ex(0x18), pr('z'))
		tells(t, "\x1b]"+text+"\x1az", ex(0x1a), pr('z'))
	}
}

// P8.1: Dcs texts about their bound, ended in each way.
func TestDcsBounds(t *testing.T) {
	for _, n := range []int{0, 1, 2, maxDcs - 1, maxDcs, maxDcs + 1, maxDcs + 2, 1023, 1024, 1025, 5000} {
		text := strings.Repeat("abcdefg", n)[:n]
		for _, end := range []string{"\x1b\\", "\x1b7"} {
			var want []Event
			if n <= maxDcs {
				want = append(want, dc("$", ones(1, 2), 'q', text))
			}
			if end == "\x1b7" {
				want = append(want, es("", '7'))
			}
			tells(t, "\x1bP1;2$q"+text+end+"z", append(want, pr('z'))...)
		}
		tells(t, "\x1bPq"+text)
		tells(t, "\x1bPq"+text+"\x18z", ex(0x18), pr('z'))
		tells(t, "\x1bPq"+text+"\x1az", ex(0x1a), pr('z'))
	}
}

// P8.1: which bytes are of a string's text.
func TestStringBytes(t *testing.T) {
	for c := range 256 {
		b := byte(c)
		s := string([]byte{b})
		switch b {
		case 0x18, 0x1a:
			tells(t, "\x1b]x"+s+"y", ex(b), pr('y'))
			tells(t, "\x1bPqx"+s+"y", ex(b), pr('y'))
			continue
		case 0x1b:
			continue
		case 0x07:
			tells(t, "\x1b]x"+s+"y", os("x"), pr('y'))
		default:
			kept := s
			if b < 0x20 {
				kept = ""
			}
			tells(t, "\x1b]x"+s+"y\a", os("x"+kept+"y"))
		}
		kept := s
		if b == 0x7f {
			kept = ""
		}
		tells(t, "\x1bPqx"+s+"y\x1b\\", dc("", nil, 'q', "x"+kept+"y"))
	}
}

// P8.1: each last byte of a device's string; private marks, and none to three collected bytes.
func TestDcs(t *testing.T) {
	for c := byte(0x40); c < 0x7f; c++ {
		last := string([]byte{c})
		tells(t, "\x1bP"+last+"ab\x1b\\", dc("", nil, c, "ab"))
		tells(t, "\x1bP1;2"+last+"\x1b\\", dc("", ones(1, 2), c, ""))
		tells(t, "\x1bP?1$"+last+"ab\x1b", dc("?$", ones(1), c, "ab"))
		tells(t, "\x1bP+$"+last+"ab\x1b", dc("+$", nil, c, "ab"))
		tells(t, "\x1bP+$!"+last+"ab\x1b\\z", pr('z'))
		tells(t, "\x1bP=+$"+last+"ab\x1b\\z", pr('z'))
		tells(t, "\x1bP1?"+last+"ab\x1b\\z", pr('z'))
		tells(t, "\x1bP$1"+last+"ab\x1b\\z", pr('z'))
	}
	tells(t, "\x1bP\n1\xc3\x07;\x7f2\nqab\n\x1b\\", dc("", ones(1, 2), 'q', "ab\n"))
}

// P8.1: strings that are let go tell nothing, but of 18 and 1a.
func TestLetGo(t *testing.T) {
	for _, begin := range []string{"\x1bX", "\x1b^", "\x1b_", "\x1bP1?", "\x1bP 1", "\x1bP1??q"} {
		tells(t, begin+"ab\a\n\xc3\xa9\x7f[1mq")
		tells(t, begin+"ab\x1b\\z", pr('z'))
		tells(t, begin+"ab\x1b7z", es("", '7'), pr('z'))
		tells(t, begin+"ab\x18z", ex(0x18), pr('z'))
		tells(t, begin+"ab\x1az", ex(0x1a), pr('z'))
	}
}

// P8.1: characters that are cut off by a control byte, by a sequence, by 7f, and by the end.
func TestCutOff(t *testing.T) {
	for _, begun := range []string{"\xc3", "\xe2", "\xe2\x82", "\xf0", "\xf0\x9f", "\xf0\x9f\x98"} {
		tells(t, begun)
		for c := range byte(0x20) {
			if c != 0x1b {
				tells(t, begun+string([]byte{c}), pr(0xfffd), ex(c))
			}
		}
		tells(t, begun+"\x1b", pr(0xfffd))
		tells(t, begun+"\x1b[m\x82", pr(0xfffd), cs("", nil, 'm'), pr(0xfffd))
		tells(t, begun+"\x1b]ab\a", pr(0xfffd), os("ab"))
		tells(t, begun+"\x7f\x82", pr(0xfffd), pr(0xfffd))
		tells(t, begun+"a", pr(0xfffd), pr('a'))
		tells(t, begun+begun+"\xc3\xa9", pr(0xfffd), pr(0xfffd), pr(0xe9))
		p := fed(begun)
		p.End()
		hold(t, begun, taken(p), []Event{pr(0xfffd)})
		p.End()
		p.Feed("\x98\x80")
		hold(t, begun, taken(p), []Event{pr(0xfffd), pr(0xfffd)})
	}
	tells(t, "\xf0\x9f\x98\x80\xe2\x82\xac", pr(0x1f600), pr(0x20ac))
	tells(t, "\xed\xa0\x80", pr(0xfffd), pr(0xfffd), pr(0xfffd))
	tells(t, "\xe2\x82\xc3\xa9", pr(0xfffd), pr(0xe9))
}

// P8.1: End tells nothing of a sequence or a string that is not whole; it goes on behind it.
func TestEndBetween(t *testing.T) {
	for _, s := range []string{
		"\x1b7", "\x1b(0", "\x1b[?1;2$m", "\x1b]0;hi\a", "\x1b]0;\xc3\xa9\x1b\\", "\x1bP?1;2$qab\x1b\\", "\x1bXab\x1b\\z", "\x1b[1?m", "\x1bP1?q\x1b\\",
	} {
		p := New()
		for i := range len(s) {
			p.Feed(s[i : i+1])
			before := p.State()
			p.End()
			if p.State() != before {
				t.Errorf("End behind %q: state %d, not %d", s[:i+1], p.State(), before)
			}
		}
		hold(t, s, taken(p), reads(s))
	}
}

// P8.1: Next when nothing was told, and again behind the last event; events stand in their order, whenever they are taken.
func TestNext(t *testing.T) {
	nothing := func(p *Parser) {
		t.Helper()
		for range 3 {
			if e, ok := p.Next(); ok || !like(e, Event{}) {
				t.Errorf("Next: %v, %v", e, ok)
			}
		}
	}
	one := func(p *Parser, want Event) {
		t.Helper()
		if e, ok := p.Next(); !ok || !like(e, want) {
			t.Errorf("Next: %v, %v, not %v", e, ok, want)
		}
	}
	p := New()
	nothing(p)
	p.Feed("")
	p.End()
	nothing(p)
	p.Feed("\x1b[")
	nothing(p)
	p.Feed("1mab")
	one(p, cs("", ones(1), 'm'))
	p.Feed("cd\n")
	one(p, pr('a'))
	one(p, pr('b'))
	one(p, pr('c'))
	p.Feed("e")
	one(p, pr('d'))
	one(p, ex('\n'))
	one(p, pr('e'))
	nothing(p)
	p.Feed("f")
	one(p, pr('f'))
	nothing(p)
}

// P8.2: Waits and State behind each byte of a sequence.
func TestStates(t *testing.T) {
	for _, x := range []struct {
		s    string
		want []int
	}{
		{"a\x1b7a", []int{0, 1, 0, 0}},
		{"\x1b\x1b\n(\n\xc3)0", []int{1, 1, 1, 2, 2, 2, 2, 0}},
		{"\x1b[\n?1;2\n$ m", []int{1, 3, 3, 4, 4, 4, 4, 4, 5, 5, 0}},
		{"\x1b[1?1$m", []int{1, 3, 4, 6, 6, 6, 0}},
		{"\x1b[$1m", []int{1, 3, 5, 6, 0}},
		{"\x1bP\n>1$qab\x1b\\", []int{1, 7, 7, 8, 8, 9, 10, 10, 10, 1, 0}},
		{"\x1bP1?qa\x18", []int{1, 7, 8, 11, 11, 11, 0}},
		{"\x1b]0;\xc3\a", []int{1, 12, 12, 12, 12, 0}},
		{"\x1b]0\x1bP\x1a", []int{1, 12, 12, 1, 7, 0}},
		{"\x1b_a\a\x1b\\", []int{1, 13, 13, 13, 1, 0}},
		{"\x1bX\x18\x1b^\x1a", []int{1, 13, 0, 1, 13, 0}},
	} {
		p := New()
		for i := range len(x.s) {
			p.Feed(x.s[i : i+1])
			for range 2 {
				if p.State() != x.want[i] || p.Waits() != (x.want[i] != 0) {
					t.Errorf("behind %q: %d, %v, not %d", x.s[:i+1], p.State(), p.Waits(), x.want[i])
				}
			}
		}
	}
}

// P8.2: a parser waits for the rest of a character, in Ground.
func TestWaitsForCharacter(t *testing.T) {
	s := "\xf0\x9f\x98\x80\xc3\xe2\x82a\xc3\n"
	want := []bool{true, true, true, false, true, true, true, false, true, false}
	p := New()
	for i := range len(s) {
		p.Feed(s[i : i+1])
		if p.Waits() != want[i] || p.State() != states.Ground {
			t.Errorf("behind %q: %v, %d", s[:i+1], p.Waits(), p.State())
		}
	}
	p.Feed("\xe2\x82")
	p.End()
	if p.Waits() {
		t.Error("a parser waits behind End")
	}
	p.Feed("\xe2\x1b")
	p.End()
	if !p.Waits() || p.State() != states.Escape {
		t.Error("a parser does not wait behind 1b and End")
	}
}

// P8.2: a nil parser tells nothing, and takes everything.
func TestNil(t *testing.T) {
	var p *Parser
	for _, s := range []string{"", "a", "\x1b[1m", "\xc3"} {
		p.Feed(s)
		p.End()
		if e, ok := p.Next(); ok || !like(e, Event{}) {
			t.Errorf("Next: %v, %v", e, ok)
		}
		if p.Waits() || p.State() != 0 {
			t.Errorf("%v, %d", p.Waits(), p.State())
		}
	}
}

// P8.2: a parser that New did not make is like a new one; each call may be its first.
func TestZero(t *testing.T) {
	zero := func() *Parser { return &Parser{} }
	for _, p := range []*Parser{zero(), New(), new(Parser)} {
		if e, ok := p.Next(); ok || !like(e, Event{}) || p.Waits() || p.State() != 0 {
			t.Errorf("%v, %v, %v, %d", e, ok, p.Waits(), p.State())
		}
		p.End()
		hold(t, "", taken(p), nil)
	}
	s := "a\xc3\x1b[?1;2$m\x1b]0;hi\a\x1bP1qab\x1b\\\n\x1b(0"
	var p Parser
	p.Feed(s)
	hold(t, s, taken(&p), reads(s))
	var q Parser
	q.End()
	q.Feed(s)
	hold(t, s, taken(&q), reads(s))
}

// P8.2: Same says no if but one field differs, and holds a nil and an empty list for the same.
func TestSame(t *testing.T) {
	full := func() Event {
		return Event{Kind: Dcs, Rune: 'r', Final: 'q', Mids: "?$", Params: [][]int{{1, 2}, {3}}, Text: "ab"}
	}
	others := []func(e *Event){
		func(e *Event) { e.Kind = Csi }, func(e *Event) { e.Kind = math.MinInt }, func(e *Event) { e.Rune = 's' },
		func(e *Event) { e.Rune = -1 }, func(e *Event) { e.Final = 'r' }, func(e *Event) { e.Mids = "?" },
		func(e *Event) { e.Mids = "$?" }, func(e *Event) { e.Mids = "" }, func(e *Event) { e.Text = "abc" }, func(e *Event) { e.Text = "" },
		func(e *Event) { e.Mids, e.Text = "?$a", "b" },
		func(e *Event) { e.Params = nil }, func(e *Event) { e.Params = [][]int{{1, 2}} },
		func(e *Event) { e.Params = [][]int{{1, 2}, {4}} }, func(e *Event) { e.Params = [][]int{{1, 2}, {3}, {}} },
		func(e *Event) { e.Params = [][]int{{1}, {2, 3}} }, func(e *Event) { e.Params = [][]int{{1, 2, 0}, {3}} },
		func(e *Event) { e.Params = [][]int{{1, 2}, nil} }, func(e *Event) { e.Params = [][]int{{3}, {1, 2}} },
	}
	var events []Event
	for _, change := range others {
		e := full()
		change(&e)
		events = append(events, e)
	}
	events = append(events, full(), Event{})
	for i, a := range events {
		for j, b := range events {
			if Same(a, b) != (i == j) {
				t.Errorf("Same(%v, %v): %v", a, b, i != j)
			}
		}
	}
	if !Same(full(), full()) {
		t.Error("two events that are alike are not the same")
	}
	for _, x := range [][2][][]int{{nil, {}}, {{nil}, {{}}}, {{nil, {1}}, {{}, {1}}}} {
		a, b := full(), full()
		a.Params, b.Params = x[0], x[1]
		if !Same(a, b) || !Same(b, a) {
			t.Errorf("%v and %v are not the same", a, b)
		}
	}
	if Same(Event{Params: [][]int{{}}}, Event{}) {
		t.Error("a list of an empty list is the same as an empty one")
	}
}

// P8.2, R4: Same changes nothing.
func TestSameKeeps(t *testing.T) {
	list := [][]int{[]int{1, 2, 9}[:2], {3}, {8}}
	a := Event{Kind: Csi, Params: list[:2]}
	Same(a, Event{Kind: Csi, Params: [][]int{{1, 2}, {3}}})
	Same(a, a)
	if list[0][:3][2] != 9 || list[2][0] != 8 || !slices.Equal(list[0], []int{1, 2}) {
		t.Error(list)
	}
}

// reads is the events of a whole text and its End, worked out at once: the text is cut at 18, 1a and 1b, which break off whatever stands before them.
func reads(s string) []Event {
	var all []Event
	escaped := false
	for {
		i := strings.IndexAny(s, "\x18\x1a\x1b")
		piece, end := s, byte(0)
		if i >= 0 {
			piece, end = s[:i], s[i]
		}
		if escaped {
			all = append(all, sequences(piece, end)...)
		} else {
			all = append(all, plain(piece)...)
		}
		if i < 0 {
			return all
		}
		if end != 0x1b {
			all = append(all, ex(end))
		}
		escaped = end == 0x1b
		s = s[i+1:]
	}
}

// plain is the events of a text that is no sequence.
func plain(s string) []Event {
	var all []Event
	begin := 0
	for i := range len(s) + 1 {
		if i < len(s) && s[i] >= 0x20 && s[i] != 0x7f {
			continue
		}
		for _, r := range decode.All(s[begin:i]) {
			all = append(all, pr(r))
		}
		if i < len(s) && s[i] < 0x20 {
			all = append(all, ex(s[i]))
		}
		begin = i + 1
	}
	return all
}

// split is the place of the first byte of s from low to 7e, and what stands before it: the controls told, and the bytes from 20 on up to 7e. Without such a byte the place is the end.
func split(s string, low byte) (at int, controls []Event, body string) {
	for i := range len(s) {
		switch c := s[i]; {
		case c >= low && c < 0x7f:
			return i, controls, body
		case c < 0x20:
			controls = append(controls, ex(c))
		case c < 0x7f:
			body += string([]byte{c})
		}
	}
	return len(s), controls, body
}

// head is the mids and the parameters of what stands before a last byte, and whether they may be so: a mark, digits with : and ;, bytes from 20 to 2f, and two bytes collected at most.
func head(body string) (mids string, l [][]int, ok bool) {
	rest := strings.TrimLeft(body, "<=>?")
	if len(body)-len(rest) > 1 {
		return "", nil, false
	}
	behind := strings.TrimLeft(rest, "0123456789:;")
	var list params.List
	for _, c := range []byte(rest[:len(rest)-len(behind)]) {
		list.Byte(c)
	}
	mids = body[:len(body)-len(rest)] + behind
	for _, c := range []byte(behind) {
		if c >= 0x30 {
			return "", nil, false
		}
	}
	return mids, list.All(), len(mids) <= 2
}

// sequences is the events of a text behind a 1b; end is the byte that breaks it off, 0 if none does.
func sequences(s string, end byte) []Event {
	at, all, _ := split(s, 0x20)
	if at == len(s) {
		return all
	}
	c, rest := s[at], s[at+1:]
	switch {
	case c == '[':
		return append(all, control(rest)...)
	case c == 'P':
		return append(all, device(rest, end)...)
	case c == ']':
		return append(all, command(rest, end)...)
	case strings.IndexByte("X^_", c) >= 0:
		return all
	case c >= 0x30:
		if c != '\\' {
			all = append(all, es("", c))
		}
		return append(all, plain(rest)...)
	}
	last, controls, body := split(rest, 0x30)
	all = append(all, controls...)
	if last == len(rest) {
		return all
	}
	if mids := s[at:at+1] + body; len(mids) <= 2 {
		all = append(all, es(mids, rest[last]))
	}
	return append(all, plain(rest[last+1:])...)
}

func control(s string) []Event {
	last, all, body := split(s, 0x40)
	if last == len(s) {
		return all
	}
	if mids, l, ok := head(body); ok {
		all = append(all, cs(mids, l, s[last]))
	}
	return append(all, plain(s[last+1:])...)
}

func device(s string, end byte) []Event {
	last, _, body := split(s, 0x40)
	mids, l, ok := head(body)
	if last == len(s) || end != 0x1b || !ok {
		return nil
	}
	text := strings.ReplaceAll(s[last+1:], "\x7f", "")
	if len(text) > maxDcs {
		return nil
	}
	return []Event{dc(mids, l, s[last], text)}
}

func command(s string, end byte) []Event {
	s, behind, over := strings.Cut(s, "\a")
	var text []byte
	for _, c := range []byte(s) {
		if c >= 0x20 {
			text = append(text, c)
		}
	}
	var all []Event
	if (over || end == 0x1b) && len(text) <= maxOsc {
		all = append(all, os(string(text)))
	}
	return append(all, plain(behind)...)
}

// ended is the events of a text and of its End.
func ended(s string) []Event {
	p := fed(s)
	p.End()
	return taken(p)
}

// P8.1: all texts of up to four of these bytes, and of up to three behind some beginnings, held against what is read at once.
func TestShortTexts(t *testing.T) {
	alphabet := "\x1b[]P_\\1;?$ma\a\n\x18\x7f\xc3\xa9"
	const most = 4
	var try func(s string, more int)
	try = func(s string, more int) {
		hold(t, s, ended(s), reads(s))
		if more == 0 || t.Failed() {
			return
		}
		for i := range len(alphabet) {
			try(s+alphabet[i:i+1], more-1)
		}
	}
	try("", most)
	for _, begin := range []string{"\x1b", "\x1b[", "\x1b[1", "\x1bP", "\x1bP1$", "\x1b(", "\x1bPq", "\x1b]"} {
		try(begin, most-1)
	}
}

// sample is a text of bytes and pieces of sequences.
func sample(next func(n int) int, long int) string {
	pieces := []string{"\x1b[", "\x1b]", "\x1bP", "\x1b\\", "\x1bX", "\x1b(", "1;2", "38:5:200", "?", "$", " ", "m", "q", "\xe2\x82\xac", "\xf0\x9f", "\a", "\x18", "\x1a", "\x7f", "hi"}
	var s []byte
	for len(s) < long {
		if next(3) == 0 {
			s = append(s, byte(next(256)))
		} else {
			s = append(s, pieces[next(len(pieces))]...)
		}
	}
	return string(s)
}

// P8.1: long texts of any bytes and of pieces of sequences, held against what is read at once.
func TestAnyTexts(t *testing.T) {
	next := chance(8)
	for range 4000 {
		s := sample(next, next(60))
		hold(t, s, ended(s), reads(s))
	}
	for range 20 {
		s := sample(next, 5000)
		hold(t, s, ended(s), reads(s))
	}
}

// P8.3: however the bytes are cut, and however often Next is asked between, the events are the same.
func TestCuts(t *testing.T) {
	next := chance(9)
	for range 3000 {
		s := sample(next, next(80))
		want := taken(fed(s))
		p := New()
		var got []Event
		for rest := s; rest != ""; {
			n := 1 + next(min(len(rest), 7))
			p.Feed(rest[:n])
			rest = rest[n:]
			if next(5) == 0 {
				p.Feed("")
			}
			for range next(4) {
				if e, ok := p.Next(); ok {
					got = append(got, e)
				}
			}
			p.Waits()
			p.State()
		}
		hold(t, s, append(got, taken(p)...), want)
		if q := fed(s); p.State() != q.State() || p.Waits() != q.Waits() {
			t.Errorf("%q leaves %d, %v, not %d, %v", s, p.State(), p.Waits(), q.State(), q.Waits())
		}
	}
}

// P8.3: each cut in two of texts of each kind.
func TestCutsInTwo(t *testing.T) {
	for _, s := range []string{"a\xf0\x9f\x98\x80b", "\x1b[?1;38:5:200$mx", "\x1b]0;t\xc3\xa9\x1b\\x", "\x1bP>1;2$qab\xc3\x1b\\x", "\x1b()0\xe2\x82\n\x1bXab\x18x"} {
		want := taken(fed(s))
		for i := range len(s) + 1 {
			p := fed(s[:i])
			got := taken(p)
			p.Feed(s[i:])
			hold(t, s, append(got, taken(p)...), want)
		}
	}
}

// P8.3: behind 18 a parser is as a new one, and what was told stays.
func TestAnew(t *testing.T) {
	next := chance(10)
	for range 2000 {
		before, behind := sample(next, next(40)), sample(next, next(40))
		p := fed(before)
		p.Feed("\x18")
		if p.Waits() || p.State() != states.Ground {
			t.Errorf("behind %q and 18: %v, %d", before, p.Waits(), p.State())
		}
		p.Feed(behind)
		q := fed(before)
		q.End()
		want := slices.Concat(taken(q), []Event{ex(0x18)}, taken(fed(behind)))
		hold(t, before+"\x18"+behind, taken(p), want)
	}
	for _, before := range []string{"\x1b", "\x1b(", "\x1b(()", "\x1b[1;2", "\x1b[?$ !", "\x1b[1?", "\x1bP", "\x1bP1$", "\x1bP1qab", "\x1bP1?", "\x1b]ab", "\x1b]" + strings.Repeat("x", 1025), "\x1bX"} {
		tells(t, before+"\x18\x1b[m\x1b7\x1b]c\a\x1bPqd\x1b\\", ex(0x18), cs("", nil, 'm'), es("", '7'), os("c"), dc("", nil, 'q', "d"))
	}
}

// R3: parsers know nothing of one another.
func TestApart(t *testing.T) {
	s := "\xc3\xa9\x1b[?1;2$m\x1b]0;hi\a\x1bP1qab\x1b\\"
	u := "zz\x1b(\x1b[5;6;7 qa\xf0\x9f\x1b]9;other\a"
	p, q := New(), New()
	for i := range max(len(s), len(u)) {
		if i < len(s) {
			p.Feed(s[i : i+1])
		}
		if i < len(u) {
			q.Feed(u[i : i+1])
		}
	}
	hold(t, s, taken(p), reads(s))
	hold(t, u, taken(q), reads(u))
}

// R3, R4: a parser's copy goes on by itself.
func TestCopies(t *testing.T) {
	for _, begin := range []string{"ab\x1b[1;2m", "ab\xf0\x9f", "ab\x1b[1;2", "a\x1b(", "a\x1bP1$qxy", "a\x1b]0;t"} {
		p := fed(begin)
		first, _ := p.Next()
		q := *p
		p.Feed("3m\x1b\\z")
		q.Feed("48n\x1b[5q")
		hold(t, begin, append([]Event{first}, taken(p)...), taken(fed(begin+"3m\x1b\\z")))
		hold(t, begin, append([]Event{first}, taken(&q)...), taken(fed(begin+"48n\x1b[5q")))
	}
	p := fed("\x1b[1;2m")
	q := *p
	e, _ := p.Next()
	e.Params[0][0], e.Params[1] = 7, nil
	hold(t, "a copy", taken(&q), []Event{cs("", ones(1, 2), 'm')})
}

// R4: what Next answered is the caller's own: it may be written over, and later bytes do not change it.
func TestOwn(t *testing.T) {
	p := fed("\x1b[1:2;3m\x1b[1:2;3m\x1bP4;5qab\x1b\\")
	e, _ := p.Next()
	for i := range e.Params {
		for j := range e.Params[i] {
			e.Params[i][j] = 99
		}
		e.Params[i] = append(e.Params[i], 98)
	}
	e.Params = append(e.Params, []int{97})
	hold(t, "written over", []Event{e}, []Event{cs("", [][]int{{99, 99, 98}, {99, 98}, {97}}, 'm')})
	p.Feed("\x1b[6;7;8;9n")
	hold(t, "behind it", taken(p), []Event{cs("", [][]int{{1, 2}, {3}}, 'm'), dc("", ones(4, 5), 'q', "ab"), cs("", ones(6, 7, 8, 9), 'n')})
	hold(t, "written over", []Event{e}, []Event{cs("", [][]int{{99, 99, 98}, {99, 98}, {97}}, 'm')})
	p = fed("\x1b[1;2m\x1b]ab\a\x1bP?3$qcd\x1b\\")
	kept := taken(p)
	p.Feed("\x1b[8;9z\x1b]xy\a\x1bP>8!zzz\x1b\\")
	hold(t, "kept", kept, []Event{cs("", ones(1, 2), 'm'), os("ab"), dc("?$", ones(3), 'q', "cd")})
}

// Many events that nobody takes are kept, each in its place.
func TestMany(t *testing.T) {
	p := New()
	const n = 100000
	for i := range n {
		p.Feed(string([]byte{'a' + byte(i%26)}))
	}
	for i := range n {
		if e, ok := p.Next(); !ok || e.Rune != 'a'+rune(i%26) {
			t.Fatalf("event %d: %v, %v", i, e, ok)
		}
	}
	if _, ok := p.Next(); ok {
		t.Error("more events than were told")
	}
}
