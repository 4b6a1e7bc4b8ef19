package decode

import (
	"slices"
	"strings"
	"testing"
)

// between is all bytes from low to high.
type between struct{ low, high byte }

func (r between) has(b byte) bool { return r.low <= b && b <= r.high }

// forms are the chapter's list: which bytes may stand where in a character.
var forms = [][]between{
	{{0x00, 0x7f}},
	{{0xc2, 0xdf}, {0x80, 0xbf}},
	{{0xe0, 0xe0}, {0xa0, 0xbf}, {0x80, 0xbf}},
	{{0xe1, 0xec}, {0x80, 0xbf}, {0x80, 0xbf}},
	{{0xed, 0xed}, {0x80, 0x9f}, {0x80, 0xbf}},
	{{0xee, 0xef}, {0x80, 0xbf}, {0x80, 0xbf}},
	{{0xf0, 0xf0}, {0x90, 0xbf}, {0x80, 0xbf}, {0x80, 0xbf}},
	{{0xf1, 0xf3}, {0x80, 0xbf}, {0x80, 0xbf}, {0x80, 0xbf}},
	{{0xf4, 0xf4}, {0x80, 0x8f}, {0x80, 0xbf}, {0x80, 0xbf}},
}

// edges are the bytes at which the chapter's list turns, and those beside them.
var edges = []byte{0x00, 0x1b, 0x61, 0x7e, 0x7f, 0x80, 0x81, 0x8e, 0x8f, 0x90, 0x91, 0x9e, 0x9f, 0xa0, 0xa1, 0xbe, 0xbf, 0xc0, 0xc1, 0xc2, 0xc3,
	0xde, 0xdf, 0xe0, 0xe1, 0xe2, 0xeb, 0xec, 0xed, 0xee, 0xef, 0xf0, 0xf1, 0xf2, 0xf3, 0xf4, 0xf5, 0xf6, 0xf8, 0xfc, 0xfe, 0xff}

// begins tells whether some bytes, at least one, begin a character, or are one.
func begins(s string) (begun, whole bool) {
	for _, form := range forms {
		if s == "" || len(s) > len(form) {
			continue
		}
		fits := true
		for i := range len(s) {
			fits = fits && form[i].has(s[i])
		}
		if fits {
			return true, len(s) == len(form)
		}
	}
	return false, false
}

// number is a whole character's, by the chapter's words.
func number(s string) rune {
	r := rune(s[0])
	switch len(s) {
	case 2:
		r &= 1<<5 - 1
	case 3:
		r &= 1<<4 - 1
	case 4:
		r &= 1<<3 - 1
	}
	for _, b := range []byte(s[1:]) {
		r = r<<6 | rune(b&(1<<6-1))
	}
	return r
}

// comes is the chapter's words of a byte: what is told, and what is kept then.
func comes(kept string, b byte) (told []rune, keeps string) {
	with := kept + string([]byte{b})
	begun, whole := begins(with)
	switch {
	case whole:
		return []rune{number(with)}, ""
	case begun:
		return nil, with
	case kept == "":
		return []rune{0xfffd}, ""
	}
	told, keeps = comes("", b)
	return append([]rune{0xfffd}, told...), keeps
}

// spelt is a character's bytes, by its number.
func spelt(r rune) string {
	last := func(shift int) byte { return 0x80 | byte(r>>shift)&0x3f }
	switch {
	case r < 0x80:
		return string([]byte{byte(r)})
	case r < 0x800:
		return string([]byte{0xc0 | byte(r>>6), last(0)})
	case r < 0x10000:
		return string([]byte{0xe0 | byte(r>>12), last(6), last(0)})
	}
	return string([]byte{0xf0 | byte(r>>18), last(12), last(6), last(0)})
}

// isNumber is false of what no bytes are: the numbers from d800 to dfff, and those above 10ffff.
func isNumber(r rune) bool { return r >= 0 && r <= 0x10ffff && (r < 0xd800 || r > 0xdfff) }

// numbers are those at which the count of bytes, or the first of them, turns, and those beside them.
func numbers() []rune {
	var all []rune
	for _, edge := range []rune{0, 0x61, 0x80, 0xe9, 0x100, 0x7c0, 0x800, 0x1000, 0x4e2d, 0xcfff, 0xd7ff, 0xe000, 0xf000, 0xfeff, 0xfffd, 0xffff, 0x10000, 0x1f600, 0x3ffff, 0x40000, 0xfffff, 0x100000, 0x10ffff} {
		for r := edge - 1; r <= edge+1; r++ {
			if isNumber(r) {
				all = append(all, r)
			}
		}
	}
	return all
}

// byteTells lets a byte come, and wants what is told then, and that no more stands beside it.
func byteTells(t *testing.T, d *Decoder, ahead string, b byte, want []rune) {
	t.Helper()
	l, n := d.Byte(b)
	var all [2]rune
	copy(all[:], want)
	if n != len(want) || l != all {
		t.Errorf("Byte(%02x) behind % x: %x, %d, not %x", b, ahead, l, n, want)
	}
}

func waits(t *testing.T, d *Decoder, ahead string, want int) {
	t.Helper()
	if n := d.Waits(); n != want {
		t.Errorf("Waits behind % x: %d, not %d", ahead, n, want)
	}
}

func endTells(t *testing.T, d *Decoder, ahead string, want rune, told bool) {
	t.Helper()
	if r, ok := d.End(); r != want || ok != told {
		t.Errorf("End behind % x: %x %v, not %x %v", ahead, r, ok, want, told)
	}
}

// endMarks ends a decoder that keeps so many bytes; a second end tells nothing.
func endMarks(t *testing.T, d *Decoder, ahead string, kept int) {
	t.Helper()
	if kept > 0 {
		endTells(t, d, ahead, 0xfffd, true)
	}
	for range 2 {
		waits(t, d, ahead+" and the end", 0)
		endTells(t, d, ahead, 0, false)
	}
}

func allTells(t *testing.T, s string, want ...rune) {
	t.Helper()
	if got := All(s); !slices.Equal(got, want) {
		t.Errorf("All(% x): %x, not %x", s, got, want)
	}
}

// follow holds every call of a decoder that is zero, byte by byte, against the chapter's words, and All too.
func follow(t *testing.T, s string) {
	t.Helper()
	var d Decoder
	var told, now []rune
	kept := ""
	for i := range len(s) {
		now, kept = comes(kept, s[i])
		byteTells(t, &d, s[:i], s[i], now)
		waits(t, &d, s[:i+1], len(kept))
		told = append(told, now...)
	}
	endMarks(t, &d, s, len(kept))
	if kept != "" {
		told = append(told, 0xfffd)
	}
	allTells(t, s, told...)
}

// The examples of the chapter, and the second of the document.
func TestExamples(t *testing.T) {
	allTells(t, "\x61\xc3\xa9", 0x61, 0xe9)
	allTells(t, "\xc3", 0xfffd)
	allTells(t, "\xc3\x61", 0xfffd, 0x61)
	allTells(t, "\xe2\x82\xc3\xa9", 0xfffd, 0xe9)
	allTells(t, "\xed\xa0\x80", 0xfffd, 0xfffd, 0xfffd)
	allTells(t, "\xf0\x9f\x98\x80", 0x1f600)
	allTells(t, "")
}

// P5.1: each byte as a first one.
func TestFirstBytes(t *testing.T) {
	for i := range 256 {
		var d Decoder
		b := byte(i)
		switch {
		case b <= 0x7f:
			byteTells(t, &d, "", b, []rune{rune(b)})
			waits(t, &d, string(rune(b)), 0)
		case b >= 0xc2 && b <= 0xf4:
			byteTells(t, &d, "", b, nil)
			waits(t, &d, string([]byte{b}), 1)
		default:
			byteTells(t, &d, "", b, []rune{0xfffd})
			waits(t, &d, string([]byte{b}), 0)
		}
		follow(t, string([]byte{b}))
	}
}

// secondMay tells whether a byte may stand behind a first one that begins a character of more bytes.
func secondMay(first, second byte) bool {
	low, high := byte(0x80), byte(0xbf)
	switch first {
	case 0xe0:
		low = 0xa0
	case 0xed:
		high = 0x9f
	case 0xf0:
		low = 0x90
	case 0xf4:
		high = 0x8f
	}
	return second >= low && second <= high
}

// P5.1: each byte behind each first one of more bytes.
func TestSecondBytes(t *testing.T) {
	for first := byte(0xc2); first <= 0xf4; first++ {
		for i := range 256 {
			var d Decoder
			d.Byte(first)
			second, ahead := byte(i), string([]byte{first})
			switch {
			case secondMay(first, second) && first <= 0xdf:
				byteTells(t, &d, ahead, second, []rune{rune(first&0x1f)<<6 | rune(second&0x3f)})
				waits(t, &d, ahead, 0)
			case secondMay(first, second):
				byteTells(t, &d, ahead, second, nil)
				waits(t, &d, ahead, 2)
			case second <= 0x7f:
				byteTells(t, &d, ahead, second, []rune{0xfffd, rune(second)})
				waits(t, &d, ahead, 0)
			case second >= 0xc2 && second <= 0xf4:
				byteTells(t, &d, ahead, second, []rune{0xfffd})
				waits(t, &d, ahead, 1)
			default:
				byteTells(t, &d, ahead, second, []rune{0xfffd, 0xfffd})
				waits(t, &d, ahead, 0)
			}
		}
	}
}

// P5.1, P5.2: all texts of two bytes, and each byte behind edges that are kept.
func TestAllShortTexts(t *testing.T) {
	for i := range 256 * 256 {
		follow(t, string([]byte{byte(i >> 8), byte(i)}))
	}
	for _, first := range edges {
		for _, second := range edges {
			s := string([]byte{first, second})
			if begun, whole := begins(s); begun && !whole {
				followAll(t, s)
				followAll(t, s+"\x80")
				followAll(t, s+"\xbf")
			}
		}
	}
}

// followAll follows a text and each byte behind it, those that have a byte more than a character may have too.
func followAll(t *testing.T, s string) {
	t.Helper()
	for i := range 256 {
		follow(t, s+string([]byte{byte(i)}))
		follow(t, s+string([]byte{byte(i)})+"\x80\x80\x80")
	}
}

// P5.1: the bytes of each number that there is, one behind the other: nothing is told ahead of the last one, and the number then. One decoder takes them all.
func TestEachNumber(t *testing.T) {
	var d Decoder
	count := 0
	for r := rune(0); r <= 0x10ffff; r++ {
		if !isNumber(r) {
			continue
		}
		s := spelt(r)
		for i := range len(s) - 1 {
			if l, n := d.Byte(s[i]); n != 0 || l != [2]rune{} || d.Waits() != i+1 {
				t.Fatalf("byte %d of %x: %x, %d; %d kept", i, r, l, n, d.Waits())
			}
		}
		if l, n := d.Byte(s[len(s)-1]); n != 1 || l != [2]rune{r} || d.Waits() != 0 {
			t.Fatalf("%x: %x, %d; %d kept", r, l, n, d.Waits())
		}
		count++
	}
	if count != 0x110000-0x800 {
		t.Error(count, "numbers")
	}
	endTells(t, &d, "all numbers", 0, false)
}

// P5.2: bytes written out, one character each.
func TestKnownBytes(t *testing.T) {
	for s, r := range map[string]rune{
		"\x00": 0, "\x1b": 0x1b, "\x7f": 0x7f, "\xc2\x80": 0x80, "\xc3\xa9": 0xe9, "\xdf\xbf": 0x7ff,
		"\xe0\xa0\x80": 0x800, "\xe0\xbf\xbf": 0xfff, "\xe1\x80\x80": 0x1000, "\xe4\xb8\xad": 0x4e2d, "\xec\xbf\xbf": 0xcfff, "\xed\x80\x80": 0xd000, "\xed\x9f\xbf": 0xd7ff,
		"\xee\x80\x80": 0xe000, "\xef\xbb\xbf": 0xfeff, "\xef\xbf\xbd": 0xfffd, "\xef\xbf\xbe": 0xfffe, "\xef\xbf\xbf": 0xffff,
		"\xf0\x90\x80\x80": 0x10000, "\xf0\xbf\xbf\xbf": 0x3ffff, "\xf1\x80\x80\x80": 0x40000, "\xf3\xbf\xbf\xbf": 0xfffff, "\xf4\x80\x80\x80": 0x100000, "\xf4\x8f\xbf\xbf": 0x10ffff,
	} {
		allTells(t, s, r)
		allTells(t, s+s, r, r)
		allTells(t, "a"+s+"b", 'a', r, 'b')
		follow(t, s)
	}
}

// P5.1, P5.2: bytes that are no character, written out with how many marks they are: those that begin one together have one.
func TestKnownMarks(t *testing.T) {
	for s, marks := range map[string]int{
		"\x80": 1, "\xbf": 1, "\x80\xbf": 2, "\xc0": 1, "\xc1": 1, "\xf5": 1, "\xff": 1, "\xfe\xff": 2,
		"\xc0\x80": 2, "\xc1\xbf": 2, "\xc2": 1, "\xc2\xc2": 2, "\xdf\xc0": 2,
		"\xe0": 1, "\xe0\x80": 2, "\xe0\x9f": 2, "\xe0\x80\x80": 3, "\xe0\x9f\xbf": 3, "\xe0\xa0": 1, "\xe0\xa0\xe0\xa0": 2, "\xe2\x82": 1, "\xe2\x82\xe2": 2, "\xe2\x82\xff": 2,
		"\xed\x9f": 1, "\xed\xa0": 2, "\xed\xbf\xbf": 3, "\xed\xa0\xbd\xed\xb8\x80": 6, "\xef\xbf": 1,
		"\xf0": 1, "\xf0\x8f": 2, "\xf0\x80\x80\x80": 4, "\xf0\x8f\xbf\xbf": 4, "\xf0\x90": 1, "\xf0\x9f\x98": 1, "\xf0\x9f\x98\xff": 2, "\xf0\x9f\x98\xf0\x9f\x98": 2,
		"\xf4\x90": 2, "\xf4\x90\x80\x80": 4, "\xf4\x8f\xbf": 1, "\xf5\x80\x80\x80": 4, "\xf7\xbf\xbf\xbf": 4, "\xf8\x88\x80\x80\x80": 5, "\xfc\x84\x80\x80\x80\x80": 6,
	} {
		want := slices.Repeat([]rune{0xfffd}, marks)
		allTells(t, s, want...)
		allTells(t, "a"+s+"b", append(append([]rune{'a'}, want...), 'b')...)
		follow(t, s)
	}
}

// P5.1: each character, cut off at each place: by each byte, and by the end.
func TestCutOff(t *testing.T) {
	for _, r := range numbers() {
		s := spelt(r)
		for cut := 1; cut < len(s); cut++ {
			var d Decoder
			for i := range cut {
				byteTells(t, &d, s[:i], s[i], nil)
				waits(t, &d, s[:i+1], i+1)
			}
			endMarks(t, &d, s[:cut], cut)
			for i := range 256 {
				follow(t, s[:cut]+string([]byte{byte(i)}))
				follow(t, s[:cut]+string([]byte{byte(i)})+s)
			}
		}
	}
}

// P5.1: what comes behind a character that is cut off is told as if nothing were ahead of it.
func TestComesAnew(t *testing.T) {
	for _, cut := range []string{"\xc2", "\xe2", "\xe2\x82", "\xf0", "\xf0\x9f", "\xf0\x9f\x98"} {
		for _, r := range numbers() {
			allTells(t, cut+spelt(r), 0xfffd, r)
			follow(t, cut+spelt(r))
		}
		for _, again := range []string{"\xc2", "\xe2", "\xe2\x82", "\xf0", "\xf0\x9f", "\xf0\x9f\x98"} {
			allTells(t, cut+again, 0xfffd, 0xfffd)
			allTells(t, cut+again+"a", 0xfffd, 0xfffd, 'a')
		}
	}
}

// P5.1: Waits behind each byte of a text in which all there is comes by.
func TestWaits(t *testing.T) {
	var d Decoder
	waits(t, &d, "", 0)
	s := "a\xc3\xa9\xe2\x82\xac\xf0\x9f\x98\x80\xff\xf0\x9f\x98\xf0\x9f\xe2\xc3\x61\xed\xa0\xe0\xa0\x80\xf4\x8f\xbf"
	for i, want := range []int{0, 1, 0, 1, 2, 0, 1, 2, 3, 0, 0, 1, 2, 3, 1, 2, 1, 1, 0, 1, 0, 1, 2, 0, 1, 2, 3} {
		d.Byte(s[i])
		for range 2 {
			waits(t, &d, s[:i+1], want)
		}
	}
	endTells(t, &d, s, 0xfffd, true)
	waits(t, &d, s+" and the end", 0)
	follow(t, s)
}

// P5.1: a decoder that is zero keeps nothing, however it is made; nor does one behind its end, or behind all that it told.
func TestZero(t *testing.T) {
	var plain Decoder
	spent, ended := &Decoder{}, &Decoder{}
	for _, b := range []byte("\xf0\x9f\x98\x80\xff") {
		spent.Byte(b)
	}
	ended.Byte(0xf0)
	ended.Byte(0x9f)
	ended.End()
	for _, d := range []*Decoder{&plain, {}, new(Decoder), spent, ended} {
		waits(t, d, "", 0)
		endTells(t, d, "", 0, false)
		byteTells(t, d, "", 0x98, []rune{0xfffd})
		byteTells(t, d, "", 'a', []rune{'a'})
		byteTells(t, d, "", 0xc3, nil)
		byteTells(t, d, "\xc3", 0xa9, []rune{0xe9})
		endTells(t, d, "", 0, false)
		waits(t, d, "", 0)
	}
}

// P5.1: behind an end a decoder goes on as a new one, whatever it kept.
func TestBehindEnd(t *testing.T) {
	for _, kept := range []string{"", "a", "\xc3", "\xe2", "\xe2\x82", "\xf0", "\xf0\x9f", "\xf0\x9f\x98", "\xff", "\xf4\x8f\xbf"} {
		for _, s := range []string{"\x80", "\xbf", "\xa9", "a", "\x98\x80", "\xc3\xa9", "\xf0\x9f\x98\x80", "\xed\xa0\x80"} {
			var d Decoder
			for i := range len(kept) {
				d.Byte(kept[i])
			}
			d.End()
			var told []rune
			for i := range len(s) {
				l, n := d.Byte(s[i])
				told = append(told, l[:n]...)
			}
			if want := All(s); !slices.Equal(told, want) {
				t.Errorf("% x behind % x and its end: %x, not %x", s, kept, told, want)
			}
			waits(t, &d, s, 0)
		}
	}
}

// P5.1: of a nil decoder nothing is ever told.
func TestNil(t *testing.T) {
	var d *Decoder
	for range 2 {
		for i := range 256 {
			byteTells(t, d, "", byte(i), nil)
			waits(t, d, "", 0)
			endTells(t, d, "", 0, false)
		}
	}
}

// chance is the same row of numbers at each run.
func chance(seed uint32) func(n int) int {
	return func(n int) int {
		seed = seed*1664525 + 1013904223
		return int(seed>>16) % n
	}
}

// anyText is bytes of which many begin a character and some go on with it.
func anyText(size int, next func(n int) int) string {
	var s strings.Builder
	for s.Len() < size {
		switch next(4) {
		case 0:
			s.WriteByte(byte(next(256)))
		case 1:
			s.WriteByte(edges[next(len(edges))])
		case 2:
			s.WriteByte(0x80 + byte(next(64)))
		case 3:
			r := spelt(anyNumber(next))
			s.WriteString(r[:1+next(len(r))])
		}
	}
	return s.String()
}

// anyNumber has from 1 to 4 bytes, one as often as the other.
func anyNumber(next func(n int) int) rune {
	r := rune(next(1<<15)<<15 | next(1<<15))
	switch next(4) {
	case 0:
		return r % 0x80
	case 1:
		return 0x80 + r%0x780
	case 2:
		if r = 0x800 + r%0xf800; !isNumber(r) {
			return r - 0x800
		}
		return r
	}
	return 0x10000 + r%0x100000
}

// P5.1, P5.2: any texts, byte by byte.
func TestAnyTexts(t *testing.T) {
	next := chance(5)
	for range 20000 {
		follow(t, anyText(1+next(40), next))
	}
}

// P5.3: of nothing but characters All tells these, fffd among them.
func TestCharactersAlone(t *testing.T) {
	next := chance(6)
	for size := range 300 {
		want, s := make([]rune, size), ""
		for i := range want {
			if want[i] = anyNumber(next); next(20) == 0 {
				want[i] = 0xfffd
			}
			s += spelt(want[i])
		}
		allTells(t, s, want...)
	}
	all := numbers()
	for _, a := range all {
		for _, b := range all {
			allTells(t, spelt(a)+spelt(b), a, b)
		}
	}
}

// longest is how many of the first bytes of s are told together: as many as begin a character, else one.
func longest(s string) (n int, whole bool) {
	n = 1
	for size := 1; size <= len(s); size++ {
		begun, is := begins(s[:size])
		if begun {
			n, whole = size, is
		}
	}
	return n, whole
}

// P5.3: each byte is told just once: All tells a text's pieces, each as long as it can be, one behind the other.
func TestEachByteOnce(t *testing.T) {
	next := chance(7)
	for range 5000 {
		s := anyText(1+next(60), next)
		var want []rune
		for rest := s; rest != ""; {
			n, whole := longest(rest)
			if whole {
				want = append(want, number(rest[:n]))
			} else {
				want = append(want, 0xfffd)
			}
			rest = rest[n:]
		}
		allTells(t, s, want...)
	}
}

// P5.3: at a byte that begins a character nothing ahead is gone on with, so that both sides of it are told as if alone.
func TestPartsApart(t *testing.T) {
	next := chance(8)
	for range 3000 {
		ahead, behind := anyText(1+next(20), next), spelt(anyNumber(next))+anyText(1+next(20), next)
		allTells(t, ahead+behind, append(All(ahead), All(behind)...)...)
	}
}

// R3: decoders know nothing of one another, nor All of any; a copy of one goes on by itself.
func TestApart(t *testing.T) {
	var a, b Decoder
	byteTells(t, &a, "", 0xf0, nil)
	byteTells(t, &b, "", 0xe2, nil)
	byteTells(t, &a, "\xf0", 0x9f, nil)
	c := a
	byteTells(t, &b, "\xe2", 0x82, nil)
	byteTells(t, &c, "\xf0\x9f", 0x8f, nil)
	allTells(t, "\x80\xe2", 0xfffd, 0xfffd)
	byteTells(t, &a, "\xf0\x9f", 0x98, nil)
	byteTells(t, &b, "\xe2\x82", 0xac, []rune{0x20ac})
	waits(t, &a, "\xf0\x9f\x98", 3)
	endTells(t, &b, "", 0, false)
	byteTells(t, &a, "\xf0\x9f\x98", 0x80, []rune{0x1f600})
	waits(t, &c, "\xf0\x9f\x8f", 3)
	byteTells(t, &c, "\xf0\x9f\x8f", 0x81, []rune{0x1f3c1})
}

// R4: what All answers is new memory at each call.
func TestAllIsNew(t *testing.T) {
	first := All("a\xc3\xa9\xff")
	second := All("a\xc3\xa9\xff")
	clear(first[:cap(first)])
	if !slices.Equal(second, []rune{'a', 0xe9, 0xfffd}) {
		t.Error("an answer was changed by way of another")
	}
	allTells(t, "a\xc3\xa9\xff", 'a', 0xe9, 0xfffd)
}

// R1, P5.2: texts that are very long.
func TestVeryLong(t *testing.T) {
	const size = 1 << 20
	for piece, told := range map[string][]rune{
		"a": {'a'}, "\x80": {0xfffd}, "\xc3": {0xfffd}, "\xe2\x82": {0xfffd}, "\xf0\x9f\x98": {0xfffd}, "\xf0\x9f\x98\x80": {0x1f600}, "\xed\xa0\x80": {0xfffd, 0xfffd, 0xfffd},
	} {
		if got := All(strings.Repeat(piece, size)); !slices.Equal(got, slices.Repeat(told, size)) {
			t.Errorf("% x, %d times: %d characters", piece, size, len(got))
		}
	}
}
