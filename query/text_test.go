package query

import (
	"encoding/base64"
	"strconv"
	"strings"
	"testing"

	"jalousie/api"
	"jalousie/events"
)

// sixtyFour is the letters, each written out at its number.
var sixtyFour = []string{
	"A", "B", "C", "D", "E", "F", "G", "H", "I", "J", "K", "L", "M", "N", "O", "P", "Q", "R", "S", "T", "U", "V", "W", "X", "Y", "Z",
	"a", "b", "c", "d", "e", "f", "g", "h", "i", "j", "k", "l", "m", "n", "o", "p", "q", "r", "s", "t", "u", "v", "w", "x", "y", "z",
	"0", "1", "2", "3", "4", "5", "6", "7", "8", "9", "+", "/",
}

// plainLetters is the chapter's words done plainly: the text's bits one behind the other, the highest ones first, cut by six, and = up to four.
func plainLetters(s string) string {
	var bits strings.Builder
	for i := range len(s) {
		byteBits := strconv.FormatInt(int64(s[i])+256, 2)
		bits.WriteString(byteBits[1:])
	}
	rest := bits.String()
	var out strings.Builder
	for len(rest) > 0 {
		six := rest[:min(6, len(rest))]
		rest = rest[len(six):]
		for len(six) < 6 {
			six += "0"
		}
		n, _ := strconv.ParseInt(six, 2, 64)
		out.WriteString(sixtyFour[n])
	}
	for out.Len()%4 != 0 {
		out.WriteByte('=')
	}
	return out.String()
}

func wantsLetters(t *testing.T, s string) {
	t.Helper()
	got := Letters(s)
	if want := plainLetters(s); got != want {
		t.Errorf("Letters(%q) is %q, not %q", s, got, want)
	}
	if back, e := base64.StdEncoding.Strict().DecodeString(got); e != nil || string(back) != s {
		t.Errorf("Letters(%q) is read back as %q, %v", s, back, e)
	}
}

// plainPaste is the chapter's words done plainly.
func plainPaste(s string, bracketed bool) string {
	var out []byte
	for i := range len(s) {
		switch c := s[i]; {
		case c == 0x0a:
			out = append(out, 0x0d)
		case c == 0x09 || c == 0x0d:
			out = append(out, c)
		case c < 0x20 || c == 0x7f:
		default:
			out = append(out, c)
		}
	}
	if bracketed {
		return "\x1b[200~" + string(out) + "\x1b[201~"
	}
	return string(out)
}

// wantsPaste fails if a text is not pasted as the chapter says, or something in it ends the brackets, or it is not the same pasted twice.
func wantsPaste(t *testing.T, s string) {
	t.Helper()
	for _, bracketed := range []bool{false, true} {
		if got, want := Paste(s, bracketed), plainPaste(s, bracketed); got != want {
			t.Errorf("Paste(%q, %v) is %q, not %q", s, bracketed, got, want)
		}
	}
	once := Paste(s, false)
	if strings.Contains(once, "\x1b") {
		t.Errorf("Paste(%q, false) has a 1b: %q", s, once)
	}
	if twice := Paste(once, false); twice != once {
		t.Errorf("Paste(%q, false) twice is %q, not %q", s, twice, once)
	}
	if got := Paste(once, true); got != Paste(s, true) {
		t.Errorf("Paste(%q, true) behind Paste is %q", s, got)
	}
	inner, opened := strings.CutPrefix(Paste(s, true), "\x1b[200~")
	inner, closed := strings.CutSuffix(inner, "\x1b[201~")
	if !opened || !closed || inner != once {
		t.Errorf("Paste(%q, true) has in its brackets %q, not %q", s, inner, once)
	}
}

// anyTexts hands out all texts of so many bytes of some.
func anyTexts(n int, some string, hand func(string)) {
	if n == 0 {
		hand("")
		return
	}
	anyTexts(n-1, some, func(s string) {
		for i := range len(some) {
			hand(s + some[i:i+1])
		}
	})
}

// allBytes is each byte once, rising.
func allBytes() string {
	b := make([]byte, 256)
	for i := range b {
		b[i] = byte(i)
	}
	return string(b)
}

// chance is a row of bytes that looks like chance and is always the same.
func chance(seed uint64, n int) string {
	b := make([]byte, n)
	for i := range b {
		seed = seed*6364136223846793005 + 1442695040888963407
		b[i] = byte(seed >> 40)
	}
	return string(b)
}

func TestLettersExamples(t *testing.T) {
	for s, want := range map[string]string{"": "", "a": "YQ==", "abc": "YWJj", "abcd": "YWJjZA==", "hi": "aGk="} {
		if got := Letters(s); got != want {
			t.Errorf("Letters(%q) is %q, not %q", s, got, want)
		}
	}
}

func TestLettersOfAFewBytes(t *testing.T) {
	for s, want := range map[string]string{
		"f": "Zg==", "fo": "Zm8=", "foo": "Zm9v", "foob": "Zm9vYg==", "fooba": "Zm9vYmE=", "foobar": "Zm9vYmFy", "foobarb": "Zm9vYmFyYg==", "foobarba": "Zm9vYmFyYmE=",
		"\x00": "AA==", "\x00\x00": "AAA=", "\x00\x00\x00": "AAAA", "\x00\x00\x00\x00": "AAAAAA==",
		"\xff": "/w==", "\xff\xff": "//8=", "\xff\xff\xff": "////", "\xff\xff\xff\xff": "/////w==",
		"\x7f": "fw==", "\x80": "gA==", "\x80\x7f": "gH8=", "\x7f\x80\xff": "f4D/", "\xfb\xef\xbe": "++++", "=": "PQ==",
	} {
		if got := Letters(s); got != want {
			t.Errorf("Letters(%q) is %q, not %q", s, got, want)
		}
	}
}

func TestLettersOfAllBytes(t *testing.T) {
	anyTexts(1, allBytes(), func(s string) { wantsLetters(t, s) })
	anyTexts(2, allBytes(), func(s string) { wantsLetters(t, s) })
	wantsLetters(t, allBytes())
}

func TestLettersOfShortTexts(t *testing.T) {
	for n := range 9 {
		anyTexts(n, "\x00\x7f\x80\xff", func(s string) { wantsLetters(t, s) })
		for seed := range uint64(200) {
			wantsLetters(t, chance(seed, n))
		}
	}
}

// Each letter stands for its number at each of the four places.
func TestLettersEachAtEachPlace(t *testing.T) {
	if len(alphabet) != 64 || strings.Join(sixtyFour, "") != alphabet {
		t.Errorf("the letters are %q", alphabet)
	}
	for n, letter := range sixtyFour {
		for place := range 4 {
			bits := n << (18 - 6*place)
			s := string([]byte{byte(bits >> 16), byte(bits >> 8), byte(bits)})
			want := strings.Repeat("A", place) + letter + strings.Repeat("A", 3-place)
			if got := Letters(s); got != want {
				t.Errorf("Letters(%q) is %q, not %q", s, got, want)
			}
			if got := Letters("abc" + s + "d"); got != "YWJj"+want+"ZA==" {
				t.Errorf("%q in the middle: %q", s, got)
			}
		}
	}
}

func TestLettersOfLongTexts(t *testing.T) {
	for _, n := range []int{9, 10, 11, 255, 256, 257, api.MaxInput, api.MaxBytes - 1, api.MaxBytes, api.MaxBytes + 1, api.MaxText, api.MaxText + 1, 1<<20 + 1} {
		wantsLetters(t, chance(uint64(n), n))
	}
}

func TestClip(t *testing.T) {
	for s, want := range map[string]string{
		"": "~]52;c;~\\", "a": "~]52;c;YQ==~\\", "hi": "~]52;c;aGk=~\\", "abc": "~]52;c;YWJj~\\", "abcd": "~]52;c;YWJjZA==~\\", "\x1b\\": "~]52;c;G1w=~\\", "\x00\x7f\x80\xff": "~]52;c;AH+A/w==~\\",
	} {
		if got := Clip(s); got != escaped(want) {
			t.Errorf("Clip(%q) is %q, not %q", s, got, escaped(want))
		}
	}
	for n := range 9 {
		anyTexts(min(n, 6), "\x00\x1b\xff\\", func(s string) {
			if got, want := Clip(s), "\x1b]52;c;"+plainLetters(s)+"\x1b\\"; got != want {
				t.Errorf("Clip(%q) is %q, not %q", s, got, want)
			}
		})
	}
}

// Whatever was copied, it is one string to the system that is told.
func TestClipIsOneString(t *testing.T) {
	for _, s := range []string{"", "a", "\x1b\\\x07\x18", allBytes(), chance(1, 700)} {
		var strung []events.Event
		for _, e := range told(Clip(s)) {
			if e.Kind == events.Osc {
				strung = append(strung, e)
			} else if e.Kind != events.Esc || e.Final != '\\' {
				t.Errorf("Clip(%q) tells %v, too", s, e)
			}
		}
		if len(strung) != 1 || strung[0].Text != "52;c;"+Letters(s) {
			t.Errorf("Clip(%q) tells %v", s, strung)
		}
	}
}

func TestPasteExample(t *testing.T) {
	if got := Paste("a\nb\x1bc", true); got != "\x1b[200~a\rbc\x1b[201~" {
		t.Errorf("%q", got)
	}
	if got := Paste("a\nb\x1bc", false); got != "a\rbc" {
		t.Errorf("%q", got)
	}
}

func TestPasteOfNone(t *testing.T) {
	if got := Paste("", false); got != "" {
		t.Errorf("%q", got)
	}
	if got := Paste("", true); got != "\x1b[200~\x1b[201~" {
		t.Errorf("bracketed: %q", got)
	}
}

func TestPasteOfEachByte(t *testing.T) {
	for c := range 256 {
		s := string([]byte{byte(c)})
		want := s
		switch {
		case c == 0x0a:
			want = "\r"
		case c == 0x09 || c == 0x0d:
		case c < 0x20 || c == 0x7f:
			want = ""
		}
		if got := Paste(s, false); got != want {
			t.Errorf("Paste(%q) is %q, not %q", s, got, want)
		}
		if got := Paste(s, true); got != "\x1b[200~"+want+"\x1b[201~" {
			t.Errorf("Paste(%q), bracketed, is %q", s, got)
		}
		if got := Paste("x"+s+s+"y", false); got != "x"+want+want+"y" {
			t.Errorf("Paste of %q between others is %q", s, got)
		}
		wantsPaste(t, s)
	}
}

func TestPasteTexts(t *testing.T) {
	for s, want := range map[string]string{
		"one\ntwo\n":                     "one\rtwo\r",
		"one\r\ntwo":                     "one\r\rtwo",
		"a\tb\x7f\x00\x08\x0b\x0c\x1f c": "a\tb c",
		"中é\xc3\x80\x9b\xff\xfe":         "中é\xc3\x80\x9b\xff\xfe",
		"\x1b[201~rm\n":                  "[201~rm\r",
		"\x1b[200~":                      "[200~",
		"\x1b[200~a\x1b[201~b":           "[200~a[201~b",
		"\x1b\x1b[[201~":                 "[[201~",
		"\x1b\n\x1b[201~\x1b":            "\r[201~",
		"\x1b]52;c;YQ==\x07":             "]52;c;YQ==",
		"\x1b":                           "",
		"\n\n\n":                         "\r\r\r",
		"[201~":                          "[201~",
	} {
		if got := Paste(s, false); got != want {
			t.Errorf("Paste(%q) is %q, not %q", s, got, want)
		}
		if got := Paste(s, true); got != "\x1b[200~"+want+"\x1b[201~" {
			t.Errorf("Paste(%q), bracketed, is %q", s, got)
		}
		wantsPaste(t, s)
	}
}

func TestPasteOfShortTexts(t *testing.T) {
	for n := range 6 {
		anyTexts(n, "a\n\r\t\x1b[~\x7f\x80", func(s string) { wantsPaste(t, s) })
	}
	anyTexts(2, allBytes(), func(s string) { wantsPaste(t, s) })
}

func TestPasteOfLongTexts(t *testing.T) {
	for _, n := range []int{100, 1000, api.MaxBytes, api.MaxText, 1 << 20} {
		wantsPaste(t, chance(uint64(n), n))
		wantsPaste(t, strings.Repeat("\x1b[201~", n/6))
		wantsPaste(t, strings.Repeat("\n", n))
	}
}

// A program that is told what is pasted sees no sequence but the two brackets.
func TestPasteTellsTwoSequences(t *testing.T) {
	for _, s := range []string{"", "ab", "\x1b[201~", "\x1b[31m\x1b]0;x\x07\x1b7", allBytes(), chance(7, 2000)} {
		var got []events.Event
		for _, e := range told(Paste(s, true)) {
			if e.Kind != events.Print && e.Kind != events.Execute {
				got = append(got, e)
			}
		}
		opens := events.Event{Kind: events.Csi, Final: '~', Params: [][]int{{200}}}
		closes := events.Event{Kind: events.Csi, Final: '~', Params: [][]int{{201}}}
		if len(got) != 2 || !events.Same(got[0], opens) || !events.Same(got[1], closes) {
			t.Errorf("Paste(%q), bracketed, tells %v", s, got)
		}
	}
}

func TestFocus(t *testing.T) {
	if got := Focus(true); got != "\x1b[I" {
		t.Errorf("in: %q", got)
	}
	if got := Focus(false); got != "\x1b[O" {
		t.Errorf("out: %q", got)
	}
}

// What is answered hangs on the arguments alone: asked again, with other calls between, the same is answered.
func TestTextsAskedAgain(t *testing.T) {
	texts := []string{"", "a", "\x1b[201~\n", allBytes(), chance(3, 1000)}
	for _, s := range texts {
		letters, clip, plain, bracketed := Letters(s), Clip(s), Paste(s, false), Paste(s, true)
		for _, other := range texts {
			Letters(other)
			Clip(other)
			Paste(other, true)
			Focus(true)
		}
		if Letters(s) != letters || Clip(s) != clip || Paste(s, false) != plain || Paste(s, true) != bracketed {
			t.Errorf("%q: asked again, another answer", s)
		}
	}
}
