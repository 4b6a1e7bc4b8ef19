package ids

import (
	"math"
	"math/big"
	"regexp"
	"slices"
	"strconv"
	"strings"
	"sync"
	"testing"

	"jalousie/api"
	"jalousie/lattice"
)

const highest = 2147483647

// noLabels are numbers that are labels of no lattice, whatever is cut off of them.
var noLabels = []int{math.MinInt, math.MinInt + 1, -1 << 32, 1 - 1<<32, math.MinInt32, -65, -64, -2, -1, 64, 65, 256, 257, 1 << 16, math.MaxInt32, 1 << 31, 1 << 32, 1<<32 + 1, 1 << 62, math.MaxInt}

func rank(t *testing.T, ranks, sets int) *lattice.Lattice {
	t.Helper()
	l, e := lattice.Rank(ranks, sets)
	if e != api.OK {
		t.Fatalf("Rank(%d, %d): error %d", ranks, sets, e)
	}
	return l
}

func must(t *testing.T, l *lattice.Lattice) *Ids {
	t.Helper()
	d := New(l)
	if d == nil {
		t.Fatal("New: nil")
	}
	return d
}

func next(t *testing.T, d *Ids, label, want int) {
	t.Helper()
	if n, ok := d.Next(label); n != want || !ok {
		t.Errorf("Next(%d): %d %v, not %d", label, n, ok, want)
	}
}

func given(t *testing.T, d *Ids, label, want int) {
	t.Helper()
	if n := d.Given(label); n != want {
		t.Errorf("Given(%d): %d, not %d", label, n, want)
	}
}

func noLabel(t *testing.T, d *Ids, label int) {
	t.Helper()
	if n, ok := d.Next(label); n != 0 || ok {
		t.Errorf("Next(%d): %d %v", label, n, ok)
	}
	given(t, d, label, 0)
}

func words(t *testing.T, p api.Pane, want string) {
	t.Helper()
	if s, ok := Words(p); s != want || !ok {
		t.Errorf("Words(%v): %q %v, not %q", p, s, ok, want)
	}
}

func parse(t *testing.T, s string, want api.Pane) {
	t.Helper()
	if p, ok := Parse(s); p != want || !ok {
		t.Errorf("Parse(%q): %v %v, not %v", s, p, ok, want)
	}
}

func noName(t *testing.T, s string) {
	t.Helper()
	if p, ok := Parse(s); p != (api.Pane{}) || ok {
		t.Errorf("Parse(%.80q): %v %v", s, p, ok)
	}
}

func noWords(t *testing.T, p api.Pane) {
	t.Helper()
	if s, ok := Words(p); s != "" || ok {
		t.Errorf("Words(%v): %q %v", p, s, ok)
	}
}

// The examples of the chapter.
func TestExamples(t *testing.T) {
	d := must(t, rank(t, 3, 0))
	next(t, d, 1, 0)
	next(t, d, 1, 1)
	next(t, d, 0, 0)
	given(t, d, 1, 2)
	noLabel(t, d, 9)
	words(t, api.Pane{Label: 2, Home: 0, N: 7}, "p2.0.7")
	noName(t, "p2.0.07")
	noName(t, "p2.0")
	noName(t, "p2.0.7.1")
}

// P4.1: each number from 0 on, of each label of lattices of one label to the most there may be.
func TestNumbers(t *testing.T) {
	for labels := 1; labels <= 64; labels++ {
		d := must(t, rank(t, labels, 0))
		for label := range labels {
			given(t, d, label, 0)
		}
		for i := range 3 {
			for label := range labels {
				next(t, d, label, i)
				given(t, d, label, i+1)
			}
		}
		noLabel(t, d, -1)
		for label := labels; label < 70; label++ {
			noLabel(t, d, label)
		}
	}
}

// P4.1: labels of a lattice whose numbers do not rise with its order.
func TestNumbersOfSets(t *testing.T) {
	d := must(t, rank(t, 2, 5))
	for label := 63; label >= 0; label-- {
		for i := range label {
			next(t, d, label, i)
		}
	}
	for label := range 64 {
		given(t, d, label, label)
		next(t, d, label, label)
		given(t, d, label, label+1)
	}
	noLabel(t, d, 64)
}

// P4.1: a long row of numbers of one label.
func TestManyNumbers(t *testing.T) {
	d := must(t, rank(t, 2, 0))
	for i := range 200000 {
		next(t, d, 1, i)
	}
	given(t, d, 1, 200000)
	given(t, d, 0, 0)
	next(t, d, 0, 0)
}

// P4.1, R2: what is no label is given nothing, and changes nothing.
func TestNoLabels(t *testing.T) {
	for _, labels := range []int{1, 2, 3, 64} {
		d := must(t, rank(t, labels, 0))
		for i := range 3 {
			for _, label := range append([]int{labels, labels + 1, -labels}, noLabels...) {
				noLabel(t, d, label)
				noLabel(t, d, label)
			}
			for label := range labels {
				given(t, d, label, i)
				next(t, d, label, i)
			}
		}
	}
}

// P4.1: nil numbers, those that New did not make, and those of lattices without labels.
func TestUnmade(t *testing.T) {
	var plain Ids
	for name, d := range map[string]*Ids{
		"nil":                           nil,
		"a literal":                     {},
		"a variable":                    &plain,
		"of a nil lattice":              New(nil),
		"of a lattice that was refused": New(refused()),
		"of a lattice nobody made":      New(&lattice.Lattice{}),
	} {
		for range 2 {
			for _, label := range append([]int{0, 1, 2, 63}, noLabels...) {
				if n, ok := d.Next(label); n != 0 || ok {
					t.Errorf("%s: Next(%d): %d %v", name, label, n, ok)
				}
				if n := d.Given(label); n != 0 {
					t.Errorf("%s: Given(%d): %d", name, label, n)
				}
			}
		}
	}
}

func refused() *lattice.Lattice {
	l, _ := lattice.Rank(65, 0)
	return l
}

// P4.1: asking how many were given changes nothing.
func TestAsking(t *testing.T) {
	d := must(t, rank(t, 2, 1))
	for i := range 50 {
		for range i % 4 {
			given(t, d, 2, i)
			given(t, d, 3, 0)
		}
		next(t, d, 2, i)
	}
	given(t, d, 2, 50)
}

// P4.1: none is given twice, whoever asks at the same time. All askers wait for one another, so that they do ask at the same time.
func TestNoneTwice(t *testing.T) {
	const askers, each = 8, 50000
	d := must(t, rank(t, 2, 0))
	got := make([][]int, askers)
	var all sync.WaitGroup
	begin := make(chan struct{})
	for i := range askers {
		got[i] = make([]int, each)
		all.Go(func() {
			<-begin
			for k := range each {
				got[i][k], _ = d.Next(1)
			}
		})
	}
	close(begin)
	all.Wait()
	numbers := slices.Sorted(slices.Values(slices.Concat(got...)))
	for i, n := range numbers {
		if n != i {
			t.Fatalf("%d stands where %d should", n, i)
		}
	}
	given(t, d, 1, askers*each)
	given(t, d, 0, 0)
}

// chance is the same row of numbers at each run.
func chance(seed uint32) func(n int) int {
	return func(n int) int {
		seed = seed*1664525 + 1013904223
		return int(seed>>16) % n
	}
}

// P4.3: numbers of which those of all other labels were never asked for are the same for the one that is left.
func TestLabelsApart(t *testing.T) {
	for _, labels := range []int{1, 2, 5, 64} {
		l := rank(t, labels, 0)
		for one := range labels {
			whole, part, pick := must(t, l), must(t, l), chance(uint32(one))
			for range 300 {
				label := pick(labels+2) - 1
				n, ok := whole.Next(label)
				if label == one {
					if m, also := part.Next(label); m != n || also != ok || !ok {
						t.Fatalf("Next(%d) of %d labels: %d %v and %d %v", one, labels, n, ok, m, also)
					}
				}
				given(t, part, one, whole.Given(one))
			}
			for label := range labels {
				if label != one {
					given(t, part, label, 0)
				}
			}
		}
	}
}

// P4.3: a number hangs on how often that label was asked for: which labels there are beside it tells nothing.
func TestLatticesApart(t *testing.T) {
	few, many, sets := must(t, rank(t, 3, 0)), must(t, rank(t, 64, 0)), must(t, rank(t, 1, 2))
	for i := range 20 {
		for _, d := range []*Ids{few, many, sets} {
			next(t, d, 2, i)
		}
		next(t, many, 63, i)
	}
}

// R3, R4: numbers over one lattice know nothing of one another, and leave it as it is.
func TestIdsApart(t *testing.T) {
	l := rank(t, 2, 1)
	a, b := must(t, l), must(t, l)
	for i := range 10 {
		next(t, a, 3, i)
	}
	given(t, b, 3, 0)
	next(t, b, 3, 0)
	next(t, a, 3, 10)
	given(t, a, 3, 11)
	given(t, b, 3, 1)
	given(t, must(t, l), 3, 0)
	if l.Len() != 4 || l.Join(1, 2) != 3 || l.Meet(1, 2) != 0 || l.Below(1, 2) {
		t.Error("the lattice has changed")
	}
}

// parts are numbers about the edges of what a name may have.
var parts = []int{math.MinInt, math.MinInt + 1, -1 << 32, math.MinInt32, 1 - highest, -highest, -10, -1, 0, 1, 9, 10, 11, 99, 100, 101, 1000000000, 1999999999, highest - 1, highest, highest + 1, highest + 2, 9999999999, 1<<32 - 1, 1 << 32, 1<<32 + 1, 1<<32 + highest, math.MaxInt - 1, math.MaxInt}

func mayBe(n int) bool { return n >= 0 && n <= highest }

// P4.2, P4.3: names of all edges, and of all that are beyond them: their words, and the name of those.
func TestWords(t *testing.T) {
	for _, label := range parts {
		for _, home := range parts {
			for _, n := range parts {
				p := api.Pane{Label: label, Home: home, N: n}
				spelt := "p" + strconv.Itoa(label) + "." + strconv.Itoa(home) + "." + strconv.Itoa(n)
				if mayBe(label) && mayBe(home) && mayBe(n) {
					words(t, p, spelt)
					parse(t, spelt, p)
				} else {
					noWords(t, p)
					noName(t, spelt)
				}
			}
		}
	}
}

// P4.2: which part of a name stands where.
func TestOrderOfParts(t *testing.T) {
	for s, p := range map[string]api.Pane{
		"p0.0.0":                            {},
		"p1.0.0":                            {Label: 1},
		"p0.1.0":                            {Home: 1},
		"p0.0.1":                            {N: 1},
		"p1.2.3":                            {Label: 1, Home: 2, N: 3},
		"p3.2.1":                            {Label: 3, Home: 2, N: 1},
		"p63.10.200":                        {Label: 63, Home: 10, N: 200},
		"p2147483647.0.0":                   {Label: highest},
		"p0.2147483647.0":                   {Home: highest},
		"p0.0.2147483647":                   {N: highest},
		"p2147483647.2147483647.2147483647": {Label: highest, Home: highest, N: highest},
	} {
		words(t, p, s)
		parse(t, s, p)
	}
}

// P4.2: texts that are no name's words.
func TestNoNames(t *testing.T) {
	for _, s := range []string{
		"", "p", ".", "..", "p.", "p..", "p...", "0", "0.0.0", "2.0.7", "p0", "p0.", "p0.0", "p0.0.", "p.0.0", "p0..0", "p..0", "p0.0.0.", "p0.0.0.0", ".p0.0.0", "p.0.0.0", "p0.0..0",
		"P0.0.0", "q0.0.0", "pp0.0.0", "0p.0.0", "p0p.0.0", "p0.p0.0", "p0.0.p0", "p0.0.0p", "p0.0.0p0.0.0", "p0.0.0 p0.0.0",
		" p0.0.0", "p0.0.0 ", "p 0.0.0", "p0 .0.0", "p0. 0.0", "p0.0. 0", "p0.0.0\n", "\np0.0.0", "p0.0.0\r", "p0.0.0\t", "p0.0.0\x00", "\x00p0.0.0", "p\x000.0.0",
		"p00.0.0", "p0.00.0", "p0.0.00", "p01.0.0", "p0.01.0", "p0.0.01", "p007.0.0", "p0.0.000000000000000000000000000001",
		"p+0.0.0", "p0.+0.0", "p0.0.+0", "p+1.0.0", "p0.+1.0", "p0.0.+1", "p-0.0.0", "p0.-0.0", "p0.0.-0", "p-1.0.0", "p0.-1.0", "p0.0.-1", "p-2147483648.0.0", "p0.0.--1",
		"p1_0.0.0", "p0.1_0.0", "p0.0.1_0", "p0x1.0.0", "p0.0b1.0", "p0.0.0o1", "p1e1.0.0", "pa.0.0", "p0.a.0", "p0.0.a", "pf.f.f", "p0,0,0", "p0:0:0", "p0.0,0", "p0-0-0", "p0/0/0",
		"p\u0661.0.0", "p0.\uff11.0", "p0.0.\u00b2", "\uff500.0.0", "p0\uff0e0.0", "\u0440" + "0.0.0", "\xef\xbb\xbfp0.0.0", "p\xff.0.0", "p0.0.0\xff", "p\x8e.0.0", "p0.\xb0.0", "p0.0.\xc2",
		"p2147483648.0.0", "p0.2147483648.0", "p0.0.2147483648", "p2147483650.0.0", "p3000000000.0.0", "p4294967295.0.0", "p4294967296.0.0", "p0.4294967297.0", "p0.0.6442450943", "p10000000000.0.0", "p21474836470.0.0", "p0.0.21474836471",
		"p9223372036854775807.0.0", "p9223372036854775808.0.0", "p18446744073709551615.0.0", "p0.18446744073709551616.0", "p0.0.18446744073709551617", "p0.0.18446744075857035263", "p340282366920938463463374607431768211456.0.0",
	} {
		noName(t, s)
	}
}

// P4.2: each single byte that is put in, left out, or put in the place of another one.
func TestOneByteOff(t *testing.T) {
	for _, s := range []string{"p0.0.0", "p2.0.7", "p10.21.305", "p2147483647.2147483647.2147483647"} {
		for i := range len(s) + 1 {
			for b := range 256 {
				checkAgainstForm(t, s[:i]+string([]byte{byte(b)})+s[i:])
				if i < len(s) {
					checkAgainstForm(t, s[:i]+string([]byte{byte(b)})+s[i+1:])
				}
			}
			if i < len(s) {
				checkAgainstForm(t, s[:i]+s[i+1:])
				checkAgainstForm(t, s[:i])
				checkAgainstForm(t, s[i:])
			}
		}
	}
}

var form = regexp.MustCompile(`\Ap(0|[1-9][0-9]*)\.(0|[1-9][0-9]*)\.(0|[1-9][0-9]*)\z`)

// naiveParse is the document's words: digits, no nought ahead of others, none above the bound.
func naiveParse(s string) (api.Pane, bool) {
	found := form.FindStringSubmatch(s)
	if found == nil {
		return api.Pane{}, false
	}
	var numbers [3]int
	for i := range numbers {
		n, ok := new(big.Int).SetString(found[i+1], 10)
		if !ok || n.Cmp(big.NewInt(highest)) > 0 {
			return api.Pane{}, false
		}
		numbers[i] = int(n.Int64())
	}
	return api.Pane{Label: numbers[0], Home: numbers[1], N: numbers[2]}, true
}

// checkAgainstForm holds Parse against the document's words; the words of what it finds must be the text again (P4.3).
func checkAgainstForm(t *testing.T, s string) {
	t.Helper()
	p, ok := Parse(s)
	if want, may := naiveParse(s); p != want || ok != may {
		t.Errorf("Parse(%q): %v %v, not %v %v", s, p, ok, want, may)
	}
	if ok {
		words(t, p, s)
	}
}

// P4.2, P4.3: all short texts of some bytes, among them every name of single digits.
func TestAllShortTexts(t *testing.T) {
	const letters = "p.01+-"
	texts := []string{""}
	for range 7 {
		var longer []string
		for _, s := range texts {
			checkAgainstForm(t, s)
			for _, c := range letters {
				longer = append(longer, s+string(c))
			}
		}
		texts = longer
	}
	for _, s := range texts {
		if strings.HasPrefix(s, "p") {
			checkAgainstForm(t, s)
		}
	}
}

// P4.2: rows of digits of every length about the bound, in each place.
func TestLongNumbers(t *testing.T) {
	for size := 1; size <= 45; size++ {
		for _, digit := range "0123456789" {
			for _, first := range "012359" {
				number := string(first) + strings.Repeat(string(digit), size-1)
				checkAgainstForm(t, "p"+number+".0.0")
				checkAgainstForm(t, "p0."+number+".0")
				checkAgainstForm(t, "p0.0."+number)
			}
		}
	}
}

// R1: texts that are very long.
func TestVeryLong(t *testing.T) {
	const size = 1 << 20
	for _, piece := range []string{"0", "1", "9", ".", "p", "-", "0.", "p0.0.0", "\x00", "\xff"} {
		long := strings.Repeat(piece, size)
		noName(t, long)
		noName(t, "p"+long)
		noName(t, "p0.0."+long)
		noName(t, "p"+long+".0.0")
		noName(t, "p0.0.0"+long)
	}
}

// P4.3: any names go to words and back, and no two have the same ones.
func TestBackAgain(t *testing.T) {
	pick, spelt := chance(4), map[string]api.Pane{}
	number := func() int {
		if pick(8) == 0 {
			return highest - pick(20)
		}
		return (pick(1<<16)<<15 | pick(1<<15)) >> pick(31)
	}
	for range 20000 {
		p := api.Pane{Label: number(), Home: number(), N: number()}
		s, ok := Words(p)
		if !ok {
			t.Fatalf("Words(%v): none", p)
		}
		parse(t, s, p)
		if other, there := spelt[s]; there && other != p {
			t.Fatalf("%q is %v and %v", s, other, p)
		}
		spelt[s] = p
	}
}
