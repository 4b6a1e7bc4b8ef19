package audit

import (
	"math"
	"slices"
	"strings"
	"testing"

	"jalousie/api"
	"jalousie/lattice"
)

func rank(t *testing.T, ranks, sets int) *lattice.Lattice {
	t.Helper()
	l, e := lattice.Rank(ranks, sets)
	if e != api.OK {
		t.Fatalf("Rank(%d, %d): error %d", ranks, sets, e)
	}
	return l
}

// fan is the lattice of a bottom 2, a top 0, and 1, 3, 4 between: its numbers do not rise with its order.
func fan(t *testing.T) *lattice.Lattice {
	t.Helper()
	table := make([][]bool, 5)
	for a := range table {
		table[a] = make([]bool, 5)
		for b := range table[a] {
			table[a][b] = a == b || a == 2 || b == 0
		}
	}
	l, e := lattice.New(table)
	if e != api.OK {
		t.Fatalf("fan: error %d", e)
	}
	return l
}

func lattices(t *testing.T) []*lattice.Lattice {
	t.Helper()
	return []*lattice.Lattice{rank(t, 1, 0), rank(t, 3, 0), rank(t, 2, 1), rank(t, 3, 2), rank(t, 1, 3), fan(t)}
}

func must(t *testing.T, l *lattice.Lattice) *Log {
	t.Helper()
	g, e := New(l)
	if e != api.OK || g == nil {
		t.Fatalf("New: %v, error %d", g, e)
	}
	return g
}

func put(t *testing.T, g *Log, e Entry, want api.Errno) {
	t.Helper()
	if got := g.Put(e); got != want {
		t.Errorf("Put{%d %d %d, %d bytes}: error %d, not %d", e.By, e.From, e.To, len(e.Bytes), got, want)
	}
}

// model is a log in the document's words: a plain list, and one count for each issuer.
type model struct {
	l       *lattice.Lattice
	entries []Entry
	issued  map[int]int
}

func (m *model) put(e Entry) api.Errno {
	for _, a := range []int{e.By, e.From, e.To} {
		if a < 0 || a >= m.l.Len() {
			return api.ErrArg
		}
	}
	up := m.l.Join(e.From, e.By) == e.By && m.l.Join(e.To, e.By) == e.By
	if !up || m.l.Join(e.From, e.To) == e.To {
		return api.ErrFlow
	}
	if len(e.Bytes) > 4096 {
		return api.ErrLong
	}
	if m.issued[e.By] == 16 {
		return api.ErrFull
	}
	m.issued[e.By]++
	m.entries = append(m.entries, e)
	return api.OK
}

func (m *model) seen(label int) []Entry {
	var seen []Entry
	for _, e := range m.entries {
		if label >= 0 && label < m.l.Len() && m.l.Join(e.By, label) == label {
			seen = append(seen, e)
		}
	}
	return seen
}

func (m *model) check(t *testing.T, g *Log) {
	t.Helper()
	n := m.l.Len()
	if g.Len() != len(m.entries) {
		t.Fatalf("Len %d, not %d", g.Len(), len(m.entries))
	}
	for i, want := range m.entries {
		if got, ok := g.At(i); !ok || got != want {
			t.Errorf("At(%d): %v %v, not %v", i, got, ok, want)
		}
	}
	for a := -2; a < n+2; a++ {
		room := 0
		if a >= 0 && a < n {
			room = 16 - m.issued[a]
		}
		if got := g.Room(a); got != room {
			t.Errorf("Room(%d) %d, not %d", a, got, room)
		}
		if got, want := g.Seen(a), m.seen(a); !slices.Equal(got, want) {
			t.Errorf("Seen(%d) %v, not %v", a, got, want)
		}
	}
}

// P2.1: a lattice without labels.
func TestNewNil(t *testing.T) {
	for _, l := range []*lattice.Lattice{nil, {}, new(lattice.Lattice)} {
		if g, e := New(l); e != api.ErrNil || g != nil {
			t.Errorf("New: %v, error %d", g, e)
		}
	}
}

// P2.1, P2.2: a new log is empty, of the fewest labels and of the most.
func TestNewEmpty(t *testing.T) {
	for _, l := range append(lattices(t), rank(t, 64, 0), rank(t, 1, 6)) {
		(&model{l: l}).check(t, must(t, l))
	}
}

// The examples of the chapter.
func TestExamples(t *testing.T) {
	g := must(t, rank(t, 3, 0))
	put(t, g, Entry{2, 1, 0, "abc"}, api.OK)
	put(t, g, Entry{1, 2, 0, "x"}, api.ErrFlow)
	put(t, g, Entry{2, 0, 1, "x"}, api.ErrFlow)
	put(t, g, Entry{1, 1, 0, "y"}, api.OK)
	if g.Room(2) != 15 || !slices.Equal(g.Seen(1), []Entry{{1, 1, 0, "y"}}) || g.Len() != 2 {
		t.Errorf("Room(2) %d, Seen(1) %v, Len %d", g.Room(2), g.Seen(1), g.Len())
	}
}

// P2.1: of every three numbers in and about the labels, whether the entry may be; an error changes nothing.
func TestEachFlow(t *testing.T) {
	for _, l := range lattices(t) {
		n := l.Len()
		for by := -1; by <= n; by++ {
			for from := -1; from <= n; from++ {
				for to := -1; to <= n; to++ {
					m, g := &model{l: l, issued: map[int]int{}}, must(t, l)
					e := Entry{by, from, to, "z"}
					put(t, g, e, m.put(e))
					m.check(t, g)
				}
			}
		}
	}
}

// P2.1: each flow that may not be, by itself, and those that may.
func TestFlows(t *testing.T) {
	// Labels 0 to 3: 1 and 2 are not below one another, 0 is below all, 3 above all.
	for name, c := range map[string]struct {
		e    Entry
		want api.Errno
	}{
		"down":                              {Entry{3, 3, 0, ""}, api.OK},
		"down from beneath the issuer":      {Entry{3, 1, 0, ""}, api.OK},
		"down to beneath the issuer":        {Entry{3, 3, 2, ""}, api.OK},
		"aside":                             {Entry{3, 1, 2, ""}, api.OK},
		"aside, the other way":              {Entry{3, 2, 1, ""}, api.OK},
		"from its own label":                {Entry{1, 1, 0, ""}, api.OK},
		"from above the issuer":             {Entry{1, 3, 0, ""}, api.ErrFlow},
		"from beside the issuer":            {Entry{1, 2, 0, ""}, api.ErrFlow},
		"to above the issuer":               {Entry{1, 1, 3, ""}, api.ErrFlow},
		"to beside the issuer":              {Entry{1, 1, 2, ""}, api.ErrFlow},
		"up":                                {Entry{3, 0, 1, ""}, api.ErrFlow},
		"to the same":                       {Entry{3, 1, 1, ""}, api.ErrFlow},
		"from the issuer to itself":         {Entry{3, 3, 3, ""}, api.ErrFlow},
		"nothing is beneath the lowest one": {Entry{0, 0, 0, ""}, api.ErrFlow},
	} {
		g := must(t, rank(t, 2, 1))
		if got := g.Put(c.e); got != c.want {
			t.Errorf("%s: error %d, not %d", name, got, c.want)
		}
		if got := g.Len(); (got == 1) != (c.want == api.OK) {
			t.Errorf("%s: Len %d", name, got)
		}
	}
}

// P2.1: numbers far off are no labels, whichever of the three they are.
func TestPutNoLabels(t *testing.T) {
	g := must(t, rank(t, 3, 0))
	for _, x := range []int{-1, -3, 3, 4, 63, 64, 65, 1 << 32, 1<<32 + 1, math.MinInt, math.MaxInt} {
		put(t, g, Entry{x, 1, 0, ""}, api.ErrArg)
		put(t, g, Entry{2, x, 0, ""}, api.ErrArg)
		put(t, g, Entry{2, 1, x, ""}, api.ErrArg)
		put(t, g, Entry{x, x, x, ""}, api.ErrArg)
		if g.Room(x) != 0 || len(g.Seen(x)) != 0 {
			t.Errorf("Room(%d) %d, Seen %v", x, g.Room(x), g.Seen(x))
		}
	}
	if g.Len() != 0 || g.Room(2) != 16 {
		t.Errorf("Len %d, Room(2) %d", g.Len(), g.Room(2))
	}
}

// P2.1: how many bytes an entry has: bytes are counted, not characters, and any may be.
func TestLong(t *testing.T) {
	g := must(t, rank(t, 2, 0))
	whole := make([]byte, 256)
	for i := range whole {
		whole[i] = byte(i)
	}
	texts := []string{"", "\x00", string(whole), strings.Repeat("a", 4095), strings.Repeat("\xff", 4096), strings.Repeat("\u00e9", 2048)}
	for i, text := range texts {
		put(t, g, Entry{1, 1, 0, text}, api.OK)
		if got, ok := g.At(i); !ok || got.Bytes != text {
			t.Errorf("At(%d): %d bytes, %v", i, len(got.Bytes), ok)
		}
	}
	for _, text := range []string{strings.Repeat("a", 4097), strings.Repeat("\u00e9", 2049), strings.Repeat("b", 1<<20)} {
		put(t, g, Entry{1, 1, 0, text}, api.ErrLong)
	}
	if g.Len() != len(texts) || g.Room(1) != 16-len(texts) {
		t.Errorf("Len %d, Room(1) %d", g.Len(), g.Room(1))
	}
}

// P2.1, P2.2: 16 entries of one issuer and no more, whatever another one issues.
func TestFull(t *testing.T) {
	g := must(t, rank(t, 3, 0))
	put(t, g, Entry{1, 1, 0, "first"}, api.OK)
	for i := range 16 {
		if got := g.Room(2); got != 16-i {
			t.Errorf("Room(2) %d after %d", got, i)
		}
		put(t, g, Entry{2, 1 + i%2, 0, strings.Repeat("x", i)}, api.OK)
	}
	for range 3 {
		put(t, g, Entry{2, 2, 1, "one more"}, api.ErrFull)
	}
	if g.Room(2) != 0 || g.Room(1) != 15 || g.Room(0) != 16 || g.Len() != 17 {
		t.Errorf("Rooms %d %d %d, Len %d", g.Room(2), g.Room(1), g.Room(0), g.Len())
	}
	for range 15 {
		put(t, g, Entry{1, 1, 0, "y"}, api.OK)
	}
	put(t, g, Entry{1, 1, 0, "y"}, api.ErrFull)
	if g.Room(1) != 0 || g.Len() != 32 || len(g.Seen(1)) != 16 || len(g.Seen(2)) != 32 || len(g.Seen(0)) != 0 {
		t.Errorf("Room(1) %d, Len %d", g.Room(1), g.Len())
	}
}

// P2.1, P2.2: as many entries as the most labels may issue.
func TestAllFull(t *testing.T) {
	l := rank(t, 64, 0)
	m, g := &model{l: l, issued: map[int]int{}}, must(t, l)
	for i := range 17 {
		for by := range 64 {
			e := Entry{by, by, max(by-1-i, 0), strings.Repeat("q", i)}
			put(t, g, e, m.put(e))
		}
	}
	if g.Len() != 63*16 {
		t.Errorf("Len %d", g.Len())
	}
	m.check(t, g)
}

// P2.1, R2: which error comes first, where several hold.
func TestFirstError(t *testing.T) {
	long := strings.Repeat("a", 4097)
	for _, g := range []*Log{nil, {}} {
		put(t, g, Entry{-1, 7, 9, long}, api.ErrNil)
		put(t, g, Entry{0, 0, 0, long}, api.ErrNil)
	}
	g := must(t, rank(t, 3, 0))
	for range 16 {
		put(t, g, Entry{1, 1, 0, ""}, api.OK)
	}
	put(t, g, Entry{1, 2, 3, long}, api.ErrArg)
	put(t, g, Entry{1, -1, 2, long}, api.ErrArg)
	put(t, g, Entry{3, 0, 1, long}, api.ErrArg)
	put(t, g, Entry{1, 2, 0, long}, api.ErrFlow)
	put(t, g, Entry{1, 1, 2, long}, api.ErrFlow)
	put(t, g, Entry{1, 0, 1, ""}, api.ErrFlow)
	put(t, g, Entry{1, 1, 0, long}, api.ErrLong)
	put(t, g, Entry{1, 1, 0, long[1:]}, api.ErrFull)
	if g.Len() != 16 || g.Room(1) != 0 || g.Room(2) != 16 {
		t.Errorf("Len %d, Rooms %d %d", g.Len(), g.Room(1), g.Room(2))
	}
}

// P2.2: At ahead of the first entry and behind the last one.
func TestAtEdges(t *testing.T) {
	g := must(t, rank(t, 2, 0))
	none := func(i int) {
		t.Helper()
		if e, ok := g.At(i); ok || e != (Entry{}) {
			t.Errorf("At(%d) of %d: %v %v", i, g.Len(), e, ok)
		}
	}
	for n := range 4 {
		for _, i := range []int{-1, -2, n, n + 1, 15, 16, 1 << 32, math.MinInt, math.MaxInt} {
			none(i)
		}
		put(t, g, Entry{1, 1, 0, strings.Repeat("k", n+1)}, api.OK)
		for i := range n + 1 {
			if e, ok := g.At(i); !ok || e != (Entry{1, 1, 0, strings.Repeat("k", i+1)}) {
				t.Errorf("At(%d): %v %v", i, e, ok)
			}
		}
	}
}

// P2.2: entries of issuers beside a label are not seen by it, and the order is that of all.
func TestSeen(t *testing.T) {
	g := must(t, rank(t, 2, 1))
	all := []Entry{{3, 3, 0, "a"}, {1, 1, 0, "b"}, {2, 2, 0, "c"}, {3, 1, 2, "d"}, {2, 2, 0, "e"}, {1, 1, 0, "f"}, {1, 1, 0, "b"}}
	for _, e := range all {
		put(t, g, e, api.OK)
	}
	for label, want := range [][]Entry{{}, {all[1], all[5], all[6]}, {all[2], all[4]}, all, {}} {
		if got := g.Seen(label); !slices.Equal(got, want) {
			t.Errorf("Seen(%d) %v, not %v", label, got, want)
		}
	}
}

// P2.2: a nil log, and one that New did not make.
func TestUnmade(t *testing.T) {
	for _, g := range []*Log{nil, {}, new(Log)} {
		for _, x := range []int{0, -1, 1, 63, 64, math.MinInt, math.MaxInt} {
			put(t, g, Entry{x, x, 0, ""}, api.ErrNil)
			e, ok := g.At(x)
			if g.Room(x) != 0 || ok || e != (Entry{}) || len(g.Seen(x)) != 0 || g.Len() != 0 {
				t.Errorf("%d of an unmade log: Room %d, At %v %v, Seen %v, Len %d", x, g.Room(x), e, ok, g.Seen(x), g.Len())
			}
		}
	}
}

// P2.3, R4: what Seen and At answer is new memory, its spare room too.
func TestAnswersAreNew(t *testing.T) {
	g := must(t, rank(t, 2, 0))
	m := &model{l: rank(t, 2, 0), issued: map[int]int{}}
	for i := range 5 {
		e := Entry{1, 1, 0, strings.Repeat("n", i)}
		put(t, g, e, m.put(e))
	}
	first, second := g.Seen(1), g.Seen(1)
	clear(first[:cap(first)])
	if !slices.Equal(second, m.entries) {
		t.Error("one answer of Seen was changed by way of another")
	}
	m.check(t, g)
	_ = append(second[:2], Entry{9, 9, 9, "over"})
	m.check(t, g)
	e, _ := g.At(3)
	e.By, e.Bytes = 0, "other"
	m.check(t, g)
	kept := g.Seen(1)
	e = Entry{1, 1, 0, "later"}
	put(t, g, e, m.put(e))
	if !slices.Equal(kept, m.entries[:5]) {
		t.Error("an answer of Seen was changed by Put")
	}
	m.check(t, g)
}

// P2.1 to P2.3: long rows of Puts, good and bad ones, hold against the model after each.
func TestAgainstModel(t *testing.T) {
	for _, l := range lattices(t) {
		m, g, next := &model{l: l, issued: map[int]int{}}, must(t, l), chance(uint32(l.Len()))
		for range 600 {
			e := anyEntry(l.Len(), next)
			put(t, g, e, m.put(e))
			m.check(t, g)
		}
	}
}

// chance is the same row of numbers at each run.
func chance(seed uint32) func(n int) int {
	return func(n int) int {
		seed = seed*1664525 + 1013904223
		return int(seed>>16) % n
	}
}

func anyEntry(labels int, next func(n int) int) Entry {
	number := func() int {
		if next(30) == 0 {
			return labels - next(2)*(labels+1)
		}
		return next(labels)
	}
	size := next(9)
	if next(20) == 0 {
		size = 4095 + next(4)
	}
	return Entry{number(), number(), number(), strings.Repeat(string(rune('a'+next(26))), size)}
}

// P2.3: two logs, one without what issuers that are not below a label put in, tell the same of those below it.
func TestIssuersApart(t *testing.T) {
	for _, l := range lattices(t) {
		for label := range l.Len() {
			whole, part, next := must(t, l), must(t, l), chance(uint32(label))
			for range 500 {
				e := anyEntry(l.Len(), next)
				got := whole.Put(e)
				if l.Below(e.By, label) {
					put(t, part, e, got)
				}
				checkSameBelow(t, l, whole, part, label)
			}
		}
	}
}

func checkSameBelow(t *testing.T, l *lattice.Lattice, whole, part *Log, label int) {
	t.Helper()
	for _, a := range l.Downset(label) {
		if whole.Room(a) != part.Room(a) || !slices.Equal(whole.Seen(a), part.Seen(a)) {
			t.Fatalf("%d is told of others than those below %d", a, label)
		}
	}
}

// P2.3: entries stay where and as they are, whatever is put in or refused behind them.
func TestEntriesStay(t *testing.T) {
	l := rank(t, 3, 2)
	g, next := must(t, l), chance(77)
	var kept []Entry
	for range 3000 {
		e := anyEntry(l.Len(), next)
		if g.Put(e) == api.OK {
			kept = append(kept, e)
		}
		if g.Len() != len(kept) {
			t.Fatalf("Len %d, not %d", g.Len(), len(kept))
		}
		for i, want := range kept {
			if got, ok := g.At(i); !ok || got != want {
				t.Fatalf("At(%d): %v %v, not %v", i, got, ok, want)
			}
		}
	}
	// Low issuers have few flows that may be, so only the high ones are sure to come to their bound.
	if len(kept) < 64 || g.Room(l.Top()) != 0 {
		t.Errorf("only %d entries, room for %d of the top's", len(kept), g.Room(l.Top()))
	}
}

// R3: logs over one lattice know nothing of one another.
func TestLogsApart(t *testing.T) {
	l := rank(t, 2, 0)
	a, b := must(t, l), must(t, l)
	for range 16 {
		put(t, a, Entry{1, 1, 0, "a"}, api.OK)
	}
	(&model{l: l}).check(t, b)
	put(t, b, Entry{1, 1, 0, "b"}, api.OK)
	if a.Len() != 16 || b.Len() != 1 || b.Room(1) != 15 {
		t.Errorf("Len %d and %d", a.Len(), b.Len())
	}
}
