package lattice

import (
	"math"
	"slices"
	"sync"
	"testing"

	"jalousie/api"
)

// tableOf writes out the order of n labels.
func tableOf(n int, below func(a, b int) bool) [][]bool {
	table := make([][]bool, n)
	for a := range table {
		table[a] = make([]bool, n)
		for b := range table[a] {
			table[a][b] = below(a, b)
		}
	}
	return table
}

func chain(n int) [][]bool { return tableOf(n, func(a, b int) bool { return a <= b }) }

// tableOfPairs is an order in which each label is below itself and, beyond that, the given ones are below one another.
func tableOfPairs(n int, pairs ...[2]int) [][]bool {
	table := tableOf(n, func(a, b int) bool { return a == b })
	for _, p := range pairs {
		table[p[0]][p[1]] = true
	}
	return table
}

// scrambled gives the labels of a table other numbers.
func scrambled(table [][]bool, step int) [][]bool {
	n := len(table)
	return tableOf(n, func(a, b int) bool { return table[a*step%n][b*step%n] })
}

// setsTable is the order of sets of bits, one inside the other, made whole by all their intersections.
func setsTable(sets ...int) [][]bool {
	for i := 0; i < len(sets); i++ {
		for j := range i {
			if s := sets[i] & sets[j]; !slices.Contains(sets, s) {
				sets = append(sets, s)
			}
		}
	}
	return tableOf(len(sets), func(a, b int) bool { return sets[a]&^sets[b] == 0 })
}

// divisorsTable is the order of the divisors of a number.
func divisorsTable(number int) [][]bool {
	var divisors []int
	for d := 1; d <= number; d++ {
		if number%d == 0 {
			divisors = append(divisors, d)
		}
	}
	return tableOf(len(divisors), func(a, b int) bool { return divisors[b]%divisors[a] == 0 })
}

// diamond has three labels between the bottom and the top, pentagon a chain of two beside one.
func diamond() [][]bool {
	return tableOfPairs(5, [2]int{0, 1}, [2]int{0, 2}, [2]int{0, 3}, [2]int{0, 4}, [2]int{1, 4}, [2]int{2, 4}, [2]int{3, 4})
}

func pentagon() [][]bool {
	return tableOfPairs(5, [2]int{4, 0}, [2]int{4, 1}, [2]int{4, 2}, [2]int{4, 3}, [2]int{0, 1}, [2]int{0, 3}, [2]int{1, 3}, [2]int{2, 3})
}

// tables are some that make lattices.
func tables() [][][]bool {
	return [][][]bool{
		chain(1), chain(2), chain(7), chain(63), chain(64),
		scrambled(chain(64), 27), scrambled(chain(13), 5),
		diamond(), pentagon(), scrambled(diamond(), 3),
		divisorsTable(720), scrambled(divisorsTable(720), 7),
		setsTable(511, 7, 56, 448, 73, 146, 292),
		scrambled(setsTable(255, 15, 60, 240, 170, 85, 99), 1),
		scrambled(tableOf(64, func(a, b int) bool { return a&^b == 0 }), 37),
	}
}

func must(t *testing.T, table [][]bool) *Lattice {
	t.Helper()
	l, e := New(table)
	if e != api.OK || l == nil {
		t.Fatalf("New of %d labels: %v, error %d", len(table), l, e)
	}
	return l
}

// naiveJoin is the document's words: above both, and below each one above both; -1 without one.
func naiveJoin(table [][]bool, a, b int) int {
	for j := range table {
		if !table[a][j] || !table[b][j] {
			continue
		}
		least := true
		for u := range table {
			if table[a][u] && table[b][u] && !table[j][u] {
				least = false
			}
		}
		if least {
			return j
		}
	}
	return -1
}

func turned(table [][]bool) [][]bool {
	return tableOf(len(table), func(a, b int) bool { return table[b][a] })
}

func naiveLattice(table [][]bool) bool {
	down := turned(table)
	for a := range table {
		if !table[a][a] {
			return false
		}
		for b := range table {
			if a != b && table[a][b] && table[b][a] {
				return false
			}
			if naiveJoin(table, a, b) < 0 || naiveJoin(down, a, b) < 0 {
				return false
			}
			for c := range table {
				if table[a][b] && table[b][c] && !table[a][c] {
					return false
				}
			}
		}
	}
	return true
}

func naiveDownset(table [][]bool, a int) []int {
	var below []int
	for b := range table {
		if table[b][a] {
			below = append(below, b)
		}
	}
	return below
}

// checkAgainst holds every answer of a lattice against its table.
func checkAgainst(t *testing.T, l *Lattice, table [][]bool) {
	t.Helper()
	n, down := len(table), turned(table)
	if l.Len() != n {
		t.Fatalf("Len %d, not %d", l.Len(), n)
	}
	top, bottom := l.Top(), l.Bottom()
	if top < 0 || top >= n || bottom < 0 || bottom >= n {
		t.Fatalf("Top %d, Bottom %d of %d labels", top, bottom, n)
	}
	for a := range n {
		if !table[a][top] || !table[bottom][a] {
			t.Errorf("Top %d, Bottom %d: not above, below %d", top, bottom, a)
		}
		if got, want := l.Downset(a), naiveDownset(table, a); !slices.Equal(got, want) {
			t.Errorf("Downset(%d) %v, not %v", a, got, want)
		}
		for b := range n {
			if got := l.Below(a, b); got != table[a][b] {
				t.Errorf("Below(%d, %d) %v", a, b, got)
			}
			if got, want := l.Join(a, b), naiveJoin(table, a, b); got != want {
				t.Errorf("Join(%d, %d) %d, not %d", a, b, got, want)
			}
			if got, want := l.Meet(a, b), naiveJoin(down, a, b); got != want {
				t.Errorf("Meet(%d, %d) %d, not %d", a, b, got, want)
			}
		}
	}
}

// P1.1: what New takes and what it refuses, over all tables of at most four labels; P1.2 of those it takes.
func TestAllSmallTables(t *testing.T) {
	for n, want := range []int{1: 1, 2: 2, 3: 6, 4: 36} {
		if n == 0 {
			continue
		}
		count := 0
		for bits := range 1 << (n * n) {
			table := tableOf(n, func(a, b int) bool { return bits>>(a*n+b)&1 == 1 })
			l, e := New(table)
			if !naiveLattice(table) {
				if e != api.ErrArg || l != nil {
					t.Fatalf("%v: %v, error %d", table, l, e)
				}
				continue
			}
			count++
			if e != api.OK || l == nil {
				t.Fatalf("%v: error %d", table, e)
			}
			checkAgainst(t, l, table)
		}
		if count != want {
			t.Errorf("%d lattices of %d labels, not %d", count, n, want)
		}
	}
}

// P1.1, P1.2: larger tables.
func TestLargerTables(t *testing.T) {
	for _, table := range tables() {
		checkAgainst(t, must(t, table), table)
	}
}

// P1.1: the number of rows ahead of all.
func TestNewLong(t *testing.T) {
	for _, table := range [][][]bool{nil, {}, chain(65), chain(100), make([][]bool, 65), append(chain(64), nil), append(chain(64), []bool{true})} {
		if l, e := New(table); e != api.ErrLong || l != nil {
			t.Errorf("%d rows: %v, error %d", len(table), l, e)
		}
	}
	if l := must(t, chain(64)); l.Len() != 64 {
		t.Error("64 rows")
	}
	if l := must(t, chain(1)); l.Len() != 1 {
		t.Error("1 row")
	}
}

// P1.1: the length of each row ahead of what the table says.
func TestNewForm(t *testing.T) {
	for n := 1; n <= 64; n += 9 {
		for _, at := range []int{0, n / 2, n - 1} {
			for _, columns := range []int{0, n - 1, n + 1, 65, 200} {
				for _, table := range [][][]bool{chain(n), tableOf(n, func(a, b int) bool { return false })} {
					if columns == n {
						continue
					}
					table[at] = make([]bool, columns)
					if l, e := New(table); e != api.ErrForm || l != nil {
						t.Errorf("%d rows, row %d of %d: %v, error %d", n, at, columns, l, e)
					}
				}
			}
		}
	}
	if l, e := New(make([][]bool, 64)); e != api.ErrForm || l != nil {
		t.Error("64 nil rows", e)
	}
	wide := make([][]bool, 2)
	for a := range wide {
		wide[a] = []bool{true, true, true}
	}
	if l, e := New(wide); e != api.ErrForm || l != nil {
		t.Error("rows of one length, but another than their number", e)
	}
}

// P1.1: one reason at a time why a table makes no lattice.
func TestNewNoLattice(t *testing.T) {
	spoiled := func(table [][]bool, a, b int) [][]bool {
		table[a][b] = !table[a][b]
		return table
	}
	twoOverTwo := tableOfPairs(6, [2]int{0, 1}, [2]int{0, 2}, [2]int{0, 3}, [2]int{0, 4}, [2]int{0, 5},
		[2]int{1, 3}, [2]int{1, 4}, [2]int{2, 3}, [2]int{2, 4}, [2]int{1, 5}, [2]int{2, 5}, [2]int{3, 5}, [2]int{4, 5})
	for name, table := range map[string][][]bool{
		"one, not below itself":                   {{false}},
		"first not below itself":                  spoiled(chain(64), 0, 0),
		"last not below itself":                   spoiled(chain(64), 63, 63),
		"two below one another":                   tableOf(2, func(a, b int) bool { return true }),
		"two of 64 below one another":             spoiled(chain(64), 31, 30),
		"all below one another":                   tableOf(64, func(a, b int) bool { return true }),
		"not below what is below what is below":   tableOfPairs(3, [2]int{0, 1}, [2]int{1, 2}),
		"first not below last of 64":              spoiled(chain(64), 0, 63),
		"a ring of three":                         tableOfPairs(3, [2]int{0, 1}, [2]int{1, 2}, [2]int{2, 0}),
		"two that are not below one another":      tableOfPairs(2),
		"no join: two tops":                       tableOfPairs(3, [2]int{0, 1}, [2]int{0, 2}),
		"no meet: two bottoms":                    tableOfPairs(3, [2]int{1, 0}, [2]int{2, 0}),
		"top and bottom, two joins that differ":   twoOverTwo,
		"the same, numbered otherwise":            scrambled(twoOverTwo, 5),
		"64 that are not below one another":       tableOfPairs(64),
		"bottom and 63 that are not, as the rest": tableOf(64, func(a, b int) bool { return a == b || a == 0 }),
		"top and 63 that are not, as the rest":    tableOf(64, func(a, b int) bool { return a == b || b == 63 }),
	} {
		if l, e := New(table); e != api.ErrArg || l != nil {
			t.Errorf("%s: %v, error %d", name, l, e)
		}
	}
}

// P1.1, R4: a table is not changed and not kept, its spare room neither.
func TestTableNotKept(t *testing.T) {
	spare := make([]bool, 20)
	table := [][]bool{spare[0:2:10], spare[10:12:20]}
	table[0][0], table[0][1], table[1][1] = true, true, true
	before := slices.Clone(spare)
	l := must(t, table)
	if !slices.Equal(spare, before) {
		t.Error("New changed its table")
	}
	clear(spare)
	table[0], table[1] = nil, nil
	checkAgainst(t, l, chain(2))
}

// P1.1: which ranks and sets there may be.
func TestRankBounds(t *testing.T) {
	for ranks := -70; ranks <= 140; ranks++ {
		for sets := -70; sets <= 140; sets++ {
			labels := -1
			if ranks >= 1 && sets >= 0 && sets <= 6 && ranks*(1<<sets) <= 64 {
				labels = ranks * (1 << sets)
			}
			checkRank(t, ranks, sets, labels)
		}
	}
	for _, far := range []int{math.MinInt, math.MinInt + 1, math.MinInt32, -64, 128, 1 << 32, 1<<32 + 1, 1 << 58, 1 << 62, 1<<63 - 64, math.MaxInt} {
		for near := range 8 {
			checkRank(t, far, near, -1)
			checkRank(t, near, far, -1)
		}
		checkRank(t, far, far, -1)
	}
}

// checkRank wants that many labels, or ErrArg if they are -1.
func checkRank(t *testing.T, ranks, sets, labels int) {
	t.Helper()
	l, e := Rank(ranks, sets)
	if labels < 0 && (e != api.ErrArg || l != nil) {
		t.Errorf("Rank(%d, %d): %v, error %d", ranks, sets, l, e)
	}
	if labels > 0 && (e != api.OK || l.Len() != labels) {
		t.Errorf("Rank(%d, %d): Len %d, error %d", ranks, sets, l.Len(), e)
	}
}

// P1.1, P1.2: the order of ranks and sets, all there are.
func TestRankOrder(t *testing.T) {
	for ranks := 1; ranks <= 64; ranks++ {
		for sets := 0; sets <= 6 && ranks<<sets <= 64; sets++ {
			l, e := Rank(ranks, sets)
			if e != api.OK {
				t.Fatalf("Rank(%d, %d): error %d", ranks, sets, e)
			}
			n := ranks << sets
			if l.Top() != n-1 || l.Bottom() != 0 {
				t.Errorf("Rank(%d, %d): Top %d, Bottom %d", ranks, sets, l.Top(), l.Bottom())
			}
			for a := range n {
				for b := range n {
					checkRankPair(t, l, ranks, a, b)
				}
			}
		}
	}
}

func checkRankPair(t *testing.T, l *Lattice, ranks, a, b int) {
	t.Helper()
	below := a%ranks <= b%ranks && a/ranks|b/ranks == b/ranks
	join := max(a%ranks, b%ranks) + ranks*(a/ranks|b/ranks)
	meet := min(a%ranks, b%ranks) + ranks*(a/ranks&(b/ranks))
	if l.Below(a, b) != below || l.Join(a, b) != join || l.Meet(a, b) != meet {
		t.Errorf("%d ranks, %d and %d: Below %v, Join %d, Meet %d", ranks, a, b, l.Below(a, b), l.Join(a, b), l.Meet(a, b))
	}
	if slices.Contains(l.Downset(b), a) != below || !slices.IsSorted(l.Downset(b)) {
		t.Errorf("%d ranks: Downset(%d) %v", ranks, b, l.Downset(b))
	}
}

// The examples of the chapter, and the first of the document.
func TestExamples(t *testing.T) {
	l, e := Rank(2, 1)
	if e != api.OK || l.Len() != 4 || !l.Below(0, 3) || l.Below(1, 2) || l.Below(2, 1) || l.Join(1, 2) != 3 || l.Meet(1, 2) != 0 || !slices.Equal(l.Downset(1), []int{0, 1}) {
		t.Error("Rank(2, 1)")
	}
	if l, e := New([][]bool{{true, false}, {false, true}}); e != api.ErrArg || l != nil {
		t.Error("New of two labels that are not below one another", e)
	}
}

// P1.2: numbers that are no labels.
func TestNoLabels(t *testing.T) {
	for _, table := range tables() {
		n := len(table)
		for _, x := range []int{-1, -2, -64, math.MinInt, n, n + 1, 64, 65, 128, 1 << 32, math.MaxInt} {
			checkNoLabel(t, must(t, table), x)
		}
	}
}

// checkNoLabel wants a number to be none, asked for alone, with each label, and with itself.
func checkNoLabel(t *testing.T, l *Lattice, x int) {
	t.Helper()
	for a := -1; a <= l.Len(); a++ {
		if l.Below(a, x) || l.Below(x, a) {
			t.Errorf("Below of %d and %d of %d", a, x, l.Len())
		}
		if l.Join(a, x) != -1 || l.Join(x, a) != -1 || l.Meet(a, x) != -1 || l.Meet(x, a) != -1 {
			t.Errorf("Join, Meet of %d and %d of %d", a, x, l.Len())
		}
	}
	if l.Below(x, x) || l.Join(x, x) != -1 || l.Meet(x, x) != -1 || len(l.Downset(x)) != 0 {
		t.Errorf("%d of %d", x, l.Len())
	}
}

// P1.2: a nil lattice, and one that neither New nor Rank made.
func TestUnmade(t *testing.T) {
	for _, l := range []*Lattice{nil, {}, new(Lattice)} {
		if l.Len() != 0 || l.Top() != -1 || l.Bottom() != -1 {
			t.Errorf("Len %d, Top %d, Bottom %d", l.Len(), l.Top(), l.Bottom())
		}
		for _, x := range []int{0, -1, 1, 63, 64, math.MinInt, math.MaxInt} {
			checkNoLabel(t, l, x)
			if l.Below(x, 0) || l.Join(x, 0) != -1 || l.Meet(0, x) != -1 || len(l.Downset(x)) != 0 {
				t.Errorf("%d of none", x)
			}
		}
	}
}

// P1.2, R4: each downset is new memory.
func TestDownsetIsNew(t *testing.T) {
	l := must(t, chain(5))
	first := l.Downset(4)
	second := l.Downset(4)
	clear(first[:cap(first)])
	if !slices.Equal(second, []int{0, 1, 2, 3, 4}) || !slices.Equal(l.Downset(4), second) {
		t.Error("a downset was changed by way of another")
	}
	checkAgainst(t, l, chain(5))
}

// P1.3: the laws.
func TestLaws(t *testing.T) {
	for _, table := range tables() {
		checkLaws(t, must(t, table))
	}
	for ranks := 1; ranks <= 64; ranks++ {
		for sets := 0; sets <= 6 && ranks<<sets <= 64; sets++ {
			l, _ := Rank(ranks, sets)
			checkLaws(t, l)
		}
	}
}

func checkLaws(t *testing.T, l *Lattice) {
	t.Helper()
	n := l.Len()
	if n == 0 {
		t.Fatal("no labels")
	}
	for a := range n {
		for b := range n {
			join, meet := l.Join(a, b), l.Meet(a, b)
			if join != l.Join(b, a) || meet != l.Meet(b, a) {
				t.Errorf("%d and %d of %d do not commute", a, b, n)
			}
			if l.Join(a, meet) != a || l.Meet(a, join) != a {
				t.Errorf("%d and %d of %d do not absorb", a, b, n)
			}
			if l.Below(a, b) != (join == b) || l.Below(a, b) != (meet == a) {
				t.Errorf("%d and %d of %d: Below %v, Join %d, Meet %d", a, b, n, l.Below(a, b), join, meet)
			}
			for c := range n {
				if l.Join(join, c) != l.Join(a, l.Join(b, c)) || l.Meet(meet, c) != l.Meet(a, l.Meet(b, c)) {
					t.Errorf("%d, %d and %d of %d do not associate", a, b, c, n)
				}
			}
		}
	}
}

// The way once: nothing is made ahead of the first join or meet, and nothing anew after it.
func TestMadeOnce(t *testing.T) {
	asks := map[string]func(l *Lattice) int{
		"Join": func(l *Lattice) int { return l.Join(1, 2) },
		"Meet": func(l *Lattice) int { return l.Meet(1, 2) },
	}
	for name, ask := range asks {
		l := must(t, diamond())
		l.Below(1, 2)
		l.Downset(4)
		l.Top()
		if l.Bottom(); l.joins != nil || l.meets != nil {
			t.Errorf("%s: made ahead", name)
		}
		ask(l)
		if len(l.joins) != 5 || len(l.meets) != 5 {
			t.Fatalf("%s: not made", name)
		}
		joins, meets := &l.joins[0], &l.meets[0]
		for _, again := range asks {
			again(l)
		}
		if joins != &l.joins[0] || meets != &l.meets[0] {
			t.Errorf("%s: made anew", name)
		}
	}
}

// R3: many who ask for the first one at once are all told the same.
func TestAskedAtOnce(t *testing.T) {
	for range 20 {
		l, _ := Rank(4, 4)
		answers := make([][2]int, 16)
		var group sync.WaitGroup
		for i := range answers {
			group.Go(func() { answers[i] = [2]int{l.Join(21, 42), l.Meet(21, 42)} })
		}
		group.Wait()
		for i, got := range answers {
			if want := [2]int{max(21%4, 42%4) + 4*(5|10), min(21%4, 42%4)}; got != want {
				t.Errorf("asker %d: %v, not %v", i, got, want)
			}
		}
	}
}

// R3: lattices know nothing of one another.
func TestApart(t *testing.T) {
	up, down := must(t, chain(3)), must(t, turned(chain(3)))
	up.Join(0, 2)
	checkAgainst(t, down, turned(chain(3)))
	checkAgainst(t, up, chain(3))
	if up.Top() != 2 || down.Top() != 0 || up.Bottom() != 0 || down.Bottom() != 2 {
		t.Error("Top, Bottom")
	}
}
