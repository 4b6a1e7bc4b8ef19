package back

import (
	"math"
	"slices"
	"strconv"
	"testing"

	"jalousie/api"
)

var extremes = []int{math.MinInt, math.MinInt + 1, math.MinInt32, -1<<32 + 1, 1 << 32, math.MaxInt32, math.MaxInt - 1, math.MaxInt}

// numbers are those from least to most, and the greatest and the least ones.
func numbers(least, most int) []int {
	l := slices.Clone(extremes)
	for n := least; n <= most; n++ {
		l = append(l, n)
	}
	return l
}

// chance answers numbers below n, always the same ones.
func chance(seed uint32) func(n int) int {
	return func(n int) int {
		seed = seed*1664525 + 1013904223
		return int(seed>>8) % n
	}
}

// a kind of things: the i-th one, and whether two are the same.
type kind[T any] struct {
	thing func(i int) T
	same  func(a, b T) bool
}

func equal[T comparable](a, b T) bool { return a == b }

var (
	ints  = kind[int]{func(i int) int { return i + 1 }, equal[int]}
	texts = kind[string]{func(i int) string { return "t" + strconv.Itoa(i) }, equal[string]}
	rows  = kind[[]api.Cell]{row, slices.Equal[[]api.Cell]}
)

// row is the i-th row: some cells, that say which one it is.
func row(i int) []api.Cell {
	l := []api.Cell{{Rune: rune(i)}}
	for range i % 3 {
		l = append(l, api.Cell{Rune: 'x', Wide: 1, Attr: api.Attr{Flags: uint16(i)}})
	}
	return l
}

// plain is a back in the chapter's words: a list of what was put and not popped, at most max.
type plain[T any] struct {
	max  int
	list []T
	gone int
}

func (p *plain[T]) put(x T) bool {
	p.list = append(slices.Clone(p.list), x)
	over := len(p.list) > p.max
	if over {
		p.list = p.list[1:]
		p.gone++
	}
	return over
}

func (p *plain[T]) pop() (x T, ok bool) {
	n := len(p.list)
	if n == 0 {
		return x, false
	}
	x = p.list[n-1]
	p.list = slices.Clone(p.list[:n-1])
	return x, true
}

func (p *plain[T]) last(n int) []T {
	var l []T
	for i, x := range p.list {
		if n >= 1 && (n >= len(p.list) || i >= len(p.list)-n) {
			l = append(l, x)
		}
	}
	return l
}

func made[T any](t *testing.T, max int) *Back[T] {
	t.Helper()
	b, err := New[T](max)
	if err != api.OK || b == nil {
		t.Fatalf("New(%d) is %v, %v", max, b, err)
	}
	return b
}

// filled is a back of that room into which so many numbers were put, from 0 on.
func filled(t *testing.T, max, n int) *Back[int] {
	t.Helper()
	b := made[int](t, max)
	for i := range n {
		b.Put(i)
	}
	return b
}

// all is what a walk tells; it fails if the numbers are not those from 0 on.
func all[T any](t *testing.T, b *Back[T]) []T {
	t.Helper()
	var l []T
	for i, x := range b.All() {
		if i != len(l) {
			t.Fatalf("All tells the number %d, not %d", i, len(l))
		}
		l = append(l, x)
	}
	return l
}

// has fails if a back has other things than those, or other counts.
func has[T any](t *testing.T, k kind[T], b *Back[T], gone int, want []T, what ...any) {
	t.Helper()
	if got := all(t, b); !slices.EqualFunc(got, want, k.same) {
		t.Fatalf("%v: All is %v, not %v", what, got, want)
	}
	if b.Len() != len(want) || b.Gone() != gone {
		t.Fatalf("%v: Len, Gone are %d, %d, not %d, %d", what, b.Len(), b.Gone(), len(want), gone)
	}
}

// alike fails if a back tells otherwise than a plain one, whatever is asked.
func alike[T any](t *testing.T, k kind[T], b *Back[T], p *plain[T], what ...any) {
	t.Helper()
	has(t, k, b, p.gone, p.list, what...)
	n := len(p.list)
	near := append([]int{-2, -1, 0, 1, 2, n / 2, n - 2, n - 1, n, n + 1, p.max - 1, p.max, p.max + 1}, extremes...)
	for _, i := range near {
		var want T
		there := 0 <= i && i < n
		if there {
			want = p.list[i]
		}
		if x, ok := b.At(i); ok != there || !k.same(x, want) {
			t.Fatalf("%v: At(%d) is %v, %v, not %v, %v", what, i, x, ok, want, there)
		}
		if got, want := b.Last(i), p.last(i); !slices.EqualFunc(got, want, k.same) {
			t.Fatalf("%v: Last(%d) is %v, not %v", what, i, got, want)
		}
	}
}

// P14.1: the room is from 0 to 500.
func TestNew(t *testing.T) {
	for _, max := range append([]int{-1, 0, 1, 2, 499, 500, 501}, extremes...) {
		right := 0 <= max && max <= 500
		b, err := New[string](max)
		if !right {
			if b != nil || err != api.ErrArg {
				t.Errorf("New(%d) is %v, %v", max, b, err)
			}
			continue
		}
		if b == nil || err != api.OK {
			t.Fatalf("New(%d) is %v, %v", max, b, err)
		}
		alike(t, texts, b, &plain[string]{max: max}, "New", max)
		if x, ok := b.Pop(); x != "" || ok {
			t.Errorf("Pop of a new one is %q, %v", x, ok)
		}
	}
}

// The chapter's examples, at things of a kind.
func examples[T any](t *testing.T, k kind[T]) {
	var none T
	a, b, c, d := k.thing(0), k.thing(1), k.thing(2), k.thing(3)
	s := made[T](t, 2)
	for i, want := range []bool{false, false, true} {
		if got := s.Put(k.thing(i)); got != want {
			t.Errorf("Put of the %d-th is %v", i, got)
		}
	}
	if x, ok := s.At(0); !ok || !k.same(x, b) {
		t.Errorf("At(0) is %v, %v", x, ok)
	}
	if l := s.Last(1); len(l) != 1 || !k.same(l[0], c) {
		t.Errorf("Last(1) is %v", l)
	}
	has(t, k, s, 1, []T{b, c}, "a b c put, but not", a)
	for _, want := range []struct {
		x  T
		ok bool
	}{{c, true}, {b, true}, {none, false}} {
		if x, ok := s.Pop(); ok != want.ok || !k.same(x, want.x) {
			t.Errorf("Pop is %v, %v, not %v", x, ok, want)
		}
	}
	if s.Put(d) {
		t.Error("Put of d is true")
	}
	has(t, k, s, 1, []T{d}, "then d")
}

func TestExamples(t *testing.T) {
	t.Run("numbers", func(t *testing.T) { examples(t, ints) })
	t.Run("texts", func(t *testing.T) { examples(t, texts) })
	t.Run("rows", func(t *testing.T) { examples(t, rows) })
}

// fill holds a back against a plain one while more and more is put, and then popped.
func fill[T any](t *testing.T, k kind[T], max, n int) {
	b, p := made[T](t, max), &plain[T]{max: max}
	edges := []int{0, 1, max - 1, max, max + 1, 2*max - 1, 2 * max, 2*max + 1, n}
	for i := range n {
		if got, want := b.Put(k.thing(i)), p.put(k.thing(i)); got != want {
			t.Fatalf("room %d: Put of the %d-th is %v", max, i, got)
		}
		if max < 9 || slices.Contains(edges, i+1) {
			alike(t, k, b, p, "room", max, "put", i+1)
		}
	}
	for i := range max + 2 {
		want, there := p.pop()
		if x, ok := b.Pop(); ok != there || !k.same(x, want) {
			t.Fatalf("room %d: Pop %d is %v, %v, not %v, %v", max, i, x, ok, want, there)
		}
		if left := len(p.list); max < 9 || left < 3 || left > max-3 {
			alike(t, k, b, p, "room", max, "popped", i+1)
		}
	}
}

// P14.1, P14.2, P14.3: from none to far more than there is room for, and back to none.
func TestFilled(t *testing.T) {
	for _, max := range []int{0, 1, 2, 3, 5, 499, 500} {
		fill(t, ints, max, 4*max+5)
		fill(t, texts, max, 4*max+5)
		fill(t, rows, max, 4*max+5)
	}
}

// P14.1: with room for none, what is put is gone itself.
func TestNoRoom(t *testing.T) {
	b := made[int](t, 0)
	for i := range 5 {
		if !b.Put(i) {
			t.Errorf("Put(%d) is false", i)
		}
		has(t, ints, b, i+1, nil, "put", i)
	}
	if x, ok := b.Pop(); x != 0 || ok {
		t.Errorf("Pop is %v, %v", x, ok)
	}
	b.Clear()
	has(t, ints, b, 5, nil, "cleared")
}

// P14.2: At and Last at every number.
func TestAtAndLast(t *testing.T) {
	for _, n := range []int{0, 1, 2, 3, 7} {
		for _, max := range []int{0, 1, 2, 3, 5} {
			b, p := filled(t, max, n), &plain[int]{max: max}
			for i := range n {
				p.put(i)
			}
			for _, i := range numbers(-3, 9) {
				want, there := 0, 0 <= i && i < len(p.list)
				if there {
					want = p.list[i]
				}
				if x, ok := b.At(i); x != want || ok != there {
					t.Errorf("%v: At(%d) is %v, %v", p.list, i, x, ok)
				}
				if got := b.Last(i); !slices.Equal(got, p.last(i)) {
					t.Errorf("%v: Last(%d) is %v", p.list, i, got)
				}
			}
		}
	}
}

// P14.1: Put behind Pop is of the room that is there then; Gone tells of Put alone.
func TestPutBehindPop(t *testing.T) {
	b := filled(t, 3, 5)
	has(t, ints, b, 2, []int{2, 3, 4})
	b.Pop()
	b.Pop()
	has(t, ints, b, 2, []int{2}, "two popped")
	for i, want := range []bool{false, false, true, true} {
		if got := b.Put(10 + i); got != want {
			t.Errorf("Put(%d) is %v", 10+i, got)
		}
	}
	has(t, ints, b, 4, []int{11, 12, 13}, "four put")
	for range 7 {
		b.Pop()
	}
	has(t, ints, b, 4, nil, "all popped")
	if b.Put(20) {
		t.Error("Put into an empty one is true")
	}
	has(t, ints, b, 4, []int{20}, "put again")
}

// P14.1: Clear is not told by Gone, which goes on where it was.
func TestClear(t *testing.T) {
	for _, max := range []int{1, 2, 3, 500} {
		for _, n := range []int{0, 1, max - 1, max, max + 2} {
			b := filled(t, max, n)
			gone := b.Gone()
			b.Clear()
			has(t, ints, b, gone, nil, "cleared", max, n)
			if x, ok := b.Pop(); x != 0 || ok {
				t.Errorf("Pop of a cleared one is %v, %v", x, ok)
			}
			b.Clear()
			p := &plain[int]{max: max, gone: gone}
			for i := range max + 2 {
				if got, want := b.Put(100+i), p.put(100+i); got != want {
					t.Errorf("room %d: Put of the %d-th behind Clear is %v", max, i, got)
				}
			}
			alike(t, ints, b, p, "cleared and put", max, n)
		}
	}
}

// P14.2: a walk ends when it is not gone on with.
func TestWalkEnds(t *testing.T) {
	b := filled(t, 5, 8)
	for end := range 5 {
		calls := 0
		b.All()(func(i, x int) bool {
			if i != calls || x != 3+i {
				t.Errorf("the walk tells %d, %d", i, x)
			}
			calls++
			return i < end
		})
		if calls != end+1 {
			t.Errorf("a walk that ends at %d tells %d", end, calls)
		}
	}
	has(t, ints, b, 3, []int{3, 4, 5, 6, 7}, "walked")
}

// P14.2: a walk is over what there was when it began, whatever is done meanwhile; a second one begins anew.
func TestWalkAndChange(t *testing.T) {
	changes := map[string]func(b *Back[int]){
		"put":   func(b *Back[int]) { b.Put(99) },
		"pop":   func(b *Back[int]) { b.Pop() },
		"clear": func(b *Back[int]) { b.Clear() },
		"over":  func(b *Back[int]) { b.Pop(); b.Pop(); b.Put(77); b.Put(78); b.Put(79) },
		"anew":  func(b *Back[int]) { b.Clear(); b.Put(55); b.Put(56) },
	}
	for name, change := range changes {
		for _, n := range []int{2, 3, 4, 7} {
			for at := range 3 {
				b, twin := filled(t, 4, n), filled(t, 4, n)
				change(twin)
				want := b.Last(4)
				walk := b.All()
				var got []int
				for i, x := range walk {
					if i == at {
						change(b)
					}
					got = append(got, x)
				}
				if !slices.Equal(got, want) {
					t.Errorf("%s at %d: the walk tells %v, not %v", name, at, got, want)
				}
				if at >= n {
					continue
				}
				has(t, ints, b, twin.Gone(), all(t, twin), name)
				var again []int
				for _, x := range walk {
					again = append(again, x)
				}
				if !slices.Equal(again, all(t, twin)) {
					t.Errorf("%s: begun again, the walk tells %v", name, again)
				}
			}
		}
	}
}

// P14.2: a walk begins when it is gone for, not when All is called.
func TestWalkBegins(t *testing.T) {
	b := filled(t, 2, 1)
	walk := b.All()
	b.Put(1)
	b.Put(2)
	var got []int
	for _, x := range walk {
		got = append(got, x)
	}
	if !slices.Equal(got, []int{1, 2}) {
		t.Errorf("the walk tells %v", got)
	}
}

// P14.2: walks within one another.
func TestWalkInWalk(t *testing.T) {
	b := filled(t, 3, 4)
	var got []int
	for i, x := range b.All() {
		if i == 1 {
			b.Pop()
		}
		for _, y := range b.All() {
			got = append(got, 10*x+y)
		}
	}
	if want := []int{11, 12, 13, 21, 22, 31, 32}; !slices.Equal(got, want) {
		t.Errorf("the walks tell %v, not %v", got, want)
	}
}

// R4: what is answered is the caller's own, its spare room too.
func TestOwnMemory(t *testing.T) {
	b := filled(t, 4, 7)
	want := []int{3, 4, 5, 6}
	first, second := b.Last(3), b.Last(9)
	first, second = first[:cap(first)], second[:cap(second)]
	for i := range first {
		first[i] = 1000 + i
	}
	if !slices.Equal(second[:4], want) {
		t.Errorf("the other answer is %v", second)
	}
	for i := range second {
		second[i] = 2000 + i
	}
	for i := range first {
		if first[i] != 1000+i {
			t.Errorf("the answers share memory: %v", first)
		}
	}
	has(t, ints, b, 3, want, "written over")
	b.Put(7)
	b.Pop()
	b.Clear()
	for i := range first {
		if first[i] != 1000+i {
			t.Errorf("the answer changed: %v", first)
		}
	}
}

// R4: an answer of rows that has others laid into it changes no row of the back.
func TestOwnRows(t *testing.T) {
	b := made[[]api.Cell](t, 3)
	var want [][]api.Cell
	for i := range 5 {
		b.Put(row(i))
		want = append(want, row(i))
	}
	l := b.Last(3)
	for i := range l {
		l[i] = row(70 + i)
	}
	has(t, rows, b, 2, want[2:], "laid over")
	for i, x := range b.All() {
		if !slices.Equal(x, want[2+i]) {
			t.Errorf("the %d-th row is %v", i, x)
		}
	}
}

// R3: backs know nothing of one another.
func TestBesideOneAnother(t *testing.T) {
	a, b, c := made[int](t, 3), made[int](t, 3), made[string](t, 2)
	for i := range 5 {
		a.Put(i)
		b.Put(10 * i)
		c.Put(strconv.Itoa(i))
	}
	a.Pop()
	c.Clear()
	has(t, ints, a, 2, []int{2, 3}, "a")
	has(t, ints, b, 2, []int{20, 30, 40}, "b")
	has(t, texts, c, 3, nil, "c")
}

// A nil back, and one that New did not make, tell nothing and take nothing.
func empty[T any](t *testing.T, k kind[T], b *Back[T]) {
	t.Helper()
	var none T
	for i := range 3 {
		if b.Put(k.thing(i)) {
			t.Error("Put is true")
		}
		for _, n := range numbers(-1, 2) {
			if x, ok := b.At(n); ok || !k.same(x, none) {
				t.Errorf("At(%d) is %v, %v", n, x, ok)
			}
			if l := b.Last(n); len(l) != 0 {
				t.Errorf("Last(%d) is %v", n, l)
			}
		}
		if x, ok := b.Pop(); ok || !k.same(x, none) {
			t.Errorf("Pop is %v, %v", x, ok)
		}
		b.Clear()
		has(t, k, b, 0, nil, "not made")
	}
}

// P14.2, R1.
func TestNotMade(t *testing.T) {
	empty(t, ints, nil)
	empty(t, ints, new(Back[int]))
	empty(t, texts, nil)
	empty(t, texts, &Back[string]{})
	empty(t, rows, nil)
	empty(t, rows, new(Back[[]api.Cell]))
}

// acts does a few hundred acts, and holds the back against a plain one behind each.
func acts[T any](t *testing.T, k kind[T], max int, seed uint32) {
	next := chance(seed)
	b, p := made[T](t, max), &plain[T]{max: max}
	for act := range 400 {
		switch next(16) {
		case 0, 1, 2, 3, 4:
			want, there := p.pop()
			if x, ok := b.Pop(); ok != there || !k.same(x, want) {
				t.Fatalf("room %d, act %d: Pop is %v, %v, not %v, %v", max, act, x, ok, want, there)
			}
		case 5:
			if next(4) == 0 {
				b.Clear()
				p.list = nil
			}
		default:
			if got, want := b.Put(k.thing(act)), p.put(k.thing(act)); got != want {
				t.Fatalf("room %d, act %d: Put is %v", max, act, got)
			}
		}
		alike(t, k, b, p, "room", max, "act", act)
	}
}

// P14.3: act by act against a plain list.
func TestActs(t *testing.T) {
	for max := range 9 {
		for seed := range uint32(6) {
			acts(t, ints, max, seed)
			acts(t, texts, max, seed+100)
			acts(t, rows, max, seed+200)
		}
	}
	acts(t, ints, 100, 7)
}
