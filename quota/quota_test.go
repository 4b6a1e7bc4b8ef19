package quota

import (
	"math"
	"strconv"
	"testing"

	"jalousie/api"
)

func must[K comparable](t *testing.T, most int) *Quota[K] {
	t.Helper()
	q, e := New[K](most)
	if e != api.OK || q == nil {
		t.Fatalf("New(%d): %v, error %d", most, q, e)
	}
	return q
}

func take[K comparable](t *testing.T, q *Quota[K], k K, n int, want bool) {
	t.Helper()
	if got := q.Take(k, n); got != want {
		t.Errorf("Take(%#v, %d): %v", k, n, got)
	}
}

func left[K comparable](t *testing.T, q *Quota[K], k K, want int) {
	t.Helper()
	if got := q.Left(k); got != want {
		t.Errorf("Left(%#v): %d, not %d", k, got, want)
	}
}

func keys[K comparable](t *testing.T, q *Quota[K], want int) {
	t.Helper()
	if got := q.Keys(); got != want {
		t.Errorf("Keys: %d, not %d", got, want)
	}
}

// The examples of the chapter.
func TestExamples(t *testing.T) {
	q := must[string](t, 5)
	take(t, q, "a", 3, true)
	take(t, q, "a", 3, false)
	take(t, q, "b", 5, true)
	left(t, q, "a", 2)
	keys(t, q, 2)
	q.Tick()
	left(t, q, "a", 5)
	take(t, q, "a", -1, false)
	take(t, q, "a", 0, true)
}

// P3.1: which numbers may be the most there is.
func TestNewBounds(t *testing.T) {
	for _, most := range []int{0, 1, 2, 1024, math.MaxInt32, 1 << 32, 1<<40 - 1, 1 << 40} {
		q := must[int](t, most)
		left(t, q, 7, most)
		keys(t, q, 0)
	}
	for _, most := range []int{-1, -2, -1 << 40, math.MinInt32, math.MinInt, 1<<40 + 1, 1<<40 + 2, 1 << 41, 1<<62 + 1, math.MaxInt} {
		if q, e := New[int](most); e != api.ErrArg || q != nil {
			t.Errorf("New(%d): %v, error %d", most, q, e)
		}
	}
}

// P3.1: takes of several keys, one behind the other.
func TestTakes(t *testing.T) {
	q := must[string](t, 10)
	for _, c := range []struct {
		k     string
		n     int
		taken bool
		left  int
		keys  int
	}{
		{"a", 4, true, 6, 1},
		{"b", 10, true, 0, 2},
		{"a", 4, true, 2, 2},
		{"a", 3, false, 2, 2},
		{"c", 11, false, 10, 2},
		{"b", 1, false, 0, 2},
		{"a", 1, true, 1, 2},
		{"", 1, true, 9, 3},
		{"a", 1, true, 0, 3},
		{"a", 1, false, 0, 3},
		{"c", 9, true, 1, 4},
		{"", 9, true, 0, 4},
	} {
		take(t, q, c.k, c.n, c.taken)
		left(t, q, c.k, c.left)
		keys(t, q, c.keys)
	}
}

// P3.1: the edges of one take, of quotas from the least to the most there may be, whatever was taken ahead.
func TestTakeEdges(t *testing.T) {
	for _, most := range []int{0, 1, 2, 1024, 1<<40 - 1, 1 << 40} {
		for _, ahead := range []int{0, 1, most / 2, most - 1, most} {
			if ahead < 0 || ahead > most {
				continue
			}
			rest := most - ahead
			for _, n := range []int{math.MinInt, math.MinInt + 1, -1 << 40, -ahead, -2, -1, 0, 1, rest - 1, rest, rest + 1, most, most + 1, 1 << 40, 1<<40 + 1, 1<<63 - 1<<40, math.MaxInt - 1, math.MaxInt} {
				checkTake(t, most, ahead, n)
			}
		}
	}
}

// checkTake takes n of a quota of which so much was taken ahead; one that is refused changes nothing.
func checkTake(t *testing.T, most, ahead, n int) {
	t.Helper()
	q := must[int](t, most)
	take(t, q, 1, ahead, true)
	want := n >= 0 && n <= most-ahead
	take(t, q, 1, n, want)
	taken := ahead
	if want {
		taken += n
	}
	left(t, q, 1, most-taken)
	left(t, q, 2, most)
	keys(t, q, min(taken, 1))
	take(t, q, 1, most-taken+1, false)
	take(t, q, 1, most-taken, true)
	left(t, q, 1, 0)
}

// P3.1: the greatest and the least number there is, again and again, wrap nothing round.
func TestNoWrapRound(t *testing.T) {
	q := must[int](t, 1<<40)
	take(t, q, 0, 1<<40, true)
	for range 100 {
		take(t, q, 0, math.MaxInt, false)
		take(t, q, 0, math.MinInt, false)
		take(t, q, 1, math.MaxInt, false)
		take(t, q, 1, math.MinInt, false)
	}
	left(t, q, 0, 0)
	left(t, q, 1, 1<<40)
	keys(t, q, 1)
}

// P3.1: of a quota of 0 there is nothing to take, but 0.
func TestMostOfZero(t *testing.T) {
	q := must[string](t, 0)
	for range 2 {
		take(t, q, "a", 1, false)
		take(t, q, "a", -1, false)
		take(t, q, "a", 0, true)
		left(t, q, "a", 0)
		keys(t, q, 0)
		q.Tick()
	}
}

// P3.1: keys of which nothing was taken are not counted, those of which more was taken once.
func TestKeys(t *testing.T) {
	q := must[int](t, 3)
	take(t, q, 1, 0, true)
	take(t, q, 2, 4, false)
	take(t, q, 3, -1, false)
	left(t, q, 4, 3)
	keys(t, q, 0)
	take(t, q, 1, 1, true)
	keys(t, q, 1)
	take(t, q, 1, 1, true)
	take(t, q, 1, 0, true)
	take(t, q, 1, 2, false)
	keys(t, q, 1)
	take(t, q, 1, 1, true)
	keys(t, q, 1)
	take(t, q, 2, 3, true)
	take(t, q, 3, 1, true)
	take(t, q, 4, 0, true)
	keys(t, q, 3)
}

// P3.1: at a tick everything is given back, and nothing more than that.
func TestTick(t *testing.T) {
	q := must[string](t, 6)
	q.Tick()
	keys(t, q, 0)
	left(t, q, "a", 6)
	for round := range 5 {
		take(t, q, "a", 4, true)
		take(t, q, "b", 6, true)
		take(t, q, "a", 3, false)
		keys(t, q, 2)
		if round%2 == 1 {
			take(t, q, "c", 1, true)
			keys(t, q, 3)
		}
		q.Tick()
		keys(t, q, 0)
		for _, k := range []string{"a", "b", "c", "d"} {
			left(t, q, k, 6)
			take(t, q, k, 7, false)
		}
		q.Tick()
		keys(t, q, 0)
	}
}

// checkType goes through all calls with two keys of some type that are not the same.
func checkType[K comparable](t *testing.T, a, b K) {
	t.Helper()
	q := must[K](t, 5)
	take(t, q, a, 2, true)
	left(t, q, a, 3)
	left(t, q, b, 5)
	keys(t, q, 1)
	take(t, q, b, 5, true)
	take(t, q, b, 1, false)
	take(t, q, a, 4, false)
	take(t, q, a, 3, true)
	keys(t, q, 2)
	q.Tick()
	left(t, q, a, 5)
	left(t, q, b, 5)
	keys(t, q, 0)
	checkUnmade[K](t, nil, a)
	checkUnmade(t, &Quota[K]{}, b)
}

// P3.1: keys of many types, zero values of them too.
func TestTypes(t *testing.T) {
	checkType(t, 0, -1)
	checkType(t, uint8(0), uint8(255))
	checkType(t, int64(math.MinInt64), int64(math.MaxInt64))
	checkType(t, "", "\x00")
	checkType(t, "\xff", "\xfe")
	checkType(t, false, true)
	checkType(t, 'a', 'b')
	checkType(t, 0.5, 0.25)
	checkType(t, api.Pane{}, api.Pane{Label: 1, Home: 0, N: 0})
	checkType(t, api.Pane{Label: 1, Home: 2, N: 3}, api.Pane{Label: 3, Home: 2, N: 1})
	checkType(t, [2]int{1, 2}, [2]int{2, 1})
	checkType(t, struct {
		P     api.Pane
		Label int
	}{api.Pane{Label: 1}, 0}, struct {
		P     api.Pane
		Label int
	}{api.Pane{Label: 1}, 1})
	checkType(t, new(int), new(int))
	checkType[any](t, 1, "1")
	checkType[any](t, 1, int64(1))
	checkType[any](t, nil, 0)
	checkType[error](t, nil, strconv.ErrRange)
}

// P3.1: many keys stand beside one another.
func TestManyKeys(t *testing.T) {
	q := must[int](t, 20000)
	for k := range 20000 {
		take(t, q, k, k, true)
	}
	keys(t, q, 19999)
	for k := range 20000 {
		left(t, q, k, 20000-k)
	}
	q.Tick()
	keys(t, q, 0)
	for k := range 20000 {
		left(t, q, k, 20000)
	}
}

func checkUnmade[K comparable](t *testing.T, q *Quota[K], k K) {
	t.Helper()
	for range 2 {
		for _, n := range []int{math.MinInt, -1 << 40, -1, 0, 1, 2, 1 << 40, 1<<40 + 1, math.MaxInt} {
			take(t, q, k, n, n == 0)
			left(t, q, k, 0)
			keys(t, q, 0)
		}
		q.Tick()
	}
}

// P3.1: a nil quota, and one that New did not make.
func TestUnmade(t *testing.T) {
	checkUnmade(t, nil, 0)
	checkUnmade(t, nil, "a")
	checkUnmade(t, nil, api.Pane{})
	checkUnmade(t, &Quota[int]{}, 0)
	checkUnmade(t, new(Quota[string]), "a")
	var plain Quota[api.Pane]
	checkUnmade(t, &plain, api.Pane{Label: 1})
	refused, _ := New[int](-1)
	checkUnmade(t, refused, 0)
}

// R1: what can't be compared is no key: nothing is left for it, and the other keys are as they were.
func TestNoKeys(t *testing.T) {
	type mixed struct {
		number float64
		thing  any
	}
	q, r := must[any](t, 5), must[mixed](t, 5)
	for range 2 {
		for _, thing := range []any{[]int{1}, []int(nil), map[int]int{}, func() {}, [1]any{[]int{}}, struct{ list []byte }{}} {
			for _, n := range []int{math.MinInt, -1, 0, 1, 5, 6, math.MaxInt} {
				take(t, q, thing, n, n == 0)
				take(t, r, mixed{1, thing}, n, n == 0)
				take(t, r, mixed{math.NaN(), thing}, n, n == 0)
				take(t, nil, thing, n, n == 0)
				take(t, &Quota[any]{}, thing, n, n == 0)
			}
			left(t, q, thing, 0)
			left(t, r, mixed{1, thing}, 0)
			left(t, nil, thing, 0)
			left(t, &Quota[any]{}, thing, 0)
		}
		keys(t, q, 0)
		keys(t, r, 0)
		take[any](t, q, "a", 2, true)
		take(t, r, mixed{1, "a"}, 2, true)
		left[any](t, q, "a", 3)
		left(t, r, mixed{1, "a"}, 3)
		q.Tick()
		r.Tick()
	}
}

// P3.1: a number that is not itself is never a key that was, but a tick gives back what was taken for it.
func TestNotANumber(t *testing.T) {
	q := must[float64](t, 5)
	take(t, q, math.NaN(), 5, true)
	take(t, q, math.NaN(), 5, true)
	take(t, q, math.NaN(), 6, false)
	left(t, q, 1, 5)
	keys(t, q, 2)
	q.Tick()
	keys(t, q, 0)
}

// chance is the same row of numbers at each run.
func chance(seed uint32) func(n int) int {
	return func(n int) int {
		seed = seed*1664525 + 1013904223
		return int(seed>>16) % n
	}
}

// anyNumber is mostly one that may be taken, now and then one far off.
func anyNumber(most int, next func(n int) int) int {
	switch next(12) {
	case 0:
		return -1 - next(3)
	case 1:
		return 0
	case 2:
		return []int{math.MinInt, math.MaxInt, most, most + 1}[next(4)]
	}
	return next(most/4 + 2)
}

// P3.1: long rows of calls hold against a list of what was taken since the last tick.
func TestAgainstModel(t *testing.T) {
	type taking struct{ k, n int }
	for most := range 40 {
		q, next := must[int](t, most), chance(uint32(most))
		var takings []taking
		rest := func(k int) int {
			rest := most
			for _, x := range takings {
				if x.k == k {
					rest -= x.n
				}
			}
			return rest
		}
		for range 400 {
			k, n := next(5), anyNumber(most, next)
			if next(25) == 0 {
				takings = nil
				q.Tick()
			}
			may := n >= 0 && n <= rest(k)
			take(t, q, k, n, may)
			if may {
				takings = append(takings, taking{k, n})
			}
			some := 0
			for k := range 5 {
				left(t, q, k, rest(k))
				if rest(k) < most {
					some++
				}
			}
			keys(t, q, some)
		}
	}
}

// P3.2: two quotas, one without what is taken for all other keys, tell the same of the one that is left.
func TestKeysApart(t *testing.T) {
	for _, most := range []int{0, 1, 7, 100, 1 << 40} {
		for one := range 4 {
			whole, part, next := must[int](t, most), must[int](t, most), chance(uint32(most+one))
			for range 600 {
				k, n := next(4), anyNumber(most, next)
				if next(30) == 0 {
					whole.Tick()
					part.Tick()
				}
				got := whole.Take(k, n)
				if k == one {
					take(t, part, k, n, got)
				}
				left(t, part, one, whole.Left(one))
			}
		}
	}
}

// P3.2: what was ahead of a tick, and how much it was, is forgotten.
func TestTickForgets(t *testing.T) {
	for _, ahead := range []int{0, 1, 50, 100} {
		q := must[string](t, 100)
		take(t, q, "a", ahead, true)
		take(t, q, "b", 100-ahead, true)
		q.Tick()
		take(t, q, "a", 60, true)
		left(t, q, "a", 40)
		left(t, q, "b", 100)
		keys(t, q, 1)
		take(t, q, "a", 41, false)
		take(t, q, "a", 40, true)
	}
}

// R3: asking changes nothing, and quotas know nothing of one another.
func TestQuotasApart(t *testing.T) {
	a, b := must[string](t, 5), must[string](t, 7)
	take(t, a, "k", 4, true)
	take(t, b, "k", 7, true)
	for range 3 {
		left(t, a, "k", 1)
		left(t, a, "other", 5)
		left(t, b, "k", 0)
		keys(t, a, 1)
		keys(t, b, 1)
	}
	a.Tick()
	left(t, a, "k", 5)
	left(t, b, "k", 0)
	keys(t, a, 0)
	keys(t, b, 1)
	take(t, b, "k", 1, false)
}
