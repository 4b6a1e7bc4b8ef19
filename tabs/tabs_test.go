package tabs

import (
	"math"
	"slices"
	"testing"

	"jalousie/api"
)

// extremes are numbers that no column, row or width is.
var extremes = []int{math.MinInt, math.MinInt + 1, math.MinInt32, math.MaxInt32, math.MaxInt - 400, math.MaxInt - 1, math.MaxInt}

// numbers are those from least to most, and the extremes.
func numbers(least, most int) []int {
	l := slices.Clone(extremes)
	for n := least; n <= most; n++ {
		l = append(l, n)
	}
	return l
}

// chance answers numbers below n, always the same ones.
func chance(seed uint32) func(n int) int {
	return func(n int) int {
		seed = seed*1664525 + 1013904223
		return int(seed>>8) % n
	}
}

// plain are stops in the chapter's words: a width, and what each column is.
type plain struct {
	w    int
	stop map[int]bool
}

func wantsWidth(w int) int {
	if w < 1 {
		return 1
	}
	if w > 400 {
		return 400
	}
	return w
}

func wantsNew(w int) *plain {
	p := &plain{wantsWidth(w), map[int]bool{}}
	for x := 8; x < p.w; x += 8 {
		p.stop[x] = true
	}
	return p
}

func (p *plain) set(x int) bool {
	if x < 0 || x > p.w-1 || p.stop[x] {
		return false
	}
	p.stop[x] = true
	return true
}

func (p *plain) clear(x int) bool {
	was := p.stop[x]
	delete(p.stop, x)
	return was
}

func (p *plain) resize(w int) {
	old := p.w
	p.w = wantsWidth(w)
	for x := range 400 {
		if x >= p.w {
			delete(p.stop, x)
		} else if x >= old && x%8 == 0 {
			p.stop[x] = true
		}
	}
}

func (p *plain) all() []int {
	var l []int
	for x := range 400 {
		if p.stop[x] {
			l = append(l, x)
		}
	}
	return l
}

func (p *plain) next(x, n int) int {
	var right []int
	for _, stop := range p.all() {
		if stop > x {
			right = append(right, stop)
		}
	}
	n = max(n, 1)
	if len(right) < n {
		return p.w - 1
	}
	return right[n-1]
}

func (p *plain) prev(x, n int) int {
	var left []int
	for _, stop := range p.all() {
		if stop < x {
			left = append([]int{stop}, left...)
		}
	}
	n = max(n, 1)
	if len(left) < n {
		return 0
	}
	return left[n-1]
}

func all(s *Stops) []int {
	var l []int
	for x := range s.All() {
		l = append(l, x)
	}
	return l
}

// alike fails if stops tell otherwise than plain ones: All, and Next and Prev from every column, from ahead of and behind them.
func alike(t *testing.T, s *Stops, p *plain, what ...any) {
	t.Helper()
	if got, want := all(s), p.all(); !slices.Equal(got, want) {
		t.Fatalf("%v: All is %v, not %v", what, got, want)
	}
	counts := []int{math.MinInt, -1, 0, 1, 2, 3, len(p.stop) - 1, len(p.stop), len(p.stop) + 1, math.MaxInt}
	for _, x := range numbers(-2, p.w+2) {
		for _, n := range counts {
			if got, want := s.Next(x, n), p.next(x, n); got != want {
				t.Fatalf("%v: Next(%d, %d) is %d, not %d", what, x, n, got, want)
			}
			if got, want := s.Prev(x, n), p.prev(x, n); got != want {
				t.Fatalf("%v: Prev(%d, %d) is %d, not %d", what, x, n, got, want)
			}
		}
	}
}

func TestExamples(t *testing.T) {
	s := New(20)
	if a, b, c := s.Next(0, 1), s.Next(8, 1), s.Next(16, 1); a != 8 || b != 16 || c != 19 {
		t.Errorf("Next is %d, %d, %d", a, b, c)
	}
	if a, b, c := s.Prev(9, 1), s.Prev(8, 1), s.Next(3, 2); a != 8 || b != 0 || c != 16 {
		t.Errorf("Prev is %d, %d, Next %d", a, b, c)
	}
	a := Area{W: 10, H: 8, Top: 2, Bottom: 5}
	got := []int{Up(a, 4, 9), Up(a, 1, 9), Down(a, 4, 9), Down(a, 6, 9), Up(a, 4, 0)}
	if !slices.Equal(got, []int{2, 0, 5, 7, 3}) {
		t.Errorf("Up and Down are %v", got)
	}
	if x, y := To(a, true, 3, 9); x != 3 || y != 5 {
		t.Errorf("To with origin is %d, %d", x, y)
	}
	if x, y := To(a, false, 30, -1); x != 9 || y != 0 {
		t.Errorf("To without origin is %d, %d", x, y)
	}
}

// P12.1: those that 8 divides, but 0; the width is made at least 1 and at most 400.
func TestNew(t *testing.T) {
	for _, w := range numbers(-2, 410) {
		s, p := New(w), wantsNew(w)
		if got, want := all(s), p.all(); !slices.Equal(got, want) || s.Next(400, 1) != p.w-1 {
			t.Errorf("New(%d) has %v, width %d, not %v, %d", w, got, s.Next(400, 1)+1, want, p.w)
		}
	}
	for _, w := range append(extremes, -1, 0, 1, 8, 9, 400, 401) {
		alike(t, New(w), wantsNew(w), "New", w)
	}
	for w, want := range map[int][]int{-1: nil, 0: nil, 1: nil, 8: nil, 9: {8}, 16: {8}, 17: {8, 16}} {
		if got := all(New(w)); !slices.Equal(got, want) {
			t.Errorf("New(%d) has %v, not %v", w, got, want)
		}
	}
	if n := len(all(New(400))); n != 49 {
		t.Errorf("New(400) has %d stops", n)
	}
	if x := New(401).Next(392, 1); x != 399 {
		t.Errorf("the last column of New(401) is %d", x)
	}
}

// P12.1: whether x is a column that was no stop, or was one; behind one another the second says false.
func TestSetClear(t *testing.T) {
	for _, w := range []int{1, 2, 8, 9, 20, 399, 400} {
		s, p := New(w), wantsNew(w)
		for _, x := range append(extremes, -1, 0, 1, 7, 8, 9, w-1, w, w+1, 399, 400, 401) {
			for i := range 4 {
				got, want := false, false
				if i < 2 {
					got, want = s.Set(x), p.set(x)
				} else {
					got, want = s.Clear(x), p.clear(x)
				}
				if got != want {
					t.Errorf("width %d: Set(%d) twice, Clear(%d) twice: call %d is %v", w, x, x, i+1, got)
				}
				if got, want := all(s), p.all(); !slices.Equal(got, want) {
					t.Errorf("width %d: behind call %d with %d they are %v, not %v", w, i+1, x, got, want)
				}
			}
		}
		alike(t, s, p, "Set and Clear", w)
	}
}

// P12.1: no column is a stop; what is set behind it is one.
func TestClearAll(t *testing.T) {
	s, p := New(30), wantsNew(30)
	s.Set(0)
	s.Set(29)
	s.ClearAll()
	p.stop = map[int]bool{}
	alike(t, s, p, "ClearAll")
	s.ClearAll()
	alike(t, s, p, "ClearAll twice")
	if s.Clear(8) || !s.Set(8) || s.Set(8) || !s.Set(11) {
		t.Error("behind ClearAll 8 is a stop, or can't be set")
	}
	p.set(8)
	p.set(11)
	alike(t, s, p, "Set behind ClearAll")
	s = New(400)
	s.ClearAll()
	alike(t, s, &plain{400, map[int]bool{}}, "ClearAll of 400")
}

// P12.1: from each width to each other one and back.
func TestResize(t *testing.T) {
	widths := append(extremes, -1, 0, 1, 2, 7, 8, 9, 16, 17, 20, 24, 25, 398, 399, 400, 401)
	for _, from := range widths {
		for _, to := range widths {
			for _, cleared := range []bool{false, true} {
				s, p := New(from), wantsNew(from)
				if cleared {
					s.ClearAll()
					p.stop = map[int]bool{}
				}
				for _, x := range []int{0, 5, 8, 19, 23} {
					s.Set(x)
					p.set(x)
				}
				s.Clear(16)
				p.clear(16)
				for _, w := range []int{from, to, to, from} {
					s.Resize(w)
					p.resize(w)
					if got, want := all(s), p.all(); !slices.Equal(got, want) || s.Next(400, 1) != p.w-1 {
						t.Fatalf("from %d to %d: %v, width %d, not %v, %d", from, to, got, s.Next(400, 1)+1, want, p.w)
					}
				}
			}
		}
	}
}

func TestResizeInWords(t *testing.T) {
	s := New(20)
	s.Set(3)
	s.Set(19)
	s.Resize(20)
	if got := all(s); !slices.Equal(got, []int{3, 8, 16, 19}) {
		t.Errorf("the same width changed them to %v", got)
	}
	s.Resize(9)
	s.Resize(20)
	if got := all(s); !slices.Equal(got, []int{3, 8, 16}) {
		t.Errorf("there and back they are %v: 19 was cut off, 16 is new", got)
	}
	s.ClearAll()
	s.Resize(25)
	if got := all(s); !slices.Equal(got, []int{24}) {
		t.Errorf("behind ClearAll and Resize they are %v", got)
	}
	s.Set(0)
	s.Resize(0)
	if got := all(s); !slices.Equal(got, []int{0}) {
		t.Errorf("of width 1 they are %v", got)
	}
	s.Clear(0)
	s.Resize(9)
	if got := all(s); !slices.Equal(got, []int{8}) {
		t.Errorf("column 0 was there before: %v", got)
	}
}

// P12.1, P12.2, R3: whatever came before.
func TestRowsOfCalls(t *testing.T) {
	next := chance(1)
	for range 300 {
		w := next(60) - 2
		s, p := New(w), wantsNew(w)
		for range 12 {
			x := next(64) - 2
			switch next(8) {
			case 0:
				s.ClearAll()
				p.stop = map[int]bool{}
			case 1, 2:
				w := next(60) - 2
				s.Resize(w)
				p.resize(w)
			case 3, 4:
				if got, want := s.Clear(x), p.clear(x); got != want {
					t.Fatalf("Clear(%d) is %v", x, got)
				}
			default:
				if got, want := s.Set(x), p.set(x); got != want {
					t.Fatalf("Set(%d) is %v", x, got)
				}
			}
		}
		alike(t, s, p, "calls")
	}
}

// P12.1: a walk that is left early tells no more, and harms nothing.
func TestWalkLeftEarly(t *testing.T) {
	s := New(100)
	var got []int
	for x := range s.All() {
		got = append(got, x)
		if len(got) == 3 {
			break
		}
	}
	if !slices.Equal(got, []int{8, 16, 24}) {
		t.Errorf("the walk told %v", got)
	}
	calls := 0
	s.All()(func(int) bool { calls++; return false })
	if calls != 1 {
		t.Errorf("a walk that is left at its first stop went on to %d", calls)
	}
	alike(t, s, wantsNew(100), "left early")
}

// P12.1: each walk tells the stops as they are when it begins, be it one's second time.
func TestWalkTwice(t *testing.T) {
	s := New(20)
	walk := s.All()
	if a, b := slices.Collect(walk), slices.Collect(walk); !slices.Equal(a, []int{8, 16}) || !slices.Equal(a, b) {
		t.Errorf("one walk twice is %v, %v", a, b)
	}
	s.Set(3)
	if got := slices.Collect(walk); !slices.Equal(got, []int{3, 8, 16}) {
		t.Errorf("the walk that begins behind Set is %v", got)
	}
	s.Resize(9)
	if got := slices.Collect(walk); !slices.Equal(got, []int{3, 8}) {
		t.Errorf("the walk that begins behind Resize is %v", got)
	}
	for range walk {
		if got := slices.Collect(walk); !slices.Equal(got, []int{3, 8}) {
			t.Errorf("a walk within the same walk is %v", got)
		}
	}
}

// P12.1: what happens during a walk changes nothing of it.
func TestWalkWhileChanged(t *testing.T) {
	changes := map[string]func(s *Stops, x int){
		"Set":          func(s *Stops, x int) { s.Set(x + 1) },
		"Set ahead":    func(s *Stops, x int) { s.Set(x - 1) },
		"Clear":        func(s *Stops, x int) { s.Clear(x + 8) },
		"Clear itself": func(s *Stops, x int) { s.Clear(x) },
		"ClearAll":     func(s *Stops, x int) { s.ClearAll() },
		"smaller":      func(s *Stops, x int) { s.Resize(1) },
		"greater":      func(s *Stops, x int) { s.Resize(400) },
	}
	for name, change := range changes {
		s := New(40)
		var got []int
		for x := range s.All() {
			change(s, x)
			got = append(got, x)
		}
		if !slices.Equal(got, []int{8, 16, 24, 32}) {
			t.Errorf("%s: the walk told %v", name, got)
		}
	}
	s := New(40)
	for range s.All() {
		s.ClearAll()
		s.Set(5)
		s.Resize(9)
	}
	if got := all(s); !slices.Equal(got, []int{5}) {
		t.Errorf("the stops behind it are %v: what happened during the walk did not hold", got)
	}
}

// P12.2: stops with none set.
func TestNoStops(t *testing.T) {
	s := New(50)
	s.ClearAll()
	for _, x := range numbers(-2, 52) {
		for _, n := range numbers(-1, 3) {
			if a, b := s.Next(x, n), s.Prev(x, n); a != 49 || b != 0 {
				t.Fatalf("from %d by %d: %d, %d", x, n, a, b)
			}
		}
	}
}

// P12.2: of nil stops, and of those that New did not make.
func TestNil(t *testing.T) {
	for name, s := range map[string]*Stops{"nil": nil, "unmade": {}} {
		s.ClearAll()
		for _, x := range numbers(-1, 9) {
			if s.Set(x) || s.Clear(x) {
				t.Errorf("%s: %d is a column", name, x)
			}
			for _, n := range numbers(-1, 3) {
				if a, b := s.Next(x, n), s.Prev(x, n); a != 0 || b != 0 {
					t.Errorf("%s: from %d by %d: %d, %d", name, x, n, a, b)
				}
			}
		}
		if got := all(s); len(got) != 0 {
			t.Errorf("%s: the stops %v", name, got)
		}
	}
	for _, w := range numbers(-1, 401) {
		var none *Stops
		none.Resize(w)
		var unmade Stops
		unmade.Resize(w)
		if got, want := all(&unmade), wantsNew(w).all(); !slices.Equal(got, want) {
			t.Errorf("unmade ones resized to %d are %v, not %v", w, got, want)
		}
	}
}

// R3: stops know nothing of one another.
func TestApart(t *testing.T) {
	s, other := New(20), New(20)
	s.Set(1)
	s.Resize(30)
	alike(t, other, wantsNew(20), "the other one")
	other.ClearAll()
	p := wantsNew(30)
	p.set(1)
	alike(t, s, p, "the one")
}

// P12.4: Next behind Prev and Prev behind Next come back to a stop, as long as there are as many stops.
func TestThereAndBack(t *testing.T) {
	next := chance(7)
	for range 200 {
		s := New(next(80))
		for range next(20) {
			s.Set(next(80))
		}
		stops := all(s)
		for i, x := range stops {
			for n := 1; n <= len(stops); n++ {
				if i-n >= 0 && s.Next(s.Prev(x, n), n) != x {
					t.Fatalf("%v: Next behind Prev by %d from %d", stops, n, x)
				}
				if i+n < len(stops) && s.Prev(s.Next(x, n), n) != x {
					t.Fatalf("%v: Prev behind Next by %d from %d", stops, n, x)
				}
			}
			last := s.Next(400, 1)
			if x > 0 && s.Next(s.Prev(x, 1), 1) != x || x < last && s.Prev(s.Next(x, 1), 1) != x {
				t.Fatalf("%v: by 1 from %d", stops, x)
			}
		}
	}
}

func wantsRight(a Area) bool {
	sides := 1 <= a.W && a.W <= 400 && 1 <= a.H && a.H <= 400
	rows := 0 <= a.Top && a.Top <= a.H-1 && 0 <= a.Bottom && a.Bottom <= a.H-1
	return sides && rows && !(a.Top > a.Bottom)
}

// P12.3: each bound passed by one, and by the greatest and the least numbers.
func TestRight(t *testing.T) {
	for _, a := range []Area{{1, 1, 0, 0}, {400, 400, 0, 399}, {400, 400, 399, 399}, {1, 400, 0, 0}, {400, 1, 0, 0}, {5, 7, 2, 2}, {5, 7, 2, 6}} {
		if !Right(a) {
			t.Errorf("%v may not be", a)
		}
	}
	wrong := []Area{{0, 1, 0, 0}, {1, 0, 0, 0}, {1, 0, 0, -1}, {401, 1, 0, 0}, {1, 401, 0, 0}, {1, 1, -1, 0}, {1, 1, 0, -1}, {1, 1, -1, -1}, {1, 1, 0, 1}, {1, 1, 1, 1}, {5, 7, 3, 2}, {5, 7, 2, 7}, {5, 7, 7, 7}, {}}
	for _, a := range wrong {
		if Right(a) {
			t.Errorf("%v may be", a)
		}
	}
	sides := append(extremes, -1, 0, 1, 2, 399, 400, 401)
	for _, w := range sides {
		for _, h := range sides {
			for _, top := range append(sides, 5, 6, h-1, h) {
				for _, bottom := range append(sides, 5, 6, h-1, h) {
					if a := (Area{w, h, top, bottom}); Right(a) != wantsRight(a) {
						t.Fatalf("Right(%v) is %v", a, !wantsRight(a))
					}
				}
			}
		}
	}
}

// P12.3: of an area that may not be 0, or 0, 0.
func TestWrongAreas(t *testing.T) {
	areas := []Area{{0, 8, 2, 5}, {401, 8, 2, 5}, {10, 0, 0, 0}, {10, 401, 2, 5}, {10, 8, -1, 5}, {10, 8, 6, 5}, {10, 8, 2, 8}, {10, 8, 8, 8}, {math.MaxInt, 8, 2, 5}, {math.MinInt, 8, 2, 5}, {10, math.MaxInt, 2, 5}, {10, math.MinInt, 2, 5}, {10, 8, math.MinInt, 5}, {10, 8, 2, math.MaxInt}, {10, 8, math.MaxInt, math.MinInt}, {}}
	for _, a := range areas {
		for _, z := range numbers(-1, 9) {
			for _, n := range numbers(-1, 9) {
				if Up(a, z, n) != 0 || Down(a, z, n) != 0 || Left(a, z, n) != 0 || Ahead(a, z, n) != 0 {
					t.Fatalf("in %v from %d by %d a cursor moves", a, z, n)
				}
				for _, origin := range []bool{false, true} {
					if x, y := To(a, origin, z, n); x != 0 || y != 0 {
						t.Fatalf("in %v there is the place %d, %d", a, x, y)
					}
				}
			}
		}
	}
}

// areas calls f with each small area that may be, and with some great ones.
func areas(f func(a Area)) {
	for h := 1; h <= 6; h++ {
		for top := 0; top < h; top++ {
			for bottom := top; bottom < h; bottom++ {
				f(Area{h/2 + 1, h, top, bottom})
				f(Area{8 - h, h, top, bottom})
			}
		}
	}
	f(Area{400, 400, 0, 399})
	f(Area{400, 400, 3, 390})
	f(Area{400, 400, 399, 399})
}

// wantsSteps goes from z one by one for n steps (1, if n is below 1), as long as it stands within the bounds that it may not pass.
func wantsSteps(z, n, step, end int) int {
	for i := 0; (i < n || i == 0) && z != end; i++ {
		z += step
	}
	return z
}

// wantsNearest is the number from 0 to most that is nearest to z.
func wantsNearest(z, most int) int {
	best := 0
	for i := 0; i <= most; i++ {
		if i == z || i < z {
			best = i
		}
	}
	return best
}

func wantsUp(a Area, y, n int) int {
	y = wantsNearest(y, a.H-1)
	if y == a.Top || y > a.Top {
		return wantsSteps(y, n, -1, a.Top)
	}
	return wantsSteps(y, n, -1, 0)
}

func wantsDown(a Area, y, n int) int {
	y = wantsNearest(y, a.H-1)
	if y == a.Bottom || y < a.Bottom {
		return wantsSteps(y, n, 1, a.Bottom)
	}
	return wantsSteps(y, n, 1, a.H-1)
}

// P12.3: where the cursor comes to, from every place within and beyond the area.
func TestMoves(t *testing.T) {
	areas(func(a Area) {
		for _, z := range append(numbers(-3, 9), 388, 390, 391, 398, 399, 400) {
			for _, n := range append(numbers(-2, 9), 387, 398, 399, 400) {
				if got, want := Up(a, z, n), wantsUp(a, z, n); got != want {
					t.Fatalf("Up(%v, %d, %d) is %d, not %d", a, z, n, got, want)
				}
				if got, want := Down(a, z, n), wantsDown(a, z, n); got != want {
					t.Fatalf("Down(%v, %d, %d) is %d, not %d", a, z, n, got, want)
				}
				x := wantsNearest(z, a.W-1)
				if got, want := Left(a, z, n), wantsSteps(x, n, -1, 0); got != want {
					t.Fatalf("Left(%v, %d, %d) is %d, not %d", a, z, n, got, want)
				}
				if got, want := Ahead(a, z, n), wantsSteps(x, n, 1, a.W-1); got != want {
					t.Fatalf("Ahead(%v, %d, %d) is %d, not %d", a, z, n, got, want)
				}
			}
		}
	})
}

// wantsRow is the row, of those from begin to end, that is nearest to the y-th behind begin.
func wantsRow(begin, end, y int) int {
	return begin + wantsNearest(y, end-begin)
}

// P12.3: the nearest place, with origin within the region.
func TestTo(t *testing.T) {
	areas(func(a Area) {
		for _, x := range append(numbers(-3, 9), 398, 399, 400) {
			for _, y := range append(numbers(-3, 9), 386, 387, 388, 398, 399, 400) {
				gotX, gotY := To(a, false, x, y)
				if wantX, wantY := wantsNearest(x, a.W-1), wantsRow(0, a.H-1, y); gotX != wantX || gotY != wantY {
					t.Fatalf("To(%v, false, %d, %d) is %d, %d, not %d, %d", a, x, y, gotX, gotY, wantX, wantY)
				}
				gotX, gotY = To(a, true, x, y)
				if wantX, wantY := wantsNearest(x, a.W-1), wantsRow(a.Top, a.Bottom, y); gotX != wantX || gotY != wantY {
					t.Fatalf("To(%v, true, %d, %d) is %d, %d, not %d, %d", a, x, y, gotX, gotY, wantX, wantY)
				}
			}
		}
	})
}

// P12.4: a cursor never leaves the area, nor by Up and Down the region that it was in.
func TestNeverLeaves(t *testing.T) {
	areas(func(a Area) {
		for _, z := range append(numbers(-3, 9), 398, 399, 400) {
			for _, n := range append(numbers(-2, 9), 399, api.MaxSide) {
				for _, y := range []int{Up(a, z, n), Down(a, z, n)} {
					if y < 0 || y >= a.H {
						t.Fatalf("in %v from %d by %d the row is %d", a, z, n, y)
					}
					if z >= a.Top && z <= a.Bottom && (y < a.Top || y > a.Bottom) {
						t.Fatalf("in %v from %d by %d the row %d is not of the region", a, z, n, y)
					}
				}
				for _, x := range []int{Left(a, z, n), Ahead(a, z, n)} {
					if x < 0 || x >= a.W {
						t.Fatalf("in %v from %d by %d the column is %d", a, z, n, x)
					}
				}
				for _, origin := range []bool{false, true} {
					if x, y := To(a, origin, z, n); x < 0 || x >= a.W || y < 0 || y >= a.H || origin && (y < a.Top || y > a.Bottom) {
						t.Fatalf("in %v the place %d, %d is %d, %d", a, z, n, x, y)
					}
				}
			}
		}
	})
}
