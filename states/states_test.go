package states

import (
	"math"
	"slices"
	"testing"
)

// count is how many states there are, by the chapter.
const count = 14

// others are numbers that are no states.
var others = []int{math.MinInt, math.MinInt32, -256, -14, -2, -1, 14, 15, 16, 28, 99, 255, 256, 256 + Osc, 1<<32 + Escape, math.MaxInt32, math.MaxInt}

// line is a line of the chapter's table: bytes from, to, from, to ...
type line struct {
	state  int
	bytes  []byte
	action int
	then   int
}

// lines are the chapter's table.
var lines = []line{
	{Ground, []byte{0x00, 0x17, 0x19, 0x19, 0x1c, 0x1f}, Execute, Ground},
	{Ground, []byte{0x20, 0x7e, 0x80, 0xff}, Print, Ground},
	{Ground, []byte{0x7f, 0x7f}, Ignore, Ground},
	{Escape, []byte{0x00, 0x17, 0x19, 0x19, 0x1c, 0x1f}, Execute, Escape},
	{Escape, []byte{0x20, 0x2f}, Collect, Inter},
	{Escape, []byte{0x30, 0x4f, 0x51, 0x57, 0x59, 0x5a, 0x5c, 0x5c, 0x60, 0x7e}, Esc, Ground},
	{Escape, []byte{0x50, 0x50}, Ignore, DcsEntry},
	{Escape, []byte{0x58, 0x58, 0x5e, 0x5f}, Ignore, Text},
	{Escape, []byte{0x5b, 0x5b}, Ignore, CsiEntry},
	{Escape, []byte{0x5d, 0x5d}, Ignore, Osc},
	{Escape, []byte{0x7f, 0xff}, Ignore, Escape},
	{Inter, []byte{0x00, 0x17, 0x19, 0x19, 0x1c, 0x1f}, Execute, Inter},
	{Inter, []byte{0x20, 0x2f}, Collect, Inter},
	{Inter, []byte{0x30, 0x7e}, Esc, Ground},
	{Inter, []byte{0x7f, 0xff}, Ignore, Inter},
	{CsiEntry, []byte{0x00, 0x17, 0x19, 0x19, 0x1c, 0x1f}, Execute, CsiEntry},
	{CsiEntry, []byte{0x20, 0x2f}, Collect, CsiInter},
	{CsiEntry, []byte{0x30, 0x3b}, Param, CsiParam},
	{CsiEntry, []byte{0x3c, 0x3f}, Collect, CsiParam},
	{CsiEntry, []byte{0x40, 0x7e}, Csi, Ground},
	{CsiEntry, []byte{0x7f, 0xff}, Ignore, CsiEntry},
	{CsiParam, []byte{0x00, 0x17, 0x19, 0x19, 0x1c, 0x1f}, Execute, CsiParam},
	{CsiParam, []byte{0x20, 0x2f}, Collect, CsiInter},
	{CsiParam, []byte{0x30, 0x3b}, Param, CsiParam},
	{CsiParam, []byte{0x3c, 0x3f}, Ignore, CsiIgnore},
	{CsiParam, []byte{0x40, 0x7e}, Csi, Ground},
	{CsiParam, []byte{0x7f, 0xff}, Ignore, CsiParam},
	{CsiInter, []byte{0x00, 0x17, 0x19, 0x19, 0x1c, 0x1f}, Execute, CsiInter},
	{CsiInter, []byte{0x20, 0x2f}, Collect, CsiInter},
	{CsiInter, []byte{0x30, 0x3f}, Ignore, CsiIgnore},
	{CsiInter, []byte{0x40, 0x7e}, Csi, Ground},
	{CsiInter, []byte{0x7f, 0xff}, Ignore, CsiInter},
	{CsiIgnore, []byte{0x00, 0x17, 0x19, 0x19, 0x1c, 0x1f}, Execute, CsiIgnore},
	{CsiIgnore, []byte{0x20, 0x3f, 0x7f, 0xff}, Ignore, CsiIgnore},
	{CsiIgnore, []byte{0x40, 0x7e}, Ignore, Ground},
	{DcsEntry, []byte{0x00, 0x17, 0x19, 0x19, 0x1c, 0x1f, 0x7f, 0xff}, Ignore, DcsEntry},
	{DcsEntry, []byte{0x20, 0x2f}, Collect, DcsInter},
	{DcsEntry, []byte{0x30, 0x3b}, Param, DcsParam},
	{DcsEntry, []byte{0x3c, 0x3f}, Collect, DcsParam},
	{DcsEntry, []byte{0x40, 0x7e}, Hook, DcsPass},
	{DcsParam, []byte{0x00, 0x17, 0x19, 0x19, 0x1c, 0x1f, 0x7f, 0xff}, Ignore, DcsParam},
	{DcsParam, []byte{0x20, 0x2f}, Collect, DcsInter},
	{DcsParam, []byte{0x30, 0x3b}, Param, DcsParam},
	{DcsParam, []byte{0x3c, 0x3f}, Ignore, DcsIgnore},
	{DcsParam, []byte{0x40, 0x7e}, Hook, DcsPass},
	{DcsInter, []byte{0x00, 0x17, 0x19, 0x19, 0x1c, 0x1f, 0x7f, 0xff}, Ignore, DcsInter},
	{DcsInter, []byte{0x20, 0x2f}, Collect, DcsInter},
	{DcsInter, []byte{0x30, 0x3f}, Ignore, DcsIgnore},
	{DcsInter, []byte{0x40, 0x7e}, Hook, DcsPass},
	{DcsPass, []byte{0x00, 0x17, 0x19, 0x19, 0x1c, 0x7e, 0x80, 0xff}, Put, DcsPass},
	{DcsPass, []byte{0x7f, 0x7f}, Ignore, DcsPass},
	{DcsIgnore, []byte{0x00, 0x17, 0x19, 0x19, 0x1c, 0xff}, Ignore, DcsIgnore},
	{Osc, []byte{0x00, 0x06, 0x08, 0x17, 0x19, 0x19, 0x1c, 0x1f}, Ignore, Osc},
	{Osc, []byte{0x07, 0x07}, Ignore, Ground},
	{Osc, []byte{0x20, 0xff}, Put, Osc},
	{Text, []byte{0x00, 0x17, 0x19, 0x19, 0x1c, 0xff}, Ignore, Text},
}

// step is an action and the state behind it.
type step struct{ action, next int }

// steps are what all bytes do in all states, out of the chapter's lines; times is how often the chapter names each of them.
func steps() (all [count][256]step, times [count][256]int) {
	for s := range count {
		for c, to := range map[byte]step{0x18: {Execute, Ground}, 0x1a: {Execute, Ground}, 0x1b: {Ignore, Escape}} {
			all[s][c] = to
			times[s][c]++
		}
	}
	for _, l := range lines {
		for i := 0; i < len(l.bytes); i += 2 {
			for c := int(l.bytes[i]); c <= int(l.bytes[i+1]); c++ {
				all[l.state][c] = step{l.action, l.then}
				times[l.state][c]++
			}
		}
	}
	return all, times
}

// takes asks Next for a step.
func takes(state int, c byte) step {
	action, next := Next(state, c)
	return step{action, next}
}

// P6.1: the numbers of states and actions are the chapter's.
func TestNumbers(t *testing.T) {
	for i, s := range []int{Ground, Escape, Inter, CsiEntry, CsiParam, CsiInter, CsiIgnore, DcsEntry, DcsParam, DcsInter, DcsPass, DcsIgnore, Osc, Text} {
		if s != i {
			t.Errorf("state %d is %d", i, s)
		}
	}
	for i, a := range []int{Ignore, Print, Execute, Collect, Param, Esc, Csi, Hook, Put} {
		if a != i {
			t.Errorf("action %d is %d", i, a)
		}
	}
}

// The chapter's examples.
func TestExamples(t *testing.T) {
	for _, x := range []struct {
		state int
		c     byte
		want  step
	}{
		{Ground, 0x41, step{Print, Ground}},
		{Escape, 0x5b, step{Ignore, CsiEntry}},
		{CsiEntry, 0x31, step{Param, CsiParam}},
		{CsiParam, 0x6d, step{Csi, Ground}},
		{Osc, 0x07, step{Ignore, Ground}},
		{DcsPass, 0x1b, step{Ignore, Escape}},
		{Text, 0x41, step{Ignore, Text}},
		{99, 0x41, step{Print, Ground}},
	} {
		if got := takes(x.state, x.c); got != x.want {
			t.Errorf("Next(%d, %x): %v, not %v", x.state, x.c, got, x.want)
		}
	}
}

// The lines above name each byte once in each state: what is tested by them is all there is.
func TestLines(t *testing.T) {
	_, times := steps()
	for s := range count {
		for c, n := range times[s] {
			if n != 1 {
				t.Errorf("state %d, byte %x: named %d times", s, c, n)
			}
		}
	}
}

// P6.1: all bytes in all states do what the chapter's table says.
func TestNext(t *testing.T) {
	all, _ := steps()
	for s := range count {
		for c := range 256 {
			if got := takes(s, byte(c)); got != all[s][c] {
				t.Errorf("Next(%d, %x): %v, not %v", s, c, got, all[s][c])
			}
		}
	}
}

// P6.1: 18, 1a and 1b do the same in every state, and beside the states too.
func TestEverywhere(t *testing.T) {
	for _, s := range append(others, 0, 1, 2, 3, 4, 5, 6, 7, 8, 9, 10, 11, 12, 13) {
		for c, want := range map[byte]step{0x18: {Execute, Ground}, 0x1a: {Execute, Ground}, 0x1b: {Ignore, Escape}} {
			if got := takes(s, c); got != want {
				t.Errorf("Next(%d, %x): %v, not %v", s, c, got, want)
			}
		}
	}
}

// P6.1: of a number that is no state it is as in Ground.
func TestNoState(t *testing.T) {
	all, _ := steps()
	for _, s := range others {
		for c := range 256 {
			if got := takes(s, byte(c)); got != all[Ground][c] {
				t.Errorf("Next(%d, %x): %v, not %v", s, c, got, all[Ground][c])
			}
		}
	}
}

// P6.1: Clears and Ends at every pair of states.
func TestPairs(t *testing.T) {
	clears := []bool{Escape: true, CsiEntry: true, DcsEntry: true, Osc: true, Text: false}
	ends := []bool{DcsPass: true, Osc: true, Text: false}
	for s := range count {
		for next := range count {
			if got, want := Clears(s, next), clears[next] && s != next; got != want {
				t.Errorf("Clears(%d, %d): %v", s, next, got)
			}
			if got, want := Ends(s, next), ends[s] && s != next; got != want {
				t.Errorf("Ends(%d, %d): %v", s, next, got)
			}
		}
	}
}

// P6.1: Clears and Ends at pairs written out, with numbers that are no states among them.
func TestPairsWritten(t *testing.T) {
	for _, x := range []struct {
		state, next  int
		clears, ends bool
	}{
		{Ground, Escape, true, false},
		{Ground, Ground, false, false},
		{Escape, Escape, false, false},
		{Escape, CsiEntry, true, false},
		{Escape, DcsEntry, true, false},
		{Escape, Osc, true, false},
		{Escape, Text, false, false},
		{Escape, Inter, false, false},
		{CsiEntry, CsiEntry, false, false},
		{CsiEntry, CsiParam, false, false},
		{CsiParam, Escape, true, false},
		{DcsEntry, DcsEntry, false, false},
		{DcsEntry, DcsPass, false, false},
		{DcsPass, DcsPass, false, false},
		{DcsPass, Ground, false, true},
		{DcsPass, Escape, true, true},
		{DcsIgnore, Ground, false, false},
		{Osc, Osc, false, false},
		{Osc, Ground, false, true},
		{Osc, Escape, true, true},
		{Osc, DcsPass, false, true},
		{DcsPass, Osc, true, true},
		{Text, Ground, false, false},
		{Text, Escape, true, false},
	} {
		if Clears(x.state, x.next) != x.clears || Ends(x.state, x.next) != x.ends {
			t.Errorf("%d to %d: clears %v, ends %v", x.state, x.next, Clears(x.state, x.next), Ends(x.state, x.next))
		}
	}
}

// P6.1: numbers that are no states begin and end nothing by themselves.
func TestPairsBeside(t *testing.T) {
	for _, n := range others {
		for s := range count {
			if got, want := Clears(n, s), s == Escape || s == CsiEntry || s == DcsEntry || s == Osc; got != want {
				t.Errorf("Clears(%d, %d): %v", n, s, got)
			}
			if Clears(s, n) {
				t.Errorf("Clears(%d, %d)", s, n)
			}
			if Ends(n, s) {
				t.Errorf("Ends(%d, %d)", n, s)
			}
			if got, want := Ends(s, n), s == DcsPass || s == Osc; got != want {
				t.Errorf("Ends(%d, %d): %v", s, n, got)
			}
		}
		for _, m := range others {
			if Clears(n, m) || Ends(n, m) {
				t.Errorf("%d to %d: %v, %v", n, m, Clears(n, m), Ends(n, m))
			}
		}
	}
}

// P6.2: from every state each byte leads to a state, by an action; 1b to Escape, 18 to Ground.
func TestLeads(t *testing.T) {
	for s := range count {
		for c := range 256 {
			if got := takes(s, byte(c)); got.next < Ground || got.next > Text || got.action < Ignore || got.action > Put {
				t.Errorf("Next(%d, %x): %v", s, c, got)
			}
		}
		if takes(s, 0x1b).next != Escape || takes(s, 0x18).next != Ground {
			t.Errorf("state %d: 1b or 18", s)
		}
	}
}

// P6.2: behind a byte from 40 to 7e a sequence is over; a byte below that ends none, but 18, 1a and 1b.
func TestOver(t *testing.T) {
	for s := Inter; s <= CsiIgnore; s++ {
		for c := 0x40; c <= 0x7e; c++ {
			if got := takes(s, byte(c)); got.next != Ground {
				t.Errorf("Next(%d, %x): %v", s, c, got)
			}
		}
		for c := range 256 {
			over := takes(s, byte(c)).next == Ground
			if c == 0x18 || c == 0x1a || s == Inter && 0x30 <= c && c < 0x40 || 0x40 <= c && c <= 0x7e {
				continue
			}
			if over {
				t.Errorf("state %d is over behind %x", s, c)
			}
		}
	}
}

// P6.1: whole sequences, byte by byte.
func TestSequences(t *testing.T) {
	for text, want := range map[string][]step{
		"a\n\x1b[1;31m":     {{Print, 0}, {Execute, 0}, {Ignore, 1}, {Ignore, 3}, {Param, 4}, {Param, 4}, {Param, 4}, {Param, 4}, {Csi, 0}},
		"\x1b[?25h":         {{Ignore, 1}, {Ignore, 3}, {Collect, 4}, {Param, 4}, {Param, 4}, {Csi, 0}},
		"\x1b[1?\r2mb":      {{Ignore, 1}, {Ignore, 3}, {Param, 4}, {Ignore, 6}, {Execute, 6}, {Ignore, 6}, {Ignore, 0}, {Print, 0}},
		"\x1b[ 1qc":         {{Ignore, 1}, {Ignore, 3}, {Collect, 5}, {Ignore, 6}, {Ignore, 0}, {Print, 0}},
		"\x1b[??m":          {{Ignore, 1}, {Ignore, 3}, {Collect, 4}, {Ignore, 6}, {Ignore, 0}},
		"\x1b(B\x1b7":       {{Ignore, 1}, {Collect, 2}, {Esc, 0}, {Ignore, 1}, {Esc, 0}},
		"\x1b]0;\x7f\xc3\a": {{Ignore, 1}, {Ignore, 12}, {Put, 12}, {Put, 12}, {Put, 12}, {Put, 12}, {Ignore, 0}},
		"\x1b]x\x1b\\":      {{Ignore, 1}, {Ignore, 12}, {Put, 12}, {Ignore, 1}, {Esc, 0}},
		"\x1bP1$q\x7f\nm\x1b\\": {{Ignore, 1}, {Ignore, 7}, {Param, 8}, {Collect, 9}, {Hook, 10}, {Ignore, 10}, {Put, 10},
			{Put, 10}, {Ignore, 1}, {Esc, 0}},
		"\x1bP$1q\x18":      {{Ignore, 1}, {Ignore, 7}, {Collect, 9}, {Ignore, 11}, {Ignore, 11}, {Execute, 0}},
		"\x1bX\aa\x1b_\x1a": {{Ignore, 1}, {Ignore, 13}, {Ignore, 13}, {Ignore, 13}, {Ignore, 1}, {Ignore, 13}, {Execute, 0}},
		"\x1b\x1b[\x1b[m":   {{Ignore, 1}, {Ignore, 1}, {Ignore, 3}, {Ignore, 1}, {Ignore, 3}, {Csi, 0}},
	} {
		var got []step
		state := Ground
		for _, c := range []byte(text) {
			got = append(got, takes(state, c))
			state = got[len(got)-1].next
		}
		if !slices.Equal(got, want) {
			t.Errorf("%q: %v, not %v", text, got, want)
		}
	}
}

// R3: what is answered hangs on the arguments alone, not on what was asked before.
func TestApart(t *testing.T) {
	var first [count][256]step
	for s := range count {
		for c := range 256 {
			first[s][c] = takes(s, byte(c))
		}
	}
	for s := count - 1; s >= 0; s-- {
		for c := 255; c >= 0; c-- {
			takes(others[(s+c)%len(others)], byte(c))
			if got := takes(s, byte(c)); got != first[s][c] {
				t.Errorf("Next(%d, %x): %v, then %v", s, c, first[s][c], got)
			}
		}
	}
}
