package screen

import (
	"jalousie/events"
	"jalousie/params"
)

// The modes: the first one is told without Mids, the others with the private mark.
const (
	insert    = 4
	keys      = 1
	origin    = 6
	wrap      = 7
	visible   = 25
	otherPage = 47
	paste     = 2004
)

const private = "?"

// modeOf is the number of the mode that n says.
func modeOf(n int) int {
	if n == 1047 || n == 1049 {
		return otherPage
	}
	return n
}

// isMode is whether there is a mode n that is told with these Mids.
func isMode(mids string, n int) bool {
	switch n {
	case insert:
		return mids == ""
	case keys, origin, wrap, visible, otherPage, paste:
		return mids == private
	}
	return false
}

func (s *Screen) isOn(mode int) bool {
	_, on := s.modes[mode]
	return on
}

// turnAll turns the modes on or off that e says, one behind the other.
func (s *Screen) turnAll(e events.Event) {
	for i := range e.Params {
		n := modeOf(params.One(e.Params, i, 0))
		if isMode(e.Mids, n) {
			s.turn(n, e.Final == 'h')
		}
	}
}

// turn turns a mode on or off, and does what comes with it.
func (s *Screen) turn(mode int, on bool) {
	was := s.isOn(mode)
	s.put(mode, on)
	switch {
	case mode == origin:
		s.moveTo(0, 0)
	case mode == otherPage && on && !was:
		s.left = s.here()
		s.other = blanks(s.h, s.w)
	case mode == otherPage && !on && was:
		s.comeBack(s.left)
		s.left = place{}
	}
}

// put has a mode on or off.
func (s *Screen) put(mode int, on bool) {
	if on {
		s.modes[mode] = struct{}{}
	} else {
		delete(s.modes, mode)
	}
}
