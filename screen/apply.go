package screen

import (
	"jalousie/api"
	"jalousie/attr"
	"jalousie/events"
	"jalousie/params"
	"jalousie/row"
	"jalousie/tabs"
)

// Apply is what an event makes of the screen.
func (s *Screen) Apply(e events.Event) {
	switch {
	case !s.made():
		return
	case e.Kind == events.Print:
		s.print(e.Rune)
	case e.Kind == events.Csi && e.Mids == "" && e.Final == 'm':
		s.attr = attr.Apply(s.attr, e.Params)
	default:
		if s.obeys(e) {
			s.late = false
		}
	}
}

// obeys does what an event says that is neither Print nor m, and tells whether it says anything. So do those below.
func (s *Screen) obeys(e events.Event) bool {
	switch e.Kind {
	case events.Execute:
		return s.control(e.Final)
	case events.Esc:
		return e.Mids == "" && s.escape(e.Final)
	case events.Csi:
		return s.sequence(e)
	}
	return false
}

// control does what a control byte says.
func (s *Screen) control(c byte) bool {
	switch c {
	case '\b':
		s.x = max(s.x-1, 0)
	case '\t':
		s.x = s.stops.Next(s.x, 1)
	case '\n', '\v', '\f':
		s.down()
	case '\r':
		s.x = 0
	default:
		return false
	}
	return true
}

// escape does what an escape sequence says.
func (s *Screen) escape(final byte) bool {
	switch final {
	case '7':
		s.kept = s.here()
	case '8':
		s.comeBack(s.kept)
	case 'D':
		s.down()
	case 'E':
		s.newLine()
	case 'M':
		s.up()
	case 'H':
		s.stops.Set(s.x)
	case 'c':
		s.reset()
	default:
		return false
	}
	return true
}

// sequence does what a control sequence says.
func (s *Screen) sequence(e events.Event) bool {
	turns := e.Final == 'h' || e.Final == 'l'
	switch {
	case turns && (e.Mids == "" || e.Mids == private):
		s.turnAll(e)
		return true
	case e.Mids != "":
		return false
	}
	n := max(params.One(e.Params, 0, 1), 1)
	return s.move(e, n) || s.edit(e.Final, n) || s.choose(e, n)
}

// move does what a control sequence says that brings the cursor elsewhere.
func (s *Screen) move(e events.Event, n int) bool {
	a := s.area()
	switch e.Final {
	case 'A':
		s.y = tabs.Up(a, s.y, n)
	case 'B', 'e':
		s.y = tabs.Down(a, s.y, n)
	case 'C', 'a':
		s.x = tabs.Ahead(a, s.x, n)
	case 'D':
		s.x = tabs.Left(a, s.x, n)
	case 'E':
		s.x, s.y = 0, tabs.Down(a, s.y, n)
	case 'F':
		s.x, s.y = 0, tabs.Up(a, s.y, n)
	case 'G', '`':
		s.point = s.nearest(point{n - 1, s.y})
	case 'd':
		s.moveTo(s.x, n-1)
	case 'H', 'f':
		s.moveTo(max(params.One(e.Params, 1, 1), 1)-1, n-1)
	case 'I':
		s.x = s.stops.Next(s.x, n)
	case 'Z':
		s.x = s.stops.Prev(s.x, n)
	default:
		return false
	}
	return true
}

// edit does what a control sequence says that moves cells or lines by n.
func (s *Screen) edit(final byte, n int) bool {
	cells := s.line().Cells
	switch final {
	case '@':
		s.touch(row.Insert(cells, s.x, n, api.Attr{}))
	case 'P':
		s.touch(row.Delete(cells, s.x, n, api.Attr{}))
	case 'X':
		s.touch(row.Erase(cells, s.x, n, api.Attr{}))
	case 'L':
		s.insertLines(n)
	case 'M':
		s.deleteLines(n)
	case 'S':
		s.scrollUp(n)
	case 'T':
		s.scrollDown(n)
	default:
		return false
	}
	return true
}

// choose does what a control sequence says whose parameter chooses among several things, and what the others say.
func (s *Screen) choose(e events.Event, n int) bool {
	which := params.One(e.Params, 0, 0)
	switch e.Final {
	case 'J':
		return s.erasePage(which)
	case 'K':
		return s.eraseLine(which)
	case 'g':
		return s.clearStops(which)
	case 'r':
		s.setRegion(n-1, max(params.One(e.Params, 1, s.h), 1)-1)
	case 's':
		s.kept = s.here()
	case 'u':
		s.comeBack(s.kept)
	default:
		return false
	}
	return true
}
