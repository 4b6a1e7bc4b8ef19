package screen

import (
	"jalousie/api"
	"jalousie/tabs"
)

// point is a column and a row of the page.
type point struct{ x, y int }

// place is where a cursor is, and how it writes and moves there.
type place struct {
	point
	attr   api.Attr
	origin bool
}

// area is where the cursor moves.
func (s *Screen) area() tabs.Area {
	return tabs.Area{W: s.w, H: s.h, Top: s.top, Bottom: s.bottom}
}

// nearest is the place of the area that is nearest to p.
func (s *Screen) nearest(p point) point {
	x, y := tabs.To(s.area(), false, p.x, p.y)
	return point{x, y}
}

// moveTo brings the cursor to a column and a row; with origin the row is counted within the region.
func (s *Screen) moveTo(x, y int) {
	s.x, s.y = tabs.To(s.area(), s.isOn(origin), x, y)
}

// here is the cursor's place.
func (s *Screen) here() place {
	return place{s.point, s.attr, s.isOn(origin)}
}

// comeBack brings the cursor to a place.
func (s *Screen) comeBack(p place) {
	s.point = s.nearest(p.point)
	s.attr = p.attr
	s.put(origin, p.origin)
}

// down brings the cursor to the next row; at the region's last one the region moves.
func (s *Screen) down() {
	switch {
	case s.y == s.bottom:
		s.scrollUp(1)
	case s.y < s.h-1:
		s.y++
	}
}

// up brings the cursor to the row above; at the region's first one the region moves.
func (s *Screen) up() {
	switch {
	case s.y == s.top:
		s.scrollDown(1)
	case s.y > 0:
		s.y--
	}
}

// newLine brings the cursor to the beginning of the next row.
func (s *Screen) newLine() {
	s.x = 0
	s.down()
}

// setRegion makes the rows from top to bottom the region, if there are such, and more than one.
func (s *Screen) setRegion(top, bottom int) {
	bottom = min(bottom, s.h-1)
	if top >= bottom {
		return
	}
	s.top, s.bottom = top, bottom
	s.moveTo(0, 0)
}

// clearStops takes away the stop at the cursor, or all of them; it is false, if which says neither.
func (s *Screen) clearStops(which int) bool {
	switch which {
	case 0:
		s.stops.Clear(s.x)
	case 3:
		s.stops.ClearAll()
	default:
		return false
	}
	return true
}
