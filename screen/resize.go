package screen

import (
	"slices"

	"jalousie/api"
	"jalousie/reflow"
	"jalousie/row"
)

// Resize gives the screen another size. One that New did not make is as a nil one.
func (s *Screen) Resize(w, h int) api.Errno {
	switch {
	case !s.made():
		return api.ErrNil
	case !isSize(w, h):
		return api.ErrArg
	}
	s.reflow(w, h)
	s.other = resized(s.other, w, h)
	s.w, s.h = w, h
	s.top, s.bottom = 0, h-1
	s.stops.Resize(w)
	s.late = false
	for _, p := range []*point{&s.point, &s.left.point, &s.kept.point} {
		*p = s.nearest(*p)
	}
	return api.OK
}

// reflow brings the back and the main page to another size, and the main page's cursor to where its place is then, which may be above the page.
func (s *Screen) reflow(w, h int) {
	cursor := &s.point
	if s.isOn(otherPage) {
		cursor = &s.left.point
	}
	old := slices.Concat(s.scrolledOut(), s.main)
	lines := reflow.Lines(old, w)
	x, y := reflow.Place(old, w, cursor.x, s.back.Len()+cursor.y)
	lines = lines[:max(y+1, filled(lines))]
	first := max(len(lines)-h, 0)
	s.main = blanks(h, w)
	copy(s.main, lines[first:])
	s.back.Clear()
	for _, line := range lines[:first] {
		s.back.Put(line)
	}
	*cursor = point{x, y - first}
}

// filled is how many lines there are up to the last one that is not plain blanks alone.
func filled(lines []reflow.Line) int {
	n := len(lines)
	for n > 0 && !slices.ContainsFunc(lines[n-1].Cells, isFilled) {
		n--
	}
	return n
}

// isFilled is whether a cell is no plain blank.
func isFilled(c api.Cell) bool {
	return c != api.Cell{Rune: ' '}
}

// resized is another page's lines at another size, none of which goes on with the next one.
func resized(lines []reflow.Line, w, h int) []reflow.Line {
	page := blanks(h, w)
	for y := range min(h, len(lines)) {
		page[y].Cells = row.Resize(lines[y].Cells, w, api.Attr{})
	}
	return page
}
