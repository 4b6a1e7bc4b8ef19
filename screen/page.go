package screen

import (
	"slices"

	"jalousie/api"
	"jalousie/reflow"
	"jalousie/row"
	"jalousie/scroll"
)

// page is the lines of the one that is shown. A line's cells are never written over, others take their place: so lines can go from the page to the back as they are.
func (s *Screen) page() []reflow.Line {
	if s.isOn(otherPage) {
		return s.other
	}
	return s.main
}

// line is the cursor's.
func (s *Screen) line() *reflow.Line {
	return &s.page()[s.y]
}

// touch gives the cursor's line other cells: it is not Joined, nor Short, any more.
func (s *Screen) touch(cells []api.Cell) {
	*s.line() = reflow.Line{Cells: cells}
}

// region is its lines from a row on; none, if the row is not in it.
func (s *Screen) region(from int) []reflow.Line {
	if from < s.top || from > s.bottom {
		return nil
	}
	return s.page()[from : s.bottom+1]
}

// scrollUp moves the region up by n. What is gone at the main page's top is put into the back.
func (s *Screen) scrollUp(n int) {
	gone := moveUp(s.region(s.top), n, s.w)
	if s.top > 0 || s.isOn(otherPage) {
		return
	}
	for _, line := range gone {
		s.back.Put(line)
	}
}

// scrollDown moves the region down by n.
func (s *Screen) scrollDown(n int) {
	moveDown(s.region(s.top), n, s.w)
}

// insertLines puts n blank lines at the cursor's row, if that is in the region.
func (s *Screen) insertLines(n int) {
	if lines := s.region(s.y); len(lines) > 0 {
		moveDown(lines, n, s.w)
		s.x = 0
	}
}

// deleteLines takes n lines away from the cursor's row on, if that is in the region.
func (s *Screen) deleteLines(n int) {
	if lines := s.region(s.y); len(lines) > 0 {
		moveUp(lines, n, s.w)
		s.x = 0
	}
}

// moveUp moves lines up by n, and answers those that are gone. (Up of package scroll moves cells alone; here Joined and Short go with them.)
func moveUp(lines []reflow.Line, n, w int) []reflow.Line {
	n = min(n, len(lines))
	gone := slices.Clone(lines[:n])
	stay := copy(lines, lines[n:])
	copy(lines[stay:], blanks(n, w))
	return gone
}

// moveDown moves lines down by n.
func moveDown(lines []reflow.Line, n, w int) {
	n = min(n, len(lines))
	copy(lines[n:], lines)
	copy(lines, blanks(n, w))
}

// erasePage makes plain blanks of a part of the page, or empties the back; it is false, if which says nothing of these.
func (s *Screen) erasePage(which int) bool {
	switch which {
	case 0:
		s.eraseLine(0)
		s.eraseRows(s.y+1, s.h)
	case 1:
		s.eraseLine(1)
		s.eraseRows(0, s.y)
	case 2:
		s.eraseRows(0, s.h)
	case 3:
		s.back.Clear()
	default:
		return false
	}
	return true
}

// eraseRows makes blank lines of those from begin on, up to end, which stays.
func (s *Screen) eraseRows(begin, end int) {
	copy(s.page()[begin:end], blanks(end-begin, s.w))
}

// eraseLine makes plain blanks of a part of the cursor's line; it is false, if which says none.
func (s *Screen) eraseLine(which int) bool {
	cells := s.line().Cells
	switch which {
	case 0:
		s.touch(row.Erase(cells, s.x, s.w-s.x, api.Attr{}))
	case 1:
		s.touch(row.Erase(cells, 0, s.x+1, api.Attr{}))
	case 2:
		s.touch(row.Blank(s.w, api.Attr{}))
	default:
		return false
	}
	return true
}

// blanks is n lines of plain blanks.
func blanks(n, w int) []reflow.Line {
	lines := make([]reflow.Line, n)
	for i, cells := range scroll.Fresh(n, w, api.Attr{}) {
		lines[i].Cells = cells
	}
	return lines
}
