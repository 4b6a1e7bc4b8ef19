package screen

import (
	"jalousie/api"
	"jalousie/reflow"
	"jalousie/row"
	"jalousie/width"
)

// print writes a character at the cursor, on the next line if it has no room on this one.
func (s *Screen) print(r rune) {
	n := width.Of(r)
	if n == 0 {
		return
	}
	wraps := s.isOn(wrap)
	if s.late && wraps {
		s.line().Joined = true
		s.newLine()
	}
	s.late = false
	if n > s.w-s.x {
		if !wraps {
			return
		}
		s.leaveShort()
		s.newLine()
	}
	s.write(r, n)
	s.x += n
	if s.x == s.w {
		s.x--
		s.late = wraps
	}
}

// leaveShort leaves the last column of the cursor's line, where the cursor is, to nothing: what comes next has two columns.
func (s *Screen) leaveShort() {
	*s.line() = reflow.Line{
		Cells:  row.Erase(s.line().Cells, s.x, 1, api.Attr{}),
		Joined: true,
		Short:  true,
	}
}

// write puts a character of n columns into the cursor's line, which has room for it.
func (s *Screen) write(r rune, n int) {
	if s.isOn(insert) {
		s.touch(row.Insert(s.line().Cells, s.x, n, api.Attr{}))
	}
	cells, _ := row.Write(s.line().Cells, s.x, r, n == 2, s.attr)
	if s.x+n == s.w {
		s.touch(cells)
	} else {
		s.line().Cells = cells
	}
}
