package screen

import (
	"slices"

	"jalousie/api"
	"jalousie/attr"
	"jalousie/events"
	"jalousie/reflow"
	"jalousie/width"
)

// spot is a place as the chapter has it.
type spot struct {
	x, y   int
	attr   api.Attr
	origin bool
}

// model is the chapter's words, done plainly on lists of lines, step by step.
type model struct {
	w, h, room  int
	main, other []reflow.Line
	alternate   bool // whether the other page is shown
	back        []reflow.Line
	x, y        int
	late        bool
	attr        api.Attr
	top, bottom int
	stop        []bool
	on          map[int]bool
	kept, left  *spot
}

func atFirst(w, h, room int) *model {
	m := &model{w: w, h: h, room: room, bottom: h - 1, on: map[int]bool{7: true, 25: true}}
	for range h {
		m.main = append(m.main, m.plainLine())
		m.other = append(m.other, m.plainLine())
	}
	for x := range w {
		m.stop = append(m.stop, x > 0 && x%8 == 0)
	}
	return m
}

func plainBlanks(n int) []api.Cell {
	var l []api.Cell
	for range n {
		l = append(l, api.Cell{Rune: 32})
	}
	return l
}

func (m *model) plainLine() reflow.Line {
	return reflow.Line{Cells: plainBlanks(m.w)}
}

func (m *model) shown() []reflow.Line {
	if m.alternate {
		return m.other
	}
	return m.main
}

func (m *model) at() *reflow.Line {
	return &m.shown()[m.y]
}

func (m *model) touched(cells []api.Cell) {
	m.at().Cells, m.at().Joined, m.at().Short = cells, false, false
}

// partAt makes blanks of both halves of a wide character that stands over the column's beginning.
func partAt(l []api.Cell, x int) {
	if x > 0 && x < len(l) && l[x].Wide == 2 {
		l[x-1] = api.Cell{Rune: 32, Attr: l[x-1].Attr}
		l[x] = api.Cell{Rune: 32, Attr: l[x].Attr}
	}
}

func inserted(l []api.Cell, x, n int) []api.Cell {
	l, n = slices.Clone(l), min(n, len(l)-x)
	partAt(l, x)
	partAt(l, len(l)-n)
	return slices.Concat(l[:x], plainBlanks(n), l[x:len(l)-n])
}

func deleted(l []api.Cell, x, n int) []api.Cell {
	l, n = slices.Clone(l), min(n, len(l)-x)
	partAt(l, x)
	partAt(l, x+n)
	return slices.Concat(l[:x], l[x+n:], plainBlanks(n))
}

func erased(l []api.Cell, x, n int) []api.Cell {
	l, n = slices.Clone(l), min(n, len(l)-x)
	partAt(l, x)
	partAt(l, x+n)
	return slices.Concat(l[:x], plainBlanks(n), l[x+n:])
}

func written(l []api.Cell, x, n int, r rune, a api.Attr) []api.Cell {
	l = slices.Clone(l)
	partAt(l, x)
	partAt(l, x+n)
	l[x] = api.Cell{Rune: r, Attr: a}
	if n == 2 {
		l[x].Wide = 1
		l[x+1] = api.Cell{Rune: r, Wide: 2, Attr: a}
	}
	return l
}

// regionUp moves the lines from a row to the region's end up by one.
func (m *model) regionUp(from int) reflow.Line {
	p := m.shown()
	gone := p[from]
	for y := from; y < m.bottom; y++ {
		p[y] = p[y+1]
	}
	p[m.bottom] = m.plainLine()
	return gone
}

// regionDown moves them down by one.
func (m *model) regionDown(from int) {
	p := m.shown()
	for y := m.bottom; y > from; y-- {
		p[y] = p[y-1]
	}
	p[from] = m.plainLine()
}

// scroll moves the region up by one; what is gone may come into the back.
func (m *model) scroll() {
	gone := m.regionUp(m.top)
	if m.top == 0 && !m.alternate {
		m.back = append(m.back, gone)
	}
	for len(m.back) > m.room {
		m.back = m.back[1:]
	}
}

func (m *model) down() {
	if m.y == m.bottom {
		m.scroll()
	} else if m.y+1 < m.h {
		m.y++
	}
}

func (m *model) up() {
	if m.y == m.top {
		m.regionDown(m.top)
	} else if m.y > 0 {
		m.y--
	}
}

func (m *model) character(r rune) {
	n := width.Of(r)
	if n == 0 {
		return
	}
	if m.late && m.on[7] {
		m.at().Joined = true
		m.x = 0
		m.down()
	}
	m.late = false
	if n == 2 && m.x == m.w-1 {
		if !m.on[7] {
			return
		}
		m.at().Cells = erased(m.at().Cells, m.x, 1)
		m.at().Joined, m.at().Short = true, true
		m.x = 0
		m.down()
	}
	if m.on[4] {
		m.touched(inserted(m.at().Cells, m.x, n))
	}
	m.at().Cells = written(m.at().Cells, m.x, n, r, m.attr)
	if m.x+n == m.w {
		m.touched(m.at().Cells)
	}
	m.x += n
	if m.x == m.w {
		m.x--
		m.late = m.on[7]
	}
}

// moveDown is n rows down, one by one.
func (m *model) moveDown(n int) {
	for range min(n, m.h) {
		if m.y != m.bottom && m.y < m.h-1 {
			m.y++
		}
	}
}

func (m *model) moveUp(n int) {
	for range min(n, m.h) {
		if m.y != m.top && m.y > 0 {
			m.y--
		}
	}
}

// next is the n-th stop to the right, or the last column.
func (m *model) next(n int) {
	for range min(n, m.w) {
		for m.x++; m.x < m.w-1 && !m.stop[m.x]; m.x++ {
		}
		m.x = min(m.x, m.w-1)
	}
}

func (m *model) prev(n int) {
	for range min(n, m.w) {
		for m.x--; m.x > 0 && !m.stop[m.x]; m.x-- {
		}
		m.x = max(m.x, 0)
	}
}

// to is the place that is nearest to a column and a row, by origin or not.
func (m *model) to(x, y int, origin bool) {
	first, last := 0, m.h-1
	if origin {
		first, last = m.top, m.bottom
	}
	m.x = min(max(x, 0), m.w-1)
	m.y = first
	if y > 0 {
		m.y += min(y, last-first)
	}
}

func (m *model) here() *spot {
	return &spot{m.x, m.y, m.attr, m.on[6]}
}

func (m *model) goBack(p *spot) {
	if p == nil {
		p = &spot{}
	}
	m.attr, m.on[6] = p.attr, p.origin
	m.to(p.x, p.y, false)
}

// param is the first part of one, or what stands for none.
func param(e events.Event, i, none int) int {
	if i < len(e.Params) && len(e.Params[i]) > 0 && e.Params[i][0] != 0 {
		return e.Params[i][0]
	}
	return none
}

func (m *model) apply(e events.Event) {
	switch e.Kind {
	case events.Print:
		m.character(e.Rune)
	case events.Csi:
		m.csi(e)
	case events.Execute:
		m.execute(e.Final)
	case events.Esc:
		if e.Mids == "" {
			m.esc(e.Final)
		}
	}
}

func (m *model) execute(c byte) {
	if c >= 8 && c <= 13 {
		m.late = false
	}
	switch c {
	case 8:
		m.x = max(0, m.x-1)
	case 9:
		m.next(1)
	case 10, 11, 12:
		m.down()
	case 13:
		m.x = 0
	}
}

func (m *model) esc(c byte) {
	if slices.Contains([]byte("78DEMHc"), c) {
		m.late = false
	}
	switch c {
	case '7':
		m.kept = m.here()
	case '8':
		m.goBack(m.kept)
	case 'D':
		m.down()
	case 'E':
		m.x = 0
		m.down()
	case 'M':
		m.up()
	case 'H':
		m.stop[m.x] = true
	case 'c':
		*m = *atFirst(m.w, m.h, m.room)
	}
}

func (m *model) csi(e events.Event) {
	if (e.Final == 'h' || e.Final == 'l') && (e.Mids == "" || e.Mids == "?") {
		m.late = false
		for _, p := range e.Params {
			if len(p) > 0 {
				m.mode(e.Mids, p[0], e.Final == 'h')
			}
		}
		return
	}
	if e.Mids != "" {
		return
	}
	n := max(1, param(e, 0, 1))
	m.ends(e)
	m.moves(e, n)
	m.changes(e.Final, n)
	m.erases(e.Final, param(e, 0, 0))
	m.others(e, n)
}

// ends is the end of late, if the event is one of the table, and not m.
func (m *model) ends(e events.Event) {
	which := param(e, 0, 0)
	in := slices.Contains([]byte("ABeCaDEFG`dHfIZLM@PXSTrsu"), e.Final) ||
		e.Final == 'J' && slices.Contains([]int{0, 1, 2, 3}, which) ||
		e.Final == 'K' && slices.Contains([]int{0, 1, 2}, which) ||
		e.Final == 'g' && slices.Contains([]int{0, 3}, which)
	if in {
		m.late = false
	}
}

func (m *model) moves(e events.Event, n int) {
	switch e.Final {
	case 'A':
		m.moveUp(n)
	case 'B', 'e':
		m.moveDown(n)
	case 'C', 'a':
		m.to(m.x+min(n, m.w), m.y, false)
	case 'D':
		m.to(m.x-min(n, m.w), m.y, false)
	case 'E':
		m.moveDown(n)
		m.x = 0
	case 'F':
		m.moveUp(n)
		m.x = 0
	case 'G', '`':
		m.to(n-1, m.y, false)
	case 'd':
		m.to(m.x, n-1, m.on[6])
	case 'H', 'f':
		m.to(max(param(e, 1, 1), 1)-1, n-1, m.on[6])
	case 'I':
		m.next(n)
	case 'Z':
		m.prev(n)
	}
}

func (m *model) changes(final byte, n int) {
	within := m.y >= m.top && m.y <= m.bottom
	switch final {
	case 'L', 'M':
		if !within {
			return
		}
		m.x = 0
		for range min(n, m.h) {
			if final == 'L' {
				m.regionDown(m.y)
			} else {
				m.regionUp(m.y)
			}
		}
	case 'S', 'T':
		for range min(n, m.bottom-m.top+1) {
			if final == 'S' {
				m.scroll()
			} else {
				m.regionDown(m.top)
			}
		}
	case '@':
		m.touched(inserted(m.at().Cells, m.x, n))
	case 'P':
		m.touched(deleted(m.at().Cells, m.x, n))
	case 'X':
		m.touched(erased(m.at().Cells, m.x, n))
	}
}

func (m *model) erases(final byte, which int) {
	if final != 'J' && final != 'K' {
		return
	}
	for y := range m.h {
		above := final == 'J' && (which == 1 || which == 2) && y < m.y
		below := final == 'J' && (which == 0 || which == 2) && y > m.y
		if above || below {
			m.shown()[y] = m.plainLine()
		}
	}
	switch which {
	case 0:
		m.touched(erased(m.at().Cells, m.x, m.w-m.x))
	case 1:
		m.touched(erased(m.at().Cells, 0, m.x+1))
	case 2:
		m.touched(plainBlanks(m.w))
	case 3:
		if final == 'J' {
			m.back = nil
		}
	}
}

func (m *model) others(e events.Event, n int) {
	switch e.Final {
	case 'g':
		switch param(e, 0, 0) {
		case 0:
			m.stop[m.x] = false
		case 3:
			m.stop = make([]bool, m.w)
		}
	case 'm':
		m.attr = attr.Apply(m.attr, e.Params)
	case 'r':
		b := min(max(param(e, 1, m.h), 1)-1, m.h-1)
		if n-1 < b {
			m.top, m.bottom = n-1, b
			m.to(0, 0, m.on[6])
		}
	case 's':
		m.kept = m.here()
	case 'u':
		m.goBack(m.kept)
	}
}

func (m *model) mode(mids string, n int, on bool) {
	switch {
	case mids == "" && n == 4:
		m.on[4] = on
	case mids == "":
	case n == 1, n == 7, n == 25, n == 2004:
		m.on[n] = on
	case n == 6:
		m.on[6] = on
		m.to(0, 0, on)
	case n != 47 && n != 1047 && n != 1049:
	case on && !m.alternate:
		m.left = m.here()
		m.alternate = true
		m.other = nil
		for range m.h {
			m.other = append(m.other, m.plainLine())
		}
	case !on && m.alternate:
		m.alternate = false
		m.goBack(m.left)
		m.left = nil
	}
}

// isOn is what Mode is to answer.
func (m *model) isOn(n int) bool {
	switch n {
	case 47, 1047, 1049:
		return m.alternate
	}
	return m.on[n]
}

func allPlain(l reflow.Line) bool {
	return slices.Equal(l.Cells, plainBlanks(len(l.Cells)))
}

func (m *model) resize(w, h int) {
	old := slices.Concat(m.back, m.main)
	x, y := m.x, m.y
	if m.alternate {
		x, y = m.left.x, m.left.y
	}
	lines := reflow.Lines(old, w)
	x, c := reflow.Place(old, w, x, len(m.back)+y)
	last := c
	for i, l := range lines {
		if i > last && !allPlain(l) {
			last = i
		}
	}
	top := max(0, last-h+1) // the number of the page's first line
	m.back = nil
	for i := range top {
		if i >= top-m.room {
			m.back = append(m.back, lines[i])
		}
	}
	m.w, m.main = w, nil
	for i := top; i < top+h; i++ {
		if i <= last {
			m.main = append(m.main, lines[i])
		} else {
			m.main = append(m.main, m.plainLine())
		}
	}
	m.resizeOther(h)
	m.h, m.top, m.bottom, m.late = h, 0, h-1, false
	for x := len(m.stop); x < w; x++ {
		m.stop = append(m.stop, x%8 == 0)
	}
	m.stop = m.stop[:w]
	if m.alternate {
		m.left.x, m.left.y = min(x, w-1), min(max(c-top, 0), h-1)
		x, c = m.x, top+m.y
	}
	m.to(x, c-top, false)
	if m.kept != nil {
		m.kept.x, m.kept.y = min(m.kept.x, w-1), min(m.kept.y, h-1)
	}
}

func (m *model) resizeOther(h int) {
	var other []reflow.Line
	for y := range h {
		line := m.plainLine()
		if y < len(m.other) {
			cells := slices.Concat(m.other[y].Cells, plainBlanks(m.w))
			partAt(cells, m.w)
			line.Cells = cells[:m.w]
		}
		other = append(other, line)
	}
	m.other = other
}
