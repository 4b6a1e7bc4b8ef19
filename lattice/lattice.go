// Package lattice is layer 1: see shared/doc/01-lattice.md.
package lattice

import (
	"sync"

	"jalousie/api"
)

const (
	maxRanks = 64
	maxSets  = 6
)

// Lattice is labels and their order. A set of labels is the bits of a word, since there are at most 64.
type Lattice struct {
	up, down     []uint64
	once         sync.Once
	joins, meets [][]int
}

// New is the lattice that an order table makes.
func New(table [][]bool) (*Lattice, api.Errno) {
	n := len(table)
	if n < 1 || n > api.MaxLabels {
		return nil, api.ErrLong
	}
	for _, line := range table {
		if len(line) != n {
			return nil, api.ErrForm
		}
	}
	l := ordered(n, func(a, b int) bool { return table[a][b] })
	if !l.isOrder() || !l.hasBounds() {
		return nil, api.ErrArg
	}
	return l, api.OK
}

// Rank is the lattice of ranks and sets of bits. It is a product of lattices, so nothing is left to check.
func Rank(ranks, sets int) (*Lattice, api.Errno) {
	if ranks < 1 || ranks > maxRanks || sets < 0 || sets > maxSets || ranks<<sets > api.MaxLabels {
		return nil, api.ErrArg
	}
	return ordered(ranks<<sets, func(a, b int) bool {
		return a%ranks <= b%ranks && (a/ranks)&^(b/ranks) == 0
	}), api.OK
}

// ordered lays down an order of n labels, whether it makes a lattice or not.
func ordered(n int, below func(a, b int) bool) *Lattice {
	l := &Lattice{up: make([]uint64, n), down: make([]uint64, n)}
	for a := range n {
		for b := range n {
			if below(a, b) {
				l.up[a] |= 1 << b
				l.down[b] |= 1 << a
			}
		}
	}
	return l
}

// isOrder tells whether each label is below itself, no two are below one another, and what is above a label has all that is above it in turn.
func (l *Lattice) isOrder() bool {
	for a, above := range l.up {
		if above&l.down[a] != 1<<a {
			return false
		}
		for b, further := range l.up {
			if has(above, b) && further&^above != 0 {
				return false
			}
		}
	}
	return true
}

// hasBounds tells whether each two labels have a join and a meet.
func (l *Lattice) hasBounds() bool {
	for a := range l.up {
		for b := range l.up {
			if bound(l.up, a, b) < 0 || bound(l.down, a, b) < 0 {
				return false
			}
		}
	}
	return true
}

// bound is the join of a and b, if side tells what is above each label, and their meet, if it tells what is below.
func bound(side []uint64, a, b int) int {
	return nearest(side, side[a]&side[b])
}

// nearest is the label of a set on whose side all of the set lies; -1, if there is none.
func nearest(side []uint64, set uint64) int {
	for a, beyond := range side {
		if has(set, a) && set&^beyond == 0 {
			return a
		}
	}
	return -1
}

func has(set uint64, a int) bool { return set>>a&1 == 1 }

// fill makes all joins and meets, so that later ones are only looked up.
func (l *Lattice) fill() {
	l.joins = bounds(l.up)
	l.meets = bounds(l.down)
}

func bounds(side []uint64) [][]int {
	all := make([][]int, len(side))
	for a := range all {
		all[a] = make([]int, len(side))
		for b := range all[a] {
			all[a][b] = bound(side, a, b)
		}
	}
	return all
}

// isLabel is false of every number, if the lattice is nil or neither New nor Rank made it.
func (l *Lattice) isLabel(a int) bool { return a >= 0 && a < l.Len() }

// Len is how many labels there are.
func (l *Lattice) Len() int {
	if l == nil {
		return 0
	}
	return len(l.up)
}

// Below is whether both are labels, and a is below b.
func (l *Lattice) Below(a, b int) bool {
	return l.isLabel(a) && l.isLabel(b) && has(l.up[a], b)
}

// Join is the lowest label above both; -1, if one is no label.
func (l *Lattice) Join(a, b int) int {
	if !l.isLabel(a) || !l.isLabel(b) {
		return -1
	}
	l.once.Do(l.fill)
	return l.joins[a][b]
}

// Meet is the highest label below both; -1, if one is no label.
func (l *Lattice) Meet(a, b int) int {
	if !l.isLabel(a) || !l.isLabel(b) {
		return -1
	}
	l.once.Do(l.fill)
	return l.meets[a][b]
}

// Top is the label above all; -1, if there are no labels.
func (l *Lattice) Top() int {
	if l.Len() == 0 {
		return -1
	}
	return nearest(l.down, l.labels())
}

// Bottom is the label below all; -1, if there are no labels.
func (l *Lattice) Bottom() int {
	if l.Len() == 0 {
		return -1
	}
	return nearest(l.up, l.labels())
}

// labels is the set of all of them; shifted from above, so that 64 of them need no wrap-round.
func (l *Lattice) labels() uint64 { return ^uint64(0) >> (api.MaxLabels - l.Len()) }

// Downset is the labels below a, rising; none, if a is no label.
func (l *Lattice) Downset(a int) []int {
	if !l.isLabel(a) {
		return nil
	}
	var below []int
	for b := range l.down {
		if has(l.down[a], b) {
			below = append(below, b)
		}
	}
	return below
}
