package events

import (
	"jalousie/api"
	"jalousie/params"
)

// sequence is what a parser keeps of a sequence that is not whole, and of the string behind it. What it keeps stands in arrays, so that a parser's copy goes on by itself.
type sequence struct {
	params    params.List
	middle    [2]byte
	collected int // how many bytes were collected: more than middle has room for are too many
	final     byte
	text      [max(api.MaxOsc, api.MaxDcs)]byte
	size      int // how long the text is: what it has no room for is of no string that is told
}

// clear takes away what the next sequence must not have. The last byte may stay: nobody asks for it ahead of the next one.
func (s *sequence) clear() {
	s.params.Clear()
	s.collected = 0
	s.size = 0
}

func (s *sequence) collect(c byte) {
	if s.collected < len(s.middle) {
		s.middle[s.collected] = c
	}
	s.collected++
}

func (s *sequence) many() bool {
	return s.collected > len(s.middle)
}

func (s *sequence) mids() string {
	return string(s.middle[:s.collected])
}

func (s *sequence) put(c byte) {
	if s.size < len(s.text) {
		s.text[s.size] = c
	}
	s.size++
}

func (s *sequence) words() string {
	return string(s.text[:s.size])
}
