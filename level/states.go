package level

import "shuttle/api"

// state is what counts from a sign on that begins an embedding or an isolate.
type state struct {
	level uint8
	// over is the class that is said over: DirL, DirR or none.
	over    int8
	isolate bool
}

// at is the level and the class of a place of the class dir where the state counts.
func (s state) at(dir int8) (level uint8, kind int8) {
	if s.over != none {
		return s.level, s.over
	}
	return s.level, dir
}

// next is the least level above that of the state that runs to the right side, or to the left one.
func (s state) next(right bool) uint8 {
	if right {
		return (s.level + 1) | 1
	}
	return (s.level + 2) &^ 1
}

// states are those of a paragraph, up to the place that is come to.
type states struct {
	first state
	// Each state has a greater level than the one below it.
	room [api.MaxDepth + 1]state
	pile []state

	openIsolates      int
	tooDeepIsolates   int
	tooDeepEmbeddings int
}

func newStates(base uint8) *states {
	s := &states{first: state{level: base, over: none}}
	s.begin()
	return s
}

// begin is what happens where a paragraph begins.
func (s *states) begin() {
	s.pile = append(s.room[:0], s.first)
	s.openIsolates, s.tooDeepIsolates, s.tooDeepEmbeddings = 0, 0, 0
}

func (s *states) top() state {
	return s.pile[len(s.pile)-1]
}

func (s *states) takeOff() {
	s.pile = s.pile[: len(s.pile)-1 : len(s.room)]
}

// place tells the level and the class of the next place, which is of the class dir; first: the first strong class of the stretch in which it is open, if it begins an isolate.
func (s *states) place(dir, first int8) (level uint8, kind int8) {
	switch dir {
	case api.DirLRE, api.DirRLE, api.DirLRO, api.DirRLO:
		level = s.top().level
		s.embed(dir)
		return level, api.DirBN
	case api.DirLRI, api.DirRLI, api.DirFSI:
		level, kind = s.top().at(dir)
		s.isolate(dir == api.DirRLI || dir == api.DirFSI && isRight(first))
		return level, kind
	case api.DirB:
		s.begin()
		return s.first.level, api.DirB
	case api.DirPDF:
		s.endEmbedding()
		fallthrough
	case api.DirBN:
		return s.top().level, api.DirBN
	case api.DirPDI:
		s.endIsolate()
		fallthrough
	default:
		return s.top().at(dir)
	}
}

// fits tells whether a state of that level may be laid on the pile.
func (s *states) fits(level uint8) bool {
	return level <= api.MaxDepth && s.tooDeepIsolates == 0 && s.tooDeepEmbeddings == 0
}

func (s *states) embed(dir int8) {
	over := int8(none)
	switch dir {
	case api.DirLRO:
		over = api.DirL
	case api.DirRLO:
		over = api.DirR
	}
	level := s.top().next(dir == api.DirRLE || dir == api.DirRLO)
	switch {
	case s.fits(level):
		s.pile = append(s.pile, state{level: level, over: over})
	case s.tooDeepIsolates == 0:
		s.tooDeepEmbeddings++
	}
}

func (s *states) isolate(right bool) {
	level := s.top().next(right)
	if !s.fits(level) {
		s.tooDeepIsolates++
		return
	}
	s.openIsolates++
	s.pile = append(s.pile, state{level: level, over: none, isolate: true})
}

func (s *states) endEmbedding() {
	switch {
	case s.tooDeepIsolates > 0:
	case s.tooDeepEmbeddings > 0:
		s.tooDeepEmbeddings--
	// None but the first one is like it: all others have a greater level.
	case !s.top().isolate && s.top() != s.first:
		s.takeOff()
	}
}

func (s *states) endIsolate() {
	switch {
	case s.tooDeepIsolates > 0:
		s.tooDeepIsolates--
	case s.openIsolates > 0:
		s.tooDeepEmbeddings = 0
		for !s.top().isolate {
			s.takeOff()
		}
		s.takeOff()
		s.openIsolates--
	}
}
