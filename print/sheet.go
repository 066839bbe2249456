package print

// sheet: gathers rows, each with a byte 9 ahead of it for each block and card around it.
type sheet struct {
	text   []byte
	around int
	begun  bool // a row that has not ended yet
}

// say goes on with the row, or begins one.
func (s *sheet) say(parts ...string) {
	if !s.begun {
		for range s.around {
			s.text = append(s.text, '\t')
		}
		s.begun = true
	}
	for _, x := range parts {
		s.text = append(s.text, x...)
	}
}

func (s *sheet) endRow() {
	s.text = append(s.text, '\n')
	s.begun = false
}

// open ends a row behind which a block's, or a card's, rows stand.
func (s *sheet) open() {
	s.say(" {")
	s.endRow()
	s.around++
}

// shut begins the row behind them, which may go on.
func (s *sheet) shut() {
	s.around--
	s.say("}")
}
