package image

import "tableau/api"

// reader: bytes that are taken apart from the left; s is what was read so far, at the place of what comes next.
// Whatever reads answers false at a fault, and leaves at where the fault is.
type reader struct {
	b  []byte
	at int
	s  api.State
}

// part: how many things stand there, one behind the other, and what reads one of them.
type part struct {
	many func() (int, bool)
	one  func() bool
}

// parts are those of an image, in their order; how many things one has may hang on the parts ahead of it.
func (r *reader) parts() []part {
	return []part{
		{func() (int, bool) { return len(mark), true }, r.markByte},
		{func() (int, bool) { return r.number(1) }, r.player},
		{func() (int, bool) { return r.number(2) }, r.card},
		{func() (int, bool) { return zonesEach * len(r.s.Players), true }, r.zone},
		{func() (int, bool) { return 1, true }, r.rest},
	}
}

// whole reads all parts, and tells whether they are there without a fault and nothing stands behind them.
func (r *reader) whole() bool {
	left := r.parts()
read:
	for len(left) > 0 {
		many, ok := left[0].many()
		if !ok {
			break read
		}
		for range many {
			if !left[0].one() {
				break read
			}
		}
		left = left[1:]
	}
	return len(left) == 0 && r.at == len(r.b)
}

func (r *reader) markByte() bool {
	if r.at == len(r.b) || r.b[r.at] != mark[r.at] {
		return false
	}
	r.at++
	return true
}

func (r *reader) player() bool {
	var p api.Player
	ok := r.signed(&p.Life, &p.Energy) && r.flag(&p.Out)
	r.s.Players = append(r.s.Players, p)
	return ok
}

func (r *reader) card() bool {
	var c api.Card
	ok := r.into(2, &c.Kind) && r.into(1, &c.Owner) && r.signed(&c.Power, &c.Health, &c.Damage, &c.Marks)
	r.s.Cards = append(r.s.Cards, c)
	return ok
}

func (r *reader) zone() bool {
	many, ok := r.number(2)
	var entries []int
	for left := many; ok && left > 0; left-- {
		var entry int
		ok = r.into(2, &entry)
		entries = append(entries, entry)
	}
	r.s.Zones = append(r.s.Zones, entries)
	return ok
}

// rest reads what of a state is no list.
func (r *reader) rest() bool {
	var end int
	ok := r.signed(&r.s.Turn) && r.into(1, &r.s.Whose) && r.into(1, &end) && r.into(1, &r.s.Winner)
	r.s.End = int8(end)
	return ok
}

// number is the next one, of at most two bytes; none if it ends behind the bytes.
func (r *reader) number(wide int) (int, bool) {
	n, ok := r.bits(wide)
	return int(n), ok
}

// into puts the next number, of at most two bytes, where to is.
func (r *reader) into(wide int, to *int) bool {
	n, ok := r.number(wide)
	*to = n
	return ok
}

// signed puts the next numbers, of four bytes each, where to says, up to the first that ends behind the bytes.
func (r *reader) signed(to ...*int32) bool {
	for _, place := range to {
		n, ok := r.bits(4)
		if !ok {
			return false
		}
		*place = int32(n)
	}
	return true
}

// flag reads a byte that is 1 for yes and 0 for no; any other is a fault.
func (r *reader) flag(to *bool) bool {
	if r.at == len(r.b) || r.b[r.at] > 1 {
		return false
	}
	*to = r.b[r.at] == 1
	r.at++
	return true
}

// bits are those of the next so many bytes, the highest ones first.
func (r *reader) bits(wide int) (uint32, bool) {
	if len(r.b)-r.at < wide {
		return 0, false
	}
	var n uint32
	for _, c := range r.b[r.at : r.at+wide] {
		n = n<<8 | uint32(c)
	}
	r.at += wide
	return n, true
}
