package kinds

import "tableau/api"

// numbered is a sign with its place in its list.
type numbered struct {
	number int
	sign   Sign
}

// byName is the signs by their names.
func byName(l []Sign) map[string]numbered {
	m := make(map[string]numbered, len(l))
	for i, s := range l {
		m[s.Name] = numbered{i, s}
	}
	return m
}

// find looks the name up among the signs.
func find(l []Sign, name string) (int, Sign, bool) {
	f, ok := byName(l)[name]
	return f.number, f.sign, ok
}

// events is the numbers of the events by their names.
func events() map[string]int {
	return map[string]int{"play": api.OnPlay, "die": api.OnDie, "hit": api.OnHit, "turn": api.OnTurn, "draw": api.OnDraw}
}

// zones is the numbers of the zones' words.
func zones() map[string]int {
	return map[string]int{"deck": api.Deck, "hand": api.Hand, "board": api.Board, "grave": api.Grave}
}
