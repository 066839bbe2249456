package state

import "tableau/api"

// New is the state with which a game of these decks begins, each player with that life and energy; ErrArg, if there is none.
func New(decks [][]api.Card, life, energy int32) (api.State, api.Errno) {
	if !decksFit(decks) || !isStat(life) || !isStat(energy) {
		return api.State{}, api.ErrArg
	}
	s := api.State{
		Players: make([]api.Player, len(decks)),
		Zones:   make([][]int, zonesEach*len(decks)),
		Turn:    1,
		End:     api.Going,
	}
	for p, deck := range decks {
		s.Players[p] = api.Player{Life: life, Energy: energy}
		s.Zones[zonesEach*p+api.Deck] = numbersFrom(len(s.Cards), len(deck))
		for _, c := range deck {
			c.Owner = p
			s.Cards = append(s.Cards, c)
		}
	}
	return s, api.OK
}

// decksFit tells whether a game may begin with these decks.
func decksFit(decks [][]api.Card) bool {
	if !playersFit(len(decks)) {
		return false
	}
	cards := 0
	for _, deck := range decks {
		cards += len(deck)
	}
	if !cardsFit(cards) {
		return false
	}
	for _, deck := range decks {
		for _, c := range deck {
			if !cardFits(c) {
				return false
			}
		}
	}
	return true
}

// numbersFrom are so many numbers, from first on.
func numbersFrom(first, many int) []int {
	l := make([]int, many)
	for i := range l {
		l[i] = first + i
	}
	return l
}
