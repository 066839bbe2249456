package deed

import (
	"tableau/api"
	"tableau/sat"
	"tableau/state"
)

// zonesEach is how many zones a player has.
const zonesEach = 4

// Move is the event by which the card comes to the zone's end, or to its beginning, if first; none, if it stands there.
func Move(s api.State, card, zone int, first bool) ([]api.Event, api.Errno) {
	if !mayBe(s) {
		return nil, api.ErrState
	}
	if !isCard(s, card) || !isZone(s, zone) {
		return nil, api.ErrArg
	}
	from, at, _ := state.Where(s, card)
	e := api.Event{Kind: api.EvMove, Card: card, From: from, FromAt: at, To: zone}
	if !first {
		e.ToAt = othersIn(s, zone, from)
	}
	return oneOrNone(e), api.OK
}

// oneOrNone is the move or the change alone, or nothing, if it changes nothing.
func oneOrNone(e api.Event) []api.Event {
	if changesNothing(e) {
		return nil
	}
	return []api.Event{e}
}

// Change is the event by which that field of the card, or of the player, becomes what it was and by, within the stats; none, if that is what it was.
func Change(s api.State, field int8, number int, by int64) ([]api.Event, api.Errno) {
	if !mayBe(s) {
		return nil, api.ErrState
	}
	e, was, ok := changeOf(s, field, number)
	if !ok {
		return nil, api.ErrArg
	}
	now := sat.Clamp(sat.Add(int64(was), by), -api.MaxStat, api.MaxStat)
	e.Was, e.Now = was, int32(now)
	return oneOrNone(e), api.OK
}

// changeOf is the event of a change without its sides, and what the field is; false, if there is no such field, card or player.
func changeOf(s api.State, field int8, number int) (e api.Event, was int32, ok bool) {
	if isCard(s, number) {
		if stat := cardStat(&s.Cards[number], field); stat != nil {
			return api.Event{Kind: api.EvCard, Field: field, Card: number}, *stat, true
		}
	}
	if isPlayer(s, number) {
		if stat := playerStat(&s.Players[number], field); stat != nil {
			return api.Event{Kind: api.EvPlayer, Field: field, Player: number}, *stat, true
		}
	}
	return api.Event{}, 0, false
}

// Shuffle is the event by which the place i of the zone comes to have what stood at order[i]; none, if that is what it has.
func Shuffle(s api.State, zone int, order []int) ([]api.Event, api.Errno) {
	if !mayBe(s) {
		return nil, api.ErrState
	}
	if !isZone(s, zone) || !isOrder(order, len(s.Zones[zone])) {
		return nil, api.ErrArg
	}
	if leavesAll(order) {
		return nil, api.OK
	}
	own := make([]int, len(order))
	copy(own, order)
	return []api.Event{{Kind: api.EvShuffle, From: zone, Order: own}}, api.OK
}

// Draw is the event by which the first card of the player's deck comes to the end of the hand; none from an empty deck.
func Draw(s api.State, player int) ([]api.Event, api.Errno) {
	if !mayBe(s) {
		return nil, api.ErrState
	}
	if !isPlayer(s, player) {
		return nil, api.ErrArg
	}
	deck, hand := zonesEach*player+api.Deck, zonesEach*player+api.Hand
	if len(s.Zones[deck]) == 0 {
		return nil, api.OK
	}
	return []api.Event{{Kind: api.EvMove, Card: s.Zones[deck][0], From: deck, To: hand, ToAt: len(s.Zones[hand])}}, api.OK
}

// Out is the event by which the player is out; none, if that is so.
func Out(s api.State, player int) ([]api.Event, api.Errno) {
	if !mayBe(s) {
		return nil, api.ErrState
	}
	if !isPlayer(s, player) {
		return nil, api.ErrArg
	}
	if s.Players[player].Out {
		return nil, api.OK
	}
	return []api.Event{{Kind: api.EvOut, Player: player}}, api.OK
}
