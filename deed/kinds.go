package deed

import (
	"math"
	"slices"

	"tableau/api"
)

func moveRest(e api.Event) api.Event {
	e.Card, e.From, e.FromAt, e.To, e.ToAt = 0, 0, 0, 0, 0
	return e
}

func moveFits(s api.State, e api.Event) bool {
	if !isCard(s, e.Card) || !isZone(s, e.From) || !isZone(s, e.To) || changesNothing(e) {
		return false
	}
	from := s.Zones[e.From]
	if !isNumber(e.FromAt, len(from)) || from[e.FromAt] != e.Card {
		return false
	}
	return 0 <= e.ToAt && e.ToAt <= othersIn(s, e.To, e.From)
}

// othersIn is how many cards the zone has without the one that stands in the zone from.
func othersIn(s api.State, zone, from int) int {
	if zone == from {
		return len(s.Zones[zone]) - 1
	}
	return len(s.Zones[zone])
}

func moveLeads(s api.State, e api.Event) bool {
	return moveFits(s, turned(e))
}

func doMove(own *api.State, e api.Event) {
	own.Zones[e.From] = slices.Delete(own.Zones[e.From], e.FromAt, e.FromAt+1)
	own.Zones[e.To] = slices.Insert(own.Zones[e.To], e.ToAt, e.Card)
}

func undoMove(own *api.State, e api.Event) {
	doMove(own, turned(e))
}

// statFits tells whether the stat is what the event says it was, and may become what it says.
func statFits(stat int32, e api.Event) bool {
	return stat == e.Was && isStat(e.Now) && !changesNothing(e)
}

// cardStat is where that field of the card stands, nil if a card has no such field.
func cardStat(c *api.Card, field int8) *int32 {
	switch field {
	case api.FPower:
		return &c.Power
	case api.FHealth:
		return &c.Health
	case api.FDamage:
		return &c.Damage
	case api.FMarks:
		return &c.Marks
	}
	return nil
}

func cardRest(e api.Event) api.Event {
	e.Field, e.Card, e.Was, e.Now = 0, 0, 0, 0
	return e
}

func cardFits(s api.State, e api.Event) bool {
	if !isCard(s, e.Card) {
		return false
	}
	stat := cardStat(&s.Cards[e.Card], e.Field)
	return stat != nil && statFits(*stat, e)
}

func cardLeads(s api.State, e api.Event) bool {
	return cardFits(s, turned(e))
}

func doCard(own *api.State, e api.Event) {
	*cardStat(&own.Cards[e.Card], e.Field) = e.Now
}

func undoCard(own *api.State, e api.Event) {
	doCard(own, turned(e))
}

// playerStat is where that field of the player stands, nil if a player has no such field.
func playerStat(p *api.Player, field int8) *int32 {
	switch field {
	case api.FLife:
		return &p.Life
	case api.FEnergy:
		return &p.Energy
	}
	return nil
}

func playerRest(e api.Event) api.Event {
	e.Field, e.Player, e.Was, e.Now = 0, 0, 0, 0
	return e
}

func playerFits(s api.State, e api.Event) bool {
	if !isPlayer(s, e.Player) {
		return false
	}
	stat := playerStat(&s.Players[e.Player], e.Field)
	return stat != nil && statFits(*stat, e)
}

func playerLeads(s api.State, e api.Event) bool {
	return playerFits(s, turned(e))
}

func doPlayer(own *api.State, e api.Event) {
	*playerStat(&own.Players[e.Player], e.Field) = e.Now
}

func undoPlayer(own *api.State, e api.Event) {
	doPlayer(own, turned(e))
}

func shuffleRest(e api.Event) api.Event {
	e.From, e.Order = 0, nil
	return e
}

// shuffleFits tells as well whether the event leads to the state: the zone has as many cards on both sides.
func shuffleFits(s api.State, e api.Event) bool {
	return isZone(s, e.From) && isOrder(e.Order, len(s.Zones[e.From])) && !leavesAll(e.Order)
}

// isOrder tells whether each number from 0 to below many, which is at most MaxCards, stands in the list once.
func isOrder(order []int, many int) bool {
	if len(order) != many {
		return false
	}
	var seen [api.MaxCards]bool
	for _, n := range order {
		if !isNumber(n, many) || seen[n] {
			return false
		}
		seen[n] = true
	}
	return true
}

// leavesAll tells whether the order is 0, 1, 2, ..: everything stays where it is.
func leavesAll(order []int) bool {
	for i, n := range order {
		if n != i {
			return false
		}
	}
	return true
}

func doShuffle(own *api.State, e api.Event) {
	zone := make([]int, len(e.Order))
	for i, n := range e.Order {
		zone[i] = own.Zones[e.From][n]
	}
	own.Zones[e.From] = zone
}

func undoShuffle(own *api.State, e api.Event) {
	zone := make([]int, len(e.Order))
	for i, n := range e.Order {
		zone[n] = own.Zones[e.From][i]
	}
	own.Zones[e.From] = zone
}

func outRest(e api.Event) api.Event {
	e.Player = 0
	return e
}

func outFits(s api.State, e api.Event) bool {
	return isPlayer(s, e.Player) && !s.Players[e.Player].Out
}

func outLeads(s api.State, e api.Event) bool {
	return isPlayer(s, e.Player) && s.Players[e.Player].Out
}

func doOut(own *api.State, e api.Event) {
	own.Players[e.Player].Out = true
}

func undoOut(own *api.State, e api.Event) {
	own.Players[e.Player].Out = false
}

func turnRest(e api.Event) api.Event {
	e.Player, e.Other, e.Was, e.Now = 0, 0, 0, 0
	return e
}

func turnFits(s api.State, e api.Event) bool {
	return e.Was == s.Turn && e.Player == s.Whose && isPlayer(s, e.Other) && isTurnBehind(e)
}

// isTurnBehind tells whether Now is the turn behind Was; the last one has none behind it.
func isTurnBehind(e api.Event) bool {
	return e.Was < math.MaxInt32 && e.Now == e.Was+1
}

// turnLeads asks for a turn ahead that may be: there is none ahead of turn 1.
func turnLeads(s api.State, e api.Event) bool {
	return e.Now == s.Turn && e.Other == s.Whose && isPlayer(s, e.Player) && isTurnBehind(e) && e.Was >= 1
}

func doTurn(own *api.State, e api.Event) {
	own.Turn, own.Whose = e.Now, e.Other
}

func undoTurn(own *api.State, e api.Event) {
	own.Turn, own.Whose = e.Was, e.Player
}

func endRest(e api.Event) api.Event {
	e.Player, e.Now = 0, 0
	return e
}

func endFits(s api.State, e api.Event) bool {
	if s.End != api.Going {
		return false
	}
	switch e.Now {
	case int32(api.Won):
		return isPlayer(s, e.Player)
	case int32(api.Drawn):
		return e.Player == 0
	}
	return false
}

func endLeads(s api.State, e api.Event) bool {
	return s.End != api.Going && int32(s.End) == e.Now && s.Winner == e.Player
}

func doEnd(own *api.State, e api.Event) {
	own.End, own.Winner = int8(e.Now), e.Player
}

func undoEnd(own *api.State, e api.Event) {
	own.End, own.Winner = api.Going, 0
}
