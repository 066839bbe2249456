package deed

import "tableau/api"

// rule is what an event's kind asks and does. All but rest and text are called for events whose rest is nothing, on states that may be.
type rule struct {
	rest  func(e api.Event) api.Event         // the event without what its kind names
	fits  func(s api.State, e api.Event) bool // does it fit the state?
	leads func(s api.State, e api.Event) bool // does it lead to the state, from one that may be?
	do    func(own *api.State, e api.Event)   // what fits is done, in the state's own memory
	undo  func(own *api.State, e api.Event)   // what leads there is taken back, likewise
	text  func(e api.Event) string
}

// rules has the rule of each kind at the place of its number; at 0, which is no kind, stands none.
func rules() [api.EvEnd + 1]rule {
	return [api.EvEnd + 1]rule{
		api.EvMove:    {rest: moveRest, fits: moveFits, leads: moveLeads, do: doMove, undo: undoMove, text: moveText},
		api.EvCard:    {rest: cardRest, fits: cardFits, leads: cardLeads, do: doCard, undo: undoCard, text: cardText},
		api.EvPlayer:  {rest: playerRest, fits: playerFits, leads: playerLeads, do: doPlayer, undo: undoPlayer, text: playerText},
		api.EvShuffle: {rest: shuffleRest, fits: shuffleFits, leads: shuffleFits, do: doShuffle, undo: undoShuffle, text: shuffleText},
		api.EvOut:     {rest: outRest, fits: outFits, leads: outLeads, do: doOut, undo: undoOut, text: outText},
		api.EvTurn:    {rest: turnRest, fits: turnFits, leads: turnLeads, do: doTurn, undo: undoTurn, text: turnText},
		api.EvEnd:     {rest: endRest, fits: endFits, leads: endLeads, do: doEnd, undo: undoEnd, text: endText},
	}
}

func isKind(kind int8) bool {
	return api.EvMove <= kind && kind <= api.EvEnd
}

// ruleOf is the rule of the event's kind, and whether there is one and the event says nothing beside what its kind names.
func ruleOf(table [api.EvEnd + 1]rule, e api.Event) (rule, bool) {
	if !isKind(e.Kind) {
		return rule{}, false
	}
	r := table[e.Kind]
	return r, saysNothing(r.rest(e))
}

// numbers is an event without its order, which could not be compared.
type numbers struct {
	field                  int8
	card, player, other    int
	from, fromAt, to, toAt int
	was, now               int32
}

// saysNothing tells whether all fields of the event but its kind are 0 and its order is empty.
func saysNothing(e api.Event) bool {
	n := numbers{
		field: e.Field,
		card:  e.Card, player: e.Player, other: e.Other,
		from: e.From, fromAt: e.FromAt, to: e.To, toAt: e.ToAt,
		was: e.Was, now: e.Now,
	}
	return n == numbers{} && len(e.Order) == 0
}

// side is one of the two sides of a move or of a change: where the card stands, what the stat is.
type side struct {
	zone, at int
	stat     int32
}

// changesNothing tells whether both sides of a move or of a change are the same.
func changesNothing(e api.Event) bool {
	was := side{zone: e.From, at: e.FromAt, stat: e.Was}
	now := side{zone: e.To, at: e.ToAt, stat: e.Now}
	return was == now
}

// turned is a move or a change with its sides changed about: it fits just the states that the event leads to.
func turned(e api.Event) api.Event {
	e.From, e.FromAt, e.To, e.ToAt = e.To, e.ToAt, e.From, e.FromAt
	e.Was, e.Now = e.Now, e.Was
	return e
}

func isStat(n int32) bool {
	return -api.MaxStat <= n && n <= api.MaxStat
}

// isNumber tells whether n is the number of one of so many things.
func isNumber(n, many int) bool {
	return 0 <= n && n < many
}

func isPlayer(s api.State, n int) bool {
	return isNumber(n, len(s.Players))
}

func isCard(s api.State, n int) bool {
	return isNumber(n, len(s.Cards))
}

func isZone(s api.State, n int) bool {
	return isNumber(n, len(s.Zones))
}
