package mean

import (
	"slices"

	"tableau/api"
	"tableau/deed"
	"tableau/sat"
)

// function: what a function of the language tells.
type function struct {
	tell func(r *runner, l args) (value, bool)
}

// effect: what an effect does.
type effect struct {
	do func(r *runner, l args) bool
}

// functions is what the functions tell, by number.
func functions() []function {
	return []function{
		{next},
		{zoneOf},
		{random},
		{top},
		{has},
		{is},
		{func(_ *runner, l args) (value, bool) { return sat.Abs(l[0].(integer)), true }},
		{func(_ *runner, l args) (value, bool) { return min(l[0].(integer), l[1].(integer)), true }},
		{func(_ *runner, l args) (value, bool) { return max(l[0].(integer), l[1].(integer)), true }},
	}
}

func next(r *runner, l args) (value, bool) {
	behind := l[0].(player) + 1
	return behind % player(len(r.State.Players)), true
}

func zoneOf(_ *runner, l args) (value, bool) {
	return zonesEach*zone(l[0].(player)) + zone(l[1].(integer)), true
}

func random(r *runner, l args) (value, bool) {
	n := l[0].(integer)
	if n < 1 {
		return nil, r.abort(api.ErrRandom)
	}
	answer, goesOn := r.ask(int64(n))
	return integer(answer), goesOn
}

func top(r *runner, l args) (value, bool) {
	here := r.State.Zones[l[0].(zone)]
	if len(here) == 0 {
		return nil, r.abort(api.ErrEmpty)
	}
	return card(here[0]), true
}

func has(_ *runner, l args) (value, bool) {
	return truth(slices.Contains(l[0].(cards), int(l[1].(card)))), true
}

func is(r *runner, l args) (value, bool) {
	kind := r.State.Cards[l[0].(card)].Kind
	return truth(slices.Contains(r.designs[kind].Tags, string(l[1].(text)))), true
}

// effects is what the effects do, by number.
func effects() []effect {
	return []effect{
		moves(false),
		moves(true),
		{draw},
		changes(api.FDamage),
		{harm},
		changes(api.FEnergy),
		changes(api.FMarks),
		changes(api.FPower),
		{shuffle},
	}
}

// moves is the effect by which a card comes to a zone's end, or to its beginning.
func moves(first bool) effect {
	return effect{func(r *runner, l args) bool {
		return r.happen(deed.Move(r.State, int(l[0].(card)), int(l[1].(zone)), first))
	}}
}

func draw(r *runner, l args) bool {
	return r.happen(deed.Draw(r.State, int(l[0].(player))))
}

// changes is the effect by which that field of a card, or of a player, goes up by the int.
func changes(field int8) effect {
	return effect{func(r *runner, l args) bool {
		return r.change(field, l[0], l[1].(integer))
	}}
}

func harm(r *runner, l args) bool {
	return r.change(api.FLife, l[0], sat.Neg(l[1].(integer)))
}

func (r *runner) change(field int8, of value, by integer) bool {
	number := 0
	switch x := of.(type) {
	case card:
		number = int(x)
	case player:
		number = int(x)
	}
	return r.happen(deed.Change(r.State, field, number, int64(by)))
}

// shuffle takes its answers all or none.
func shuffle(r *runner, l args) bool {
	z, used := l[0].(zone), r.Used
	order := make([]int, len(r.State.Zones[z]))
	for i := range order {
		order[i] = i
	}
	for i := len(order) - 1; i >= 1; i-- {
		j, goesOn := r.ask(int64(i + 1))
		if !goesOn {
			r.Used = used
			return false
		}
		order[i], order[j] = order[j], order[i]
	}
	return r.happen(deed.Shuffle(r.State, int(z), order))
}
