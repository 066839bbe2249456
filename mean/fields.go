package mean

import (
	"tableau/api"
	"tableau/state"
)

// zonesEach is how many zones a player has.
const zonesEach = 4

// The fields of cards, players and zones, by number.
const (
	power int64 = iota
	health
	damage
	marks
	owner
	place
	life
	energy
	out
	size
	allCards
	holder
)

// field is what the field of that number tells of the thing: which ones there are hangs on what it is.
func (r *runner) field(number int64, of value) value {
	switch x := of.(type) {
	case card:
		return r.ofCard(number, int(x))
	case player:
		return ofPlayer(number, r.State.Players[x])
	case zone:
		return r.ofZone(number, x)
	case cards:
		return integer(len(x)) // a list has but its count
	}
	return nil
}

func (r *runner) ofCard(number int64, which int) value {
	c := r.State.Cards[which]
	switch number {
	case power:
		return integer(c.Power)
	case health:
		return integer(c.Health)
	case damage:
		return integer(c.Damage)
	case marks:
		return integer(c.Marks)
	case owner:
		return player(c.Owner)
	case place:
		z, _, _ := state.Where(r.State, which)
		return zone(z)
	}
	return nil
}

func ofPlayer(number int64, p api.Player) value {
	switch number {
	case life:
		return integer(p.Life)
	case energy:
		return integer(p.Energy)
	case out:
		return truth(p.Out)
	}
	return nil
}

func (r *runner) ofZone(number int64, z zone) value {
	here := r.State.Zones[z]
	switch number {
	case size:
		return integer(len(here))
	case allCards:
		return cards(here)
	case holder:
		return player(z / zonesEach)
	}
	return nil
}
