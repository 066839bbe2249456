package deed

import (
	"strconv"
	"strings"

	"tableau/api"
)

// Text tells the event in words, whatever its numbers.
func Text(e api.Event) string {
	if !isKind(e.Kind) {
		return "event " + tens(e.Kind)
	}
	return rules()[e.Kind].text(e)
}

// tens is the number in tens.
func tens[N int | int8 | int32](n N) string {
	return strconv.Itoa(int(n))
}

func moveText(e api.Event) string {
	return "move " + tens(e.Card) + " from " + tens(e.From) + " " + tens(e.FromAt) + " to " + tens(e.To) + " " + tens(e.ToAt)
}

func cardText(e api.Event) string {
	return "card " + tens(e.Card) + changeText(e)
}

func playerText(e api.Event) string {
	return "player " + tens(e.Player) + changeText(e)
}

// changeText tells the field and both of its sides.
func changeText(e api.Event) string {
	return " " + fieldText(e.Field) + " " + tens(e.Was) + " to " + tens(e.Now)
}

func fieldText(field int8) string {
	switch field {
	case api.FPower:
		return "power"
	case api.FHealth:
		return "health"
	case api.FDamage:
		return "damage"
	case api.FMarks:
		return "marks"
	case api.FLife:
		return "life"
	case api.FEnergy:
		return "energy"
	}
	return tens(field)
}

func shuffleText(e api.Event) string {
	var b strings.Builder
	b.WriteString("shuffle " + tens(e.From) + ":")
	for _, n := range e.Order {
		b.WriteString(" " + tens(n))
	}
	return b.String()
}

func outText(e api.Event) string {
	return "out " + tens(e.Player)
}

func turnText(e api.Event) string {
	return "turn " + tens(e.Was) + " of " + tens(e.Player) + " to " + tens(e.Now) + " of " + tens(e.Other)
}

func endText(e api.Event) string {
	return "end " + tens(e.Now) + " " + tens(e.Player)
}
