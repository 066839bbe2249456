package deed

import (
	"fmt"
	"math"
	"math/rand"
	"testing"

	"tableau/api"
)

// modelText is the text by the document's words.
func modelText(e api.Event) string {
	field := fmt.Sprint(e.Field)
	if 1 <= e.Field && e.Field <= 6 {
		field = []string{"power", "health", "damage", "marks", "life", "energy"}[e.Field-1]
	}
	switch e.Kind {
	case 1:
		return fmt.Sprintf("move %d from %d %d to %d %d", e.Card, e.From, e.FromAt, e.To, e.ToAt)
	case 2:
		return fmt.Sprintf("card %d %s %d to %d", e.Card, field, e.Was, e.Now)
	case 3:
		return fmt.Sprintf("player %d %s %d to %d", e.Player, field, e.Was, e.Now)
	case 4:
		s := fmt.Sprintf("shuffle %d:", e.From)
		for _, n := range e.Order {
			s += fmt.Sprintf(" %d", n)
		}
		return s
	case 5:
		return fmt.Sprintf("out %d", e.Player)
	case 6:
		return fmt.Sprintf("turn %d of %d to %d of %d", e.Was, e.Player, e.Now, e.Other)
	case 7:
		return fmt.Sprintf("end %d %d", e.Now, e.Player)
	}
	return fmt.Sprintf("event %d", e.Kind)
}

func TestTextOfEachKindAndField(t *testing.T) {
	for kind := -128; kind <= 127; kind++ {
		for field := -128; field <= 127; field++ {
			e := api.Event{Kind: int8(kind), Field: int8(field), Card: 2, Player: 3, Other: 4, From: 5, FromAt: 6, To: 7, ToAt: 8, Was: 9, Now: 10, Order: []int{11, 12}}
			if got, want := Text(e), modelText(e); got != want {
				t.Fatalf("P6.5: %q, not %q", got, want)
			}
		}
	}
}

func TestTextOfAnyNumbers(t *testing.T) {
	r := rand.New(rand.NewSource(14))
	some := func() int {
		l := []int{0, 1, -1, 9, 10, -10, math.MaxInt, math.MinInt, math.MaxInt32, math.MinInt32, r.Intn(1000), -r.Intn(1000)}
		return l[r.Intn(len(l))]
	}
	for range 5000 {
		e := api.Event{Kind: int8(r.Intn(9)), Field: int8(r.Intn(9)), Card: some(), Player: some(), Other: some(), From: some(), FromAt: some(), To: some(), ToAt: some(), Was: int32(some()), Now: int32(some())}
		for range r.Intn(4) {
			e.Order = append(e.Order, some())
		}
		if got, want := Text(e), modelText(e); got != want {
			t.Fatalf("P6.5: %q, not %q", got, want)
		}
	}
}

func TestTextsAsTheyStand(t *testing.T) {
	for want, e := range map[string]api.Event{
		"move 0 from 0 0 to 0 1":                   {Kind: api.EvMove, ToAt: 1},
		"card 3 damage 0 to 5":                     {Kind: api.EvCard, Field: api.FDamage, Card: 3, Now: 5},
		"card 1 life 0 to -1":                      {Kind: api.EvCard, Field: api.FLife, Card: 1, Now: -1},
		"player 1 energy 20 to -1000000000":        {Kind: api.EvPlayer, Field: api.FEnergy, Player: 1, Was: 20, Now: -api.MaxStat},
		"player -1 0 0 to 0":                       {Kind: api.EvPlayer, Player: -1},
		"shuffle 0: 1 0":                           {Kind: api.EvShuffle, Order: []int{1, 0}},
		"shuffle -9223372036854775808: -1":         {Kind: api.EvShuffle, From: math.MinInt64, Order: []int{-1}},
		"shuffle 3:":                               {Kind: api.EvShuffle, From: 3},
		"out 1":                                    {Kind: api.EvOut, Player: 1},
		"turn -2147483648 of 0 to 2147483647 of 1": {Kind: api.EvTurn, Was: math.MinInt32, Now: math.MaxInt32, Other: 1},
		"end 2 0":                                  {Kind: api.EvEnd, Now: 2},
		"event 0":                                  {},
		"event -128":                               {Kind: -128, Order: []int{1}},
	} {
		if got := Text(e); got != want {
			t.Errorf("P6.5: %q, not %q", got, want)
		}
	}
}
