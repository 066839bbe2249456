package image

import "tableau/api"

// written is the image of a state that may be: so each of its numbers fits its bytes.
func written(s api.State) []byte {
	b := []byte(mark)
	write := func(wide, n int) {
		four := [4]byte{byte(n >> 24), byte(n >> 16), byte(n >> 8), byte(n)}
		b = append(b, four[len(four)-wide:]...)
	}
	write(1, len(s.Players))
	for _, p := range s.Players {
		write(4, int(p.Life))
		write(4, int(p.Energy))
		write(1, oneIf(p.Out))
	}
	write(2, len(s.Cards))
	for _, c := range s.Cards {
		write(2, c.Kind)
		write(1, c.Owner)
		for _, stat := range [4]int32{c.Power, c.Health, c.Damage, c.Marks} {
			write(4, int(stat))
		}
	}
	for _, entries := range s.Zones {
		write(2, len(entries))
		for _, entry := range entries {
			write(2, entry)
		}
	}
	write(4, int(s.Turn))
	write(1, s.Whose)
	write(1, int(s.End))
	write(1, s.Winner)
	return b
}

func oneIf(is bool) int {
	if is {
		return 1
	}
	return 0
}
