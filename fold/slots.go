package fold

import "tableau/api"

// numbered gives the tree's slots their numbers anew, in the order in which they are declared, and answers their kinds: what is gone may have had some of the old ones.
func numbered(t []api.Node, old []int8) []int8 {
	now := [api.MaxSlots]int64{0, 1}
	kinds := []int8{old[0], old[1]}
	declare := func(slot, many int64) int64 {
		first := int64(len(kinds))
		now[slot] = first
		kinds = append(kinds, old[slot:slot+many]...)
		return first
	}
	for i := range t {
		n := &t[i]
		switch n.Op {
		case api.TLet, api.TChoose:
			n.N = declare(n.N, 1)
		case api.TRepeat:
			n.M = declare(n.M, 1)
		case api.TEach:
			n.N = declare(n.N, 3)
			n.M = n.N + 1
		case api.TSet, api.TName:
			n.N = now[n.N]
		}
	}
	return kinds
}
