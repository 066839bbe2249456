package kinds

import "tableau/api"

// What a sign takes beside values.
const (
	zoneWord int8 = -1
	text     int8 = -2
)

// Fields is what fields there are, by number.
func Fields() []Sign {
	return []Sign{
		{"power", []int8{api.KCard}, api.KInt, one},
		{"health", []int8{api.KCard}, api.KInt, one},
		{"damage", []int8{api.KCard}, api.KInt, one},
		{"marks", []int8{api.KCard}, api.KInt, one},
		{"owner", []int8{api.KCard}, api.KPlayer, one},
		{"place", []int8{api.KCard}, api.KZone, one},
		{"life", []int8{api.KPlayer}, api.KInt, one},
		{"energy", []int8{api.KPlayer}, api.KInt, one},
		{"out", []int8{api.KPlayer}, api.KBool, one},
		{"size", []int8{api.KZone}, api.KInt, one},
		{"cards", []int8{api.KZone}, api.KList, oneAndEach},
		{"holder", []int8{api.KZone}, api.KPlayer, one},
		{"count", []int8{api.KList}, api.KInt, one},
	}
}

// Funcs is what functions there are, by number.
func Funcs() []Sign {
	return []Sign{
		{"next", []int8{api.KPlayer}, api.KPlayer, one},
		{"zone", []int8{api.KPlayer, zoneWord}, api.KZone, one},
		{"random", []int8{api.KInt}, api.KInt, one},
		{"top", []int8{api.KZone}, api.KCard, one},
		{"has", []int8{api.KList, api.KCard}, api.KBool, oneAndEach},
		{"is", []int8{api.KCard, text}, api.KBool, one},
		{"abs", []int8{api.KInt}, api.KInt, one},
		{"min", []int8{api.KInt, api.KInt}, api.KInt, one},
		{"max", []int8{api.KInt, api.KInt}, api.KInt, one},
	}
}

// Effects is what effects there are, by number.
func Effects() []Sign {
	return []Sign{
		{"move", []int8{api.KCard, api.KZone}, api.KNone, one},
		{"put", []int8{api.KCard, api.KZone}, api.KNone, one},
		{"draw", []int8{api.KPlayer}, api.KNone, one},
		{"hit", []int8{api.KCard, api.KInt}, api.KNone, one},
		{"harm", []int8{api.KPlayer, api.KInt}, api.KNone, one},
		{"gain", []int8{api.KPlayer, api.KInt}, api.KNone, one},
		{"mark", []int8{api.KCard, api.KInt}, api.KNone, one},
		{"grow", []int8{api.KCard, api.KInt}, api.KNone, one},
		{"shuffle", []int8{api.KZone}, api.KNone, oneAndEach},
	}
}

// one is what it costs where the number of cards doesn't matter.
func one(int) int64 {
	return 1
}

// oneAndEach is what it costs where each card is gone through. It is cut ahead of the sum, which would wrap round.
func oneAndEach(n int) int64 {
	return 1 + min(max(int64(n), 0), api.MaxBound-1)
}
