package fold

import (
	"math"

	"tableau/api"
)

// known: what is known ahead of a tree, of one of the types below; nil, where nothing is.
type known interface {
	kind() int8 // of values
}

type (
	number int64
	truth  bool
	ending int8 // the run always ends within the tree, so none of this kind ever comes of it
)

func (n number) kind() int8 { return api.KInt }

func (b truth) kind() int8 { return api.KBool }

func (e ending) kind() int8 { return int8(e) }

// told is the value that is known; false, if none ever comes.
func told(k known) (api.Value, bool) {
	switch v := k.(type) {
	case number:
		return api.Value{Kind: api.KInt, N: int64(v)}, true
	case truth:
		if v {
			return api.Value{Kind: api.KBool, N: 1}, true
		}
		return api.Value{Kind: api.KBool}, true
	}
	return api.Value{}, false
}

// nodes is the value that is known as nodes, which all stand at that place; none, where no value ever comes.
func nodes(k known, at int) []api.Node {
	switch v := k.(type) {
	case number:
		return digits(v, at)
	case truth:
		op := api.TFalse
		if v {
			op = api.TTrue
		}
		return []api.Node{{Op: op, Kind: api.KBool, At: at}}
	}
	return nil
}

// digits is the number as nodes. The least one has no TNum to stand behind a sign: it is one less than the next one.
func digits(n number, at int) []api.Node {
	switch {
	case n >= 0:
		return []api.Node{{Op: api.TNum, Kind: api.KInt, N: int64(n), At: at}}
	case n > math.MinInt64:
		return append([]api.Node{{Op: api.TNeg, Kind: api.KInt, At: at, Kids: 1}}, digits(-n, at)...)
	}
	l := append([]api.Node{{Op: api.TSub, Kind: api.KInt, At: at, Kids: 2}}, digits(n+1, at)...)
	return append(l, digits(1, at)...)
}
