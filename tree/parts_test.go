package tree

import (
	"math"
	"slices"
	"testing"

	"tableau/api"
)

// counts is a list of nodes that say nothing but how many kids they have.
func counts(kids ...int) []api.Node {
	var l []api.Node
	for _, k := range kids {
		l = append(l, api.Node{Kids: k})
	}
	return l
}

func TestBehindAndKids(t *testing.T) {
	for _, c := range []struct {
		list   []api.Node
		at     int
		behind int
		kids   []int
	}{
		{counts(0), 0, 1, nil}, {counts(0, 0), 0, 1, nil}, {counts(0, 0), 1, 2, nil},
		{counts(1, 0), 0, 2, []int{1}}, {counts(2, 0, 0), 0, 3, []int{1, 2}}, {counts(2, 1, 0, 0, 0), 0, 4, []int{1, 3}},
		{counts(2, 1, 0, 0, 0), 1, 3, []int{2}}, {counts(3, 0, 2, 0, 0, 1, 0), 0, 7, []int{1, 2, 5}},
		{counts(-1, 1, 0), 1, 3, []int{2}}, {counts(1, 0, -1), 0, 2, []int{1}}, {counts(5, 0), 1, 2, nil},
		{counts(1), 0, -1, nil}, {counts(2, 0), 0, -1, nil}, {counts(2, 1, 0), 0, -1, nil}, {counts(2, 1, 0), 1, 3, []int{2}},
		{counts(-1), 0, -1, nil}, {counts(1, -1), 0, -1, nil}, {counts(2, 0, -1, 0), 0, -1, nil}, {counts(math.MinInt, 0), 0, -1, nil},
		{counts(math.MaxInt, 0), 0, -1, nil}, {counts(1<<62, 1<<62, 1<<62, 1<<62, 0), 0, -1, nil}, {counts(1, math.MaxInt, 0), 0, -1, nil},
		{counts(2, math.MaxInt, math.MaxInt, 0, 0), 0, -1, nil}, {counts(3, 0, 0), 0, -1, nil}, {counts(3, 0, 0, 0), 0, 4, []int{1, 2, 3}},
		{nil, 0, -1, nil}, {nil, -1, -1, nil}, {nil, 1, -1, nil}, {counts(0, 0), 2, -1, nil}, {counts(0, 0), 3, -1, nil}, {counts(0, 0), -1, -1, nil},
		{counts(0, 0), math.MaxInt, -1, nil}, {counts(0, 0), math.MinInt, -1, nil},
	} {
		if got := Behind(c.list, c.at); got != c.behind {
			t.Errorf("P9.2: Behind(%v, %d): %d, not %d", c.list, c.at, got, c.behind)
		}
		if got := Kids(c.list, c.at); !slices.Equal(got, c.kids) {
			t.Errorf("P9.2: Kids(%v, %d): %v, not %v", c.list, c.at, got, c.kids)
		}
	}
}

// TestAllSmallLists: each list of up to five nodes with from -1 to 5 kids, and with very many, at each place.
func TestAllSmallLists(t *testing.T) {
	numbers := []int{-1, 0, 1, 2, 3, 5, 1 << 62, math.MaxInt}
	lists := [][]int{nil}
	for range 5 {
		var longer [][]int
		for _, l := range lists {
			for _, k := range numbers {
				longer = append(longer, append(slices.Clone(l), k))
			}
		}
		lists = longer
		for _, kids := range lists {
			l := counts(kids...)
			for at := -1; at <= len(l)+1; at++ {
				behind, places := modelParts(l, at)
				if got := Behind(l, at); got != behind {
					t.Fatalf("P9.2: Behind(%v, %d): %d, not %d", kids, at, got, behind)
				}
				if got := Kids(l, at); !slices.Equal(got, places) {
					t.Fatalf("P9.2: Kids(%v, %d): %v, not %v", kids, at, got, places)
				}
			}
		}
	}
}

// TestByKidsAlone: what else a node says does not matter.
func TestByKidsAlone(t *testing.T) {
	l := counts(2, 1, 0, 0)
	for i := range l {
		l[i].Op, l[i].Kind, l[i].N, l[i].M, l[i].Text, l[i].At = -7, 9, -1, 5, "\n", -1
	}
	if Behind(l, 0) != 4 || !slices.Equal(Kids(l, 0), []int{1, 3}) {
		t.Errorf("P9.2: of nodes that may not be: %d, %v", Behind(l, 0), Kids(l, 0))
	}
}

func TestSame(t *testing.T) {
	for _, l := range append(wholeTrees(), nil, counts(0), counts(-1, 7)) {
		if !Same(l, slices.Clone(l)) {
			t.Errorf("P9.4: %v is not the same as itself", l)
		}
		longer := append(slices.Clone(l), api.Node{})
		if Same(l, longer) || Same(longer, l) {
			t.Errorf("P9.4: %v is the same with a node behind", l)
		}
		for i := range l {
			for name, change := range changes() {
				other := slices.Clone(l)
				change(&other[i])
				if got, want := Same(l, other), name == "At"; got != want || Same(other, l) != want {
					t.Errorf("P9.4: Same is %v where the node %d of %v has another %s", got, i, l, name)
				}
			}
		}
	}
	if !Same(nil, []api.Node{}) || !Same([]api.Node{}, nil) || Same(nil, counts(0)) {
		t.Error("P9.4: Same of nothing")
	}
	a, b := counts(1, 0), counts(1, 0)
	a[0].At, b[1].At, b[0].At = -5, math.MaxInt, 3
	if !Same(a, b) {
		t.Error("P9.4: places are told apart")
	}
}

func changes() map[string]func(n *api.Node) {
	return map[string]func(n *api.Node){
		"Op":   func(n *api.Node) { n.Op++ },
		"Kind": func(n *api.Node) { n.Kind++ },
		"N":    func(n *api.Node) { n.N++ },
		"M":    func(n *api.Node) { n.M-- },
		"Text": func(n *api.Node) { n.Text += " " },
		"At":   func(n *api.Node) { n.At++ },
		"Kids": func(n *api.Node) { n.Kids-- },
	}
}

// TestSameTexts: texts are held by what they say, wherever they stand.
func TestSameTexts(t *testing.T) {
	a := named(api.TName, string([]byte("abc")))
	b := named(api.TName, string([]byte("abc")))
	if !Same(a, b) {
		t.Error("P9.4: texts that say the same")
	}
}
