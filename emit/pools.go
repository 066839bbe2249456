package emit

import (
	"maps"
	"slices"
	"strings"

	"tableau/api"
)

// pools: the ints and the texts that something wants.
type pools struct {
	ints  map[int64]struct{}
	texts map[string]struct{}
}

func newPools() pools {
	return pools{map[int64]struct{}{}, map[string]struct{}{}}
}

// wanted is what the ability's tree wants.
func wanted(a api.Ability) pools {
	p := newPools()
	p.takeTree(a.Tree)
	return p
}

func (p pools) takeDesign(d api.Design) {
	p.takeText(d.Name)
	for _, tag := range d.Tags {
		p.takeText(tag)
	}
	for _, a := range d.Able {
		p.takeTree(a.Tree)
	}
}

// takeTree looks at the nodes one by one, whether they are a tree or not.
func (p pools) takeTree(l []api.Node) {
	for _, n := range l {
		switch n.Op {
		case api.TNum:
			p.takeInts(n.N)
		case api.TRepeat:
			p.takeInts(0, 1, n.N)
		case api.TEach:
			// The machine counts its rounds from 0 on, by 1.
			p.takeInts(0, 1)
		case api.TText:
			p.takeText(n.Text)
		}
	}
}

func (p pools) takeInts(l ...int64) {
	for _, n := range l {
		p.ints[n] = struct{}{}
	}
}

func (p pools) takeText(s string) {
	p.texts[s] = struct{}{}
}

// lists is all of them, rising; the texts in memory of their own.
func (p pools) lists() ([]int64, []string) {
	texts := slices.Sorted(maps.Keys(p.texts))
	for i, s := range texts {
		texts[i] = strings.Clone(s)
	}
	return slices.Sorted(maps.Keys(p.ints)), texts
}

// numbers: those of ints and texts, by which code names them.
type numbers struct {
	ints  map[int64]int
	texts map[string]int
}

func numbersOf(ints []int64, texts []string) numbers {
	return numbers{places(ints), places(texts)}
}

// places is the first place of each that is one of the first MaxPool.
func places[T comparable](l []T) map[T]int {
	m := map[T]int{}
	for i, x := range l[:min(len(l), api.MaxPool)] {
		if _, stands := m[x]; !stands {
			m[x] = i
		}
	}
	return m
}

// have tells whether all that is wanted has a number.
func (n numbers) have(p pools) bool {
	return within(p.ints, n.ints) && within(p.texts, n.texts)
}

func within[T comparable](wanted map[T]struct{}, places map[T]int) bool {
	for x := range wanted {
		if _, stands := places[x]; !stands {
			return false
		}
	}
	return true
}
