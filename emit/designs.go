package emit

import (
	"slices"

	"tableau/api"
	"tableau/check"
)

func mayNotBe(d api.Design) bool {
	if len(d.Tags) > api.MaxTags || len(d.Able) > api.MaxAble {
		return true
	}
	// What a design says beside its abilities may be what a source's lines may say.
	if _, err, _ := check.Pack(lines(d)); err != api.OK {
		return true
	}
	return slices.ContainsFunc(d.Able, func(a api.Ability) bool { return !check.Able(a) })
}

// lines is a pack whose one card says what the design says, but for its abilities.
func lines(d api.Design) []api.Node {
	l := []api.Node{
		{Op: api.TPack, Kids: 1},
		{Op: api.TCard, Text: d.Name, Kids: 3 + len(d.Tags)},
		{Op: api.TCost, N: d.Cost},
		{Op: api.TPower, N: d.Power},
		{Op: api.THealth, N: d.Health},
	}
	for _, tag := range d.Tags {
		l = append(l, api.Node{Op: api.TTag, Text: tag})
	}
	return l
}

// kind is the design as a card of a pack with these numbers.
func (t *table) kind(d api.Design, n numbers) api.Kind {
	k := api.Kind{Name: n.texts[d.Name], Cost: d.Cost, Power: d.Power, Health: d.Health}
	for _, tag := range d.Tags {
		k.Tags = append(k.Tags, n.texts[tag])
	}
	slices.Sort(k.Tags)
	for _, a := range d.Able {
		k.Effects = append(k.Effects, api.Effect{On: a.On, Slots: slices.Clone(a.Slots), Code: t.able(a, n)})
	}
	return k
}
