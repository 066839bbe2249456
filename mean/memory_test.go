package mean_test

import (
	"math/rand"
	"reflect"
	"slices"
	"testing"

	"tableau/api"
	"tableau/mean"
	"tableau/state"
)

// roomy is the list with three things of spare room behind it.
func roomy[T any](l []T, filled T) []T {
	more := append(slices.Clone(l), filled, filled, filled)
	return more[: len(l) : len(l)+3]
}

// all is the list with its spare room, in memory of its own.
func all[T any](l []T) []T { return slices.Clone(l[:cap(l)]) }

// roomyState is the state with spare room behind each of its lists, in which something stands.
func roomyState(s api.State) api.State {
	zones := make([][]int, len(s.Zones))
	for z := range zones {
		zones[z] = roomy(s.Zones[z], 77)
	}
	s.Players, s.Cards, s.Zones = roomy(s.Players, api.Player{Life: 77}), roomy(s.Cards, api.Card{Kind: 77}), roomy(zones, []int{77})
	return s
}

// allOfState is the state with all spare room, each list in memory of its own.
func allOfState(s api.State) api.State {
	zones := [][]int{}
	for _, zone := range s.Zones[:cap(s.Zones)] {
		zones = append(zones, all(zone))
	}
	s.Players, s.Cards, s.Zones = all(s.Players), all(s.Cards), zones
	return s
}

// roomyDesigns is the designs with spare room behind each of their lists.
func roomyDesigns(d []api.Design) []api.Design {
	own := slices.Clone(d)
	for i := range own {
		able := slices.Clone(own[i].Able)
		for k := range able {
			able[k].Slots = roomy(able[k].Slots, api.KInt)
			able[k].Tree = roomy(able[k].Tree, api.Node{Op: api.TAbort})
		}
		own[i].Tags, own[i].Able = roomy(own[i].Tags, "spare"), roomy(able, api.Ability{})
	}
	return roomy(own, api.Design{Tags: []string{"spare"}})
}

// allOfDesigns is the designs with all spare room, each list in memory of its own.
func allOfDesigns(d []api.Design) []api.Design {
	own := all(d)
	for i := range own {
		able := all(own[i].Able)
		for k := range able {
			able[k].Slots, able[k].Tree = all(able[k].Slots), all(able[k].Tree)
		}
		own[i].Tags, own[i].Able = all(own[i].Tags), able
	}
	return own
}

// spoilers is what writes over each list of the Result, spare room too, one by one.
func spoilers(r api.Result) []func() {
	fill := func(l []int, with int) func() {
		return func() {
			for i := range l[:cap(l)] {
				l[:cap(l)][i] = with
			}
		}
	}
	var spoil []func()
	for z, zone := range r.State.Zones[:cap(r.State.Zones)] {
		spoil = append(spoil, fill(zone, -100-z))
	}
	for _, e := range r.Trace[:cap(r.Trace)] {
		spoil = append(spoil, fill(e.Order, -99))
	}
	return append(spoil, func() {
		for i := range r.State.Players[:cap(r.State.Players)] {
			r.State.Players[:cap(r.State.Players)][i] = api.Player{Life: -99, Energy: -99}
		}
	}, func() {
		for i := range r.State.Cards[:cap(r.State.Cards)] {
			r.State.Cards[:cap(r.State.Cards)][i] = api.Card{Kind: -99}
		}
	}, func() {
		for i := range r.State.Zones[:cap(r.State.Zones)] {
			r.State.Zones[:cap(r.State.Zones)][i] = []int{-98}
		}
	}, func() {
		for i := range r.Trace[:cap(r.Trace)] {
			r.Trace[:cap(r.Trace)][i] = api.Event{Kind: -97}
		}
	})
}

// kept is the Result in memory of its own.
func kept(r api.Result) api.Result {
	r.State = state.Copy(r.State)
	r.Trace = slices.Clone(r.Trace)
	for i, e := range r.Trace {
		r.Trace[i].Order = slices.Clone(e.Order)
	}
	return r
}

// task: what is handed to a run.
type task struct {
	d       []api.Design
	s       api.State
	answers []int64
}

// tasks are runs of all ends, with events of all kinds and none.
func tasks(t *testing.T) []task {
	t.Helper()
	var l []task
	for _, src := range []string{
		"", "stop;", "abort;", "let x = 1 / 0;", "mark(self, 1);", "harm(me, 1); gain(me, 2);", "draw(me); draw(me);", "let l = zone(me, deck).cards; draw(me); put(self, zone(me, deck)); each c in l { mark(c, 1); }",
		"shuffle(zone(me, deck)); shuffle(zone(me, deck)); gain(me, 1);", "each c in zone(me, deck).cards { move(c, zone(next(me), hand)); shuffle(zone(me, deck)); }",
		"choose c in zone(me, deck).cards { put(c, zone(me, board)); } else { abort; }", "let m = self.place.cards; shuffle(self.place); m = self.place.cards; gain(me, random(9));", "move(self, self.place);",
	} {
		d := fox(t, "on play when is(self, \"beast\") { "+src+" }")
		for _, s := range []api.State{start(), piled(4), dealt(3, 9)} {
			for _, answers := range [][]int64{nil, {0, 1}, {0, 0, 0, 0, 0, 0, 0, 0, 0, 0, 0, 0}, {-1}, {2, 0, 1, 2, 0, 0, 1}} {
				l = append(l, task{d, s, answers})
			}
		}
	}
	return l
}

func (x task) run() api.Result {
	r, _ := mean.Run(x.d, 0, 0, x.s, 0, 0, x.answers)
	return r
}

// What is handed in stays as it was, also where the answer is written over.
func TestWhatIsHandedInStays(t *testing.T) {
	for i, x := range tasks(t) {
		x = task{roomyDesigns(x.d), roomyState(x.s), roomy(x.answers, 77)}
		d, s, answers := allOfDesigns(x.d), allOfState(x.s), all(x.answers)
		r := x.run()
		stays := func() bool {
			return reflect.DeepEqual(allOfDesigns(x.d), d) && reflect.DeepEqual(allOfState(x.s), s) && slices.Equal(all(x.answers), answers)
		}
		if !stays() {
			t.Fatalf("P14.3: the task %d: what was handed in is changed (R5)", i)
		}
		for _, spoil := range spoilers(r) {
			spoil()
		}
		if !stays() {
			t.Fatalf("P14.3: the task %d: the Result shares memory with what was handed in (R5)", i)
		}
	}
}

// So it does in refused calls.
func TestRefusedCallsChangeNothing(t *testing.T) {
	for i, s := range append(wrongStates(), start()) {
		x := task{roomyDesigns(does(t, "draw(me); shuffle(zone(me, deck));")), roomyState(s), roomy([]int64{0, 0}, 77)}
		if i%2 == 1 {
			x.d[0].Able[0].Tree[0].At = -1
		}
		d, own, answers := allOfDesigns(x.d), allOfState(x.s), all(x.answers)
		x.run()
		mean.Run(x.d, 0, 0, x.s, 7, 7, x.answers)
		mean.Run(x.d, 3, -1, x.s, 0, 0, x.answers)
		if !reflect.DeepEqual(allOfDesigns(x.d), d) || !reflect.DeepEqual(allOfState(x.s), own) || !slices.Equal(all(x.answers), answers) {
			t.Errorf("P14.3: the wrong state %d: what was handed in is changed (R5)", i)
		}
	}
}

// A Result stays as it was when what was handed in is written over, and when a later call's Result is.
func TestResultsStay(t *testing.T) {
	for i, x := range tasks(t) {
		given := task{roomyDesigns(x.d), roomyState(x.s), roomy(x.answers, 77)}
		r := given.run()
		want := kept(r)
		later := given.run()
		if !sameResult(later, want) {
			t.Fatalf("P14.3: the task %d: another Result the next time (R6)", i)
		}
		for _, spoil := range spoilers(later) {
			spoil()
		}
		if !sameResult(r, want) {
			t.Fatalf("P14.3: the task %d: two Results share memory (R5)", i)
		}
		for _, spoil := range spoilers(api.Result{State: given.s}) {
			spoil()
		}
		for k := range given.answers {
			given.answers[k] = -9
		}
		given.d[0].Tags[0] = "spoiled"
		given.d[0].Able[0].Tree[0] = api.Node{Op: -9}
		if !sameResult(r, want) {
			t.Fatalf("P14.3: the task %d: the Result shares memory with what was handed in (R5)", i)
		}
		if again := x.run(); !sameResult(again, want) {
			t.Fatalf("P14.3: the task %d: another Result later (R6)", i)
		}
	}
}

// No two lists of a Result share memory: one is written over, all others stay as they were.
func TestListsOfAResult(t *testing.T) {
	lists := func(r api.Result) []any {
		l := []any{all(r.State.Players), all(r.State.Cards)}
		for _, zone := range r.State.Zones {
			l = append(l, all(zone))
		}
		for _, e := range r.Trace {
			l = append(l, append([]int{int(e.Kind)}, all(e.Order)...))
		}
		return l
	}
	for i, x := range tasks(t) {
		many := len(spoilers(x.run())) - 2 // the last two write over lists of lists
		for k := range many {
			r := x.run()
			before := lists(r)
			spoilers(r)[k]()
			changed := 0
			for n, l := range lists(r) {
				if !reflect.DeepEqual(l, before[n]) {
					changed++
				}
			}
			if changed > 1 {
				t.Fatalf("P14.3: the task %d: %d lists are changed with one (R5)", i, changed)
			}
		}
	}
}

// Behind the lists of a Result stands nothing of what was handed in.
func TestSpareRoomOfAResult(t *testing.T) {
	for i, x := range tasks(t) {
		x.s = roomyState(x.s)
		r := x.run()
		for _, p := range r.State.Players[len(r.State.Players):cap(r.State.Players)] {
			if p != (api.Player{}) {
				t.Fatalf("P14.3: the task %d: behind the players stands %v (R5)", i, p)
			}
		}
		for _, c := range r.State.Cards[len(r.State.Cards):cap(r.State.Cards)] {
			if c != (api.Card{}) {
				t.Fatalf("P14.3: the task %d: behind the cards stands %v (R5)", i, c)
			}
		}
	}
}

// R4: a list that is nil and one that is empty are the same; what stands in spare room is no part of a list.
func TestEmptyLists(t *testing.T) {
	for i, x := range tasks(t) {
		want := x.run()
		bare := x
		bare.s = state.Copy(x.s)
		for z, zone := range bare.s.Zones {
			if len(zone) == 0 {
				bare.s.Zones[z] = nil
			}
		}
		if len(x.answers) == 0 {
			bare.answers = []int64{}
		}
		for _, again := range []task{bare, {roomyDesigns(x.d), roomyState(x.s), roomy(x.answers, 0)}} {
			if !sameResult(again.run(), want) {
				t.Fatalf("P14.3: the task %d: another Result for other memory (R4)", i)
			}
		}
	}
	for _, d := range [][]api.Design{nil, {}, {{}}, {{Able: []api.Ability{}}}} {
		r, why := run(d, 0, 0)
		wantWhy(t, "no ability", r, why, api.ErrArg)
	}
	d := does(t, `if is(self, "x") { abort; } gain(me, 1);`)
	for _, tags := range [][]string{nil, {}, make([]string, 0, 4)} {
		d[0].Tags = tags
		wantRun(t, "no tags", d, start(), 0, 0, nil, done(0, gains(1)...))
	}
}

// R6: many calls, in whatever order, know nothing of each other.
func TestCallsKnowNothingOfEachOther(t *testing.T) {
	l := tasks(t)
	var want []api.Result
	for _, x := range l {
		want = append(want, x.run())
	}
	r := rand.New(rand.NewSource(5))
	for _, i := range r.Perm(len(l)) {
		if !sameResult(l[i].run(), want[i]) {
			t.Fatalf("P14.3: the task %d: another Result in another order (R6)", i)
		}
	}
}
