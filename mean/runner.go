package mean

import (
	"tableau/api"
	"tableau/deed"
	"tableau/state"
)

// runner: does an ability, node by node. Each call that does a node tells, beside its answer, whether the run goes on; where it doesn't, the Result says how it ended.
type runner struct {
	api.Result // as it is so far
	designs    []api.Design
	answers    []int64
	slots      [api.MaxSlots]value
	functions  []function
	effects    []effect
}

func newRunner(l []api.Design, s api.State, self, me int, answers []int64) *runner {
	r := &runner{designs: l, answers: answers, functions: functions(), effects: effects()}
	r.State = state.Copy(s)
	r.slots[0], r.slots[1] = card(self), player(me)
	return r
}

// ability does the block, if the condition, where there is one, is true.
func (r *runner) ability(a api.Ability) {
	rest := a.Tree
	if a.When {
		var when *node
		when, rest = grown(rest)
		if yes, goesOn := r.condition(when); !goesOn || !yes {
			return
		}
	}
	block, _ := grown(rest)
	r.do(block)
}

// stop ends the run as done.
func (r *runner) stop() bool {
	r.End = api.Done
	return false
}

// abort ends the run as aborted, and says why.
func (r *runner) abort(why api.Errno) bool {
	r.End, r.Err = api.Aborted, why
	return false
}

// ask is the next answer, which must be below n; without such a one the run has starved.
func (r *runner) ask(n int64) (int64, bool) {
	if r.Used < len(r.answers) {
		if answer := r.answers[r.Used]; 0 <= answer && answer < n {
			r.Used++
			return answer, true
		}
	}
	r.End, r.Ask = api.Starved, n
	return 0, false
}

// happen does the events that a deed came to. A deed of what the state has is never refused, and its events fit, so no error is looked at.
// The state behind an event is a new one: lists that were taken ahead of it stay as they were.
func (r *runner) happen(l []api.Event, _ api.Errno) bool {
	for _, e := range l {
		r.State, _ = deed.Apply(r.State, e)
		r.Trace = append(r.Trace, e)
	}
	return true
}
