package build

import (
	"slices"

	"kilnfield/act"
	"kilnfield/api"
	"kilnfield/cache"
	"kilnfield/tree"
)

// step of a build: a rule that is needed, and what became of it.
type step struct {
	kind, word string
	inputs     []input
	users      []*step // those that need it
	state      state
	result     string
	why        error
}

// input of a step: what another step makes; or, if none does, a file of the tree, as it was when the build began.
type input struct {
	from  *step
	bytes string
	there bool
}

// stepsOf rules that stand in an order: so the steps that one needs are there ahead of it.
func stepsOf(t *tree.Tree, l []api.Rule, order []int) map[int]*step {
	steps := map[int]*step{}
	makers := map[string]*step{}
	for _, i := range order {
		s := newStep(t, l[i], makers)
		steps[i] = s
		makers[l[i].Out] = s
	}
	return steps
}

// newStep of a rule; the steps that it needs come to know it.
func newStep(t *tree.Tree, r api.Rule, makers map[string]*step) *step {
	s := &step{kind: r.Kind, word: r.Word}
	for _, p := range r.Inputs {
		if from, made := makers[p]; made {
			from.users = append(from.users, s)
			s.inputs = append(s.inputs, input{from: from})
			continue
		}
		bytes, there := t.Get(p)
		s.inputs = append(s.inputs, input{bytes: bytes, there: there})
	}
	return s
}

// done: has it a result?
func (s *step) done() bool { return s.state == ran || s.state == hit }

// ready: does it wait for nothing but its turn?
func (s *step) ready() bool {
	return s.state == waits && !slices.ContainsFunc(s.inputs, func(in input) bool { return in.from != nil && !in.from.done() })
}

// run a step that is ready.
func (s *step) run(c *cache.Cache) {
	inputs, all := s.gather()
	if !all {
		s.fail(api.ErrNone)
		return
	}
	key := cache.Key(s.kind, s.word, inputs)
	if bytes, had := c.Get(key); had {
		s.state, s.result = hit, bytes
		return
	}
	bytes, err := act.Run(s.kind, s.word, inputs)
	if err != nil {
		s.fail(err)
		return
	}
	c.Put(key, bytes)
	s.state, s.result = ran, bytes
}

// gather the inputs' bytes, if all are there.
func (s *step) gather() ([]string, bool) {
	var l []string
	for _, in := range s.inputs {
		switch {
		case in.from != nil:
			l = append(l, in.from.result)
		case in.there:
			l = append(l, in.bytes)
		default:
			return nil, false
		}
	}
	return l, true
}

// fail: so those that need it are never run.
func (s *step) fail(why error) {
	s.state, s.why = failed, why
	s.leave()
}

// leave all that need a step, at whatever depth. Those that need one that is left are left too: so each is come to but once, however many ways lead to it.
func (s *step) leave() {
	for _, user := range s.users {
		if user.state != left {
			user.state = left
			user.leave()
		}
	}
}
