package graph

import (
	"cmp"
	"slices"

	"kilnfield/api"
)

// Cycle of rules.
func Cycle(l []api.Rule) ([]int, error) {
	s, err := look(l)
	if err != nil {
		return nil, err
	}
	for i := range s.needs {
		if round := s.round(i); len(round) > 0 {
			return round, nil
		}
	}
	return nil, nil
}

// round through a rule: the shortest one; of those, at each step, the one with the lesser number. It ends, since each step behind the first one is nearer to the rule.
func (s *sheet) round(first int) []int {
	far := s.far(first)
	var round []int
	for at := first; ; {
		round = append(round, at)
		next, is := nearest(s.needs[at], far)
		if !is {
			return nil
		}
		if next == first {
			return round
		}
		at = next
	}
}

// far: of each rule how many steps, from one to one that it needs, lead to an end; -1: none do.
func (s *sheet) far(end int) []int {
	far := slices.Repeat([]int{-1}, len(s.needs))
	far[end] = 0
	seen := []int{end}
	for at := 0; at < len(seen); at++ {
		for i, needs := range s.needs {
			if far[i] < 0 && slices.Contains(needs, seen[at]) {
				far[i] = far[seen[at]] + 1
				seen = append(seen, i)
			}
		}
	}
	return far
}

// nearest of some rules that lead to the end at all; of several the least.
func nearest(l, far []int) (int, bool) {
	leading := slices.DeleteFunc(slices.Clone(l), func(i int) bool { return far[i] < 0 })
	if len(leading) == 0 {
		return 0, false
	}
	return slices.MinFunc(leading, func(a, b int) int { return cmp.Or(far[a]-far[b], a-b) }), true
}
