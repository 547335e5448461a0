package graph

import (
	"kilnfield/api"
	"kilnfield/rule"
)

// sheet that is well: which rule makes an out, and which ones each rule needs.
type sheet struct {
	makers map[string]int
	needs  [][]int
}

// look at rules. All makers are known ahead of the needs, since a rule may need one that stands behind it.
func look(l []api.Rule) (*sheet, error) {
	if err := rule.Sheet(l); err != nil {
		return nil, err
	}
	s := &sheet{makers: make(map[string]int), needs: make([][]int, len(l))}
	for i, r := range l {
		s.makers[r.Out] = i
	}
	for i, r := range l {
		for _, input := range r.Inputs {
			if maker, is := s.makers[input]; is {
				s.needs[i] = append(s.needs[i], maker)
			}
		}
	}
	return s, nil
}
