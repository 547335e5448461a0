package want

import (
	"kilnfield/act"
	"kilnfield/api"
	"kilnfield/tree"
)

// asker tells the bytes of a path: those that its rule makes, or, if it has none, those of its file.
type asker func(p string) (string, error)

// answer that an asker remembers.
type answer struct {
	bytes string
	err   error
}

// newAsker of a sheet that is well. It ends for what needs no round; and soon, since it remembers what each rule makes: there may be far more ways to a rule than rules.
func newAsker(t *tree.Tree, l []api.Rule) asker {
	rules := map[string]api.Rule{}
	for _, r := range l {
		rules[r.Out] = r
	}
	told := map[string]answer{}
	var ask asker
	ask = func(p string) (string, error) {
		r, made := rules[p]
		if !made {
			return file(t, p)
		}
		a, known := told[p]
		if !known {
			a.bytes, a.err = run(r, ask)
			told[p] = a
		}
		return a.bytes, a.err
	}
	return ask
}

// file of a tree: its bytes.
func file(t *tree.Tree, p string) (string, error) {
	bytes, there := t.Get(p)
	if !there {
		return "", api.ErrNone
	}
	return bytes, nil
}

// run a rule, if all its inputs are to be had.
func run(r api.Rule, ask asker) (string, error) {
	var inputs []string
	for _, p := range r.Inputs {
		bytes, err := ask(p)
		if err != nil {
			return "", err
		}
		inputs = append(inputs, bytes)
	}
	return act.Run(r.Kind, r.Word, inputs)
}
