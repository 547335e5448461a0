package script

import (
	"slices"
	"strconv"

	"kilnfield/api"
	"kilnfield/build"
	"kilnfield/graph"
	"kilnfield/rule"
	"kilnfield/want"
	"kilnfield/yard"
)

// room of a player's yard.
const room = 8

// player of a script: a yard, and its sheet once more, since a yard does not tell its own.
type player struct {
	*yard.Yard
	sheet []api.Rule
}

// newPlayer with an empty yard.
func newPlayer() *player {
	// The room is such as a yard takes: so there is no error here.
	y, _ := yard.New(room)
	return &player{Yard: y}
}

// put a file.
func (p *player) put(file, bytes string) (string, error) {
	return done(p.Tree().Put(file, bytes))
}

// drop a file.
func (p *player) drop(file string) (string, error) {
	return done(p.Tree().Remove(file))
}

// addRule to the sheet. A line break within a line would make several of it: such a line is none.
func (p *player) addRule(line string) (string, error) {
	more, err := rule.Read(line + lineBreak)
	if err != nil {
		return "", err
	}
	if len(more) != 1 {
		return "", api.ErrText
	}
	return p.take(slices.Concat(p.sheet, more))
}

// clear the sheet.
func (p *player) clear() (string, error) { return p.take(nil) }

// take a sheet; one that the yard refuses leaves the sheet as it was.
func (p *player) take(l []api.Rule) (string, error) {
	err := p.Rules(l)
	if err == nil {
		p.sheet = l
	}
	return done(err)
}

// makeOf some outs; of none: of all.
func (p *player) makeOf(outs []string) (string, error) {
	count, err := p.Make(outs)
	if err != nil {
		return "", err
	}
	return countText(count), nil
}

// countText: the four numbers of a build.
func countText(c build.Count) string {
	s := strconv.Itoa(c.Ran)
	for _, n := range []int{c.Hit, c.Failed, c.Left} {
		s += blank + strconv.Itoa(n)
	}
	return s
}

// show a file: what was made goes ahead of what was put.
func (p *player) show(file string) (string, error) {
	bytes, there := p.Out().Get(file)
	if !there {
		bytes, there = p.Tree().Get(file)
	}
	if !there {
		return "", api.ErrNone
	}
	return inLine(bytes), nil
}

// want an out.
func (p *player) want(out string) (string, error) {
	bytes, err := want.Of(p.Tree(), p.sheet, out)
	if err != nil {
		return "", err
	}
	return inLine(bytes), nil
}

// order of the outs.
func (p *player) order() []string {
	// The yard took just such a sheet as has an order: so there is no error here.
	numbers, _ := graph.Order(p.sheet)
	var outs []string
	for _, i := range numbers {
		outs = append(outs, p.sheet[i].Out)
	}
	return outs
}

// leaves of the sheet.
func (p *player) leaves() []string {
	// The yard took the sheet, so it is well: there is no error here.
	leaves, _ := graph.Leaves(p.sheet)
	return leaves
}

// done: what a command that only changes something answers.
func done(err error) (string, error) {
	if err != nil {
		return "", err
	}
	return "ok", nil
}
