package build

// state of a step. The document's done is two of them, so that what the cache had can be told from what was made.
type state int

const (
	waits state = iota
	ran
	hit
	failed
	left
)

// text of a state.
func (s state) text() string {
	switch s {
	case waits:
		return "waits"
	case ran, hit:
		return "done"
	case failed:
		return "failed"
	case left:
		return "left"
	}
	return ""
}
