package script

import (
	"slices"
	"strings"

	"kilnfield/api"
	"kilnfield/path"
)

// notPath: what is none makes its line none, whatever a tree or a sheet would say of it.
func notPath(s string) bool { return path.Check(s) != nil }

// onPath: a command that has one path.
func onPath(s string, do func(string) (string, error)) (string, error) {
	if notPath(s) {
		return "", api.ErrText
	}
	return do(s)
}

// onPaths: a command that has some paths.
func onPaths(l []string, do func([]string) (string, error)) (string, error) {
	if slices.ContainsFunc(l, notPath) {
		return "", api.ErrText
	}
	return do(l)
}

// putText: a path and, behind its blank, all the rest as bytes: blanks in it part nothing.
func putText(p *player, what string) (string, error) {
	file, text, is := strings.Cut(what, blank)
	if !is {
		return "", api.ErrText
	}
	return onPath(file, func(file string) (string, error) {
		return p.put(file, strings.ReplaceAll(text, semicolon, lineBreak))
	})
}

// inLine: bytes as a script has them.
func inLine(bytes string) string { return strings.ReplaceAll(bytes, lineBreak, semicolon) }

// row of paths. An empty one is told by a word, since an empty answer is that of an empty file.
func row(l []string) string {
	if len(l) == 0 {
		return "nothing"
	}
	return strings.Join(l, blank)
}
