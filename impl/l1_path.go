package impl

import (
	"iter"
	"slices"
	"strings"
)

// Limits of names and paths.
const (
	NamMax   = 3
	PthDepth = 3
)

// pathText is any text that is asked as a path, so its methods must answer for texts that are none, too.
type pathText string

// names tells what stands between slashes unchecked: ok looks at each piece, and needs the empty ones as well.
func (p pathText) names() iter.Seq[string] {
	return func(yield func(string) bool) {
		rest, more := string(p), p != ""
		for more {
			var name string
			name, rest, more = strings.Cut(rest, "/")
			if !yield(name) {
				return
			}
		}
	}
}

func (p pathText) ok() bool {
	depth := 0
	for name := range p.names() {
		depth++
		if depth > PthDepth || !NamOk(name) {
			return false
		}
	}
	return true
}

// cut is the first name and what is behind its slash.
func (p pathText) cut() (string, string) {
	if !p.ok() {
		return "", ""
	}
	first, rest, _ := strings.Cut(string(p), "/")
	return first, rest
}

// covers asks for the slash behind p, as a longer name may begin like p.
func (p pathText) covers(q pathText) bool {
	if !p.ok() || !q.ok() {
		return false
	}
	return p == "" || p == q || strings.HasPrefix(string(q), string(p)+"/")
}

func (p pathText) join(q pathText) pathText {
	if !p.ok() || !q.ok() {
		return ""
	}
	if p == "" {
		return q
	}
	if q == "" {
		return p
	}
	// Two paths may be too deep together.
	if both := p + "/" + q; both.ok() {
		return both
	}
	return ""
}

// letters counts the letters at the beginning of a text: in a sheet a name has no other end than its last letter.
func letters(s string) int {
	n := 0
	for n < len(s) && 'a' <= s[n] && s[n] <= 'z' {
		n++
	}
	return n
}

// NamOk says whether a text is a name.
func NamOk(s string) bool {
	return 1 <= len(s) && len(s) <= NamMax && letters(s) == len(s)
}

// PthOk says whether a text is a path.
func PthOk(s string) bool {
	return pathText(s).ok()
}

// PthUnder says whether the second path is the first one, or lies under it.
func PthUnder(a string, b string) bool {
	return pathText(a).covers(pathText(b))
}

// PthFirst is the first name of a path.
func PthFirst(s string) string {
	first, _ := pathText(s).cut()
	return first
}

// PthRest is a path without its first name.
func PthRest(s string) string {
	_, rest := pathText(s).cut()
	return rest
}

// PthJoin is one path behind another one.
func PthJoin(a string, b string) string {
	return string(pathText(a).join(pathText(b)))
}

// PthParts is the names of a path, in order.
func PthParts(s string) []string {
	p := pathText(s)
	if !p.ok() {
		return nil
	}
	return slices.Collect(p.names())
}
