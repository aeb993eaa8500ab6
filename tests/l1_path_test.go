package tests

import (
	"regexp"
	"slices"
	"strings"
	"testing"

	"loop.example/chartulary/impl"
)

var (
	nameForm = regexp.MustCompile(`\A[a-z]{1,3}\z`)
	pathForm = regexp.MustCompile(`\A([a-z]{1,3}(/[a-z]{1,3}){0,2})?\z`)
)

// somePaths has names that begin like others, so that "under" is told from "begins with".
var somePaths = []string{
	"", "a", "ab", "abc", "b", "z", "zzz",
	"a/a", "a/b", "a/bc", "ab/c", "abc/a", "abc/abc", "b/a",
	"a/a/a", "a/b/c", "a/b/cd", "a/bc/d", "ab/c/d", "abc/abc/abc", "zzz/zzz/zzz",
}

var noPaths = []string{
	"/", "//", "///", "/a", "a/", "a//b", "/a/b", "a/b/", "a/b//c", "/a/", "a/b/c/",
	"abcd", "a/abcd", "abcd/a", "a/b/abcd", "a/b/c/d", "abc/abc/abc/abc", "a/b/c//",
	"A", "aB", "a1", "1", "-", " ", " a", "a ", "a /b", "a/ b", "a\n", "\na", "a\x00", "\x00",
	"`", "{", "a`", "a{", "a/{", ".", "..", "a/../b", "a\\b", "é", "aé", "\xff", "a/\xff", "\xc3\xa9",
	strings.Repeat("a", 5000), strings.Repeat("/", 5000), strings.Repeat("a/", 5000) + "a",
}

// textsOf tells all texts of at most so many bytes out of an alphabet.
func textsOf(alphabet string, most int) []string {
	all := []string{""}
	longest := all
	for range most {
		var next []string
		for _, s := range longest {
			for i := range len(alphabet) {
				next = append(next, s+alphabet[i:i+1])
			}
		}
		all = append(all, next...)
		longest = next
	}
	return all
}

// manyTexts is paths and what is nearly one.
func manyTexts() []string {
	all := slices.Concat(somePaths, noPaths)
	all = append(all, textsOf("az/", 7)...)
	all = append(all, textsOf("a/{`A", 4)...)
	for _, s := range []string{"a", "abc", "a/b", "a/b/c"} {
		for b := range 256 {
			for at := range len(s) + 1 {
				all = append(all, s[:at]+string([]byte{byte(b)})+s[at:])
			}
		}
	}
	return all
}

func TestLimitsOfPaths(t *testing.T) {
	if impl.NamMax != 3 || impl.PthDepth != 3 {
		t.Fatal(impl.NamMax, impl.PthDepth)
	}
}

func TestNamOk(t *testing.T) {
	for _, s := range []string{"a", "z", "ab", "abc", "zzz"} {
		if !impl.NamOk(s) {
			t.Errorf("%q is a name", s)
		}
	}
	for _, s := range []string{"", "abcd", "a/b", "/", "A", "a1", "é"} {
		if impl.NamOk(s) {
			t.Errorf("%q is no name", s)
		}
	}
	for _, s := range manyTexts() {
		if impl.NamOk(s) != nameForm.MatchString(s) {
			t.Fatalf("NamOk of %q: %v", s, impl.NamOk(s))
		}
	}
}

func TestPthOk(t *testing.T) {
	for _, s := range somePaths {
		if !impl.PthOk(s) {
			t.Errorf("%q is a path", s)
		}
	}
	for _, s := range noPaths {
		if impl.PthOk(s) {
			t.Errorf("%q is no path", s)
		}
	}
	for _, s := range manyTexts() {
		if impl.PthOk(s) != pathForm.MatchString(s) {
			t.Fatalf("PthOk of %q: %v", s, impl.PthOk(s))
		}
	}
}

// P53.
func TestPathIsItsParts(t *testing.T) {
	for _, s := range manyTexts() {
		parts, first, rest := impl.PthParts(s), impl.PthFirst(s), impl.PthRest(s)
		if !impl.PthOk(s) || s == "" {
			if len(parts) != 0 || first != "" || rest != "" {
				t.Fatalf("%q has parts: %q, %q, %q", s, parts, first, rest)
			}
			continue
		}
		if strings.Join(parts, "/") != s {
			t.Fatalf("%q has the parts %q", s, parts)
		}
		for _, name := range parts {
			if !nameForm.MatchString(name) {
				t.Fatalf("%q has the part %q", s, name)
			}
		}
		if first != parts[0] || rest != strings.Join(parts[1:], "/") {
			t.Fatalf("%q begins with %q, behind it %q", s, first, rest)
		}
	}
}

func TestPartsByHand(t *testing.T) {
	for _, c := range []struct {
		path  string
		parts []string
		rest  string
	}{
		{"", nil, ""},
		{"a", []string{"a"}, ""},
		{"abc", []string{"abc"}, ""},
		{"a/b", []string{"a", "b"}, "b"},
		{"a/bc/def", []string{"a", "bc", "def"}, "bc/def"},
		{"a/b/c/d", nil, ""},
		{"a//b", nil, ""},
		{"a/abcd", nil, ""},
		{"/a", nil, ""},
		{"a/", nil, ""},
	} {
		if got := impl.PthParts(c.path); !slices.Equal(got, c.parts) {
			t.Errorf("the parts of %q: %q", c.path, got)
		}
		if got := impl.PthRest(c.path); got != c.rest {
			t.Errorf("the rest of %q: %q", c.path, got)
		}
	}
}

func TestPartsAreNewMemory(t *testing.T) {
	one, two := impl.PthParts("a/b/c"), impl.PthParts("a/b/c")
	for i := range one[:cap(one)] {
		one[:cap(one)][i] = "x"
	}
	if !slices.Equal(two, []string{"a", "b", "c"}) || !slices.Equal(impl.PthParts("a/b/c"), two) {
		t.Fatal("two answers share memory", two)
	}
}

// P54.
func TestUnderIsAnOrder(t *testing.T) {
	for _, a := range somePaths {
		if !impl.PthUnder("", a) {
			t.Errorf("%q does not lie under the empty path", a)
		}
		if !impl.PthUnder(a, a) {
			t.Errorf("%q does not lie under itself", a)
		}
		for _, b := range somePaths {
			if a != b && impl.PthUnder(a, b) && impl.PthUnder(b, a) {
				t.Errorf("%q and %q lie under each other", a, b)
			}
			for _, c := range somePaths {
				if impl.PthUnder(a, b) && impl.PthUnder(b, c) && !impl.PthUnder(a, c) {
					t.Errorf("%q, %q and %q lie under each other, but not the last under the first", a, b, c)
				}
			}
		}
	}
}

func TestUnderByParts(t *testing.T) {
	texts := slices.Concat(somePaths, noPaths, textsOf("ab/", 4))
	for _, a := range texts {
		for _, b := range texts {
			if want := underByHand(a, b); impl.PthUnder(a, b) != want {
				t.Fatalf("PthUnder of %q and %q: %v", a, b, !want)
			}
		}
	}
}

// underByHand holds the names of both paths against each other.
func underByHand(a, b string) bool {
	first, second := splitPath(a), splitPath(b)
	return pathForm.MatchString(a) && pathForm.MatchString(b) && len(first) <= len(second) && slices.Equal(first, second[:len(first)])
}

func splitPath(s string) []string {
	if s == "" {
		return nil
	}
	return strings.Split(s, "/")
}

// P55.
func TestJoinLiesUnderTheFirst(t *testing.T) {
	for _, a := range somePaths {
		for _, b := range somePaths {
			want := strings.Join(slices.Concat(splitPath(a), splitPath(b)), "/")
			if !pathForm.MatchString(want) {
				want = ""
			} else if !impl.PthUnder(a, want) {
				t.Errorf("%q does not lie under %q", want, a)
			}
			if got := impl.PthJoin(a, b); got != want {
				t.Errorf("%q and %q joined: %q", a, b, got)
			}
		}
	}
}

func TestJoinHangsOnNoBrackets(t *testing.T) {
	seen := 0
	for _, a := range somePaths {
		for _, b := range somePaths {
			for _, c := range somePaths {
				all := strings.Join(slices.Concat(splitPath(a), splitPath(b), splitPath(c)), "/")
				if !pathForm.MatchString(all) {
					continue
				}
				seen++
				left, right := impl.PthJoin(impl.PthJoin(a, b), c), impl.PthJoin(a, impl.PthJoin(b, c))
				if left != all || right != all {
					t.Errorf("%q, %q and %q joined: %q and %q", a, b, c, left, right)
				}
			}
		}
	}
	if seen < 100 {
		t.Fatal("too few were asked:", seen)
	}
}

func TestJoinOfWhatIsNoPath(t *testing.T) {
	for _, bad := range noPaths {
		for _, other := range []string{"", "a", "a/b", bad} {
			if got := impl.PthJoin(bad, other); got != "" {
				t.Errorf("%q and %q joined: %q", bad, other, got)
			}
			if got := impl.PthJoin(other, bad); got != "" {
				t.Errorf("%q and %q joined: %q", other, bad, got)
			}
		}
	}
}
