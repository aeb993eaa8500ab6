package tests

import (
	"math"
	"math/rand/v2"
	"regexp"
	"slices"
	"strconv"
	"strings"
	"testing"

	"loop.example/chartulary/impl"
)

var ruleForm = regexp.MustCompile(`\A([0-4]) (-|[a-z]{1,3}) (-|[a-z]{1,3}(?:/[a-z]{1,3}){0,2}) (read|write)\z`)

var (
	someUsers = []int{0, 1, 2, 3, 4}
	noUsers   = []int{5, -1, 6, 9, 10, 99, -4, 1 << 32, math.MaxInt, math.MinInt}
	someRefs  = []string{"", "a", "b", "ab", "abc", "zzz"}
	noRefs    = []string{"abcd", "A", "a/b", "-", " ", "a ", "/", "a1", "\x00", "\xff", "é", strings.Repeat("a", 5000)}
)

func allUsers() []int     { return slices.Concat(someUsers, noUsers) }
func allRefs() []string   { return slices.Concat(someRefs, noRefs) }
func rulePaths() []string { return slices.Concat(somePaths, noPaths) }

func ruleByHand(r impl.RulRule) bool {
	return r.User >= 0 && r.User < 5 && (r.Ref == "" || nameForm.MatchString(r.Ref)) && pathForm.MatchString(r.Path)
}

// isFor says whether a rule is ok, and for the user and the ref.
func isFor(r impl.RulRule, user int, ref string) bool {
	return ruleByHand(r) && slices.Contains([]int{0, user}, r.User) && slices.Contains([]string{"", ref}, r.Ref)
}

func mayByHand(list []impl.RulRule, user int, ref, path string, write bool) bool {
	for _, r := range list {
		if isFor(r, user, ref) && underByHand(r.Path, path) && (r.Write || !write) {
			return true
		}
	}
	return false
}

func seesByHand(list []impl.RulRule, user int, ref string) bool {
	return slices.ContainsFunc(list, func(r impl.RulRule) bool { return isFor(r, user, ref) })
}

// rulesByHand says whether rules are ok, each held against each.
func rulesByHand(list []impl.RulRule) bool {
	for i, r := range list {
		if !ruleByHand(r) {
			return false
		}
		for k, other := range list {
			if i != k && r == other {
				return false
			}
		}
	}
	return len(list) <= 6
}

// okRule is one of few rules, so that lists of them have some twice, and asks often fit.
func okRule(r *rand.Rand) impl.RulRule {
	path := ""
	if r.IntN(3) > 0 {
		path = anyPath(r, 2)
	}
	return impl.RulRule{User: r.IntN(5), Ref: []string{"", "a", "ab"}[r.IntN(3)], Path: path, Write: r.IntN(2) == 0}
}

func anyRule(r *rand.Rand) impl.RulRule {
	rule := okRule(r)
	switch r.IntN(12) {
	case 0:
		rule.User = noUsers[r.IntN(len(noUsers))]
	case 1:
		rule.Ref = noRefs[r.IntN(len(noRefs))]
	case 2:
		rule.Path = noPaths[r.IntN(len(noPaths))]
	}
	return rule
}

// anyRules is rules of any kind, some twice, more than RulMax now and then.
func anyRules(r *rand.Rand) []impl.RulRule {
	var list []impl.RulRule
	for range r.IntN(9) {
		if len(list) > 0 && r.IntN(5) == 0 {
			list = append(list, list[r.IntN(len(list))])
			continue
		}
		list = append(list, anyRule(r))
	}
	return list
}

// okRules is rules that are ok.
func okRules(r *rand.Rand, most int) []impl.RulRule {
	var list []impl.RulRule
	for range r.IntN(most + 1) {
		if rule := okRule(r); !slices.Contains(list, rule) {
			list = append(list, rule)
		}
	}
	return list
}

// rulesOf is so many rules that are ok, no two the same.
func rulesOf(n int) []impl.RulRule {
	var list []impl.RulRule
	for i := range n {
		list = append(list, impl.RulRule{User: i % 5, Ref: "a", Path: string(rune('a' + i)), Write: i%2 == 0})
	}
	return list
}

// anyAsk is a user, a ref and a path, of which each may be none.
func anyAsk(r *rand.Rand) (int, string, string) {
	user, ref, path := r.IntN(5), someRefs[r.IntN(4)], anyPath(r, 3)
	switch r.IntN(10) {
	case 0:
		user = noUsers[r.IntN(len(noUsers))]
	case 1:
		ref = noRefs[r.IntN(len(noRefs))]
	case 2:
		path = noPaths[r.IntN(len(noPaths))]
	case 3:
		path = ""
	}
	return user, ref, path
}

// asked tells what rules let, at many asks: one bit each.
func asked(list []impl.RulRule) []bool {
	var got []bool
	for _, user := range []int{0, 1, 2, 4, 5, -1} {
		for _, ref := range []string{"", "a", "ab", "b", "A"} {
			got = append(got, impl.RulSees(list, user, ref))
			for _, path := range []string{"", "a", "ab", "a/b", "a/b/c", "zzz/c", "/"} {
				got = append(got, impl.RulMay(list, user, ref, path, false), impl.RulMay(list, user, ref, path, true))
			}
		}
	}
	return got
}

func TestLimitsOfRules(t *testing.T) {
	if impl.RulMax != 6 || impl.RulMaxUser != 4 {
		t.Fatal(impl.RulMax, impl.RulMaxUser)
	}
}

func TestRulOk(t *testing.T) {
	for _, user := range allUsers() {
		for _, ref := range allRefs() {
			for _, path := range rulePaths() {
				for _, write := range []bool{false, true} {
					r := impl.RulRule{User: user, Ref: ref, Path: path, Write: write}
					if impl.RulOk(r) != ruleByHand(r) {
						t.Fatalf("RulOk of %v: %v", r, !ruleByHand(r))
					}
				}
			}
		}
	}
	for _, s := range manyTexts() {
		if impl.RulOk(impl.RulRule{Path: s}) != pathForm.MatchString(s) {
			t.Fatalf("RulOk with the path %q", s)
		}
		if impl.RulOk(impl.RulRule{Ref: s}) != (s == "" || nameForm.MatchString(s)) {
			t.Fatalf("RulOk with the ref %q", s)
		}
	}
}

func TestRulListOk(t *testing.T) {
	for n := range 12 {
		if impl.RulListOk(rulesOf(n)) != (n <= 6) {
			t.Errorf("%d rules: %v", n, n > 6)
		}
	}
	for _, bad := range []impl.RulRule{{User: 5}, {User: -1}, {Ref: "abcd"}, {Ref: "-"}, {Path: "/"}, {Path: "a/b/c/d"}} {
		for at := range 6 {
			list := rulesOf(6)
			list[at] = bad
			if impl.RulListOk(list) {
				t.Errorf("%v at %d among others", bad, at)
			}
		}
	}
	for a := range 6 {
		for b := range a {
			list := rulesOf(6)
			list[a] = list[b]
			if impl.RulListOk(list) {
				t.Errorf("the same at %d and %d", b, a)
			}
		}
	}
	// Rules that differ in one thing are two.
	one := impl.RulRule{User: 1, Ref: "a", Path: "a", Write: true}
	for _, other := range []impl.RulRule{
		{User: 2, Ref: "a", Path: "a", Write: true}, {User: 1, Ref: "", Path: "a", Write: true},
		{User: 1, Ref: "a", Path: "", Write: true}, {User: 1, Ref: "a", Path: "a"},
	} {
		if !impl.RulListOk([]impl.RulRule{one, other}) {
			t.Errorf("%v and %v are not the same", one, other)
		}
	}
	r := rand.New(rand.NewPCG(5, 5))
	for range 5000 {
		list := anyRules(r)
		if impl.RulListOk(list) != rulesByHand(list) {
			t.Fatalf("%v: %v", list, !rulesByHand(list))
		}
	}
}

func TestMayOfAnyRules(t *testing.T) {
	r := rand.New(rand.NewPCG(5, 1))
	seen := map[bool]int{}
	for range 20000 {
		list := anyRules(r)
		user, ref, path := anyAsk(r)
		for _, write := range []bool{false, true} {
			want := mayByHand(list, user, ref, path, write)
			seen[want]++
			if impl.RulMay(list, user, ref, path, write) != want {
				t.Fatalf("%v, asked of %d in %q at %q, to write %v: %v", list, user, ref, path, write, !want)
			}
		}
	}
	if seen[true] < 2000 || seen[false] < 2000 {
		t.Fatal("too few were asked:", seen)
	}
}

func TestMayByHand(t *testing.T) {
	one := []impl.RulRule{{User: 2, Ref: "a", Path: "x/y", Write: true}}
	all := []impl.RulRule{{}}
	bad := []impl.RulRule{{User: 5}, {User: -1}, {Ref: "A"}, {Path: "/"}, {User: 5, Ref: "a", Path: "a", Write: true}}
	for _, c := range []struct {
		what  string
		list  []impl.RulRule
		user  int
		ref   string
		path  string
		write bool
		want  bool
	}{
		{"at its path", one, 2, "a", "x/y", true, true},
		{"under its path", one, 2, "a", "x/y/z", true, true},
		{"to read", one, 2, "a", "x/y/z", false, true},
		{"above its path", one, 2, "a", "x", false, false},
		{"at the empty path", one, 2, "a", "", false, false},
		{"a longer name", one, 2, "a", "x/yz", false, false},
		{"what is no path", one, 2, "a", "x/y/", false, false},
		{"too deep", one, 2, "a", "x/y/z/a", false, false},
		{"another user", one, 1, "a", "x/y", false, false},
		{"user 0 of a rule for one", one, 0, "a", "x/y", false, false},
		{"another ref", one, 2, "b", "x/y", false, false},
		{"an empty ref of a rule for one", one, 2, "", "x/y", false, false},
		{"a longer ref", one, 2, "ab", "x/y", false, false},
		{"all, user 0", all, 0, "", "", false, true},
		{"all, a user that is none", all, -7, "q", "a", false, true},
		{"all, one more than users", all, 5, "q", "a", false, true},
		{"all, a ref that is no name", all, 1, "A/", "a", false, true},
		{"all, what is no path", all, 1, "a", "/", false, false},
		{"all, to write", all, 1, "a", "", true, false},
		{"rules that are not ok, user 5", bad, 5, "a", "a", true, false},
		{"rules that are not ok, user -1", bad, -1, "a", "a", false, false},
		{"rules that are not ok, their ref", bad, 1, "A", "a", false, false},
		{"rules that are not ok, their path", bad, 1, "a", "/", false, false},
		{"one that is ok behind others that are not", slices.Concat(bad, one), 2, "a", "x/y", true, true},
		{"the eighth of too many", append(rulesOf(7), one[0]), 2, "a", "x/y", true, true},
		{"one to read ahead of one to write", []impl.RulRule{{User: 2}, {User: 2, Write: true}}, 2, "a", "", true, true},
		{"no rules", nil, 1, "a", "", false, false},
	} {
		if got := impl.RulMay(c.list, c.user, c.ref, c.path, c.write); got != c.want {
			t.Errorf("%s: %v", c.what, got)
		}
	}
}

// P70.
func TestMayUnderAndReadAndSee(t *testing.T) {
	r := rand.New(rand.NewPCG(5, 70))
	writes, reads := 0, 0
	for range 20000 {
		list := anyRules(r)
		user, ref, path := anyAsk(r)
		for _, write := range []bool{false, true} {
			if !impl.RulMay(list, user, ref, path, write) {
				continue
			}
			if write {
				writes++
			} else {
				reads++
			}
			if !impl.RulMay(list, user, ref, path, false) || !impl.RulSees(list, user, ref) {
				t.Fatalf("%v let %d write in %q at %q, but not read or see", list, user, ref, path)
			}
			for _, name := range []string{"a", "zzz", "a/b", "ab/c"} {
				under := impl.PthJoin(path, name)
				if under != "" && !impl.RulMay(list, user, ref, under, write) {
					t.Fatalf("%v let %d in %q at %q, but not at %q", list, user, ref, path, under)
				}
			}
		}
	}
	if writes < 500 || reads < 500 {
		t.Fatal("too few were asked:", writes, reads)
	}
}

// P71.
func TestPutLetsMore(t *testing.T) {
	r := rand.New(rand.NewPCG(5, 71))
	seen := map[bool]int{}
	for range 1500 {
		list, rule := okRules(r, 6), anyRule(r)
		if r.IntN(6) == 0 {
			list = anyRules(r)
		}
		want := rulesByHand(list) && ruleByHand(rule) && len(list) < 6 && !slices.Contains(list, rule)
		got, ok := impl.RulPut(list, rule)
		seen[ok]++
		if ok != want {
			t.Fatalf("%v put behind %v: %v", rule, list, ok)
		}
		if !ok {
			if !slices.Equal(got, list) {
				t.Fatalf("%v not put behind %v: %v", rule, list, got)
			}
			continue
		}
		if !slices.Equal(got, slices.Concat(list, []impl.RulRule{rule})) || !impl.RulListOk(got) {
			t.Fatalf("%v put behind %v: %v", rule, list, got)
		}
		before, alone := asked(list), asked([]impl.RulRule{rule})
		for i, lets := range asked(got) {
			if lets != (before[i] || alone[i]) {
				t.Fatalf("%v put behind %v lets otherwise", rule, list)
			}
		}
		if back, there := impl.RulOut(got, rule); !there || !slices.Equal(back, list) {
			t.Fatalf("%v put behind %v, and taken out: %v, %v", rule, list, back, there)
		}
	}
	if seen[true] < 300 || seen[false] < 300 {
		t.Fatal("too few were put:", seen)
	}
}

func TestPutByHand(t *testing.T) {
	rule := impl.RulRule{User: 3, Ref: "b", Path: "q"}
	twice := append(rulesOf(2), rulesOf(1)...)
	for _, c := range []struct {
		what string
		list []impl.RulRule
		rule impl.RulRule
		ok   bool
	}{
		{"the first one", nil, rule, true},
		{"the sixth", rulesOf(5), rule, true},
		{"the seventh", rulesOf(6), rule, false},
		{"the eighth", rulesOf(7), rule, false},
		{"for all", rulesOf(1), impl.RulRule{}, true},
		{"twice", append(rulesOf(1), rule), rule, false},
		{"the same but for Write", []impl.RulRule{rule}, impl.RulRule{User: 3, Ref: "b", Path: "q", Write: true}, true},
		{"user 5", nil, impl.RulRule{User: 5}, false},
		{"user -1", nil, impl.RulRule{User: -1}, false},
		{"no ref", nil, impl.RulRule{Ref: "abcd"}, false},
		{"no path", nil, impl.RulRule{Path: "a/"}, false},
		{"behind one that is not ok", []impl.RulRule{{User: 9}}, rule, false},
		{"behind two that are the same", twice, rule, false},
	} {
		got, ok := impl.RulPut(c.list, c.rule)
		want := c.list
		if c.ok {
			want = slices.Concat(c.list, []impl.RulRule{c.rule})
		}
		if ok != c.ok || !slices.Equal(got, want) {
			t.Errorf("%s: %v, %v", c.what, got, ok)
		}
		if again, more := impl.RulPut(got, c.rule); more || !slices.Equal(again, got) {
			t.Errorf("%s, once more: %v, %v", c.what, again, more)
		}
	}
}

// P72.
func TestOutTakesAllThatAreTheRule(t *testing.T) {
	r := rand.New(rand.NewPCG(5, 72))
	often := 0
	for range 5000 {
		list, rule := anyRules(r), anyRule(r)
		if len(list) > 0 && r.IntN(4) > 0 {
			rule = list[r.IntN(len(list))]
		}
		var rest []impl.RulRule
		for _, other := range list {
			if other != rule {
				rest = append(rest, other)
			}
		}
		if len(list)-len(rest) > 1 {
			often++
		}
		got, there := impl.RulOut(list, rule)
		if !slices.Equal(got, rest) || there != slices.Contains(list, rule) {
			t.Fatalf("%v without %v: %v, %v", list, rule, got, there)
		}
		if again, more := impl.RulOut(got, rule); more || !slices.Equal(again, got) {
			t.Fatalf("%v without %v twice: %v, %v", list, rule, again, more)
		}
	}
	if often < 100 {
		t.Fatal("too few stood more than once:", often)
	}
}

func TestOutByHand(t *testing.T) {
	a, b, bad := impl.RulRule{User: 1}, impl.RulRule{User: 1, Write: true}, impl.RulRule{User: 77, Ref: "\xff", Path: "//"}
	for _, c := range []struct {
		what  string
		list  []impl.RulRule
		rule  impl.RulRule
		want  []impl.RulRule
		there bool
	}{
		{"of none", nil, a, nil, false},
		{"the only one", []impl.RulRule{a}, a, nil, true},
		{"not there", []impl.RulRule{a}, b, []impl.RulRule{a}, false},
		{"in the midst", []impl.RulRule{b, a, bad}, a, []impl.RulRule{b, bad}, true},
		{"more than once", []impl.RulRule{a, b, a, a}, a, []impl.RulRule{b}, true},
		{"all of them", []impl.RulRule{a, a, a}, a, nil, true},
		{"one that is not ok", []impl.RulRule{a, bad, b, bad}, bad, []impl.RulRule{a, b}, true},
		{"of too many", rulesOf(9), rulesOf(9)[8], rulesOf(8), true},
	} {
		got, there := impl.RulOut(c.list, c.rule)
		if there != c.there || !slices.Equal(got, c.want) {
			t.Errorf("%s: %v, %v", c.what, got, there)
		}
	}
}

// P73.
func TestSees(t *testing.T) {
	r := rand.New(rand.NewPCG(5, 73))
	seen := map[bool]int{}
	for range 20000 {
		list := anyRules(r)
		user, ref, _ := anyAsk(r)
		want := seesByHand(list, user, ref)
		seen[want]++
		if impl.RulSees(list, user, ref) != want {
			t.Fatalf("%v, asked of %d in %q: %v", list, user, ref, !want)
		}
	}
	if seen[true] < 2000 || seen[false] < 2000 {
		t.Fatal("too few were asked:", seen)
	}
}

func TestSeesByHand(t *testing.T) {
	one := []impl.RulRule{{User: 2, Ref: "a", Path: "x/y/z"}}
	for _, c := range []struct {
		what string
		list []impl.RulRule
		user int
		ref  string
		want bool
	}{
		{"its user and ref", one, 2, "a", true},
		{"another user", one, 3, "a", false},
		{"user 0", one, 0, "a", false},
		{"another ref", one, 2, "b", false},
		{"an empty ref", one, 2, "", false},
		{"for all users", []impl.RulRule{{Ref: "a"}}, -9, "a", true},
		{"for all users, another ref", []impl.RulRule{{Ref: "a"}}, 2, "", false},
		{"for all refs", []impl.RulRule{{User: 4}}, 4, "", true},
		{"for all refs, what is no name", []impl.RulRule{{User: 4}}, 4, "no name", true},
		{"not ok: its user", []impl.RulRule{{User: 5}}, 5, "a", false},
		{"not ok: its ref", []impl.RulRule{{Ref: "abcd"}}, 1, "abcd", false},
		{"not ok: its path", []impl.RulRule{{Path: "a//b"}}, 1, "a", false},
		{"behind one that is not ok", []impl.RulRule{{User: 5}, {User: 1}}, 1, "a", true},
		{"no rules", nil, 0, "", false},
	} {
		if got := impl.RulSees(c.list, c.user, c.ref); got != c.want {
			t.Errorf("%s: %v", c.what, got)
		}
	}
}

// P74.
func TestRulesForAllAndForOthers(t *testing.T) {
	r := rand.New(rand.NewPCG(5, 74))
	lets, others := 0, 0
	for range 20000 {
		rule := anyRule(r)
		user, ref, path := anyAsk(r)
		write := r.IntN(2) == 0
		alone := []impl.RulRule{rule}
		may := impl.RulMay(alone, user, ref, path, write)
		if may {
			lets++
			rule.User = 0
			for _, each := range allUsers() {
				if !impl.RulMay([]impl.RulRule{rule}, each, ref, path, write) || !impl.RulSees([]impl.RulRule{rule}, each, ref) {
					t.Fatalf("%v lets not %d in %q at %q", rule, each, ref, path)
				}
			}
			continue
		}
		if rule.User != 0 && rule.User != user || rule.Ref != "" && rule.Ref != ref {
			others++
			if impl.RulSees(alone, user, ref) {
				t.Fatalf("%v lets %d see %q", rule, user, ref)
			}
		}
	}
	if lets < 500 || others < 500 {
		t.Fatal("too few were asked:", lets, others)
	}
}

func TestRulesForOthersLetNothing(t *testing.T) {
	for _, rule := range []impl.RulRule{{User: 1, Write: true}, {Ref: "a", Write: true}, {User: 1, Ref: "a", Write: true}} {
		for _, user := range allUsers() {
			for _, ref := range allRefs() {
				want := (rule.User == 0 || user == 1) && (rule.Ref == "" || ref == "a")
				for _, path := range somePaths {
					if impl.RulMay([]impl.RulRule{rule}, user, ref, path, true) != want || impl.RulMay([]impl.RulRule{rule}, user, ref, path, false) != want {
						t.Fatalf("%v, asked of %d in %q at %q: %v", rule, user, ref, path, !want)
					}
				}
			}
		}
	}
}

// P75.
func TestRulesAreReadAsWritten(t *testing.T) {
	for _, user := range allUsers() {
		for _, ref := range allRefs() {
			for _, path := range rulePaths() {
				for _, write := range []bool{false, true} {
					askText(t, impl.RulRule{User: user, Ref: ref, Path: path, Write: write})
				}
			}
		}
	}
}

func askText(t *testing.T, r impl.RulRule) {
	t.Helper()
	s := impl.RulText(r)
	if !ruleByHand(r) {
		if s != "" {
			t.Fatalf("%v is not ok, and is written %q", r, s)
		}
		return
	}
	dash := func(s string) string {
		if s == "" {
			return "-"
		}
		return s
	}
	want := strconv.Itoa(r.User) + " " + dash(r.Ref) + " " + dash(r.Path) + " " + map[bool]string{false: "read", true: "write"}[r.Write]
	if s != want {
		t.Fatalf("%v is written %q", r, s)
	}
	if back, ok := impl.RulRead(s); !ok || back != r {
		t.Fatalf("%q is read %v, %v", s, back, ok)
	}
}

// manyRuleTexts is texts of rules, and such that nearly are.
func manyRuleTexts() []string {
	all := []string{
		"0 - - read", "0 - - write", "4 - - read", "4 abc abc/abc/abc write", "2 a x write", "1 - a/b read", "3 zzz - write",
		"", " ", "-", "   ", "- - - -", "0", "0 -", "0 - -", "0 - - ", "0 - -  ", " - - read", "0  - read", "0 -  read", "0   ",
		"5 - - read", "9 - - read", "10 - - read", "-1 - - read", "-0 - - read", "+0 - - read", "+1 - - read", "00 - - read", "01 - - read", "1_0 - - read",
		"0x1 - - read", "1e0 - - read", "1.0 - - read", "99999999999999999999 - - read", "18446744073709551617 - - read", "4294967297 - - read", "a - - read", "٣ - - read",
		"0 -- - read", "0 - -- read", "0 abcd - read", "0 A - read", "0 a/b - read", "0 a1 - read", "0 - / read", "0 - a/ read", "0 - /a read", "0 - a//b read",
		"0 - a/b/c/d read", "0 - abcd read", "0 - A read", "0 - -/a read", "0 - a/- read", "0 a- - read", "0 -a - read",
		"0 - - Read", "0 - - READ", "0 - - reads", "0 - - rea", "0 - - r", "0 - - writ", "0 - - writes", "0 - - readwrite", "0 - - -", "0 - - true", "0 - - 1", "0 - - write read",
		" 0 - - read", "0 - - read ", "0  - - read", "0 -  - read", "0 - -  read", "0\t- - read", "0 - -\tread", "0 - - read\n", "\n0 - - read", "0\n-\n-\nread",
		"0\u00a0- - read", "0 - - read  x", "0 - - read x", "0 - - read\x00", "\x000 - - read", "0 \xff - read", "0 - \xff read", "0 é - read", "0,-,-,read",
	}
	for _, n := range []int{190, 199, 200, 201, 5000} {
		all = append(all, "0 - - read"+strings.Repeat(" ", n-10), strings.Repeat("0", n-9)+" - - read", "0 - - "+strings.Repeat("r", n-6),
			"0 - "+strings.Repeat("a", n-9)+" read", "0 "+strings.Repeat("a", n-9)+" - read", strings.Repeat(" ", n), strings.Repeat("x", n), strings.Repeat("0 - - read", n/10))
	}
	r := rand.New(rand.NewPCG(5, 75))
	const bytes = " -0145+a/zrew{`A\x00\xff\n"
	for _, s := range all[:7] {
		for b := range 256 {
			for at := range len(s) + 1 {
				all = append(all, s[:at]+string([]byte{byte(b)})+s[at:])
			}
		}
		for range 2000 {
			at, b := r.IntN(len(s)), r.IntN(len(bytes))
			all = append(all, s[:at]+bytes[b:b+1]+s[at+1:], s[:at]+s[at+1:], s[:at]+s[at+r.IntN(len(s)-at):])
		}
	}
	return append(all, textsOf("0- r", 5)...)
}

func TestTextsOfRulesAreWrittenAsRead(t *testing.T) {
	seen := map[bool]int{}
	for _, s := range manyRuleTexts() {
		r, ok := impl.RulRead(s)
		seen[ok]++
		if ok != ruleForm.MatchString(s) {
			t.Fatalf("%q is read %v, %v", s, r, ok)
		}
		if ok && (impl.RulText(r) != s || !ruleByHand(r)) {
			t.Fatalf("%q is read %v, which is written %q", s, r, impl.RulText(r))
		}
		if !ok && r != (impl.RulRule{}) {
			t.Fatalf("%q is none, and is read %v", s, r)
		}
	}
	if seen[true] < 500 || seen[false] < 500 {
		t.Fatal("too few were read:", seen)
	}
}

func TestRuleTextsByHand(t *testing.T) {
	for s, want := range map[string]impl.RulRule{
		"0 - - read":              {},
		"0 - - write":             {Write: true},
		"4 - - read":              {User: 4},
		"2 a x write":             {User: 2, Ref: "a", Path: "x", Write: true},
		"1 - a/b read":            {User: 1, Path: "a/b"},
		"3 zzz - write":           {User: 3, Ref: "zzz", Write: true},
		"4 abc abc/abc/abc write": {User: 4, Ref: "abc", Path: "abc/abc/abc", Write: true},
	} {
		if got, ok := impl.RulRead(s); !ok || got != want {
			t.Errorf("%q is read %v, %v", s, got, ok)
		}
		if got := impl.RulText(want); got != s {
			t.Errorf("%v is written %q", want, got)
		}
	}
}

func TestRulesShareNoMemory(t *testing.T) {
	r := rand.New(rand.NewPCG(5, 7))
	over := impl.RulRule{User: 9, Ref: "over", Path: "over"}
	fill := impl.RulRule{User: 3, Ref: "filled", Path: "filled", Write: true}
	for i := range 2000 {
		list := anyRules(r)
		if i%2 == 0 {
			list = okRules(r, 6)
		}
		rule := anyRule(r)
		if len(list) > 0 && r.IntN(3) == 0 {
			rule = list[r.IntN(len(list))]
		}
		w := watch(list, fill)
		impl.RulListOk(w.list)
		impl.RulMay(w.list, 1, "a", "a", true)
		impl.RulSees(w.list, 1, "a")
		for _, one := range []impl.RulRule{rule, {User: 5}, {User: 4, Ref: "new"}} {
			put, _ := impl.RulPut(w.list, one)
			scribble(put, over)
			untouched(t, "RulPut", w)
			out, _ := impl.RulOut(w.list, one)
			scribble(out, over)
			untouched(t, "RulOut", w)
		}
	}
}

func TestAnswersOfRulesAreTwo(t *testing.T) {
	list := rulesOf(4)
	rule := impl.RulRule{User: 4, Path: "q"}
	one, _ := impl.RulPut(list, rule)
	two, _ := impl.RulPut(list, rule)
	scribble(one, impl.RulRule{User: 9})
	if !slices.Equal(two, append(rulesOf(4), rule)) {
		t.Error("two answers of RulPut share memory", two)
	}
	first, _ := impl.RulOut(list, rule)
	second, _ := impl.RulOut(list, rule)
	scribble(first, impl.RulRule{User: 9})
	if !slices.Equal(second, rulesOf(4)) {
		t.Error("two answers of RulOut share memory", second)
	}
}
