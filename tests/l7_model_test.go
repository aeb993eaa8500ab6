package tests

import (
	"fmt"
	"iter"
	"math"
	"math/rand/v2"
	"reflect"
	"slices"
	"testing"

	"loop.example/chartulary/impl"
)

func sameFiles(a, b []impl.TreFile) bool { return slices.Equal(a, b) }

func sameRef(a, b impl.MdlRef) bool {
	return a.Name == b.Name && a.Guard == b.Guard && a.Count == b.Count && slices.EqualFunc(a.Versions, b.Versions, sameFiles)
}

func sameRepo(a, b impl.MdlRepo) bool {
	return a.Admin == b.Admin && slices.Equal(a.Rules, b.Rules) && slices.EqualFunc(a.Refs, b.Refs, sameRef)
}

// sameHouse takes empty and nil lists for the same.
func sameHouse(a, b impl.MdlHouse) bool {
	return slices.Equal(a.Keys, b.Keys) && slices.Equal(a.Used, b.Used) && slices.EqualFunc(a.Repos, b.Repos, sameRepo)
}

func sameAnswer(a, b impl.AnsAnswer) bool {
	return a.Code == b.Code && a.N == b.N && slices.Equal(a.Files, b.Files) && slices.Equal(a.Names, b.Names)
}

// houseCopy is laid anew, so that it may be turned.
func houseCopy(m impl.MdlHouse) impl.MdlHouse {
	m.Keys, m.Used, m.Repos = slices.Clone(m.Keys), slices.Clone(m.Used), slices.Clone(m.Repos)
	for i, repo := range m.Repos {
		m.Repos[i].Rules, m.Repos[i].Refs = slices.Clone(repo.Rules), slices.Clone(repo.Refs)
		for k, ref := range repo.Refs {
			m.Repos[i].Refs[k].Versions = slices.Clone(ref.Versions)
			for v, files := range ref.Versions {
				m.Repos[i].Refs[k].Versions[v] = slices.Clone(files)
			}
		}
	}
	return m
}

func inRange(n, least, most int) bool { return n >= least && n <= most }

func houseByHand(m impl.MdlHouse) bool {
	ok := inRange(len(m.Keys), 1, 4) && len(m.Used) == len(m.Keys) && inRange(len(m.Repos), 1, 3)
	for _, key := range m.Keys {
		ok = ok && inRange(key, 1, 9999)
	}
	for _, used := range m.Used {
		ok = ok && inRange(used, 0, 200)
	}
	for _, repo := range m.Repos {
		ok = ok && inRange(repo.Admin, 1, len(m.Keys)) && rulesByHand(repo.Rules) && len(repo.Refs) <= 3
		for i, ref := range repo.Refs {
			ok = ok && nameForm.MatchString(ref.Name) && inRange(ref.Count, 0, 14) && inRange(len(ref.Versions), 1, 3)
			ok = ok && (i == 0 || repo.Refs[i-1].Name < ref.Name)
			for _, files := range ref.Versions {
				ok = ok && treeByHand(files)
			}
		}
	}
	return ok
}

// refAt is the place of a name, below 0 if there is none.
func refAt(repo impl.MdlRepo, name string) int {
	return slices.IndexFunc(repo.Refs, func(ref impl.MdlRef) bool { return ref.Name == name })
}

func sizeByHand(edits []impl.TreEdit) int {
	size := 0
	for _, e := range edits {
		size += len(e.Path + e.Bytes)
	}
	return size
}

// mayTurnByHand says whether the user of a request of ReqWrites may ask it.
func mayTurnByHand(m impl.MdlHouse, q impl.ReqReq) bool {
	rules := m.Repos[q.Repo].Rules
	if q.Kind == impl.ReqPut {
		may := len(q.Edits) > 0
		for _, e := range q.Edits {
			may = may && mayByHand(rules, q.User, q.Ref, e.Path, true)
		}
		return may
	}
	may := mayByHand(rules, q.User, q.Ref, "", true)
	if q.Kind == impl.ReqCopy {
		may = may && q.From < len(m.Repos) && mayByHand(m.Repos[q.From].Rules, q.User, q.Other, "", false)
	}
	return may
}

// versionByHand is what a request of ReqWrites lays down, or the code that says why not.
func versionByHand(m impl.MdlHouse, q impl.ReqReq, ref impl.MdlRef) ([]impl.TreFile, int) {
	n := len(ref.Versions)
	switch q.Kind {
	case impl.ReqPut:
		if files, ok := turnByHand(ref.Versions[n-1], q.Edits); ok {
			return files, impl.AnsDone
		}
	case impl.ReqReset:
		if ref.Guard {
			return nil, impl.AnsGuarded
		}
		if q.Back < n {
			return ref.Versions[n-1-q.Back], impl.AnsDone
		}
	case impl.ReqCopy:
		if at := refAt(m.Repos[q.From], q.Other); at >= 0 {
			other := m.Repos[q.From].Refs[at].Versions
			return other[len(other)-1], impl.AnsDone
		}
	}
	return nil, impl.AnsBad
}

// codeByHand is the first code that fits, of a house and a request that are ok.
func codeByHand(m impl.MdlHouse, q impl.ReqReq) int {
	if !inRange(q.User, 1, len(m.Keys)) || m.Keys[q.User-1] != q.Key {
		return impl.AnsStranger
	}
	if q.Kind == impl.ReqUsed {
		return impl.AnsDone
	}
	if q.Repo >= len(m.Repos) {
		return impl.AnsNoRepo
	}
	repo := m.Repos[q.Repo]
	at := refAt(repo, q.Ref)
	admin := repo.Admin == q.User
	switch k := q.Kind; {
	case k == impl.ReqLook && !seesByHand(repo.Rules, q.User, q.Ref):
		return impl.AnsMayNot
	case k == impl.ReqLook && at < 0:
		return impl.AnsNoRef
	case k == impl.ReqLook && q.Back >= len(repo.Refs[at].Versions):
		return impl.AnsBad
	case k == impl.ReqLook, k == impl.ReqRefs:
		return impl.AnsDone
	case k >= impl.ReqAllow && k <= impl.ReqGuard && !admin:
		return impl.AnsMayNot
	case k == impl.ReqAllow && len(repo.Rules) == 6:
		return impl.AnsFull
	case k == impl.ReqAllow && slices.Contains(repo.Rules, q.Rule):
		return impl.AnsBad
	case k == impl.ReqForbid && !slices.Contains(repo.Rules, q.Rule):
		return impl.AnsBad
	case k == impl.ReqName && (at >= 0 || q.Ref == ""):
		return impl.AnsBad
	case k == impl.ReqName && len(repo.Refs) == 3:
		return impl.AnsFull
	case (k == impl.ReqGuard || k == impl.ReqDrop) && at < 0:
		return impl.AnsNoRef
	case k == impl.ReqDrop && repo.Refs[at].Guard:
		return impl.AnsGuarded
	case k >= impl.ReqAllow && k <= impl.ReqGuard:
		return impl.AnsDone
	case !mayTurnByHand(m, q):
		return impl.AnsMayNot
	case at < 0:
		return impl.AnsNoRef
	case repo.Refs[at].Count != q.Old:
		return impl.AnsStale
	case repo.Refs[at].Count == 14:
		return impl.AnsFull
	}
	_, code := versionByHand(m, q, repo.Refs[at])
	if code == impl.AnsDone && m.Used[q.User-1]+sizeByHand(q.Edits) > 200 {
		return impl.AnsOver
	}
	return code
}

// doByHand is what MdlDo must answer, of any house and request.
func doByHand(m impl.MdlHouse, q impl.ReqReq) (impl.MdlHouse, impl.AnsAnswer) {
	if !houseByHand(m) || !requestByHand(q) {
		return impl.MdlHouse{}, impl.AnsAnswer{}
	}
	m = houseCopy(m)
	answer := impl.AnsAnswer{Code: codeByHand(m, q)}
	if answer.Code != impl.AnsDone {
		return m, answer
	}
	if q.Kind == impl.ReqUsed {
		answer.N = m.Used[q.User-1]
		return m, answer
	}
	repo := &m.Repos[q.Repo]
	at := refAt(*repo, q.Ref)
	switch q.Kind {
	case impl.ReqLook:
		versions := repo.Refs[at].Versions
		answer.N = repo.Refs[at].Count
		for _, f := range versions[len(versions)-1-q.Back] {
			if underByHand(q.Path, f.Path) && mayByHand(repo.Rules, q.User, q.Ref, f.Path, false) {
				answer.Files = append(answer.Files, f)
			}
		}
	case impl.ReqRefs:
		for _, ref := range repo.Refs {
			if seesByHand(repo.Rules, q.User, ref.Name) {
				answer.Names = append(answer.Names, ref.Name)
			}
		}
	case impl.ReqAllow:
		repo.Rules = append(repo.Rules, q.Rule)
	case impl.ReqForbid:
		repo.Rules = slices.DeleteFunc(repo.Rules, func(rule impl.RulRule) bool { return rule == q.Rule })
	case impl.ReqName:
		repo.Refs = append(repo.Refs, impl.MdlRef{Name: q.Ref, Versions: make([][]impl.TreFile, 1)})
		slices.SortFunc(repo.Refs, func(a, b impl.MdlRef) int { return slices.Compare([]byte(a.Name), []byte(b.Name)) })
	case impl.ReqDrop:
		repo.Refs = slices.Delete(repo.Refs, at, at+1)
	case impl.ReqGuard:
		repo.Refs[at].Guard = !repo.Refs[at].Guard
	default:
		ref := &repo.Refs[at]
		files, _ := versionByHand(m, q, *ref)
		ref.Versions = append(ref.Versions, files)
		if len(ref.Versions) == 4 {
			ref.Versions = ref.Versions[1:]
		}
		ref.Count++
		m.Used[q.User-1] += sizeByHand(q.Edits)
	}
	return m, answer
}

// fullHouse is ok, and stands at many bounds.
func fullHouse() impl.MdlHouse {
	return impl.MdlHouse{
		Keys: []int{1, 9999, 10, 10},
		Used: []int{0, 200, 1, 199},
		Repos: []impl.MdlRepo{
			{Admin: 1, Rules: rulesOf(6), Refs: []impl.MdlRef{
				{Name: "a", Count: 14, Versions: [][]impl.TreFile{nil, manyFiles(60), filesAt("a/b", "c")}},
				{Name: "ab", Guard: true, Versions: [][]impl.TreFile{filesAt("x")}},
				{Name: "zzz", Count: 7, Versions: [][]impl.TreFile{filesAt("x"), {}}},
			}},
			{Admin: 4},
			{Admin: 2, Rules: []impl.RulRule{{}, {User: 4, Write: true}}, Refs: []impl.MdlRef{{Name: "b", Count: 1, Versions: [][]impl.TreFile{nil}}}},
		},
	}
}

// A turning of a house that is ok, and whether it is ok behind it.
type houseTurn struct {
	what string
	ok   bool
	turn func(m *impl.MdlHouse)
}

func userTurns() []houseTurn {
	var all []houseTurn
	add := func(what string, ok bool, turn func(*impl.MdlHouse)) { all = append(all, houseTurn{what, ok, turn}) }
	for _, n := range []int{0, 1, 2, 3, 4, 5, 6, 500} {
		add(fmt.Sprint(n, " keys"), inRange(n, 1, 4), func(m *impl.MdlHouse) {
			m.Keys, m.Used = slices.Repeat([]int{7}, n), make([]int, n)
			for i := range m.Repos {
				m.Repos[i].Admin = 1
			}
		})
		if n != 4 {
			add(fmt.Sprint(n, " Used of 4 keys"), false, func(m *impl.MdlHouse) { m.Used = make([]int, n) })
		}
	}
	for _, key := range []int{1, 2, 100, 9998, 9999, 0, -1, 10000, 10001, -9999, 1<<32 + 1, math.MaxInt, math.MinInt} {
		for at := range 4 {
			add(fmt.Sprint("the key ", key, " at ", at), inRange(key, 1, 9999), func(m *impl.MdlHouse) { m.Keys[at] = key })
		}
	}
	for _, used := range []int{0, 1, 199, 200, -1, 201, 202, -200, 1 << 32, math.MaxInt, math.MinInt} {
		for at := range 4 {
			add(fmt.Sprint(used, " Used at ", at), inRange(used, 0, 200), func(m *impl.MdlHouse) { m.Used[at] = used })
		}
	}
	add("all keys the same", true, func(m *impl.MdlHouse) { m.Keys = []int{5, 5, 5, 5} })
	return all
}

func repoTurns() []houseTurn {
	var all []houseTurn
	add := func(what string, ok bool, turn func(*impl.MdlHouse)) { all = append(all, houseTurn{what, ok, turn}) }
	for _, n := range []int{0, 1, 2, 3, 4, 5, 400} {
		add(fmt.Sprint(n, " repos"), inRange(n, 1, 3), func(m *impl.MdlHouse) { m.Repos = slices.Repeat([]impl.MdlRepo{{Admin: 4}}, n) })
	}
	for _, admin := range []int{1, 2, 3, 4, 0, -1, 5, 6, 99, 1<<32 + 1, math.MaxInt, math.MinInt} {
		for at := range 3 {
			add(fmt.Sprint("the Admin ", admin, " at ", at), inRange(admin, 1, 4), func(m *impl.MdlHouse) { m.Repos[at].Admin = admin })
		}
	}
	add("the Admin 2 of one user", false, func(m *impl.MdlHouse) { m.Keys, m.Used, m.Repos = []int{1}, []int{0}, []impl.MdlRepo{{Admin: 2}} })
	add("the Admin 3 of three users", true, func(m *impl.MdlHouse) { m.Keys, m.Used, m.Repos = m.Keys[:3], m.Used[:3], []impl.MdlRepo{{Admin: 3}} })
	for n := range 9 {
		add(fmt.Sprint(n, " rules"), n <= 6, func(m *impl.MdlHouse) { m.Repos[1].Rules = rulesOf(n) })
	}
	for _, rule := range []impl.RulRule{{User: 5}, {User: -1}, {Ref: "abcd"}, {Ref: "-"}, {Path: "/"}, {Path: "a/b/c/d"}, rulesOf(1)[0]} {
		for at := 1; at < 6; at++ {
			add(fmt.Sprintf("the rule %#v at %d", rule, at), false, func(m *impl.MdlHouse) { m.Repos[0].Rules[at] = rule })
		}
	}
	return all
}

func refTurns() []houseTurn {
	var all []houseTurn
	add := func(what string, ok bool, turn func(*impl.MdlHouse)) { all = append(all, houseTurn{what, ok, turn}) }
	for n := range 9 {
		add(fmt.Sprint(n, " refs"), n <= 3, func(m *impl.MdlHouse) {
			m.Repos[1].Refs = nil
			for i := range n {
				m.Repos[1].Refs = append(m.Repos[1].Refs, impl.MdlRef{Name: string(rune('a' + i)), Versions: [][]impl.TreFile{nil}})
			}
		})
		add(fmt.Sprint(n, " versions"), inRange(n, 1, 3), func(m *impl.MdlHouse) { m.Repos[2].Refs[0].Versions = make([][]impl.TreFile, n) })
	}
	for _, name := range slices.Concat(allRefs(), noPaths, []string{"a/b", "z"}) {
		add(fmt.Sprintf("one ref %q", name), nameForm.MatchString(name), func(m *impl.MdlHouse) { m.Repos[2].Refs[0].Name = name })
	}
	for _, names := range [][]string{
		{"a", "b", "c"}, {"a", "ab", "abc"}, {"ab", "b", "ba"}, {"a", "c", "b"}, {"b", "a", "c"}, {"c", "b", "a"}, {"b", "c", "a"},
		{"a", "a", "b"}, {"a", "b", "b"}, {"a", "b", "a"}, {"a", "a", "a"}, {"ab", "a", "b"}, {"", "a", "b"}, {"a", "", "b"}, {"a", "b", ""}, {"A", "a", "b"}, {"a", "b", "{"},
	} {
		ok := slices.IsSorted(names) && len(slices.Compact(slices.Clone(names))) == 3 && !slices.ContainsFunc(names, func(s string) bool { return !nameForm.MatchString(s) })
		add(fmt.Sprintf("the refs %q", names), ok, func(m *impl.MdlHouse) {
			for i, name := range names {
				m.Repos[0].Refs[i].Name = name
			}
		})
	}
	for _, count := range []int{0, 1, 13, 14, -1, 15, 16, -14, 99, 1 << 32, math.MaxInt, math.MinInt} {
		for at := range 3 {
			add(fmt.Sprint("the Count ", count, " at ", at), inRange(count, 0, 14), func(m *impl.MdlHouse) { m.Repos[0].Refs[at].Count = count })
		}
	}
	for i, files := range noTrees() {
		for at := range 3 {
			add(fmt.Sprint("no tree, ", i, " at ", at), false, func(m *impl.MdlHouse) { m.Repos[0].Refs[0].Versions[at] = files })
		}
		add(fmt.Sprint("no tree, ", i), false, func(m *impl.MdlHouse) { m.Repos[2].Refs[0].Versions[0] = files })
	}
	for i, files := range manyTrees() {
		add(fmt.Sprint("the tree ", i), true, func(m *impl.MdlHouse) { m.Repos[2].Refs[0].Versions[0] = files })
	}
	return all
}

func houseTurns() []houseTurn {
	return slices.Concat(userTurns(), repoTurns(), refTurns())
}

// noHouses is houses that are not ok, each by another fault.
func noHouses() []impl.MdlHouse {
	all := []impl.MdlHouse{{}}
	for _, c := range houseTurns() {
		if m := houseCopy(fullHouse()); !c.ok {
			c.turn(&m)
			all = append(all, m)
		}
	}
	return all
}

func TestLimitsOfHouses(t *testing.T) {
	if impl.MdlMaxRefs != 3 || impl.MdlMaxBack != 3 || impl.MdlMaxUsed != 200 {
		t.Fatal(impl.MdlMaxRefs, impl.MdlMaxBack, impl.MdlMaxUsed)
	}
}

func TestMdlOk(t *testing.T) {
	if !impl.MdlOk(fullHouse()) || impl.MdlOk(impl.MdlHouse{}) {
		t.Fatal("a house that is ok, or nothing")
	}
	for _, c := range houseTurns() {
		m := houseCopy(fullHouse())
		c.turn(&m)
		if houseByHand(m) != c.ok {
			t.Fatalf("%s: what is asked for is wrong", c.what)
		}
		if impl.MdlOk(m) != c.ok {
			t.Errorf("%s: %v", c.what, !c.ok)
		}
	}
	for _, s := range manyTexts() {
		m := fullHouse()
		m.Repos[2].Refs[0].Name = s
		if impl.MdlOk(m) != nameForm.MatchString(s) {
			t.Fatalf("a ref %q: %v", s, impl.MdlOk(m))
		}
	}
}

func TestMdlOkOfAnyHouse(t *testing.T) {
	r := rand.New(rand.NewPCG(7, 1))
	turns := houseTurns()
	for range 2000 {
		m := anyHouse(r)
		if !houseByHand(m) || !impl.MdlOk(m) {
			t.Fatalf("%#v", m)
		}
		full := houseCopy(fullHouse())
		oneOf(r, turns).turn(&full)
		m.Repos = append(m.Repos, full.Repos...)[len(m.Repos):]
		m.Keys, m.Used = full.Keys, full.Used
		if impl.MdlOk(m) != houseByHand(m) {
			t.Fatalf("%#v: %v", m, !houseByHand(m))
		}
	}
}

func TestMdlNew(t *testing.T) {
	for _, keys := range [][]int{nil, {}, {1}, {9999}, {0}, {-1}, {10000}, {1, 1}, {1, 2, 3}, {4, 3, 2, 1}, {1, 2, 3, 4, 5}, {1, 2, 0}, {10000, 1}, {math.MaxInt}, {math.MinInt, 1}, make([]int, 999)} {
		for _, admins := range [][]int{nil, {}, {1}, {0}, {-1}, {2}, {3}, {4}, {5}, {1, 1, 1}, {1, 2, 3}, {3, 2, 1}, {4, 4}, {1, 0}, {1, 1, 5}, {1, 1, 1, 1}, {math.MaxInt}, {math.MinInt}, make([]int, 999)} {
			want := impl.MdlHouse{Keys: keys, Used: make([]int, len(keys))}
			for _, admin := range admins {
				want.Repos = append(want.Repos, impl.MdlRepo{Admin: admin})
			}
			if !houseByHand(want) {
				want = impl.MdlHouse{}
			}
			got := impl.MdlNew(keys, admins)
			if !sameHouse(got, want) || impl.MdlOk(got) != houseByHand(want) {
				t.Fatalf("of %v and %v: %#v", keys, admins, got)
			}
		}
	}
}

// versionArgs is repos, refs and versions that are there, and others.
func versionArgs() iter.Seq2[[2]int, string] {
	return func(yield func([2]int, string) bool) {
		for _, repo := range []int{0, 1, 2, 3, 4, -1, 1 << 32, math.MaxInt, math.MinInt} {
			for _, back := range []int{0, 1, 2, 3, 4, -1, -3, 1 << 32, math.MaxInt, math.MinInt} {
				for _, ref := range slices.Concat(allRefs(), []string{"c", "z", "zz", "a\x00"}) {
					if !yield([2]int{repo, back}, ref) {
						return
					}
				}
			}
		}
	}
}

func filesByHand(m impl.MdlHouse, repo int, ref string, back int) ([]impl.TreFile, bool) {
	if !houseByHand(m) || repo < 0 || repo >= len(m.Repos) {
		return nil, false
	}
	for _, one := range m.Repos[repo].Refs {
		for i, files := range one.Versions {
			if one.Name == ref && i+1+back == len(one.Versions) {
				return files, true
			}
		}
	}
	return nil, false
}

func seenByHand(m impl.MdlHouse, user, repo int, ref string, back int) []impl.TreFile {
	files, _ := filesByHand(m, repo, ref, back)
	var seen []impl.TreFile
	for _, f := range files {
		if mayByHand(m.Repos[repo].Rules, user, ref, f.Path, false) {
			seen = append(seen, f)
		}
	}
	return seen
}

func TestFilesAndSeesOfAnyArguments(t *testing.T) {
	r := rand.New(rand.NewPCG(7, 2))
	seen := map[bool]int{}
	houses := []impl.MdlHouse{fullHouse(), {}}
	for range 14 {
		houses = append(houses, anyHouse(r))
	}
	for _, m := range houses {
		for at, ref := range versionArgs() {
			want, ok := filesByHand(m, at[0], ref, at[1])
			seen[ok]++
			if got, fine := impl.MdlFiles(m, at[0], ref, at[1]); fine != ok || !sameFiles(got, want) {
				t.Fatalf("%v %q of %#v: %q, %v", at, ref, m, got, fine)
			}
			for _, user := range []int{oneOf(r, someUsers), oneOf(r, noUsers)} {
				if got := impl.MdlSees(m, user, at[0], ref, at[1]); !sameFiles(got, seenByHand(m, user, at[0], ref, at[1])) {
					t.Fatalf("user %d, %v %q of %#v: %q", user, at, ref, m, got)
				}
			}
		}
	}
	if seen[true] < 100 || seen[false] < 100 {
		t.Fatal("too few were asked:", seen)
	}
}

func TestFilesAndSeesOfWhatIsNotOk(t *testing.T) {
	for _, m := range noHouses() {
		for repo := range 3 {
			for _, ref := range []string{"a", "b", "zzz", ""} {
				if got, ok := impl.MdlFiles(m, repo, ref, 0); ok || len(got) != 0 {
					t.Fatalf("%d %q of %#v: %q, %v", repo, ref, m, got, ok)
				}
				if got := impl.MdlSees(m, 4, repo, ref, 0); len(got) != 0 {
					t.Fatalf("%d %q of %#v: %q", repo, ref, m, got)
				}
			}
		}
	}
}

func anyHouse(r *rand.Rand) impl.MdlHouse {
	var m impl.MdlHouse
	for range 1 + r.IntN(4) {
		m.Keys = append(m.Keys, oneOf(r, []int{1, 10, 11, 12, 9999}))
		m.Used = append(m.Used, oneOf(r, []int{0, 1, 50, 100, 180, 190, 195, 199, 200}))
	}
	for range 1 + r.IntN(3) {
		m.Repos = append(m.Repos, anyRepo(r, len(m.Keys)))
	}
	return m
}

func anyRepo(r *rand.Rand, users int) impl.MdlRepo {
	repo := impl.MdlRepo{Admin: 1 + r.IntN(users), Rules: okRules(r, 6)}
	if r.IntN(8) == 0 {
		repo.Rules = rulesOf(6)
	}
	wide := impl.RulRule{User: r.IntN(users + 1), Write: r.IntN(4) > 0}
	if len(repo.Rules) < 6 && r.IntN(3) > 0 && !slices.Contains(repo.Rules, wide) {
		repo.Rules = append(repo.Rules, wide)
	}
	for _, name := range []string{"a", "ab", "b", "zzz"} {
		if len(repo.Refs) < 3 && r.IntN(3) > 0 {
			repo.Refs = append(repo.Refs, anyRef(r, name))
		}
	}
	return repo
}

func anyRef(r *rand.Rand, name string) impl.MdlRef {
	ref := impl.MdlRef{Name: name, Guard: r.IntN(4) == 0, Count: oneOf(r, []int{0, 1, 2, 5, 13, 14})}
	for range 1 + r.IntN(3) {
		files := anyTree(r, 6)
		if r.IntN(40) == 0 {
			files = manyFiles(60)
		}
		ref.Versions = append(ref.Versions, files)
	}
	return ref
}

// okEdits is edits that a request may have; they mostly turn the files into a tree.
func okEdits(r *rand.Rand, files []impl.TreFile) []impl.TreEdit {
	var edits []impl.TreEdit
	fit := r.IntN(3) > 0
	for _, e := range slices.Concat(anyEdits(r, files), anyEdits(r, files)) {
		more := append(slices.Clone(edits), e)
		if _, fits := turnByHand(files, more); len(more) <= 4 && editByHand(e) && (fits || !fit) {
			edits = more
		}
	}
	return edits[:r.IntN(len(edits)+1)]
}

// someWriter is a user who may write all in a ref, if one is found.
func someWriter(r *rand.Rand, m impl.MdlHouse, repo impl.MdlRepo, ref string) int {
	user := 1 + r.IntN(len(m.Keys))
	for range 4 {
		if mayByHand(repo.Rules, user, ref, "", true) {
			break
		}
		user = 1 + r.IntN(len(m.Keys))
	}
	return user
}

// toRef makes a request one that fits a ref.
func toRef(r *rand.Rand, q *impl.ReqReq, ref impl.MdlRef) {
	latest := ref.Versions[len(ref.Versions)-1]
	q.Ref, q.Path, q.Edits = ref.Name, "", okEdits(r, latest)
	if r.IntN(6) > 0 {
		q.Old = ref.Count
	}
	if r.IntN(8) > 0 {
		q.Back = r.IntN(len(ref.Versions))
	}
	if len(latest) > 0 && r.IntN(2) == 0 {
		q.Path = impl.PthFirst(oneOf(r, latest).Path)
	}
}

// requestTo is ok, of one of the kinds (of any, if none are told), and often fits the house so far that it is done.
func requestTo(r *rand.Rand, m impl.MdlHouse, kinds ...int) impl.ReqReq {
	q := okRequest(r)
	if len(kinds) > 0 {
		q.Kind = oneOf(r, kinds)
	}
	if r.IntN(15) > 0 {
		q.Repo = r.IntN(len(m.Repos))
	}
	repo := m.Repos[q.Repo%len(m.Repos)]
	if len(repo.Refs) > 0 && r.IntN(6) > 0 && (q.Kind != impl.ReqName || r.IntN(3) == 0) {
		toRef(r, &q, oneOf(r, repo.Refs))
	}
	if len(repo.Rules) > 0 && (q.Kind == impl.ReqForbid || r.IntN(3) == 0) {
		q.Rule = oneOf(r, repo.Rules)
	}
	if r.IntN(8) > 0 {
		q.From = r.IntN(len(m.Repos))
	}
	if from := m.Repos[q.From%len(m.Repos)]; len(from.Refs) > 0 && r.IntN(8) > 0 {
		q.Other = oneOf(r, from.Refs).Name
	}
	if r.IntN(25) > 0 {
		q.User = 1 + r.IntN(len(m.Keys))
		if r.IntN(4) > 0 && q.Kind >= impl.ReqAllow && q.Kind <= impl.ReqGuard {
			q.User = repo.Admin
		}
		if r.IntN(4) > 0 && impl.ReqWrites(q) {
			q.User = someWriter(r, m, repo, q.Ref)
		}
	}
	if q.User >= 1 && q.User <= len(m.Keys) && r.IntN(25) > 0 {
		q.Key = m.Keys[q.User-1]
	}
	if r.IntN(3) == 0 {
		q = keepParts(q, kindHas[q.Kind].has)
	}
	return q
}

// asking is a request of a house, and what came of it.
type asking struct {
	m    impl.MdlHouse
	q    impl.ReqReq
	then impl.MdlHouse
	a    impl.AnsAnswer
}

func ask(m impl.MdlHouse, q impl.ReqReq) asking {
	then, a := impl.MdlDo(m, q)
	return asking{m, q, then, a}
}

// askings is so many requests of any houses, and of such as come to be from MdlNew on; of some kinds, if they are told.
func askings(seed uint64, n int, kinds ...int) iter.Seq[asking] {
	return func(yield func(asking) bool) {
		r := rand.New(rand.NewPCG(7, seed))
		var any, grown impl.MdlHouse
		for i := range n / 2 {
			if i%4 == 0 {
				any = anyHouse(r)
			}
			if i%150 == 0 {
				grown = impl.MdlNew([]int{10, 11, 10}, []int{1, 3})
				grown.Repos[r.IntN(2)].Rules = []impl.RulRule{{User: r.IntN(3), Write: true}}
			}
			if !yield(ask(any, requestTo(r, any, kinds...))) || !yield(ask(grown, requestTo(r, grown, kinds...))) {
				return
			}
			grown, _ = impl.MdlDo(grown, requestTo(r, grown))
		}
	}
}

// kindCodes is the codes of a kind, in the order in which they are looked for.
var kindCodes = map[int][]int{
	impl.ReqPut:    {impl.AnsStranger, impl.AnsNoRepo, impl.AnsMayNot, impl.AnsNoRef, impl.AnsStale, impl.AnsFull, impl.AnsBad, impl.AnsOver, impl.AnsDone},
	impl.ReqReset:  {impl.AnsStranger, impl.AnsNoRepo, impl.AnsMayNot, impl.AnsNoRef, impl.AnsStale, impl.AnsFull, impl.AnsGuarded, impl.AnsBad, impl.AnsOver, impl.AnsDone},
	impl.ReqCopy:   {impl.AnsStranger, impl.AnsNoRepo, impl.AnsMayNot, impl.AnsNoRef, impl.AnsStale, impl.AnsFull, impl.AnsBad, impl.AnsOver, impl.AnsDone},
	impl.ReqLook:   {impl.AnsStranger, impl.AnsNoRepo, impl.AnsMayNot, impl.AnsNoRef, impl.AnsBad, impl.AnsDone},
	impl.ReqRefs:   {impl.AnsStranger, impl.AnsNoRepo, impl.AnsDone},
	impl.ReqAllow:  {impl.AnsStranger, impl.AnsNoRepo, impl.AnsMayNot, impl.AnsFull, impl.AnsBad, impl.AnsDone},
	impl.ReqForbid: {impl.AnsStranger, impl.AnsNoRepo, impl.AnsMayNot, impl.AnsBad, impl.AnsDone},
	impl.ReqName:   {impl.AnsStranger, impl.AnsNoRepo, impl.AnsMayNot, impl.AnsBad, impl.AnsFull, impl.AnsDone},
	impl.ReqDrop:   {impl.AnsStranger, impl.AnsNoRepo, impl.AnsMayNot, impl.AnsNoRef, impl.AnsGuarded, impl.AnsDone},
	impl.ReqGuard:  {impl.AnsStranger, impl.AnsNoRepo, impl.AnsMayNot, impl.AnsNoRef, impl.AnsDone},
	impl.ReqUsed:   {impl.AnsStranger, impl.AnsDone},
}

func TestDoOfAnyRequest(t *testing.T) {
	seen := map[[2]int]int{}
	for one := range askings(3, 30000) {
		then, a := doByHand(one.m, one.q)
		if !sameAnswer(one.a, a) || !sameHouse(one.then, then) {
			t.Fatalf("%#v of %#v: %#v, %#v; not %#v, %#v", one.q, one.m, one.then, one.a, then, a)
		}
		seen[[2]int{one.q.Kind, a.Code}]++
	}
	for kind, codes := range kindCodes {
		for code := range 12 {
			n := seen[[2]int{kind, code}]
			if slices.Contains(codes, code) != (n > 0) || n > 0 && n < 10 {
				t.Errorf("kind %d was answered %d so often: %d", kind, code, n)
			}
		}
	}
}

func TestDoOfWhatIsNotOk(t *testing.T) {
	r := rand.New(rand.NewPCG(7, 4))
	nothing := func(m impl.MdlHouse, q impl.ReqReq) {
		t.Helper()
		if then, a := impl.MdlDo(m, q); !sameHouse(then, impl.MdlHouse{}) || !sameAnswer(a, impl.AnsAnswer{}) {
			t.Fatalf("%#v of %#v: %#v, %#v", q, m, then, a)
		}
	}
	for _, m := range noHouses() {
		for kind := 1; kind <= 11; kind++ {
			nothing(m, impl.ReqReq{User: 1, Key: 1, Kind: kind, Ref: "a", Old: 14, Other: "a", Edits: editsOf(1)})
			nothing(m, impl.ReqReq{Kind: kind})
			nothing(m, impl.ReqReq{User: -1, Kind: kind})
		}
	}
	bad := 0
	for range 5000 {
		q := anyRequest(r)
		if requestByHand(q) {
			continue
		}
		bad++
		nothing(fullHouse(), q)
		m := anyHouse(r)
		if q.User >= 1 && q.User <= len(m.Keys) {
			q.Key = m.Keys[q.User-1]
		}
		if !requestByHand(q) {
			nothing(m, q)
		}
	}
	nothing(fullHouse(), impl.ReqReq{})
	nothing(fullHouse(), impl.ReqReq{User: 1, Key: 1})
	nothing(fullHouse(), impl.ReqReq{User: 1, Key: 1, Kind: 12})
	// What a kind has not must be ok, too.
	nothing(fullHouse(), impl.ReqReq{User: 1, Key: 1, Kind: impl.ReqUsed, Path: "/"})
	nothing(fullHouse(), impl.ReqReq{User: 1, Key: 1, Kind: impl.ReqUsed, Rule: impl.RulRule{User: 5}})
	nothing(fullHouse(), impl.ReqReq{User: 1, Key: 1, Kind: impl.ReqRefs, Edits: editsOf(5)})
	if bad < 500 {
		t.Fatal("too few were asked:", bad)
	}
}

// fault makes a code fit, whatever other faults there are.
type fault struct {
	code int
	make func(m *impl.MdlHouse, q *impl.ReqReq)
}

// calmHouse is one in which each of calmRequest is done.
func calmHouse() impl.MdlHouse {
	return impl.MdlHouse{
		Keys: []int{10, 11, 12, 13},
		Used: []int{20, 30, 0, 0},
		Repos: []impl.MdlRepo{
			{Admin: 1, Rules: []impl.RulRule{{User: 2, Write: true}, {User: 4, Ref: "b"}}, Refs: []impl.MdlRef{
				{Name: "a", Count: 5, Versions: [][]impl.TreFile{nil, filesAt("x"), filesAt("x", "y/z")}},
				{Name: "b", Versions: [][]impl.TreFile{filesAt("z")}},
			}},
			{Admin: 2, Rules: []impl.RulRule{{User: 2, Ref: "c"}}, Refs: []impl.MdlRef{{Name: "c", Count: 14, Guard: true, Versions: [][]impl.TreFile{filesAt("w")}}}},
		},
	}
}

// calmRequest is by user 1 where that must be Admin, else by user 2, who is not.
func calmRequest(kind int) impl.ReqReq {
	q := impl.ReqReq{User: 2, Key: 11, Kind: kind, Ref: "a"}
	switch kind {
	case impl.ReqPut:
		q.Old, q.Edits = 5, []impl.TreEdit{{Path: "x", Bytes: "9"}, {Path: "y/z", Gone: true}}
	case impl.ReqLook:
		q.Back = 2
	case impl.ReqReset:
		q.Old, q.Back = 5, 1
	case impl.ReqCopy:
		q.Old, q.From, q.Other = 5, 1, "c"
	case impl.ReqAllow, impl.ReqForbid, impl.ReqName, impl.ReqDrop, impl.ReqGuard:
		q.User, q.Key = 1, 10
		q.Rule = impl.RulRule{User: 3, Path: "x"}
		if kind == impl.ReqForbid {
			q.Rule = impl.RulRule{User: 4, Ref: "b"}
		}
		if kind == impl.ReqName {
			q.Ref = "aa"
		}
	}
	return q
}

func faultsOfAll(kind int) []fault {
	all := []fault{
		{impl.AnsStranger, func(m *impl.MdlHouse, q *impl.ReqReq) { q.Key = 13 }},
		{impl.AnsStranger, func(m *impl.MdlHouse, q *impl.ReqReq) { q.Key = 0 }},
		{impl.AnsStranger, func(m *impl.MdlHouse, q *impl.ReqReq) { q.User = 0 }},
		{impl.AnsStranger, func(m *impl.MdlHouse, q *impl.ReqReq) { q.User = 3 }},
		{impl.AnsStranger, func(m *impl.MdlHouse, q *impl.ReqReq) { q.User, q.Key = 5, 13 }},
		{impl.AnsStranger, func(m *impl.MdlHouse, q *impl.ReqReq) { q.User = 99 }},
		{impl.AnsStranger, func(m *impl.MdlHouse, q *impl.ReqReq) { m.Keys[q.User%5-min(1, q.User%5)] = 7 }},
	}
	if kind != impl.ReqUsed {
		all = append(all,
			fault{impl.AnsNoRepo, func(m *impl.MdlHouse, q *impl.ReqReq) { q.Repo = 2 }},
			fault{impl.AnsNoRepo, func(m *impl.MdlHouse, q *impl.ReqReq) { q.Repo = 99 }})
	}
	if kind != impl.ReqUsed && kind != impl.ReqRefs && kind != impl.ReqAllow && kind != impl.ReqForbid && kind != impl.ReqName {
		all = append(all,
			fault{impl.AnsNoRef, func(m *impl.MdlHouse, q *impl.ReqReq) { q.Ref = "q" }},
			fault{impl.AnsNoRef, func(m *impl.MdlHouse, q *impl.ReqReq) { q.Ref = "" }},
			fault{impl.AnsNoRef, func(m *impl.MdlHouse, q *impl.ReqReq) { q.Ref = "c" }})
	}
	return all
}

// rulesAre sets the rules of a repo, for faults.
func rulesAre(repo int, rules ...impl.RulRule) func(*impl.MdlHouse, *impl.ReqReq) {
	return func(m *impl.MdlHouse, q *impl.ReqReq) { m.Repos[repo].Rules = rules }
}

func faultsOfAdmin(kind int) []fault {
	all := []fault{
		{impl.AnsMayNot, func(m *impl.MdlHouse, q *impl.ReqReq) { m.Repos[0].Admin = 2 }},
		{impl.AnsMayNot, func(m *impl.MdlHouse, q *impl.ReqReq) { q.User, q.Key = 2, 11 }},
		{impl.AnsMayNot, func(m *impl.MdlHouse, q *impl.ReqReq) { q.User, q.Key, q.Repo = 1, 10, 1 }},
	}
	switch kind {
	case impl.ReqAllow:
		all = append(all,
			fault{impl.AnsFull, func(m *impl.MdlHouse, q *impl.ReqReq) {
				m.Repos[0].Rules = append(m.Repos[0].Rules, rulesOf(6-len(m.Repos[0].Rules))...)
			}},
			fault{impl.AnsBad, func(m *impl.MdlHouse, q *impl.ReqReq) { m.Repos[0].Rules = append(m.Repos[0].Rules, q.Rule) }},
			fault{impl.AnsBad, func(m *impl.MdlHouse, q *impl.ReqReq) { q.Rule = impl.RulRule{User: 2, Write: true} }})
	case impl.ReqForbid:
		all = append(all,
			fault{impl.AnsBad, func(m *impl.MdlHouse, q *impl.ReqReq) { q.Rule.Write = true }},
			fault{impl.AnsBad, func(m *impl.MdlHouse, q *impl.ReqReq) { q.Rule = impl.RulRule{} }},
			fault{impl.AnsBad, rulesAre(0)})
	case impl.ReqName:
		all = append(all,
			fault{impl.AnsBad, func(m *impl.MdlHouse, q *impl.ReqReq) { q.Ref = "a" }},
			fault{impl.AnsBad, func(m *impl.MdlHouse, q *impl.ReqReq) { q.Ref = "" }},
			fault{impl.AnsFull, func(m *impl.MdlHouse, q *impl.ReqReq) {
				m.Repos[0].Refs = append(m.Repos[0].Refs, impl.MdlRef{Name: "z", Versions: make([][]impl.TreFile, 1)})
			}})
	case impl.ReqDrop:
		all = append(all, fault{impl.AnsGuarded, func(m *impl.MdlHouse, q *impl.ReqReq) { m.Repos[0].Refs[0].Guard = true }})
	}
	return all
}

func faultsOfLook() []fault {
	return []fault{
		{impl.AnsMayNot, rulesAre(0)},
		{impl.AnsMayNot, rulesAre(0, impl.RulRule{User: 1}, impl.RulRule{User: 3, Write: true})},
		{impl.AnsMayNot, rulesAre(0, impl.RulRule{Ref: "b"})},
		{impl.AnsBad, func(m *impl.MdlHouse, q *impl.ReqReq) { q.Back = 3 }},
		{impl.AnsBad, func(m *impl.MdlHouse, q *impl.ReqReq) { q.Back = 99 }},
		{impl.AnsBad, func(m *impl.MdlHouse, q *impl.ReqReq) { m.Repos[0].Refs[0].Versions = make([][]impl.TreFile, 2) }},
	}
}

// faultsOfWriting is those that a put, a reset and a copy have in common.
func faultsOfWriting() []fault {
	over := func(used int) func(*impl.MdlHouse, *impl.ReqReq) {
		return func(m *impl.MdlHouse, q *impl.ReqReq) {
			m.Used[1] = used
			if len(q.Edits) == 0 {
				q.Edits = []impl.TreEdit{{Path: "x", Bytes: "1234"}}
			}
		}
	}
	return []fault{
		{impl.AnsMayNot, rulesAre(0)},
		{impl.AnsMayNot, rulesAre(0, impl.RulRule{User: 2}, impl.RulRule{User: 1, Write: true})},
		{impl.AnsMayNot, rulesAre(0, impl.RulRule{User: 2}, impl.RulRule{User: 2, Path: "mm", Write: true})},
		{impl.AnsMayNot, rulesAre(0, impl.RulRule{}, impl.RulRule{User: 2, Ref: "b", Write: true})},
		{impl.AnsStale, func(m *impl.MdlHouse, q *impl.ReqReq) { q.Old = 4 }},
		{impl.AnsStale, func(m *impl.MdlHouse, q *impl.ReqReq) { q.Old = 99 }},
		{impl.AnsStale, func(m *impl.MdlHouse, q *impl.ReqReq) { m.Repos[0].Refs[0].Count, q.Old = 0, 1 }},
		{impl.AnsFull, func(m *impl.MdlHouse, q *impl.ReqReq) { m.Repos[0].Refs[0].Count, q.Old = 14, 14 }},
		{impl.AnsOver, over(200)},
		{impl.AnsOver, over(196)},
	}
}

func faultsOfPut() []fault {
	return append(faultsOfWriting(),
		fault{impl.AnsMayNot, func(m *impl.MdlHouse, q *impl.ReqReq) { q.Edits = nil }},
		fault{impl.AnsMayNot, func(m *impl.MdlHouse, q *impl.ReqReq) {
			m.Repos[0].Rules = []impl.RulRule{{User: 2, Path: "x", Write: true}, {User: 2}}
			q.Edits = []impl.TreEdit{{Path: "x"}, {Path: "xx"}}
		}},
		fault{impl.AnsBad, func(m *impl.MdlHouse, q *impl.ReqReq) { q.Edits = []impl.TreEdit{{Path: "q", Gone: true}} }},
		fault{impl.AnsBad, func(m *impl.MdlHouse, q *impl.ReqReq) { q.Edits = []impl.TreEdit{{Path: "x/y", Bytes: "12"}} }},
		fault{impl.AnsBad, func(m *impl.MdlHouse, q *impl.ReqReq) { m.Repos[0].Refs[0].Versions[2] = filesAt("x/a", "y/z") }},
		fault{impl.AnsBad, func(m *impl.MdlHouse, q *impl.ReqReq) {
			m.Repos[0].Refs[0].Versions[2], q.Edits = manyFiles(60), []impl.TreEdit{{Path: "zz", Bytes: "1"}}
		}})
}

func faultsOfReset() []fault {
	return append(faultsOfWriting(),
		fault{impl.AnsMayNot, rulesAre(0, impl.RulRule{User: 2, Path: "x", Write: true}, impl.RulRule{User: 2, Path: "y", Write: true})},
		fault{impl.AnsGuarded, func(m *impl.MdlHouse, q *impl.ReqReq) { m.Repos[0].Refs[0].Guard = true }},
		fault{impl.AnsBad, func(m *impl.MdlHouse, q *impl.ReqReq) { q.Back = 3 }},
		fault{impl.AnsBad, func(m *impl.MdlHouse, q *impl.ReqReq) { m.Repos[0].Refs[0].Versions = make([][]impl.TreFile, 1) }})
}

func faultsOfCopy() []fault {
	return append(faultsOfWriting(),
		fault{impl.AnsMayNot, rulesAre(0, impl.RulRule{User: 2, Path: "w", Write: true}, impl.RulRule{User: 2})},
		fault{impl.AnsMayNot, rulesAre(1)},
		fault{impl.AnsMayNot, rulesAre(1, impl.RulRule{User: 2, Path: "w", Write: true})},
		fault{impl.AnsMayNot, rulesAre(1, impl.RulRule{User: 1, Write: true})},
		fault{impl.AnsMayNot, rulesAre(1, impl.RulRule{Ref: "zz", Write: true})},
		fault{impl.AnsMayNot, func(m *impl.MdlHouse, q *impl.ReqReq) { q.From = 2 }},
		fault{impl.AnsMayNot, func(m *impl.MdlHouse, q *impl.ReqReq) { q.From = 99 }},
		fault{impl.AnsBad, func(m *impl.MdlHouse, q *impl.ReqReq) { m.Repos[1].Refs = nil }},
		fault{impl.AnsBad, func(m *impl.MdlHouse, q *impl.ReqReq) { m.Repos[1].Rules, q.Other = []impl.RulRule{{}}, "" }},
		fault{impl.AnsBad, func(m *impl.MdlHouse, q *impl.ReqReq) { m.Repos[1].Rules, q.Other = []impl.RulRule{{}}, "a" }})
}

// faultsOf is the faults of a kind, in the order in which their codes are looked for.
func faultsOf(kind int) []fault {
	all := faultsOfAll(kind)
	switch kind {
	case impl.ReqLook:
		all = append(all, faultsOfLook()...)
	case impl.ReqPut:
		all = append(all, faultsOfPut()...)
	case impl.ReqReset:
		all = append(all, faultsOfReset()...)
	case impl.ReqCopy:
		all = append(all, faultsOfCopy()...)
	case impl.ReqAllow, impl.ReqForbid, impl.ReqName, impl.ReqDrop, impl.ReqGuard:
		all = append(all, faultsOfAdmin(kind)...)
	}
	place := func(f fault) int { return slices.Index(kindCodes[kind], f.code) }
	slices.SortStableFunc(all, func(a, b fault) int { return place(a) - place(b) })
	return all
}

// askFaults asks a request with faults, which rise by their codes: the first is told, alone, and nothing is turned.
func askFaults(t *testing.T, kind int, faults ...fault) {
	t.Helper()
	m, q := calmHouse(), calmRequest(kind)
	// The last one is made first, so that the first one stands whatever the others do.
	for _, f := range slices.Backward(faults) {
		f.make(&m, &q)
	}
	var codes []int
	for _, f := range faults {
		codes = append(codes, f.code)
	}
	if !houseByHand(m) || !requestByHand(q) {
		t.Fatalf("kind %d, faults %v: house or request is not ok: %#v, %#v", kind, codes, m, q)
	}
	then, a := impl.MdlDo(m, q)
	if !sameAnswer(a, impl.AnsAnswer{Code: codes[0]}) || !sameHouse(then, m) {
		t.Fatalf("kind %d, faults %v: %#v, %#v of %#v: %#v", kind, codes, a, q, m, then)
	}
}

func TestFirstCodeThatFitsIsTold(t *testing.T) {
	r := rand.New(rand.NewPCG(7, 5))
	for kind, codes := range kindCodes {
		if _, a := impl.MdlDo(calmHouse(), calmRequest(kind)); a.Code != impl.AnsDone {
			t.Fatalf("kind %d: %#v", kind, a)
		}
		faults := faultsOf(kind)
		for _, code := range codes {
			if code != impl.AnsDone && !slices.ContainsFunc(faults, func(f fault) bool { return f.code == code }) {
				t.Fatalf("kind %d: no fault %d", kind, code)
			}
		}
		for i, a := range faults {
			askFaults(t, kind, a)
			for _, b := range faults[i+1:] {
				if a.code != b.code {
					askFaults(t, kind, a, b)
				}
			}
		}
		for range 3000 {
			some := slices.DeleteFunc(slices.Clone(faults), func(fault) bool { return r.IntN(3) > 0 })
			// Two faults of one code may undo each other.
			some = slices.CompactFunc(some, func(a, b fault) bool { return a.code == b.code })
			if len(some) > 0 {
				askFaults(t, kind, some...)
			}
		}
	}
}

// What a house was behind what was done to it, told in whole.
func TestDoByHand(t *testing.T) {
	m := impl.MdlNew([]int{10, 11, 12}, []int{1, 2})
	must := func(q impl.ReqReq, want impl.AnsAnswer) {
		t.Helper()
		then, a := impl.MdlDo(m, q)
		if !sameAnswer(a, want) {
			t.Fatalf("%#v: %#v, not %#v", q, a, want)
		}
		m = then
	}
	done := impl.AnsAnswer{Code: impl.AnsDone}
	lay := func(path, bytes string) impl.TreEdit { return impl.TreEdit{Path: path, Bytes: bytes} }
	file := func(path, bytes string) impl.TreFile { return impl.TreFile{Path: path, Bytes: bytes} }
	one, two := impl.ReqReq{User: 1, Key: 10}, impl.ReqReq{User: 2, Key: 11}
	with := func(q impl.ReqReq, turn func(*impl.ReqReq)) impl.ReqReq {
		turn(&q)
		return q
	}
	must(with(one, func(q *impl.ReqReq) { q.Kind, q.Ref = impl.ReqName, "b" }), done)
	must(with(one, func(q *impl.ReqReq) { q.Kind, q.Ref = impl.ReqName, "a" }), done)
	must(with(one, func(q *impl.ReqReq) { q.Kind, q.Rule = impl.ReqAllow, impl.RulRule{User: 1, Write: true} }), done)
	must(with(one, func(q *impl.ReqReq) { q.Kind, q.Rule = impl.ReqAllow, impl.RulRule{User: 2, Ref: "a", Path: "pub"} }), done)
	must(with(one, func(q *impl.ReqReq) {
		q.Kind, q.Ref, q.Edits = impl.ReqPut, "a", []impl.TreEdit{lay("pub/x", "A"), lay("own", "B")}
	}), done)
	must(with(two, func(q *impl.ReqReq) { q.Kind, q.Ref = impl.ReqLook, "a" }), impl.AnsAnswer{Code: impl.AnsDone, N: 1, Files: []impl.TreFile{file("pub/x", "A")}})
	must(with(two, func(q *impl.ReqReq) { q.Kind, q.Ref, q.Path = impl.ReqLook, "a", "own" }), impl.AnsAnswer{Code: impl.AnsDone, N: 1})
	must(with(two, func(q *impl.ReqReq) { q.Kind, q.Ref = impl.ReqLook, "b" }), impl.AnsAnswer{Code: impl.AnsMayNot})
	must(with(two, func(q *impl.ReqReq) { q.Kind = impl.ReqRefs }), impl.AnsAnswer{Code: impl.AnsDone, Names: []string{"a"}})
	must(with(one, func(q *impl.ReqReq) { q.Kind = impl.ReqRefs }), impl.AnsAnswer{Code: impl.AnsDone, Names: []string{"a", "b"}})
	must(with(one, func(q *impl.ReqReq) { q.Kind, q.Repo = impl.ReqRefs, 1 }), done)
	must(with(one, func(q *impl.ReqReq) { q.Kind, q.Repo = impl.ReqUsed, 99 }), impl.AnsAnswer{Code: impl.AnsDone, N: 10})
	must(with(two, func(q *impl.ReqReq) { q.Kind = impl.ReqUsed }), done)
	must(with(one, func(q *impl.ReqReq) { q.Kind, q.Ref, q.Other = impl.ReqCopy, "b", "a" }), done)
	must(with(one, func(q *impl.ReqReq) { q.Kind, q.Ref, q.Old, q.Back = impl.ReqReset, "a", 1, 1 }), done)
	// Edits of a reset do nothing, but count.
	must(with(one, func(q *impl.ReqReq) {
		q.Kind, q.Ref, q.Old, q.Back, q.Edits = impl.ReqReset, "a", 2, 1, []impl.TreEdit{lay("qq", "123")}
	}), done)
	must(with(one, func(q *impl.ReqReq) { q.Kind, q.Ref = impl.ReqGuard, "b" }), done)
	must(with(one, func(q *impl.ReqReq) {
		q.Kind, q.Ref, q.Old, q.Edits = impl.ReqPut, "a", 3, []impl.TreEdit{{Path: "own", Gone: true}}
	}), done)
	own := []impl.TreFile{file("own", "B"), file("pub/x", "A")}
	want := impl.MdlHouse{
		Keys: []int{10, 11, 12},
		Used: []int{18, 0, 0},
		Repos: []impl.MdlRepo{
			{Admin: 1, Rules: []impl.RulRule{{User: 1, Write: true}, {User: 2, Ref: "a", Path: "pub"}}, Refs: []impl.MdlRef{
				{Name: "a", Count: 4, Versions: [][]impl.TreFile{nil, own, {file("pub/x", "A")}}},
				{Name: "b", Count: 1, Guard: true, Versions: [][]impl.TreFile{nil, own}},
			}},
			{Admin: 2},
		},
	}
	if !sameHouse(m, want) {
		t.Fatalf("%#v", m)
	}
	must(with(one, func(q *impl.ReqReq) { q.Kind, q.Ref = impl.ReqDrop, "b" }), impl.AnsAnswer{Code: impl.AnsGuarded})
	must(with(one, func(q *impl.ReqReq) { q.Kind, q.Ref = impl.ReqGuard, "b" }), done)
	must(with(one, func(q *impl.ReqReq) { q.Kind, q.Ref = impl.ReqDrop, "b" }), done)
	must(with(one, func(q *impl.ReqReq) { q.Kind, q.Rule = impl.ReqForbid, impl.RulRule{User: 1, Write: true} }), done)
	want.Repos[0].Rules, want.Repos[0].Refs = want.Repos[0].Rules[1:], want.Repos[0].Refs[:1]
	if !sameHouse(m, want) {
		t.Fatalf("%#v", m)
	}
}

// The most that a user may lay down, and one byte more, for each kind that counts edits.
func TestOverIsMoreThanTheMost(t *testing.T) {
	for _, kind := range []int{impl.ReqPut, impl.ReqReset, impl.ReqCopy} {
		for _, used := range []int{194, 195, 196, 197, 200} {
			m, q := calmHouse(), calmRequest(kind)
			m.Used[1], q.Edits = used, []impl.TreEdit{{Path: "x", Bytes: "1234"}}
			then, a := impl.MdlDo(m, q)
			if over := used+5 > 200; (a.Code == impl.AnsOver) != over || (a.Code == impl.AnsDone) == over {
				t.Errorf("kind %d, %d used: %#v", kind, used, a)
			} else if !over && then.Used[1] != used+5 {
				t.Errorf("kind %d, %d used: %d behind it", kind, used, then.Used[1])
			}
		}
		if kind != impl.ReqPut {
			m, q := calmHouse(), calmRequest(kind)
			m.Used[1] = 200
			if then, a := impl.MdlDo(m, q); a.Code != impl.AnsDone || then.Used[1] != 200 {
				t.Errorf("kind %d without edits: %#v", kind, a)
			}
		}
	}
}

// houseFills stands behind the ends of a house's lists.
func houseFills() []any {
	rules, files := []impl.RulRule{{User: 2, Ref: "q"}}, []impl.TreFile{{Path: "filled", Bytes: "filled"}}
	ref := impl.MdlRef{Name: "q", Count: 3, Versions: [][]impl.TreFile{files}}
	return []any{77, rules[0], files[0], files, ref, impl.MdlRepo{Admin: 2, Rules: rules, Refs: []impl.MdlRef{ref}}, impl.TreEdit{Path: "filled"}}
}

func TestHousesShareNoMemory(t *testing.T) {
	r := rand.New(rand.NewPCG(7, 7))
	fills := houseFills()
	bad := noHouses()
	seen := map[int]int{}
	for i := range 6000 {
		m := anyHouse(r)
		q := requestTo(r, m)
		if i%8 == 0 {
			m = oneOf(r, bad)
		}
		m, q = roomy(m, fills...), roomy(q, fills...)
		wholeM, wholeQ := wholeOf(m), wholeOf(q)
		then, a := impl.MdlDo(m, q)
		seen[a.Code]++
		apart(t, "MdlDo", []any{then, a}, m, q)
		files, _ := impl.MdlFiles(m, q.Repo, q.Ref, q.Back)
		apart(t, "MdlFiles", []any{files}, m)
		apart(t, "MdlSees", []any{impl.MdlSees(m, q.User, q.Repo, q.Ref, q.Back)}, m)
		impl.MdlOk(m)
		if !reflect.DeepEqual(wholeOf(m), wholeM) || !reflect.DeepEqual(wholeOf(q), wholeQ) {
			t.Fatalf("an argument was written into: %#v of %#v", q, m)
		}
	}
	for code := range impl.AnsClash {
		if seen[code] < 20 {
			t.Fatal("too few were asked:", seen)
		}
	}
	for _, admins := range [][]int{{1}, {2, 1}, {0}} {
		keys, admins := roomy([]int{1, 2, 3}, 77), roomy(admins, 77)
		wholeKeys, wholeAdmins := wholeOf(keys), wholeOf(admins)
		m := impl.MdlNew(keys, admins)
		apart(t, "MdlNew", []any{m}, keys, admins)
		if !slices.Equal(wholeOf(keys), wholeKeys) || !slices.Equal(wholeOf(admins), wholeAdmins) {
			t.Error("MdlNew wrote into an argument")
		}
	}
}

// What is told once is told again, whatever was done with the first answer.
func TestAnswersOfHousesAreTwo(t *testing.T) {
	for kind := 1; kind <= 11; kind++ {
		m, q := calmHouse(), calmRequest(kind)
		one, a := impl.MdlDo(m, q)
		two, b := impl.MdlDo(m, q)
		apart(t, fmt.Sprint("kind ", kind), []any{one, a, two, b}, m, q)
		if !sameHouse(one, two) || !sameAnswer(a, b) {
			t.Errorf("kind %d is answered twice otherwise", kind)
		}
	}
}
