package tests

import (
	"math/rand/v2"
	"slices"
	"testing"

	"loop.example/chartulary/impl"
)

// enough asks whether each of the things that a test waits for came often enough.
func enough(t *testing.T, seen map[string]int, least int, what ...string) {
	t.Helper()
	for _, w := range what {
		if seen[w] < least {
			t.Fatalf("too few were asked, of %q: %v", w, seen)
		}
	}
}

// known says whether the user of a request is one, with its key.
func known(m impl.MdlHouse, q impl.ReqReq) bool {
	return inRange(q.User, 1, len(m.Keys)) && m.Keys[q.User-1] == q.Key
}

// latestOf is the latest version of a ref of a house that has it.
func latestOf(ref impl.MdlRef) []impl.TreFile {
	return ref.Versions[len(ref.Versions)-1]
}

func refNames(repo impl.MdlRepo) []string {
	var names []string
	for _, ref := range repo.Refs {
		names = append(names, ref.Name)
	}
	return names
}

// P3.
func TestWhatIsTurnedWasAllowed(t *testing.T) {
	seen := map[string]int{}
	for one := range askings(103, 20000) {
		for i, before := range one.m.Repos {
			after := one.then.Repos[i]
			admin := known(one.m, one.q) && one.q.Repo == i && one.q.User == before.Admin
			if !slices.Equal(before.Rules, after.Rules) {
				seen["rules"]++
				if !admin {
					t.Fatalf("%#v turned the rules of %#v", one.q, one.m)
				}
			}
			if !slices.Equal(refNames(before), refNames(after)) {
				seen["names"]++
				if !admin {
					t.Fatalf("%#v turned the refs of %#v", one.q, one.m)
				}
			}
			for _, ref := range before.Refs {
				askTurnedRef(t, one, i, ref, seen)
			}
		}
	}
	enough(t, seen, 100, "rules", "names", "latest", "count")
}

// askTurnedRef asks of a ref that is there behind a request, too, whether what was turned was allowed.
func askTurnedRef(t *testing.T, one asking, repo int, ref impl.MdlRef, seen map[string]int) {
	t.Helper()
	at := refAt(one.then.Repos[repo], ref.Name)
	if at < 0 {
		return
	}
	after := one.then.Repos[repo].Refs[at]
	ofRef := known(one.m, one.q) && impl.ReqWrites(one.q) && one.q.Repo == repo && one.q.Ref == ref.Name
	if differs := differsByHand(latestOf(ref), latestOf(after)); len(differs) > 0 {
		seen["latest"]++
		for _, path := range differs {
			if !ofRef || !mayByHand(one.m.Repos[repo].Rules, one.q.User, ref.Name, path, true) {
				t.Fatalf("%#v turned %q of %#v at %q", one.q, ref.Name, one.m, path)
			}
		}
	}
	if after.Count != ref.Count {
		seen["count"]++
		if !ofRef || after.Count != ref.Count+1 || ref.Count != one.q.Old {
			t.Fatalf("%#v turned the Count of %q of %#v to %d", one.q, ref.Name, one.m, after.Count)
		}
	}
}

// otherBytes is a house in which all that a user may not read has other bytes, as many; and how many files these are.
func otherBytes(m impl.MdlHouse, user int) (impl.MdlHouse, int) {
	m = houseCopy(m)
	n := 0
	for _, repo := range m.Repos {
		for _, ref := range repo.Refs {
			for _, files := range ref.Versions {
				for i, f := range files {
					if mayByHand(repo.Rules, user, ref.Name, f.Path, false) || f.Bytes == "" {
						continue
					}
					n++
					other := []byte(f.Bytes)
					for k := range other {
						other[k] ^= 0x55
					}
					files[i].Bytes = string(other)
				}
			}
		}
	}
	return m, n
}

func sameRules(a, b impl.MdlHouse) bool {
	return slices.EqualFunc(a.Repos, b.Repos, func(x, y impl.MdlRepo) bool { return slices.Equal(x.Rules, y.Rules) })
}

// P7.
func TestWhatMayNotBeReadIsNotLearnt(t *testing.T) {
	seen := map[string]int{}
	for one := range askings(107, 20000) {
		other, n := otherBytes(one.m, one.q.User)
		if n == 0 {
			continue
		}
		then, a := impl.MdlDo(other, one.q)
		if !sameAnswer(a, one.a) {
			t.Fatalf("%#v of %#v: %#v, and with other bytes %#v", one.q, one.m, one.a, a)
		}
		seen["asked"]++
		if a.Code == impl.AnsDone {
			seen[kindHas[one.q.Kind].word]++
		}
		if !sameRules(one.m, one.then) {
			continue
		}
		for repo := range one.then.Repos {
			for _, ref := range one.then.Repos[repo].Refs {
				for back := range ref.Versions {
					x, y := impl.MdlSees(one.then, one.q.User, repo, ref.Name, back), impl.MdlSees(then, one.q.User, repo, ref.Name, back)
					if !sameFiles(x, y) {
						t.Fatalf("behind %#v of %#v: %q, and with other bytes %q", one.q, one.m, x, y)
					}
				}
			}
		}
	}
	enough(t, seen, 20, "asked", "put", "look", "refs", "allow", "forbid", "name", "drop", "guard", "reset", "copy", "used")
}

// P33 and P52.
func TestHousesStayOk(t *testing.T) {
	seen := map[string]int{}
	for one := range askings(133, 20000) {
		if !impl.MdlOk(one.then) || !houseByHand(one.then) || !slices.Equal(one.m.Keys, one.then.Keys) || len(one.m.Repos) != len(one.then.Repos) {
			t.Fatalf("%#v of %#v: %#v", one.q, one.m, one.then)
		}
		for i, repo := range one.then.Repos {
			if repo.Admin != one.m.Repos[i].Admin {
				t.Fatalf("%#v of %#v: the Admin is %d", one.q, one.m, repo.Admin)
			}
			if len(repo.Rules) > 6 || len(repo.Refs) > 3 {
				t.Fatalf("%#v of %#v: %d rules, %d refs", one.q, one.m, len(repo.Rules), len(repo.Refs))
			}
			if one.a.Code == impl.AnsDone && len(repo.Rules) == 6 {
				seen["rules"]++
			}
			if one.a.Code == impl.AnsDone && len(repo.Refs) == 3 {
				seen["refs"]++
			}
			for _, ref := range repo.Refs {
				if len(ref.Versions) > 3 || ref.Count > 14 {
					t.Fatalf("%#v of %#v: %d versions, Count %d", one.q, one.m, len(ref.Versions), ref.Count)
				}
				if one.a.Code == impl.AnsDone && impl.ReqWrites(one.q) && len(ref.Versions) == 3 {
					seen["versions"]++
				}
				if one.a.Code == impl.AnsDone && impl.ReqWrites(one.q) && ref.Count == 14 {
					seen["turns"]++
				}
			}
		}
		if slices.Max(one.then.Used) > 200 || slices.Min(one.then.Used) < 0 {
			t.Fatalf("%#v of %#v: Used %v", one.q, one.m, one.then.Used)
		}
		if one.a.Code == impl.AnsDone && impl.ReqWrites(one.q) && one.then.Used[one.q.User-1] > 190 {
			seen["used"]++
		}
	}
	enough(t, seen, 50, "rules", "refs", "versions", "turns", "used")
}

// P52, each bound reached from the beginning on, and asked once more.
func TestBoundsAreReachedAndHeld(t *testing.T) {
	m := impl.MdlNew([]int{10}, []int{1})
	do := func(code int, q impl.ReqReq) {
		t.Helper()
		q.User, q.Key = 1, 10
		then, a := impl.MdlDo(m, q)
		if a.Code != code || !impl.MdlOk(then) {
			t.Fatalf("%#v of %#v: %#v", q, m, a)
		}
		m = then
	}
	for i, rule := range append(rulesOf(5), impl.RulRule{Write: true}, impl.RulRule{}) {
		do([]int{impl.AnsDone, impl.AnsFull}[i/6], impl.ReqReq{Kind: impl.ReqAllow, Rule: rule})
	}
	for i, name := range []string{"b", "c", "a", "d"} {
		do([]int{impl.AnsDone, impl.AnsFull}[i/3], impl.ReqReq{Kind: impl.ReqName, Ref: name})
	}
	for i := range 15 {
		do([]int{impl.AnsDone, impl.AnsFull}[i/14], impl.ReqReq{Kind: impl.ReqPut, Ref: "b", Old: i, Edits: []impl.TreEdit{{Path: "x", Bytes: "1234"}}})
	}
	for i := range 14 {
		do([]int{impl.AnsDone, impl.AnsOver}[i/13], impl.ReqReq{Kind: impl.ReqPut, Ref: "a", Old: i, Edits: []impl.TreEdit{{Path: "xxx/y", Bytes: "12345"}}})
	}
	if repo := m.Repos[0]; len(repo.Rules) != 6 || len(repo.Refs) != 3 || len(repo.Refs[1].Versions) != 3 || repo.Refs[1].Count != 14 || m.Used[0] != 200 {
		t.Fatalf("%#v", m)
	}
}

// P34.
func TestOtherCodesTurnNothing(t *testing.T) {
	seen := map[string]int{}
	for one := range askings(134, 10000) {
		tells := slices.Contains([]int{impl.ReqLook, impl.ReqRefs, impl.ReqUsed}, one.q.Kind)
		if one.a.Code == impl.AnsDone && !tells {
			continue
		}
		if !sameHouse(one.then, one.m) {
			t.Fatalf("%#v is answered %d, and turned %#v into %#v", one.q, one.a.Code, one.m, one.then)
		}
		if one.a.Code != impl.AnsDone && !sameAnswer(one.a, impl.AnsAnswer{Code: one.a.Code}) {
			t.Fatalf("%#v of %#v: %#v", one.q, one.m, one.a)
		}
		if tells && one.a.Code == impl.AnsDone {
			seen["tells"]++
		} else {
			seen["code"]++
		}
	}
	enough(t, seen, 500, "tells", "code")
}

// P35.
func TestAnotherKeyIsAStrangers(t *testing.T) {
	r := rand.New(rand.NewPCG(7, 35))
	stranger := impl.AnsAnswer{Code: impl.AnsStranger}
	for range 4000 {
		m := anyHouse(r)
		q := requestTo(r, m)
		q.User = oneOf(r, []int{0, 1, len(m.Keys), len(m.Keys) + 1, 99})
		for _, key := range []int{0, 1, 10, 11, 12, 9999, 5000} {
			q.Key = key
			if known(m, q) {
				continue
			}
			if then, a := impl.MdlDo(m, q); !sameAnswer(a, stranger) || !sameHouse(then, m) {
				t.Fatalf("%#v of %#v: %#v", q, m, a)
			}
		}
	}
}

// P36.
func TestLookTellsJustWhatMayBeRead(t *testing.T) {
	seen := map[string]int{}
	for one := range askings(136, 10000, impl.ReqLook) {
		if one.q.Kind != impl.ReqLook || one.a.Code != impl.AnsDone {
			continue
		}
		files, ok := impl.MdlFiles(one.m, one.q.Repo, one.q.Ref, one.q.Back)
		if !ok {
			t.Fatalf("%#v of %#v: no such version, and it is told", one.q, one.m)
		}
		var want []impl.TreFile
		for _, f := range files {
			if underByHand(one.q.Path, f.Path) && mayByHand(one.m.Repos[one.q.Repo].Rules, one.q.User, one.q.Ref, f.Path, false) {
				want = append(want, f)
			}
		}
		if !sameFiles(one.a.Files, want) || one.a.N != one.m.Repos[one.q.Repo].Refs[refAt(one.m.Repos[one.q.Repo], one.q.Ref)].Count {
			t.Fatalf("%#v of %#v: %#v, not %q", one.q, one.m, one.a, want)
		}
		seen["look"]++
		if len(want) > 0 && len(want) < len(files) {
			seen["part"]++
		}
		if one.q.Path != "" && len(want) > 0 {
			seen["under"]++
		}
		if one.q.Back > 0 {
			seen["back"]++
		}
	}
	enough(t, seen, 100, "look", "part", "under", "back")
}

// P37.
func TestSeesIsAPartOfFiles(t *testing.T) {
	r := rand.New(rand.NewPCG(7, 37))
	seen := map[string]int{}
	for range 3000 {
		m := anyHouse(r)
		repo, user := r.IntN(len(m.Repos)), r.IntN(6)
		for _, name := range []string{"a", "ab", "b", "zzz"} {
			for back := range 4 {
				files, ok := impl.MdlFiles(m, repo, name, back)
				got := impl.MdlSees(m, user, repo, name, back)
				rest := files
				for _, f := range got {
					at := slices.Index(rest, f)
					if at < 0 {
						t.Fatalf("%d sees %q of %q", user, got, files)
					}
					rest = rest[at+1:]
				}
				if !ok {
					continue
				}
				if mayByHand(m.Repos[repo].Rules, user, name, "", false) {
					seen["all"]++
					if !sameFiles(got, files) {
						t.Fatalf("%d may read at the empty path, and sees %q of %q", user, got, files)
					}
				}
				if len(got) < len(files) && len(got) > 0 {
					seen["part"]++
				}
				if !sameFiles(got, seenByHand(m, user, repo, name, back)) {
					t.Fatalf("%d sees %q of %q", user, got, files)
				}
			}
		}
	}
	enough(t, seen, 100, "all", "part")
}

// P38.
func TestVersionBehindTheLatest(t *testing.T) {
	seen := map[string]int{}
	for one := range askings(138, 10000, impl.ReqPut, impl.ReqReset, impl.ReqCopy) {
		if !impl.ReqWrites(one.q) || one.a.Code != impl.AnsDone {
			continue
		}
		was := one.m.Repos[one.q.Repo].Refs[refAt(one.m.Repos[one.q.Repo], one.q.Ref)]
		is := one.then.Repos[one.q.Repo].Refs[refAt(one.then.Repos[one.q.Repo], one.q.Ref)]
		before, ok := impl.MdlFiles(one.then, one.q.Repo, one.q.Ref, 1)
		if !ok || !sameFiles(before, latestOf(was)) {
			t.Fatalf("behind %#v of %#v: %q", one.q, one.m, before)
		}
		want, _ := turnByHand(latestOf(was), one.q.Edits)
		switch one.q.Kind {
		case impl.ReqReset:
			want, _ = filesByHand(one.m, one.q.Repo, one.q.Ref, one.q.Back)
		case impl.ReqCopy:
			want, _ = filesByHand(one.m, one.q.From, one.q.Other, 0)
		}
		latest, _ := impl.MdlFiles(one.then, one.q.Repo, one.q.Ref, 0)
		if !sameFiles(latest, want) {
			t.Fatalf("%#v of %#v: %q, not %q", one.q, one.m, latest, want)
		}
		all := append(slices.Clone(was.Versions), want)
		if !slices.EqualFunc(is.Versions, all[max(0, len(all)-3):], sameFiles) || is.Guard != was.Guard {
			t.Fatalf("%#v of %#v: %#v", one.q, one.m, is)
		}
		seen[kindHas[one.q.Kind].word]++
		if len(all) > 3 {
			seen["gone"]++
		}
	}
	enough(t, seen, 50, "put", "reset", "copy", "gone")
}

// P39.
func TestGuardedIsNeitherDroppedNorReset(t *testing.T) {
	r := rand.New(rand.NewPCG(7, 39))
	seen := map[string]int{}
	for range 8000 {
		m := anyHouse(r)
		q := requestTo(r, m, impl.ReqDrop, impl.ReqReset)
		if q.Repo >= len(m.Repos) {
			continue
		}
		repo := m.Repos[q.Repo]
		at := refAt(repo, q.Ref)
		if at < 0 || !repo.Refs[at].Guard {
			continue
		}
		then, a := impl.MdlDo(m, q)
		if a.Code == impl.AnsDone || !sameHouse(then, m) {
			t.Fatalf("%#v of %#v: %#v", q, m, a)
		}
		if a.Code != impl.AnsGuarded {
			seen["other"]++
			continue
		}
		// It is the guard alone that stands in the way.
		m.Repos[q.Repo].Refs[at].Guard = false
		if _, a = impl.MdlDo(m, q); a.Code == impl.AnsDone {
			seen[kindHas[q.Kind].word]++
		}
	}
	enough(t, seen, 50, "drop", "reset", "other")
}

// P40.
func TestRequestsTurnOneRepoAndOneUsed(t *testing.T) {
	seen := map[string]int{}
	for one := range askings(140, 20000) {
		for i, repo := range one.m.Repos {
			if i != one.q.Repo && !sameRepo(repo, one.then.Repos[i]) {
				t.Fatalf("%#v turned the repo %d of %#v", one.q, i, one.m)
			}
		}
		lays := one.a.Code == impl.AnsDone && impl.ReqWrites(one.q)
		for i, used := range one.m.Used {
			if lays && i == one.q.User-1 {
				used += sizeByHand(one.q.Edits)
				seen[kindHas[one.q.Kind].word]++
			}
			if one.then.Used[i] != used {
				t.Fatalf("%#v of %#v: Used %v", one.q, one.m, one.then.Used)
			}
		}
		if lays && one.q.Kind != impl.ReqPut && len(one.q.Edits) > 0 {
			seen["edits of others"]++
		}
		if !lays && one.a.Code == impl.AnsDone && len(one.q.Edits) > 0 {
			seen["edits that do not count"]++
		}
	}
	enough(t, seen, 50, "put", "reset", "copy", "edits of others", "edits that do not count")
}

// P41.
func TestRefsTellsJustWhatIsSeen(t *testing.T) {
	seen := map[string]int{}
	for one := range askings(141, 4000, impl.ReqRefs) {
		if one.q.Kind != impl.ReqRefs || one.a.Code != impl.AnsDone {
			continue
		}
		var want []string
		for _, name := range refNames(one.m.Repos[one.q.Repo]) {
			if seesByHand(one.m.Repos[one.q.Repo].Rules, one.q.User, name) {
				want = append(want, name)
			}
		}
		if !sameAnswer(one.a, impl.AnsAnswer{Code: impl.AnsDone, Names: want}) {
			t.Fatalf("%#v of %#v: %#v, not %q", one.q, one.m, one.a, want)
		}
		seen["all"]++
		if len(want) > 0 && len(want) < len(one.m.Repos[one.q.Repo].Refs) {
			seen["part"]++
		}
	}
	enough(t, seen, 100, "all", "part")
}

// P42.
func TestUsedTellsOnesOwn(t *testing.T) {
	r := rand.New(rand.NewPCG(7, 42))
	for range 2000 {
		m := anyHouse(r)
		q := requestTo(r, m)
		q.Kind = impl.ReqUsed
		for i, key := range m.Keys {
			q.User, q.Key = i+1, key
			for _, repo := range []int{0, 1, 2, 3, 99} {
				q.Repo = repo
				if then, a := impl.MdlDo(m, q); !sameAnswer(a, impl.AnsAnswer{Code: impl.AnsDone, N: m.Used[i]}) || !sameHouse(then, m) {
					t.Fatalf("%#v of %#v: %#v", q, m, a)
				}
			}
		}
	}
}

// P43.
func TestRuleGivenAndTakenAway(t *testing.T) {
	seen := map[string]int{}
	for one := range askings(143, 6000, impl.ReqAllow, impl.ReqForbid) {
		if one.a.Code != impl.AnsDone || one.q.Kind != impl.ReqAllow && one.q.Kind != impl.ReqForbid {
			continue
		}
		again := ask(one.then, one.q)
		full := one.q.Kind == impl.ReqAllow && len(one.then.Repos[one.q.Repo].Rules) == 6
		want := impl.AnsBad
		if full {
			want = impl.AnsFull
			seen["full"]++
		}
		if again.a.Code != want || !sameHouse(again.then, one.then) {
			t.Fatalf("%#v of %#v, once more: %#v", one.q, one.then, again.a)
		}
		seen[kindHas[one.q.Kind].word]++
		if one.q.Kind == impl.ReqForbid {
			continue
		}
		away := one.q
		away.Kind = impl.ReqForbid
		if back := ask(one.then, away); back.a.Code != impl.AnsDone || !sameHouse(back.then, one.m) {
			t.Fatalf("%#v of %#v, given and taken away: %#v", one.q, one.m, back.then)
		}
	}
	enough(t, seen, 30, "allow", "forbid", "full")
}

// P44.
func TestRefNamedAndDropped(t *testing.T) {
	named := 0
	for one := range askings(144, 4000, impl.ReqName) {
		if one.q.Kind != impl.ReqName || one.a.Code != impl.AnsDone {
			continue
		}
		named++
		repo := one.then.Repos[one.q.Repo]
		ref := repo.Refs[refAt(repo, one.q.Ref)]
		if !sameRef(ref, impl.MdlRef{Name: one.q.Ref, Versions: make([][]impl.TreFile, 1)}) {
			t.Fatalf("%#v of %#v: %#v", one.q, one.m, ref)
		}
		files, ok := impl.MdlFiles(one.then, one.q.Repo, one.q.Ref, 0)
		_, more := impl.MdlFiles(one.then, one.q.Repo, one.q.Ref, 1)
		if !ok || len(files) != 0 || more {
			t.Fatalf("%#v of %#v: %q, %v, and one more %v", one.q, one.m, files, ok, more)
		}
		drop := one.q
		drop.Kind = impl.ReqDrop
		if gone := ask(one.then, drop); gone.a.Code != impl.AnsDone || !sameHouse(gone.then, one.m) {
			t.Fatalf("%#v of %#v, and dropped: %#v", one.q, one.m, gone.then)
		}
	}
	if named < 200 {
		t.Fatal("too few were named:", named)
	}
}

// P45.
func TestDoneOnceMoreIsStale(t *testing.T) {
	seen := map[string]int{}
	for one := range askings(145, 8000, impl.ReqPut, impl.ReqReset, impl.ReqCopy) {
		if !impl.ReqWrites(one.q) || one.a.Code != impl.AnsDone {
			continue
		}
		seen[kindHas[one.q.Kind].word]++
		if again := ask(one.then, one.q); !sameAnswer(again.a, impl.AnsAnswer{Code: impl.AnsStale}) || !sameHouse(again.then, one.then) {
			t.Fatalf("%#v of %#v, once more: %#v", one.q, one.m, again.a)
		}
	}
	enough(t, seen, 50, "put", "reset", "copy")
}

// P46.
func TestAnotherCountIsStale(t *testing.T) {
	seen := map[int]int{}
	r := rand.New(rand.NewPCG(7, 46))
	for range 6000 {
		m := anyHouse(r)
		q := requestTo(r, m, impl.ReqPut, impl.ReqReset, impl.ReqCopy)
		if q.Repo >= len(m.Repos) {
			continue
		}
		at := refAt(m.Repos[q.Repo], q.Ref)
		if at < 0 {
			continue
		}
		for _, old := range []int{m.Repos[q.Repo].Refs[at].Count + 1, max(0, m.Repos[q.Repo].Refs[at].Count-1), 0, 14, 99} {
			q.Old = old
			if old == m.Repos[q.Repo].Refs[at].Count {
				continue
			}
			then, a := impl.MdlDo(m, q)
			seen[a.Code]++
			if !slices.Contains([]int{impl.AnsStale, impl.AnsMayNot, impl.AnsStranger}, a.Code) || !sameHouse(then, m) {
				t.Fatalf("%#v of %#v: %#v", q, m, a)
			}
		}
	}
	if seen[impl.AnsStale] < 1000 || seen[impl.AnsMayNot] < 1000 || seen[impl.AnsStranger] < 1000 {
		t.Fatal("too few were asked:", seen)
	}
}

// P47.
func TestResetTwiceIsTheLatestAgain(t *testing.T) {
	r := rand.New(rand.NewPCG(7, 47))
	seen := map[int]int{}
	for range 8000 {
		m := anyHouse(r)
		q := requestTo(r, m, impl.ReqReset)
		q.Back = 1
		one := ask(m, q)
		if one.a.Code != impl.AnsDone {
			continue
		}
		q.Old++
		two := ask(one.then, q)
		seen[two.a.Code]++
		if two.a.Code == impl.AnsFull || two.a.Code == impl.AnsOver {
			continue
		}
		want, _ := impl.MdlFiles(m, q.Repo, q.Ref, 0)
		if got, _ := impl.MdlFiles(two.then, q.Repo, q.Ref, 0); two.a.Code != impl.AnsDone || !sameFiles(got, want) {
			t.Fatalf("%#v of %#v, twice: %q, not %q", q, m, got, want)
		}
	}
	if seen[impl.AnsDone] < 300 || seen[impl.AnsFull] < 50 || seen[impl.AnsOver] < 3 {
		t.Fatal("too few were asked:", seen)
	}
}

// P48.
func TestPutMayNot(t *testing.T) {
	r := rand.New(rand.NewPCG(7, 48))
	seen := map[bool]int{}
	for range 8000 {
		m := anyHouse(r)
		q := requestTo(r, m, impl.ReqPut)
		q.User, q.Repo = 1+r.IntN(len(m.Keys)), r.IntN(len(m.Repos))
		q.Key = m.Keys[q.User-1]
		want := len(q.Edits) == 0
		for _, e := range q.Edits {
			want = want || !mayByHand(m.Repos[q.Repo].Rules, q.User, q.Ref, e.Path, true)
		}
		_, a := impl.MdlDo(m, q)
		seen[want]++
		if (a.Code == impl.AnsMayNot) != want {
			t.Fatalf("%#v of %#v: %#v", q, m, a)
		}
	}
	if seen[true] < 1000 || seen[false] < 1000 {
		t.Fatal("too few were asked:", seen)
	}
}

// P49.
func TestTwoRequestsInEitherOrder(t *testing.T) {
	r := rand.New(rand.NewPCG(7, 49))
	both := 0
	for range 15000 {
		m := anyHouse(r)
		q, p := requestTo(r, m), requestTo(r, m)
		if q.User == p.User || q.Repo == p.Repo || q.Kind == impl.ReqCopy || p.Kind == impl.ReqCopy {
			continue
		}
		first := ask(m, q)
		second := ask(first.then, p)
		other := ask(m, p)
		last := ask(other.then, q)
		if !sameAnswer(first.a, last.a) || !sameAnswer(second.a, other.a) || !sameHouse(second.then, last.then) {
			t.Fatalf("%#v and %#v of %#v hang on their order", q, p, m)
		}
		if first.a.Code == impl.AnsDone && second.a.Code == impl.AnsDone {
			both++
		}
	}
	if both < 200 {
		t.Fatal("too few were done both:", both)
	}
}

// P50.
func TestCopiesAreTwo(t *testing.T) {
	seen := map[string]int{}
	for one := range askings(150, 8000, impl.ReqCopy) {
		if one.q.Kind != impl.ReqCopy || one.a.Code != impl.AnsDone {
			continue
		}
		here, _ := impl.MdlFiles(one.then, one.q.Repo, one.q.Ref, 0)
		there, ok := impl.MdlFiles(one.then, one.q.From, one.q.Other, 0)
		if !ok || !sameFiles(here, there) {
			t.Fatalf("%#v of %#v: %q and %q", one.q, one.m, here, there)
		}
		seen["copied"]++
		if one.q.Repo == one.q.From && one.q.Ref == one.q.Other {
			seen["itself"]++
			continue
		}
		if askPut(t, one.then, one.q.Repo, one.q.Ref, one.q.From, one.q.Other) {
			seen["here"]++
		}
		if askPut(t, one.then, one.q.From, one.q.Other, one.q.Repo, one.q.Ref) {
			seen["there"]++
		}
	}
	enough(t, seen, 20, "copied", "itself", "here", "there")
}

// askPut puts something into a ref, by whoever may, and asks whether another ref is as it was; and says whether it was put.
func askPut(t *testing.T, m impl.MdlHouse, repo int, name string, otherRepo int, other string) bool {
	t.Helper()
	was := m.Repos[otherRepo].Refs[refAt(m.Repos[otherRepo], other)]
	ref := m.Repos[repo].Refs[refAt(m.Repos[repo], name)]
	edits := []impl.TreEdit{{Path: "q", Bytes: "put"}}
	for _, f := range latestOf(ref) {
		edits = []impl.TreEdit{{Path: f.Path, Bytes: "put"}}
	}
	done := false
	for i, key := range m.Keys {
		q := impl.ReqReq{User: i + 1, Key: key, Repo: repo, Kind: impl.ReqPut, Ref: name, Old: ref.Count, Edits: edits}
		then, a := impl.MdlDo(m, q)
		if is := then.Repos[otherRepo].Refs[refAt(then.Repos[otherRepo], other)]; !sameRef(is, was) {
			t.Fatalf("%#v of %#v turned %q of the repo %d", q, m, other, otherRepo)
		}
		done = done || a.Code == impl.AnsDone
	}
	return done
}

// P51.
func TestOtherKeysAnswerTheSame(t *testing.T) {
	r := rand.New(rand.NewPCG(7, 51))
	seen := map[int]int{}
	for one := range askings(151, 20000) {
		if !known(one.m, one.q) {
			continue
		}
		other, q := houseCopy(one.m), one.q
		for i := range other.Keys {
			other.Keys[i] = oneOf(r, []int{1, 2, 10, 77, 9998, 9999})
		}
		q.Key = other.Keys[q.User-1]
		then, a := impl.MdlDo(other, q)
		if !sameAnswer(a, one.a) || !slices.Equal(then.Keys, other.Keys) {
			t.Fatalf("%#v of %#v: %#v, not %#v", q, other, a, one.a)
		}
		then.Keys = one.then.Keys
		if !sameHouse(then, one.then) {
			t.Fatalf("%#v of %#v: %#v, not %#v", q, other, then, one.then)
		}
		seen[one.q.Kind]++
	}
	for kind := 1; kind <= 11; kind++ {
		if seen[kind] < 500 {
			t.Fatal("too few were asked:", seen)
		}
	}
}
