package tests

import (
	"fmt"
	"math"
	"math/rand/v2"
	"reflect"
	"slices"
	"testing"

	"loop.example/chartulary/impl"
)

// P17.
func TestKeptAnswersAsHeld(t *testing.T) {
	t.Parallel()
	seen := map[string]int{}
	for one := range keepings(117, 10000) {
		held := impl.MdlOf(one.h)
		if one.a.Code == impl.AnsClash {
			seen[fmt.Sprint("clash ", one.h.Phase)]++
			roll := one.then.Roll
			one.then.Roll = one.h.Roll
			if !same(one.then, one.h) || !same(one.a, impl.AnsAnswer{Code: impl.AnsClash}) || !same(impl.MdlOf(one.then), held) {
				t.Fatalf("%#v of %#v is AnsClash, and turned it into %#v", one.q, one.h, one.then)
			}
			if len(one.h.Roll) < 120 && !same(roll[len(roll)-1], impl.HseLine{User: one.q.User, Repo: one.q.Repo, Kind: one.q.Kind, Code: impl.AnsClash}) {
				t.Fatalf("%#v of %#v is AnsClash, and its line is not: %#v", one.q, one.h, roll)
			}
			continue
		}
		then, a := impl.MdlDo(held, one.q)
		if !same(one.a, a) || !same(impl.MdlOf(one.then), then) {
			t.Fatalf("%#v of %#v: %#v, %#v; not %#v", one.q, one.h, one.then, one.a, a)
		}
		if a.Code == impl.AnsDone {
			seen[fmt.Sprint(kindHas[one.q.Kind].word, " ", one.h.Phase)]++
		}
	}
	for _, phase := range phases {
		enough(t, seen, 3, fmt.Sprint("clash ", phase))
		for _, kind := range kindHas {
			enough(t, seen, 20, fmt.Sprint(kind.word, " ", phase))
		}
	}
}

// P17, whatever else is not turned by a request: what is under way, the Phase, what is grey, and the keys.
func TestKeptDoTurnsNothingElse(t *testing.T) {
	t.Parallel()
	seen := map[string]int{}
	for one := range keepings(118, 5000) {
		h, then := one.h, one.then
		if !same(h.Tickets, then.Tickets) || h.Phase != then.Phase || !same(h.Grey, then.Grey) || !same(h.Keys, then.Keys) {
			t.Fatalf("%#v of %#v: %#v", one.q, h, then)
		}
		if lays := one.a.Code == impl.AnsDone && laysByHand(one.q); !lays && (!same(h.Pool, then.Pool) || !same(h.Loose, then.Loose) || !same(h.Marks, then.Marks)) {
			t.Fatalf("%#v of %#v lays nothing down, and turned it into %#v", one.q, h, then)
		} else if lays {
			seen["lays"]++
		} else {
			seen["lays nothing"]++
		}
		want := h.Roll
		if len(want) < 120 {
			want = append(slices.Clone(want), impl.HseLine{User: one.q.User, Repo: one.q.Repo, Kind: one.q.Kind, Code: one.a.Code})
			seen["line"]++
		} else {
			seen["no room"]++
		}
		if !same(then.Roll, want) {
			t.Fatalf("%#v of %#v: %#v", one.q, h, then.Roll)
		}
		// What is put is marked where a sweeping is under way, so nothing is Loose or swept that a ref leads to.
		links := linksOf(then.Pool)
		for id := range ledTo(links, rootsByHand(then), nil) {
			if slices.Contains(then.Loose, id) {
				t.Fatalf("%#v of %#v: %d is Loose", one.q, h, id)
			}
			if then.Phase == impl.GcSweeps && !slices.Contains(then.Marks, id) {
				t.Fatalf("%#v of %#v: %d is not marked", one.q, h, id)
			}
		}
	}
	enough(t, seen, 300, "lays", "lays nothing", "line", "no room")
}

// P22.
func TestCopyAndResetPutNothingNew(t *testing.T) {
	t.Parallel()
	seen := map[string]int{}
	for one := range keepings(122, 6000, impl.ReqCopy, impl.ReqReset) {
		if one.a.Code == impl.AnsClash {
			t.Fatalf("%#v of %#v clashes", one.q, one.h)
		}
		if one.a.Code != impl.AnsDone {
			continue
		}
		if !same(one.then.Pool, one.h.Pool) {
			t.Fatalf("%#v of %#v: %#v", one.q, one.h, one.then.Pool)
		}
		seen[kindHas[one.q.Kind].word]++
		if len(one.h.Pool) == 700 {
			seen["no room"]++
		}
	}
	enough(t, seen, 100, "copy", "reset")
	enough(t, seen, 3, "no room")
}

// P23.
func TestWhatIsDoneIsSafe(t *testing.T) {
	t.Parallel()
	seen := map[string]int{}
	for one := range keepings(123, 6000, impl.ReqPut, impl.ReqReset, impl.ReqCopy) {
		if one.a.Code != impl.AnsDone {
			continue
		}
		seen[kindHas[one.q.Kind].word]++
		repo := one.then.Repos[one.q.Repo]
		ref := repo.Refs[slices.IndexFunc(repo.Refs, func(ref impl.HseRef) bool { return ref.Name == one.q.Ref })]
		led := ledTo(linksOf(one.then.Pool), ref.Roots, nil)
		for _, id := range one.then.Loose {
			if led[id] {
				t.Fatalf("%#v of %#v: %d is Loose", one.q, one.h, id)
			}
		}
		for _, id := range one.h.Loose {
			switch {
			case led[id]:
				seen["safe now"]++
			case !slices.Contains(one.then.Loose, id):
				t.Fatalf("%#v of %#v: %d is not Loose any more", one.q, one.h, id)
			default:
				seen["loose still"]++
			}
		}
		for _, id := range one.then.Loose {
			if !slices.Contains(one.h.Loose, id) {
				t.Fatalf("%#v of %#v: %d is Loose now", one.q, one.h, id)
			}
		}
		files, ok := impl.TreRead(one.then.Pool, ref.Roots[len(ref.Roots)-1])
		latest, there := impl.MdlFiles(impl.MdlOf(one.then), one.q.Repo, one.q.Ref, 0)
		if !ok || !there || !sameFiles(files, latest) {
			t.Fatalf("%#v of %#v: %q, %v, not %q, %v", one.q, one.h, files, ok, latest, there)
		}
	}
	enough(t, seen, 100, "put", "reset", "copy", "loose still")
	enough(t, seen, 10, "safe now")
}

// P24.
func TestHeldIsReadOfRoots(t *testing.T) {
	t.Parallel()
	r := rand.New(rand.NewPCG(8, 24))
	houses := []impl.HseHouse{fullKept(), impl.HseNew([]int{1}, []int{1})}
	for range 1500 {
		houses = append(houses, anyKept(r))
	}
	versions := 0
	for _, h := range houses {
		m := impl.MdlOf(h)
		if !impl.MdlOk(m) || !same(m.Keys, h.Keys) || !same(m.Used, h.Used) || len(m.Repos) != len(h.Repos) {
			t.Fatalf("%#v: %#v", h, m)
		}
		for i, repo := range m.Repos {
			if repo.Admin != h.Repos[i].Admin || !same(repo.Rules, h.Repos[i].Rules) || len(repo.Refs) != len(h.Repos[i].Refs) {
				t.Fatalf("%#v: %#v", h, m)
			}
			for k, ref := range repo.Refs {
				kept := h.Repos[i].Refs[k]
				if ref.Name != kept.Name || ref.Guard != kept.Guard || ref.Count != kept.Count || len(ref.Versions) != len(kept.Roots) {
					t.Fatalf("%#v: %#v", kept, ref)
				}
				for v, files := range ref.Versions {
					if read, ok := impl.TreRead(h.Pool, kept.Roots[v]); !ok || !sameFiles(read, files) {
						t.Fatalf("%#v: %q, not %q", kept, files, read)
					}
					versions++
				}
			}
		}
	}
	if versions < 3000 {
		t.Fatal("too few were asked:", versions)
	}
	if m := impl.MdlOf(keptOf(fullHouse())); !sameHouse(m, fullHouse()) {
		t.Fatalf("%#v", m)
	}
}

// askRoll asks whether RolOf of all users has each line once.
func askRoll(t *testing.T, roll []impl.HseLine) {
	t.Helper()
	var users []int
	for _, line := range roll {
		users = append(users, line.User)
	}
	told := 0
	for _, user := range sortedOnce(users) {
		var want []impl.HseLine
		for _, line := range roll {
			if line.User == user {
				want = append(want, line)
			}
		}
		got := impl.RolOf(roll, user)
		if !slices.Equal(got, want) {
			t.Fatalf("of the user %d in %v: %v", user, roll, got)
		}
		told += len(got)
	}
	if told != len(roll) {
		t.Fatalf("of %d lines %d are told", len(roll), told)
	}
	for _, user := range []int{0, 1, -1, 5, 99, 100, math.MaxInt, math.MinInt} {
		if got := impl.RolOf(roll, user); !slices.Contains(users, user) && len(got) != 0 {
			t.Fatalf("of the user %d in %v: %v", user, roll, got)
		}
	}
}

// P25.
func TestRollOfAllUsers(t *testing.T) {
	r := rand.New(rand.NewPCG(8, 25))
	askRoll(t, nil)
	askRoll(t, linesOf(120))
	askRoll(t, linesOf(1000))
	askRoll(t, slices.Repeat([]impl.HseLine{{User: 1, Kind: 1, Code: 1}}, 5))
	numbers := []int{0, 1, 2, 3, 4, 99, 100, -1, math.MaxInt, math.MinInt}
	for range 500 {
		var roll []impl.HseLine
		for range r.IntN(30) {
			roll = append(roll, impl.HseLine{User: oneOf(r, numbers), Repo: oneOf(r, numbers), Kind: oneOf(r, numbers), Code: oneOf(r, numbers)})
		}
		askRoll(t, roll)
	}
	grown := impl.HseNew([]int{10, 11, 10}, []int{1, 3})
	for range 130 {
		grown, _ = impl.HseDo(grown, requestTo(r, impl.MdlOf(grown)))
	}
	askRoll(t, grown.Roll)
	if len(grown.Roll) != 120 {
		t.Fatal(len(grown.Roll), "lines")
	}
}

// P32.
func TestHseNew(t *testing.T) {
	seen := map[bool]int{}
	for _, keys := range [][]int{nil, {}, {1}, {9999}, {0}, {-1}, {10000}, {1, 1}, {1, 2, 3}, {4, 3, 2, 1}, {1, 2, 3, 4, 5}, {1, 2, 0}, {math.MaxInt}, {math.MinInt, 1}, make([]int, 999)} {
		for _, admins := range [][]int{nil, {}, {1}, {0}, {-1}, {2}, {3}, {4}, {5}, {1, 1, 1}, {1, 2, 3}, {3, 2, 1}, {4, 4}, {1, 0}, {1, 1, 5}, {1, 1, 1, 1}, {math.MaxInt}, {math.MinInt}, make([]int, 999)} {
			h, m := impl.HseNew(keys, admins), impl.MdlNew(keys, admins)
			ok := impl.MdlOk(m)
			seen[ok]++
			if impl.HseOk(h) != ok || !same(impl.MdlOf(h), m) {
				t.Fatalf("of %v and %v: %#v", keys, admins, h)
			}
			want := impl.HseHouse{}
			if ok {
				want.Keys, want.Used = keys, make([]int, len(keys))
				for _, admin := range admins {
					want.Repos = append(want.Repos, impl.HseRepo{Admin: admin})
				}
			}
			if !same(h, want) {
				t.Fatalf("of %v and %v: %#v", keys, admins, h)
			}
		}
	}
	if seen[true] < 20 || seen[false] < 20 {
		t.Fatal("too few were asked:", seen)
	}
}

// storyHouse has one ref that holds x, and waste; user 2 has a request under way that has put its first texts.
func storyHouse() impl.HseHouse {
	h := keptOf(impl.MdlHouse{
		Keys: []int{10, 11}, Used: []int{0, 0},
		Repos: []impl.MdlRepo{{Admin: 1, Rules: []impl.RulRule{{Write: true}}, Refs: []impl.MdlRef{
			{Name: "a", Count: 1, Versions: [][]impl.TreFile{nil, filesAt("x")}},
			{Name: "b", Count: 2, Versions: [][]impl.TreFile{filesAt("x")}},
		}}},
	}, "Ly", "Lz", wasteLeaf, "Lother")
	h.Tickets = []impl.HseTicket{ticketOf(impl.ReqReq{User: 2, Key: 11, Kind: impl.ReqPut, Ref: "b", Old: 2, Edits: []impl.TreEdit{{Path: "y", Bytes: "y"}}}, layByHand([]impl.TreFile{{Path: "x", Bytes: "x"}, {Path: "y", Bytes: "y"}}), 2)}
	h.Loose = idsOf("Ly", wasteLeaf)
	return h
}

func putOf(edits ...impl.TreEdit) impl.ReqReq {
	return impl.ReqReq{User: 1, Key: 10, Kind: impl.ReqPut, Ref: "a", Old: 1, Edits: edits}
}

// What is put in the midst of a sweeping, told in whole: what is new, what is another one's, and waste that is used again.
func TestPutInEachPhase(t *testing.T) {
	q := putOf(impl.TreEdit{Path: "d/y", Bytes: "y"}, impl.TreEdit{Path: "d/z", Bytes: "z"}, impl.TreEdit{Path: "n", Bytes: "new"})
	files := []impl.TreFile{{Path: "d/y", Bytes: "y"}, {Path: "d/z", Bytes: "z"}, {Path: "n", Bytes: "new"}, {Path: "x", Bytes: "x"}}
	sheet := sheetByHand([]impl.ObjEntry{{Name: "y", Id: idByHand("Ly")}, {Name: "z", Id: idByHand("Lz")}})
	root := sheetByHand([]impl.ObjEntry{{Name: "d", Sheet: true, Id: idByHand(sheet)}, {Name: "n", Id: idByHand("Lnew")}, {Name: "x", Id: idByHand("Lx")}})
	for _, phase := range phases {
		for _, steps := range []int{0, 1, 2, 3, 4, 5, 6} {
			h := inPhase(storyHouse(), phase, steps)
			then, a := impl.HseDo(h, q)
			if !keptByHand(h) || !same(a, impl.AnsAnswer{Code: impl.AnsDone}) || !keptByHand(then) {
				t.Fatalf("in the Phase %d: %#v", phase, a)
			}
			want := keptCopy(h)
			want.Used[0] = 12
			want.Repos[0].Refs[0].Count = 2
			want.Repos[0].Refs[0].Roots = append(h.Repos[0].Refs[0].Roots, idByHand(root))
			want.Pool = poolOfTexts(append(textsIn(h), "Lnew", sheet, root)...)
			want.Loose = idsOf(wasteLeaf)
			if phase != impl.GcIdle {
				want.Marks = sortedOnce(append(want.Marks, idsOf("Lx", "Ly", "Lz", "Lnew", sheet, root)...))
			}
			want.Roll = []impl.HseLine{{User: 1, Kind: impl.ReqPut, Code: impl.AnsDone}}
			if !same(then, want) {
				t.Fatalf("in the Phase %d: %#v, not %#v", phase, then, want)
			}
			if got, ok := impl.TreRead(then.Pool, idByHand(root)); !ok || !sameFiles(got, files) {
				t.Fatalf("in the Phase %d: %q", phase, got)
			}
		}
	}
}

// A ref that is named puts the sheet without entries: new, there, or there and Loose.
func TestNameInEachPhase(t *testing.T) {
	empty := idByHand("S")
	for _, phase := range phases {
		for _, c := range []struct {
			what string
			turn func(*impl.HseHouse)
		}{
			{"new", func(h *impl.HseHouse) { h.Repos[0].Refs, h.Pool = h.Repos[0].Refs[1:], impl.PolOut(h.Pool, empty) }},
			{"there", func(h *impl.HseHouse) {}},
			{"waste", func(h *impl.HseHouse) { h.Repos[0].Refs = h.Repos[0].Refs[1:] }},
			{"waste that is Loose", func(h *impl.HseHouse) {
				h.Repos[0].Refs, h.Loose = h.Repos[0].Refs[1:], sortedOnce(append(h.Loose, empty))
			}},
		} {
			h := storyHouse()
			c.turn(&h)
			h = inPhase(h, phase, 3)
			q := impl.ReqReq{User: 1, Key: 10, Kind: impl.ReqName, Ref: "c"}
			then, a := impl.HseDo(h, q)
			want := keptCopy(h)
			want.Repos[0].Refs = append(want.Repos[0].Refs, impl.HseRef{Name: "c", Roots: []int{empty}})
			want.Pool = poolOfTexts(append(textsIn(h), "S")...)
			want.Loose = idsOf("Ly", wasteLeaf)
			if phase != impl.GcIdle {
				want.Marks = sortedOnce(append(want.Marks, empty))
			}
			want.Roll = []impl.HseLine{{User: 1, Kind: impl.ReqName, Code: impl.AnsDone}}
			if !same(a, impl.AnsAnswer{Code: impl.AnsDone}) || !same(then, want) || !impl.HseOk(then) {
				t.Fatalf("%s, in the Phase %d: %#v, %#v, not %#v", c.what, phase, a, then, want)
			}
		}
	}
}

// fillPool puts leaves into the pool till there is room for so many.
func fillPool(h impl.HseHouse, room int) impl.HseHouse {
	texts := textsIn(h)
	for _, s := range leafTexts(900) {
		if len(texts) < 700-room && !slices.Contains(texts, s) {
			texts = append(texts, s)
		}
	}
	h.Pool = poolOfTexts(texts...)
	return h
}

// Nothing but the roll turns, wherever among the texts the clash is.
func TestClashTurnsNothingButTheRoll(t *testing.T) {
	name := impl.ReqReq{User: 1, Key: 10, Kind: impl.ReqName, Ref: "c"}
	lay := func(path, text string) impl.TreEdit { return impl.TreEdit{Path: path, Bytes: text[1:]} }
	without := func(h impl.HseHouse) impl.HseHouse {
		h.Repos[0].Refs = h.Repos[0].Refs[1:]
		h.Pool = impl.PolOut(h.Pool, idByHand("S"))
		return h
	}
	with := func(h impl.HseHouse, text string) impl.HseHouse {
		h.Pool = poolOfTexts(append(textsIn(h), text)...)
		return h
	}
	for _, phase := range phases {
		for _, lines := range []int{0, 119, 120} {
			for _, c := range []struct {
				what string
				h    impl.HseHouse
				q    impl.ReqReq
				code int
			}{
				{"two leaves at once", storyHouse(), putOf(lay("b", clashOne), lay("c", clashTwo)), impl.AnsClash},
				{"two leaves at once, the other one first", storyHouse(), putOf(lay("b", clashTwo), lay("c", clashOne)), impl.AnsClash},
				{"one of the two", storyHouse(), putOf(lay("b", clashOne), lay("c", clashOne)), impl.AnsDone},
				{"a leaf that is there", with(storyHouse(), clashOne), putOf(lay("b", "Lnew"), lay("c", clashTwo)), impl.AnsClash},
				{"the one that is there", with(storyHouse(), clashOne), putOf(lay("b", "Lnew"), lay("c", clashOne)), impl.AnsDone},
				{"no room at all", fillPool(storyHouse(), 0), putOf(lay("b", "Lnew")), impl.AnsClash},
				{"no room for the sheet", fillPool(storyHouse(), 1), putOf(lay("b", "Lnew")), impl.AnsClash},
				{"room for both", fillPool(storyHouse(), 2), putOf(lay("b", "Lnew")), impl.AnsDone},
				{"room for the sheet alone, the leaf is there", fillPool(storyHouse(), 1), putOf(lay("b", wasteLeaf)), impl.AnsDone},
				{"no room, and all is there", fillPool(storyHouse(), 0), impl.ReqReq{User: 1, Key: 10, Kind: impl.ReqReset, Ref: "a", Old: 1, Back: 1}, impl.AnsDone},
				{"no room, and a copy", fillPool(storyHouse(), 0), impl.ReqReq{User: 1, Key: 10, Kind: impl.ReqCopy, Ref: "b", Old: 2, Other: "a"}, impl.AnsDone},
				{"a name, no room", fillPool(without(storyHouse()), 0), name, impl.AnsClash},
				{"a name, room for one", fillPool(without(storyHouse()), 1), name, impl.AnsDone},
				{"a name, no room, and it is there", fillPool(storyHouse(), 0), name, impl.AnsDone},
				{"a name, and another text of its id", with(without(storyHouse()), clashEmpty), name, impl.AnsClash},
			} {
				h := inPhase(c.h, phase, 3)
				h.Roll = linesOf(lines)
				then, a := impl.HseDo(h, c.q)
				if !keptByHand(h) || !same(a, impl.AnsAnswer{Code: c.code}) {
					t.Fatalf("%s, in the Phase %d: %#v", c.what, phase, a)
				}
				want, _ := keepByHand(h, c.q)
				if c.code == impl.AnsClash {
					want = keptCopy(h)
					want.Roll = append(want.Roll, impl.HseLine{User: 1, Kind: c.q.Kind, Code: impl.AnsClash})[:min(lines+1, 120)]
				}
				if !same(then, want) || !impl.HseOk(then) {
					t.Fatalf("%s, in the Phase %d: %#v, not %#v", c.what, phase, then, want)
				}
			}
		}
	}
}

// Each kind in each Phase, done and refused: the line, the last one if there is room.
func TestLineOfEachKindAndPhase(t *testing.T) {
	for kind := 1; kind <= 11; kind++ {
		for _, phase := range phases {
			for _, lines := range []int{0, 1, 118, 119, 120} {
				for _, key := range []int{0, 1} {
					h := inPhase(keptOf(calmHouse(), wasteLeaf), phase, 4)
					h.Roll = linesOf(lines)
					q := calmRequest(kind)
					code := impl.AnsDone
					if key == 1 {
						q.Key, q.Repo, code = 9999, 99, impl.AnsStranger
					}
					then, a := impl.HseDo(h, q)
					want := linesOf(lines)
					if lines < 120 {
						want = append(want, impl.HseLine{User: q.User, Repo: q.Repo, Kind: kind, Code: code})
					}
					m, answer := doByHand(calmHouse(), q)
					if a.Code != code || !same(a, answer) || !slices.Equal(then.Roll, want) || !same(impl.MdlOf(then), m) {
						t.Fatalf("kind %d, in the Phase %d with %d lines: %#v, %v", kind, phase, lines, a, then.Roll)
					}
				}
			}
		}
	}
}

// keptFills stands behind the ends of a kept house's lists.
func keptFills() []any {
	ticket := impl.HseTicket{Req: impl.ReqReq{User: 3, Kind: 1, Edits: []impl.TreEdit{{Path: "filled"}}}, Wait: []string{"filled"}, Pins: []int{77}}
	ref := impl.HseRef{Name: "q", Count: 3, Roots: []int{77}}
	return append(houseFills(), "filled", impl.PolItem{Id: 77, Text: "filled"}, impl.HseLine{User: 77}, ticket, ref,
		impl.HseRepo{Admin: 2, Rules: []impl.RulRule{{User: 2, Ref: "q"}}, Refs: []impl.HseRef{ref}})
}

// askMemory asks that a request writes into nothing, and that what it answers shares nothing.
func askMemory(t *testing.T, h impl.HseHouse, q impl.ReqReq) int {
	t.Helper()
	wholeH, wholeQ := wholeOf(h), wholeOf(q)
	then, a := impl.HseDo(h, q)
	apart(t, "HseDo", []any{then, a}, h, q)
	m := impl.MdlOf(h)
	apart(t, "MdlOf", []any{m, then}, h)
	apart(t, "RolOf", []any{impl.RolOf(h.Roll, q.User), impl.RolOf(h.Roll, 1)}, h)
	impl.HseOk(h)
	if !reflect.DeepEqual(wholeOf(h), wholeH) || !reflect.DeepEqual(wholeOf(q), wholeQ) {
		t.Fatalf("an argument was written into: %#v of %#v", q, h)
	}
	return a.Code
}

func TestKeptHousesShareNoMemory(t *testing.T) {
	t.Parallel()
	r := rand.New(rand.NewPCG(8, 7))
	fills := keptFills()
	bad := noKept()
	seen := map[int]int{}
	for i := range 1500 {
		h := anyKept(r)
		q := requestOf(r, h, impl.MdlOf(h))
		if i%10 == 0 {
			h = oneOf(r, bad)
		}
		if len(h.Pool) > 300 && i%5 > 0 || len(h.Tickets)+len(h.Roll)+len(h.Grey)+len(h.Marks) > 5000 {
			continue
		}
		seen[askMemory(t, roomy(h, fills...), roomy(q, fills...))]++
	}
	for kind := 1; kind <= 11; kind++ {
		for _, phase := range phases {
			h := inPhase(keptOf(calmHouse(), wasteLeaf), phase, 4)
			seen[askMemory(t, roomy(h, fills...), roomy(calmRequest(kind), fills...))]++
		}
	}
	for _, q := range []impl.ReqReq{putOf(impl.TreEdit{Path: "n", Bytes: "new"}), {User: 1, Key: 10, Kind: impl.ReqName, Ref: "c"}} {
		for _, phase := range phases {
			h := inPhase(fillPool(storyHouse(), 0), phase, 4)
			seen[askMemory(t, roomy(h, fills...), roomy(q, fills...))]++
		}
	}
	for _, code := range []int{0, impl.AnsDone, impl.AnsStranger, impl.AnsNoRepo, impl.AnsMayNot, impl.AnsNoRef, impl.AnsStale, impl.AnsBad, impl.AnsFull, impl.AnsClash} {
		if seen[code] < 3 {
			t.Fatal("too few were asked:", seen)
		}
	}
}

// Lists of an argument may share memory; those of an answer do not.
func TestSharedListsAreToldApart(t *testing.T) {
	shared := idsOf("Ly", wasteLeaf)
	h := storyHouse()
	h.Tickets = append([]impl.HseTicket{{Req: impl.ReqReq{User: 1, Kind: impl.ReqPut}}}, h.Tickets...)
	h.Tickets[0].Pins, h.Tickets[1].Pins, h.Loose = shared, shared, shared
	h.Tickets[1].Wait = nil
	texts := []string{"Lq", "Lr"}
	h.Tickets[0].Wait, h.Tickets[1].Wait = texts, texts[:1]
	edits := []impl.TreEdit{{Path: "n", Bytes: "new"}}
	h.Tickets[0].Req.Edits, h.Tickets[1].Req.Edits = edits, edits
	root := h.Repos[0].Refs[1].Roots
	h.Repos[0].Refs[0].Roots = root[:1]
	h.Keys, h.Used = []int{10, 11}, []int{10, 11}
	h.Used = h.Keys
	for _, phase := range phases {
		h.Phase = phase
		if phase == impl.GcMarks {
			h.Grey = sortedOnce(append(stayByHand(h), root...))
			h.Marks = nil
		}
		if phase == impl.GcSweeps {
			markOn(&h, math.MaxInt)
		}
		for _, q := range []impl.ReqReq{putOf(edits...), {User: 1, Key: 10, Kind: impl.ReqUsed}, {User: 1, Key: 1, Kind: impl.ReqUsed}, {User: 1, Key: 10, Kind: impl.ReqName, Ref: "c"}} {
			if code := askMemory(t, h, q); code == 0 {
				t.Fatalf("in the Phase %d the house is not ok", phase)
			}
		}
	}
}

func TestHseNewSharesNoMemory(t *testing.T) {
	for _, admins := range [][]int{{1}, {2, 1}, {0}} {
		keys, admins := roomy([]int{1, 2, 3}, 77), roomy(admins, 77)
		wholeKeys, wholeAdmins := wholeOf(keys), wholeOf(admins)
		apart(t, "HseNew", []any{impl.HseNew(keys, admins)}, keys, admins)
		if !slices.Equal(wholeOf(keys), wholeKeys) || !slices.Equal(wholeOf(admins), wholeAdmins) {
			t.Error("HseNew wrote into an argument")
		}
	}
}

// What is told once is told again, also by many at once.
func TestKeptAnswersAreTheSameEachTime(t *testing.T) {
	r := rand.New(rand.NewPCG(8, 9))
	for range 100 {
		h := anyKept(r)
		q := requestOf(r, h, impl.MdlOf(h))
		want := keep(h, q)
		held := impl.MdlOf(h)
		done := make(chan bool)
		for range 4 {
			go func() {
				one := keep(h, q)
				done <- same(one.then, want.then) && same(one.a, want.a) && same(impl.MdlOf(h), held)
			}()
		}
		for range 4 {
			if !<-done {
				t.Fatalf("%#v of %#v is answered otherwise", q, h)
			}
		}
	}
}
