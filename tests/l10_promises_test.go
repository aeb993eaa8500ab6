package tests

import (
	"fmt"
	"maps"
	"math/rand/v2"
	"slices"
	"testing"

	"loop.example/chartulary/impl"
)

// P26.
func TestStepOfTheSweepingTurnsNothingElse(t *testing.T) {
	t.Parallel()
	seen := map[string]int{}
	for h := range sweepings(226, 3000) {
		then := impl.GcStep(h)
		if !same(impl.MdlOf(then), impl.MdlOf(h)) || !same(then.Tickets, h.Tickets) || !same(then.Roll, h.Roll) || !same(then.Repos, h.Repos) {
			t.Fatalf("a step of %#v: %#v", h, then)
		}
		pool := h.Pool
		if gone := len(h.Pool) - len(then.Pool); gone == 1 {
			at := slices.IndexFunc(h.Pool, func(item impl.PolItem) bool { return !slices.Contains(then.Pool, item) })
			pool = impl.PolOut(h.Pool, h.Pool[at].Id)
			seen["one less"]++
		} else if gone != 0 {
			t.Fatalf("a step of %#v: %d texts are gone", h, gone)
		}
		if !slices.Equal(pool, then.Pool) {
			t.Fatalf("a step of %#v: of the pool is left %v", h, then.Pool)
		}
		seen[fmt.Sprint("in ", h.Phase)]++
		if len(h.Tickets) > 0 {
			seen["under way"]++
		}
	}
	enough(t, seen, 200, "one less", "in 0", "in 1", "in 2", "under way")
}

// stepsTillIdle is behind how many steps nothing is swept any more, and the house by then.
func stepsTillIdle(h impl.HseHouse, most int) (int, impl.HseHouse) {
	for n := 1; n <= most; n++ {
		h = impl.GcStep(h)
		if h.Phase == impl.GcIdle {
			return n, h
		}
	}
	return most + 1, h
}

// P28.
func TestSweepingIsOverBehindSomeSteps(t *testing.T) {
	t.Parallel()
	longest := 0
	for h := range sweepings(228, 700) {
		if len(h.Pool) > 60 {
			continue
		}
		most := 4*len(h.Pool) + 5
		n, _ := stepsTillIdle(h, most)
		if n > most {
			t.Fatalf("behind %d steps %#v is swept still", most, h)
		}
		longest = max(longest, n)
	}
	if longest < 20 {
		t.Fatal("the most steps were", longest)
	}
}

// P28: of a house of which all is known each step is told: to begin, one for each that is marked, one between, one for each that is waste, and the end.
func TestHowManyStepsTheSweepingTakes(t *testing.T) {
	for _, c := range []struct {
		what  string
		h     impl.HseHouse
		steps int
	}{
		{"nothing at all", impl.HseNew([]int{1}, []int{1}), 3},
		{"idle", sweptHouse(0, nil, nil), 1 + 6 + 1 + 3 + 1},
		{"marking begins", sweptHouse(1, nil, []string{sweptRoot, "Lp"}), 6 + 1 + 3 + 1},
		{"all is marked, and grey", sweptHouse(1, sweptTexts, sweptTexts), 6 + 1 + 3 + 1},
		{"all is marked", sweptHouse(1, sweptTexts, nil), 1 + 3 + 1},
		{"sweeping", sweptHouse(2, sweptTexts, nil), 3 + 1},
		{"nothing to take out", sweptHouse(2, append([]string{wasteLeaf, wasteSheet, wasteTop}, sweptTexts...), nil), 1},
	} {
		if n, _ := stepsTillIdle(c.h, 100); n != c.steps {
			t.Fatalf("%s: %d steps, not %d", c.what, n, c.steps)
		}
	}
	h := impl.HseNew([]int{1}, []int{1})
	h.Pool = poolOfTexts(chainTexts(700)...)
	if n, _ := stepsTillIdle(h, 4*700+5); n != 1+1+700+1 {
		t.Fatal("a full pool of waste:", n, "steps")
	}
}

// P6 and P27.
func TestWasteIsSweptAway(t *testing.T) {
	t.Parallel()
	seen := map[string]int{}
	for h := range sweepings(206, 2500) {
		once := impl.GcAll(h)
		twice := impl.GcAll(once)
		if waste := impl.GcWaste(twice); len(waste) > 0 || !same(impl.MdlOf(twice), impl.MdlOf(h)) {
			t.Fatalf("%#v, swept twice, has the waste %v, and is %#v", h, waste, twice)
		}
		if h.Phase == impl.GcIdle && (len(impl.GcWaste(once)) > 0 || !same(twice, once)) {
			t.Fatalf("%#v, idle, swept once: %#v", h, once)
		}
		if once.Phase != impl.GcIdle || twice.Phase != impl.GcIdle || !same(once.Tickets, h.Tickets) || !same(once.Roll, h.Roll) {
			t.Fatalf("%#v, swept: %#v", h, once)
		}
		led, whole := impl.PolReach(h.Pool, impl.GcRoots(h))
		if all := sortedOnce(slices.Concat(led, impl.GcWaste(h))); !whole || !slices.Equal(all, impl.PolIds(h.Pool)) || len(all) != len(led)+len(impl.GcWaste(h)) {
			t.Fatalf("of %#v roots lead to %v, and the waste is %v", h, led, impl.GcWaste(h))
		}
		if !slices.Equal(impl.PolIds(twice.Pool), led) {
			t.Fatalf("of %#v there is left %v, not %v", h, impl.PolIds(twice.Pool), led)
		}
		seen[fmt.Sprint("in ", h.Phase)]++
		if len(impl.GcWaste(h)) > 0 {
			seen[fmt.Sprint("waste in ", h.Phase)]++
		}
		if len(impl.GcWaste(once)) > 0 {
			seen["waste behind one"]++
		}
	}
	enough(t, seen, 100, "in 0", "in 1", "in 2", "waste in 0", "waste in 1", "waste in 2", "waste behind one")
}

// P31.
func TestRootsRiseAndAreThere(t *testing.T) {
	t.Parallel()
	n := 0
	for h := range sweepings(231, 2000) {
		roots := impl.GcRoots(h)
		if !ascends(roots) {
			t.Fatalf("the roots of %#v: %v", h, roots)
		}
		for _, id := range roots {
			if _, there := impl.PolGet(h.Pool, id); !there {
				t.Fatalf("the roots of %#v: %d is not there", h, id)
			}
		}
		n += len(roots)
	}
	if n < 5000 {
		t.Fatal("too few were asked:", n)
	}
}

// laidBy is what a request that is done puts, by how it is kept then.
func laidBy(then impl.HseHouse, q impl.ReqReq) []string {
	return wantsByHand(impl.MdlOf(then), q)
}

// staysWhole asks whether texts are in the pool, with all to which they lead.
func staysWhole(h impl.HseHouse, texts []string) bool {
	led, whole := impl.PolReach(h.Pool, idsOf(texts...))
	return whole && len(led) >= len(idsOf(texts...)) && len(texts) > 0
}

// P29.
func TestDoneWhileItIsSwept(t *testing.T) {
	t.Parallel()
	seen := map[string]int{}
	for one := range keepings(229, 5000) {
		held := impl.MdlOf(one.h)
		all := impl.GcAll(one.then)
		if !impl.HseOk(all) || !same(impl.MdlOf(all), impl.MdlOf(one.then)) || !same(all.Roll, one.then.Roll) || !same(all.Tickets, one.h.Tickets) {
			t.Fatalf("%#v of %#v, and swept: %#v", one.q, one.h, all)
		}
		if one.a.Code == impl.AnsClash {
			continue
		}
		if then, a := impl.MdlDo(held, one.q); !same(impl.MdlOf(all), then) || !same(one.a, a) {
			t.Fatalf("%#v of %#v, and swept: %#v, %#v", one.q, one.h, one.a, all)
		}
		if one.a.Code != impl.AnsDone || !laysByHand(one.q) {
			continue
		}
		laid := laidBy(one.then, one.q)
		if !staysWhole(all, laid) || !staysWhole(impl.GcAll(all), laid) {
			t.Fatalf("%#v of %#v lays down %q, and of that is swept", one.q, one.h, laid)
		}
		seen[fmt.Sprint(kindHas[one.q.Kind].word, " in ", one.h.Phase)]++
		again := impl.GcAll(one.h)
		for _, text := range laid {
			_, there := impl.PolGet(one.h.Pool, idByHand(text))
			if _, stays := impl.PolGet(again.Pool, idByHand(text)); there && !stays {
				seen[fmt.Sprint("would be swept in ", one.h.Phase)]++
			}
		}
	}
	for _, phase := range phases {
		enough(t, seen, 10, fmt.Sprint("put in ", phase), fmt.Sprint("reset in ", phase), fmt.Sprint("copy in ", phase), fmt.Sprint("name in ", phase))
		enough(t, seen, 4, fmt.Sprint("would be swept in ", phase))
	}
}

// P29 and P30: what is put by a step stays, with all to which it leads, till the request is no more under way.
func TestPutByAStepWhileItIsSwept(t *testing.T) {
	t.Parallel()
	seen := map[string]int{}
	for one := range happenings(230, 4000, "step") {
		at := ticketAt(one.h, one.user)
		if at < 0 || one.told {
			continue
		}
		text := one.h.Tickets[at].Wait[0]
		all := impl.GcAll(one.then)
		twice := impl.GcAll(all)
		for _, then := range []impl.HseHouse{all, twice} {
			if !staysWhole(then, []string{text}) || !same(then.Tickets, one.then.Tickets) || !same(impl.MdlOf(then), impl.MdlOf(one.h)) {
				t.Fatalf("the user %d puts %q in %#v, and swept that is %#v", one.user, text, one.h, then)
			}
			if _, whole := impl.PolReach(then.Pool, impl.GcRoots(then)); !whole {
				t.Fatalf("the user %d puts %q in %#v, and something is gone: %#v", one.user, text, one.h, then)
			}
		}
		what := "new"
		if _, there := impl.PolGet(one.h.Pool, idByHand(text)); there {
			what = "there"
			if _, stays := impl.PolGet(impl.GcAll(one.h).Pool, idByHand(text)); !stays {
				what = "would be swept"
			}
		}
		seen[fmt.Sprint(what, " in ", one.h.Phase)]++
	}
	for _, phase := range phases {
		enough(t, seen, 50, fmt.Sprint("new in ", phase), fmt.Sprint("there in ", phase))
	}
	enough(t, seen, 5, "would be swept in 0", "would be swept in 1")
}

// reuseHouse has one ref that holds x, and as waste the whole tree of a ref that is gone: reuseFiles; and the sheet without entries.
func reuseHouse() impl.HseHouse {
	h := keptOf(impl.MdlHouse{
		Keys: []int{10, 11}, Used: []int{0, 0},
		Repos: []impl.MdlRepo{{Admin: 1, Rules: []impl.RulRule{{Write: true}}, Refs: []impl.MdlRef{
			{Name: "a", Count: 1, Versions: [][]impl.TreFile{filesAt("x")}},
		}}},
	}, append(layByHand(reuseFiles), "S", "Lother", "Lmore")...)
	h.Loose = idsOf("Lmore")
	return h
}

var reuseFiles = []impl.TreFile{{Path: "d/e/o", Bytes: "old"}, {Path: "d/p", Bytes: "pp"}, {Path: "x", Bytes: "x"}}

// reuseRequest makes the ref what the one that is gone was.
func reuseRequest() impl.ReqReq {
	return putOf(impl.TreEdit{Path: "d/e/o", Bytes: "old"}, impl.TreEdit{Path: "d/p", Bytes: "pp"})
}

// P29: at each step of a sweeping, from the beginning to the end, what is waste is used again.
func TestUsedAgainAtEachStep(t *testing.T) {
	texts := layByHand(reuseFiles)
	h := reuseHouse()
	n, _ := stepsTillIdle(h, 100)
	for steps := range n + 1 {
		there := 0
		for _, text := range texts {
			if _, ok := impl.PolGet(h.Pool, idByHand(text)); ok {
				there++
			}
		}
		then, a := impl.HseDo(h, reuseRequest())
		name, named := impl.HseDo(h, impl.ReqReq{User: 1, Key: 10, Kind: impl.ReqName, Ref: "b"})
		for sweeps := range n + 2 {
			files, ok := impl.MdlFiles(impl.MdlOf(then), 0, "a", 0)
			if a.Code != impl.AnsDone || !impl.HseOk(then) || !ok || !sameFiles(files, reuseFiles) || !staysWhole(then, texts) {
				t.Fatalf("behind %d steps, with %d of the texts there, and %d more: %#v, %#v", steps, there, sweeps, a, then)
			}
			if named.Code != impl.AnsDone || !impl.HseOk(name) || !staysWhole(name, []string{"S"}) {
				t.Fatalf("behind %d steps, and %d more, the ref b: %#v, %#v", steps, sweeps, named, name)
			}
			then, name = impl.GcStep(then), impl.GcStep(name)
		}
		for _, all := range []impl.HseHouse{impl.GcAll(then), impl.GcAll(impl.GcAll(then))} {
			if !staysWhole(all, texts) || !impl.HseOk(all) {
				t.Fatalf("behind %d steps, and swept: %#v", steps, all)
			}
		}
		h = impl.GcStep(h)
	}
	if len(h.Pool) > len(idsOf("Lx", "S"))+1 {
		t.Fatalf("the waste was not swept: %#v", h)
	}
}

// P29 and P30: the same by a request that is begun, and gone on with, at any step of a sweeping, with so many steps of it between.
func TestUsedAgainStepByStep(t *testing.T) {
	texts := layByHand(reuseFiles)
	seen := map[string]int{}
	for ahead := range 20 {
		h := reuseHouse()
		for range ahead {
			h = impl.GcStep(h)
		}
		for between := range 25 {
			then, _, told := impl.HseStart(h, reuseRequest())
			var a impl.AnsAnswer
			steps := 0
			for ; !told && steps < 20; steps++ {
				for range between {
					then = impl.GcStep(then)
				}
				countUse(seen, then)
				then, a, told = impl.HseStep(then, 1)
				if !told && !staysWhole(then, texts[:steps+1]) || !impl.HseOk(then) {
					t.Fatalf("%d ahead, %d between, behind the step %d: %#v", ahead, between, steps, then)
				}
			}
			files, _ := impl.MdlFiles(impl.MdlOf(then), 0, "a", 0)
			if a.Code != impl.AnsDone || steps != len(texts)+1 || !sameFiles(files, reuseFiles) {
				t.Fatalf("%d ahead, %d between: %#v behind %d steps, %q", ahead, between, a, steps, files)
			}
			all := impl.GcAll(impl.GcAll(then))
			led := ledTo(linksOf(then.Pool), rootsByHand(then), nil)
			if !staysWhole(all, texts) || !slices.Equal(impl.PolIds(all.Pool), slices.Sorted(maps.Keys(led))) {
				t.Fatalf("%d ahead, %d between, and swept: %#v", ahead, between, all)
			}
		}
	}
	enough(t, seen, 20, "gone in 0", "gone in 1", "gone in 2", "there in 1", "marked in 2", "unmarked in 2", "unmarked in 1")
}

// countUse tells apart how the text is found that user 1 puts next.
func countUse(seen map[string]int, h impl.HseHouse) {
	wait := h.Tickets[0].Wait
	if len(wait) == 0 {
		return
	}
	id := idByHand(wait[0])
	_, there := impl.PolGet(h.Pool, id)
	what := "gone"
	if there {
		what = "unmarked"
		seen[fmt.Sprint("there in ", h.Phase)]++
	}
	if slices.Contains(h.Marks, id) {
		what = "marked"
	}
	seen[fmt.Sprint(what, " in ", h.Phase)]++
}

// P30: what is under way, all put, stays through any sweeping, and it is waste when it is given up.
func TestWhatIsUnderWayIsNotSweptAway(t *testing.T) {
	h, _, _ := impl.HseStart(reuseHouse(), putOf(impl.TreEdit{Path: "n", Bytes: "new"}))
	texts := layByHand([]impl.TreFile{{Path: "n", Bytes: "new"}, {Path: "x", Bytes: "x"}})
	for range texts {
		h, _, _ = impl.HseStep(h, 1)
		h = impl.GcAll(h)
	}
	if !slices.Equal(impl.PolIds(h.Pool), idsOf(append([]string{layByHand(filesAt("x"))[1]}, texts...)...)) || !slices.Equal(h.Loose, idsOf("Lnew", texts[2])) {
		t.Fatalf("%#v", h)
	}
	left := impl.HseLeave(h, 1)
	if !slices.Equal(impl.GcWaste(left), idsOf("Lnew", texts[2])) || len(impl.GcWaste(h)) > 0 {
		t.Fatalf("given up, the waste is %v, and was %v", impl.GcWaste(left), impl.GcWaste(h))
	}
	if all := impl.GcAll(left); !slices.Equal(impl.PolIds(all.Pool), idsOf(layByHand(filesAt("x"))...)) || len(all.Loose) > 0 {
		t.Fatalf("given up, and swept: %#v", all)
	}
}

// P30.
func TestSweptAheadOfEachStep(t *testing.T) {
	t.Parallel()
	r := rand.New(rand.NewPCG(10, 30))
	seen := map[string]int{}
	for one := range happenings(231, 2500, "start") {
		if one.told {
			continue
		}
		want, answer, _, _ := alone(one.h, one.q)
		for what, sweep := range map[string]func(impl.HseHouse) impl.HseHouse{
			"all": impl.GcAll,
			"a few steps": func(h impl.HseHouse) impl.HseHouse {
				for range r.IntN(9) {
					h = impl.GcStep(h)
				}
				return h
			},
		} {
			then := one.then
			var a impl.AnsAnswer
			told := false
			for steps := 0; !told && steps < 1000; steps++ {
				then, a, told = impl.HseStep(sweep(then), one.user)
			}
			if !told || answer.Code == impl.AnsClash || a.Code == impl.AnsClash {
				seen["clash"]++
				continue
			}
			if !same(a, answer) || !same(impl.MdlOf(then), impl.MdlOf(want)) || !same(then.Roll, want.Roll) || !impl.HseOk(then) {
				t.Fatalf("%#v of %#v, %s swept between: %#v, %#v, not %#v", one.q, one.h, what, a, then, answer)
			}
			seen[fmt.Sprint(kindHas[one.q.Kind].word, " in ", one.h.Phase)]++
		}
	}
	for _, phase := range phases {
		enough(t, seen, 30, fmt.Sprint("put in ", phase), fmt.Sprint("reset in ", phase), fmt.Sprint("copy in ", phase))
	}
}
