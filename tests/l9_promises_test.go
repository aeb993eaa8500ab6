package tests

import (
	"fmt"
	"math/rand/v2"
	"slices"
	"testing"

	"loop.example/chartulary/impl"
)

// countFall tells apart what falls, and what is kept of it.
func countFall(one happening) []string {
	n := len(one.h.Loose)
	said := []string{fmt.Sprint("in ", one.h.Phase), fmt.Sprint("under way ", len(one.h.Tickets) > 0)}
	switch {
	case n == 0:
		said = append(said, "nothing Loose")
	case len(one.keep) < n:
		said = append(said, "shorter")
	case len(one.keep) > n:
		said = append(said, "longer")
	default:
		said = append(said, "as long")
	}
	all, none := !slices.Contains(one.keep, false), !slices.Contains(one.keep, true)
	switch {
	case len(one.keep) == 0:
		return append(said, "no keep")
	case all:
		return append(said, "all true")
	case none:
		return append(said, "all false")
	}
	return append(said, "some true")
}

// askFall asks whether what was answered is there behind a fall, and of what was Loose just what is kept.
func askFall(t *testing.T, one happening) {
	t.Helper()
	h, then := one.h, one.then
	if !impl.HseOk(then) || !same(impl.MdlOf(then), impl.MdlOf(h)) || !same(then.Roll, h.Roll) {
		t.Fatalf("%#v falls, and is %#v", h, then)
	}
	if len(then.Tickets)+len(then.Grey)+len(then.Marks)+len(then.Loose) > 0 || then.Phase != impl.GcIdle {
		t.Fatalf("%#v falls, and there is left %#v", h, then)
	}
	for _, user := range fewUsers {
		if impl.HseBusy(then, user) {
			t.Fatalf("%#v falls, and the user %d is busy", h, user)
		}
	}
	var left []impl.PolItem
	for _, item := range h.Pool {
		place := slices.Index(h.Loose, item.Id)
		if place < 0 || place < len(one.keep) && one.keep[place] {
			left = append(left, item)
		}
	}
	if !same(then.Pool, left) {
		t.Fatalf("%#v falls with %v, and of its pool there is left %v", h, one.keep, then.Pool)
	}
	for _, keep := range [][]bool{nil, one.keep, repeated(false, 9), repeated(true, 9)} {
		if again := impl.HseFall(then, keep); !same(again, then) {
			t.Fatalf("%#v falls once more, with %v, and is %#v", then, keep, again)
		}
	}
}

// P5.
func TestWhoFallsLosesNothingThatWasAnswered(t *testing.T) {
	t.Parallel()
	seen := map[string]int{}
	for one := range happenings(105, 1500, "fall") {
		askFall(t, one)
		for _, what := range countFall(one) {
			seen[what]++
		}
	}
	enough(t, seen, 100, "in 0", "in 1", "in 2", "under way true", "under way false", "nothing Loose", "shorter", "longer", "as long")
	enough(t, seen, 30, "no keep", "all true", "all false", "some true")
}

// P5, at each place of a run, and whatever is kept.
func TestFallAtEachStep(t *testing.T) {
	q := putOf(impl.TreEdit{Path: "d/n", Bytes: "new"}, impl.TreEdit{Path: "m", Bytes: "more"})
	for _, phase := range phases {
		h, _, _ := impl.HseStart(inPhase(storyHouse(), phase, 2), q)
		for steps := 0; steps < 20 && impl.HseBusy(h, 1); steps++ {
			n := len(h.Loose)
			for which := range 1 << n {
				keep := make([]bool, n)
				for k := range keep {
					keep[k] = which>>k&1 == 1
				}
				askFall(t, fallen(h, keep))
			}
			h, _, _ = impl.HseStep(h, 1)
		}
		if len(h.Roll) != 1 || h.Roll[0].Code != impl.AnsDone {
			t.Fatalf("in the Phase %d: %v", phase, h.Roll)
		}
		askFall(t, fallen(h, nil))
		askFall(t, fallen(h, repeated(true, 99)))
	}
}

// P5: what was lost is put again, where a sheet that names it was kept.
func TestWhatWasLostIsPutAgain(t *testing.T) {
	q := putOf(impl.TreEdit{Path: "d/n", Bytes: "new"})
	texts := layByHand([]impl.TreFile{{Path: "d/n", Bytes: "new"}, {Path: "x", Bytes: "x"}})
	for _, text := range texts {
		first := storyHouse()
		h, _, _ := impl.HseStart(first, q)
		for range texts {
			h, _, _ = impl.HseStep(h, 1)
		}
		keep := repeated(false, len(h.Loose))
		if place := slices.Index(h.Loose, idByHand(text)); place >= 0 {
			keep[place] = true
		}
		h = impl.HseFall(h, keep)
		for _, ask := range []func(impl.HseHouse) (impl.HseHouse, impl.AnsAnswer){
			func(h impl.HseHouse) (impl.HseHouse, impl.AnsAnswer) { return impl.HseDo(h, q) },
			func(h impl.HseHouse) (impl.HseHouse, impl.AnsAnswer) { then, a, _, _ := alone(h, q); return then, a },
		} {
			then, a := ask(h)
			want, _ := impl.HseDo(first, q)
			if a.Code != impl.AnsDone || !impl.HseOk(then) || !same(impl.MdlOf(then), impl.MdlOf(want)) || len(then.Loose) > 0 {
				t.Fatalf("%q was kept: %#v, %#v", text, a, then)
			}
		}
	}
}

// alone begins a request and goes on with it till it is answered: the house, the answer, how many steps, and whether it was under way.
func alone(h impl.HseHouse, q impl.ReqReq) (impl.HseHouse, impl.AnsAnswer, int, bool) {
	then, a, told := impl.HseStart(h, q)
	under := !told
	steps := 0
	for ; !told && steps < 1000; steps++ {
		then, a, told = impl.HseStep(then, q.User)
	}
	return then, a, steps, under
}

// P18. Alone nothing else is put, so also a clash comes just where HseDo has one, and the pool, what is Loose and what is marked are the same.
func TestStepByStepIsAsAtOnce(t *testing.T) {
	t.Parallel()
	seen := map[string]int{}
	for one := range happenings(118, 4000, "start") {
		h, q := one.h, one.q
		if impl.HseBusy(h, q.User) {
			continue
		}
		want, code := impl.HseDo(h, q)
		then, a, steps, under := alone(h, q)
		held, heldAnswer := impl.MdlDo(impl.MdlOf(h), q)
		if !same(a, code) || a.Code != impl.AnsClash && (!same(then, want) || !same(impl.MdlOf(then), held) || !same(a, heldAnswer)) {
			t.Fatalf("%#v of %#v: %#v, %#v; at once %#v, %#v", q, h, a, then, code, want)
		}
		word := kindHas[q.Kind].word
		switch {
		case !under:
			seen[word+" at once"]++
			if steps != 0 || impl.ReqWrites(q) && a.Code == impl.AnsDone {
				t.Fatalf("%#v of %#v is answered at once: %#v, and %d steps", q, h, a, steps)
			}
		case a.Code == impl.AnsClash:
			seen["clash"]++
		default:
			seen[fmt.Sprint(word, " in ", h.Phase)]++
			latest, _ := impl.MdlFiles(held, q.Repo, q.Ref, 0)
			if texts, _ := impl.TreLay(latest); steps != len(texts)+1 {
				t.Fatalf("%#v of %#v: %d steps, with %d texts", q, h, steps, len(texts))
			}
		}
	}
	for _, phase := range phases {
		for _, kind := range []int{impl.ReqPut, impl.ReqReset, impl.ReqCopy} {
			enough(t, seen, 30, fmt.Sprint(kindHas[kind].word, " in ", phase))
		}
	}
	enough(t, seen, 5, "clash")
	for _, kind := range kindHas {
		enough(t, seen, 5, kind.word+" at once")
	}
}

// P18: what is alike in a version is as often a step as it is a text of TreLay.
func TestHowManyStepsThereAre(t *testing.T) {
	lay := func(path, bytes string) impl.TreEdit { return impl.TreEdit{Path: path, Bytes: bytes} }
	out := impl.TreEdit{Path: "x", Gone: true}
	for _, phase := range phases {
		for _, lines := range []int{0, 119, 120} {
			h := inPhase(storyHouse(), phase, 2)
			h.Roll = linesOf(lines)
			for _, c := range []struct {
				q     impl.ReqReq
				steps int
			}{
				{putOf(out), 2},
				{putOf(lay("x", "x")), 3},
				{putOf(lay("b", "x")), 4},
				{putOf(lay("b", "x"), lay("c", "x"), lay("d", "x")), 6},
				{putOf(lay("b/c", "x")), 5},
				{putOf(lay("b/c/d", "x")), 6},
				{putOf(lay("b/c/d", "x"), lay("e/c/d", "x")), 9},
				{putOf(lay("b/c/d", "x"), lay("b/c/e", "x"), out), 6},
				{impl.ReqReq{User: 1, Key: 10, Kind: impl.ReqReset, Ref: "a", Old: 1}, 3},
				{impl.ReqReq{User: 1, Key: 10, Kind: impl.ReqReset, Ref: "a", Old: 1, Back: 1}, 2},
				{impl.ReqReq{User: 1, Key: 10, Kind: impl.ReqCopy, Ref: "b", Old: 2, Other: "a"}, 3},
			} {
				then, a, steps, under := alone(h, c.q)
				if !under || steps != c.steps || a.Code != impl.AnsDone || len(then.Roll) != min(lines+1, 120) {
					t.Fatalf("%#v in the Phase %d: %d steps, not %d; %#v, %d lines", c.q, phase, steps, c.steps, a, len(then.Roll))
				}
			}
		}
	}
}

// othersOf is what others than a user have under way.
func othersOf(h impl.HseHouse, user int) []impl.HseTicket {
	return slices.DeleteFunc(slices.Clone(h.Tickets), func(ticket impl.HseTicket) bool { return ticket.Req.User == user })
}

// askHeldAlike asks that nothing of what the house holds, of the roll, and of what others have under way is turned, nor how far the sweeping is.
func askHeldAlike(t *testing.T, one happening) {
	t.Helper()
	h, then := one.h, one.then
	if !same(impl.MdlOf(then), impl.MdlOf(h)) || !same(then.Roll, h.Roll) || !same(then.Repos, h.Repos) || !same(othersOf(then, one.user), othersOf(h, one.user)) {
		t.Fatalf("%s of the user %d turned %#v into %#v", one.what, one.user, h, then)
	}
	if then.Phase != h.Phase || !same(then.Grey, h.Grey) {
		t.Fatalf("%s of the user %d turned the sweeping of %#v into %d, %v", one.what, one.user, h, then.Phase, then.Grey)
	}
}

func samePool(a, b impl.HseHouse) bool {
	return same(a.Pool, b.Pool) && same(a.Loose, b.Loose) && same(a.Marks, b.Marks)
}

// P19.
func TestToBeginTurnsNothing(t *testing.T) {
	t.Parallel()
	seen := map[string]int{}
	for one := range happenings(119, 3500, "start") {
		if one.told {
			seen["told"]++
			if busy := impl.HseBusy(one.h, one.user); impl.HseBusy(one.then, one.user) != busy {
				t.Fatalf("%#v of %#v is answered, and the user is busy: %v", one.q, one.h, !busy)
			}
			continue
		}
		askHeldAlike(t, one)
		if !samePool(one.h, one.then) || !same(one.a, impl.AnsAnswer{}) {
			t.Fatalf("%#v of %#v: %#v, %#v", one.q, one.h, one.a, one.then)
		}
		if impl.HseBusy(one.h, one.user) || !impl.HseBusy(one.then, one.user) {
			t.Fatalf("%#v of %#v: the user was busy, or is not", one.q, one.h)
		}
		ticket := one.then.Tickets[ticketAt(one.then, one.user)]
		held, a := impl.MdlDo(impl.MdlOf(one.h), one.q)
		latest, _ := impl.MdlFiles(held, one.q.Repo, one.q.Ref, 0)
		texts, _ := impl.TreLay(latest)
		if a.Code != impl.AnsDone || !same(ticket, impl.HseTicket{Req: one.q, Wait: texts}) {
			t.Fatalf("%#v of %#v: under way is %#v", one.q, one.h, ticket)
		}
		seen["under way"]++
		if len(one.h.Tickets) > 0 {
			seen["beside others"]++
		}
		if len(one.h.Roll) == 120 {
			seen["no room on the roll"]++
		}
	}
	enough(t, seen, 100, "told", "under way", "beside others")
	enough(t, seen, 20, "no room on the roll")
}

// P20.
func TestStepPutsTheFirstText(t *testing.T) {
	t.Parallel()
	seen := map[string]int{}
	for one := range happenings(120, 4500, "step") {
		if one.told {
			continue
		}
		askHeldAlike(t, one)
		h, then := one.h, one.then
		at := ticketAt(h, one.user)
		if at < 0 {
			if !same(then, h) {
				t.Fatalf("the user %d has nothing under way, and turned %#v into %#v", one.user, h, then)
			}
			seen["nothing under way"]++
			continue
		}
		was, is := h.Tickets[at], then.Tickets[at]
		pool, id, came := impl.PolPut(h.Pool, was.Wait[0])
		if !same(then.Pool, pool) || !same(is.Req, was.Req) || !slices.Equal(is.Wait, was.Wait[1:]) || !slices.Equal(is.Pins, sortedOnce(append([]int{id}, was.Pins...))) {
			t.Fatalf("the user %d steps in %#v: %#v, %v", one.user, h, is, then.Pool)
		}
		loose, marks := h.Loose, h.Marks
		if came == impl.PolNew {
			loose = sortedOnce(append([]int{id}, h.Loose...))
		}
		if h.Phase != impl.GcIdle {
			led, _ := impl.PolReach(pool, []int{id})
			marks = sortedOnce(append(led, h.Marks...))
		}
		if !slices.Equal(then.Loose, loose) || !slices.Equal(then.Marks, marks) || !slices.Equal(then.Used, h.Used) {
			t.Fatalf("the user %d steps in %#v: Loose %v, Marks %v", one.user, h, then.Loose, then.Marks)
		}
		seen[fmt.Sprint("came ", came, " in ", h.Phase)]++
		if len(h.Tickets) > 1 {
			seen["beside others"]++
		}
		if slices.Contains(h.Loose, id) {
			seen["Loose already"]++
		}
		if h.Phase != impl.GcIdle && !slices.Equal(marks, h.Marks) {
			seen["marked"]++
		}
	}
	for _, phase := range phases {
		enough(t, seen, 50, fmt.Sprint("came ", impl.PolNew, " in ", phase), fmt.Sprint("came ", impl.PolThere, " in ", phase))
	}
	enough(t, seen, 50, "nothing under way", "beside others", "marked")
	enough(t, seen, 10, "Loose already")
}

// P21.
func TestToLeaveTurnsNothing(t *testing.T) {
	t.Parallel()
	seen := map[bool]int{}
	for one := range happenings(121, 2000, "leave") {
		askHeldAlike(t, one)
		if !samePool(one.h, one.then) || impl.HseBusy(one.then, one.user) {
			t.Fatalf("the user %d leaves %#v: %#v", one.user, one.h, one.then)
		}
		busy := impl.HseBusy(one.h, one.user)
		seen[busy]++
		if gone := len(one.h.Tickets) - len(one.then.Tickets); busy != (gone == 1) {
			t.Fatalf("the user %d leaves %#v, and %d are gone", one.user, one.h, gone)
		}
	}
	if seen[true] < 300 || seen[false] < 300 {
		t.Fatal("too few were asked:", seen)
	}
}

// P21: who leaves may begin anew, and what was put needs no room then.
func TestToBeginAnewBehindLeaving(t *testing.T) {
	q := putOf(impl.TreEdit{Path: "n", Bytes: "new"})
	for _, phase := range phases {
		h := inPhase(fillPool(storyHouse(), 2), phase, 2)
		for steps := range 4 {
			then, _, _ := impl.HseStart(h, q)
			for range steps {
				then, _, _ = impl.HseStep(then, 1)
			}
			then, a, n, under := alone(impl.HseLeave(then, 1), q)
			if !under || n != 4 || a.Code != impl.AnsDone || len(then.Pool) != 700 || len(then.Roll) != 1 {
				t.Fatalf("in the Phase %d, behind %d steps: %#v, %d steps, %d texts", phase, steps, a, n, len(then.Pool))
			}
		}
	}
}

// Where there is an answer, a line with its code comes on the roll, if there is room; where there is none, none.
func TestLinesOfWhatIsUnderWay(t *testing.T) {
	t.Parallel()
	seen := map[string]int{}
	for one := range happenings(122, 3000, "") {
		want := one.h.Roll
		if one.told {
			want = withLine(one.h, one.q, one.a.Code).Roll
		}
		if !slices.Equal(one.then.Roll, want) {
			t.Fatalf("%s of %#v in %#v: %v", one.what, one.q, one.h, one.then.Roll)
		}
		seen[fmt.Sprint(one.what, " told ", one.told)]++
		if one.told {
			seen[fmt.Sprint(one.what, " at ", len(one.h.Roll))]++
		}
	}
	enough(t, seen, 50, "start told true", "start told false", "step told true", "step told false", "leave told false", "fall told false")
	for _, what := range []string{"start", "step"} {
		enough(t, seen, 10, what+" at 119", what+" at 120")
	}
}

// Users go on beside each other, in any order, and each is answered as MdlDo of what the house holds by then.
func TestUsersBesideEachOther(t *testing.T) {
	t.Parallel()
	r := rand.New(rand.NewPCG(9, 123))
	seen := map[string]int{}
	for range 40 {
		h := grownRun(r)
		for range 60 {
			user := 1 + r.IntN(4)
			one := stepped(h, user)
			if !impl.HseBusy(h, user) {
				m := impl.MdlOf(h)
				q := requestTo(r, m, impl.ReqPut, impl.ReqReset, impl.ReqCopy)
				q.User, q.Key = user, m.Keys[user-1]
				one = started(h, q)
			}
			if one.told && one.a.Code != impl.AnsClash {
				m, a := impl.MdlDo(impl.MdlOf(h), one.q)
				if !same(one.a, a) || !same(impl.MdlOf(one.then), m) {
					t.Fatalf("%s of %#v in %#v: %#v, not %#v", one.what, one.q, h, one.a, a)
				}
				seen[fmt.Sprint(one.what, " code ", a.Code)]++
			} else if !same(impl.MdlOf(one.then), impl.MdlOf(h)) {
				t.Fatalf("%s of %#v turned %#v into %#v", one.what, one.q, h, one.then)
			}
			seen[fmt.Sprint(len(one.then.Tickets), " under way")]++
			if !impl.HseOk(one.then) {
				t.Fatalf("%s of %#v in %#v: %#v is not ok", one.what, one.q, h, one.then)
			}
			h = one.then
			for range r.IntN(6) {
				h = sweepOn(h)
			}
		}
	}
	enough(t, seen, 20, "0 under way", "1 under way", "2 under way", "3 under way", "step code 1", "step code 6", "start code 6")
}

// The document's example, as far as it is of what is under way.
func TestExampleOfAFall(t *testing.T) {
	h := impl.HseNew([]int{10, 11, 12}, []int{1})
	for _, q := range []impl.ReqReq{
		{User: 1, Key: 10, Kind: impl.ReqName, Ref: "a"},
		{User: 1, Key: 10, Kind: impl.ReqAllow, Rule: impl.RulRule{User: 1, Write: true}},
		{User: 1, Key: 10, Kind: impl.ReqAllow, Rule: impl.RulRule{User: 2, Ref: "a", Path: "pub"}},
		{User: 1, Key: 10, Kind: impl.ReqPut, Ref: "a", Edits: []impl.TreEdit{{Path: "pub/x", Bytes: "A"}, {Path: "own", Bytes: "B"}}},
	} {
		h, _ = impl.HseDo(h, q)
	}
	first := h
	h, _, told := impl.HseStart(h, impl.ReqReq{User: 1, Key: 10, Kind: impl.ReqPut, Ref: "a", Old: 1, Edits: []impl.TreEdit{{Path: "pub/y", Bytes: "A"}}})
	h, _, again := impl.HseStep(h, 1)
	h, a, at := impl.HseStart(sweepOn(h), impl.ReqReq{User: 2, Key: 11, Kind: impl.ReqPut, Ref: "a", Old: 1, Edits: []impl.TreEdit{{Path: "pub/z", Bytes: "C"}}})
	if told || again || !at || a.Code != impl.AnsMayNot || !impl.HseBusy(h, 1) || len(h.Tickets[0].Pins) != 1 {
		t.Fatalf("%v, %v, %v, %#v, %#v", told, again, at, a, h.Tickets)
	}
	h = impl.HseFall(h, []bool{false})
	if !same(h, withLine(first, impl.ReqReq{User: 2, Kind: impl.ReqPut}, impl.AnsMayNot)) {
		t.Fatalf("%#v, not %#v", h, first)
	}
}
