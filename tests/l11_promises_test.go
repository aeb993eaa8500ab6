package tests

import (
	"fmt"
	"iter"
	"maps"
	"math/rand/v2"
	"slices"
	"testing"

	"loop.example/chartulary/impl"
)

// runOf is all that comes of events, one behind the other.
func runOf(h impl.HseHouse, list []impl.EvtEvent) []event {
	var run []event
	for _, e := range list {
		one := happened(h, e)
		run = append(run, one)
		h = one.then
	}
	return run
}

func eventsOf(run []event) []impl.EvtEvent {
	var list []impl.EvtEvent
	for _, one := range run {
		list = append(list, one.e)
	}
	return list
}

// firstHouse is four users and two repos, at their beginning.
func firstHouse() impl.HseHouse { return impl.HseNew([]int{10, 11, 10, 12}, []int{1, 3}) }

// firstEvents name some refs, and let some users in, so that more is done than refused.
func firstEvents(r *rand.Rand) []impl.EvtEvent {
	var list []impl.EvtEvent
	do := func(q impl.ReqReq) {
		q.Key = firstHouse().Keys[q.User-1]
		list = append(list, impl.EvtEvent{Kind: impl.EvtDo, Req: q})
	}
	for i, user := range []int{1, 1, 3} {
		do(impl.ReqReq{User: user, Repo: i / 2, Kind: impl.ReqName, Ref: string(rune('a' + i))})
	}
	do(impl.ReqReq{User: 1, Kind: impl.ReqAllow, Rule: impl.RulRule{User: oneOf(r, []int{0, 2}), Write: true}})
	do(impl.ReqReq{User: 1, Kind: impl.ReqAllow, Rule: impl.RulRule{User: 1, Write: true}})
	do(impl.ReqReq{User: 3, Repo: 1, Kind: impl.ReqAllow, Rule: impl.RulRule{User: oneOf(r, []int{0, 0, 4}), Write: true}})
	return list
}

// drawnRun is a run from HseNew on, of so many events, each drawn by what the house is then.
func drawnRun(r *rand.Rand, n int, draw func(*rand.Rand, impl.HseHouse) impl.EvtEvent) []event {
	run := runOf(firstHouse(), firstEvents(r))
	for len(run) < n {
		h := run[len(run)-1].then
		run = append(run, happened(h, draw(r, h)))
	}
	return run
}

// anyEvent is of any kind, and may clash.
func anyEvent(r *rand.Rand, h impl.HseHouse) impl.EvtEvent {
	return eventOf(r, h, anyKind(r, h))
}

// calmEvent does not clash, but by chance.
func calmEvent(r *rand.Rand, h impl.HseHouse) impl.EvtEvent {
	e := anyEvent(r, h)
	kinds := []int{}
	if e.Kind == impl.EvtStart {
		kinds = []int{impl.ReqPut, impl.ReqPut, impl.ReqReset, impl.ReqCopy}
	}
	m := impl.MdlOf(h)
	e.Req = requestTo(r, m, kinds...)
	for range oneOf(r, []int{0, 0, 9}) {
		if codeByHand(m, e.Req) == impl.AnsDone {
			break
		}
		e.Req = requestTo(r, m, kinds...)
	}
	return e
}

// busyEvent is nearly always a request that is answered, so that the roll fills.
func busyEvent(r *rand.Rand, h impl.HseHouse) impl.EvtEvent {
	if r.IntN(3) > 0 {
		return eventOf(r, h, impl.EvtDo)
	}
	return anyEvent(r, h)
}

// sweepingEvent is mostly a step of the sweeping, so that it comes to its end over and over.
func sweepingEvent(r *rand.Rand, h impl.HseHouse) impl.EvtEvent {
	if r.IntN(4) > 0 {
		return eventOf(r, h, impl.EvtSweep)
	}
	return calmEvent(r, h)
}

// drawnRuns is runs of each manner.
func drawnRuns(seed uint64, n int) iter.Seq[[]event] {
	return func(yield func([]event) bool) {
		r := rand.New(rand.NewPCG(12, seed))
		for i := range n {
			draw, long := anyEvent, 120
			switch i % 4 {
			case 1:
				draw = calmEvent
			case 2:
				draw, long = busyEvent, 200
			case 3:
				draw, long = sweepingEvent, 250
			}
			if !yield(drawnRun(r, long, draw)) {
				return
			}
		}
	}
}

func clashes(run []event) bool {
	return slices.ContainsFunc(run, func(one event) bool { return one.told && one.a.Code == impl.AnsClash })
}

// P1. The model is gone on with by MdlDo alone.
func TestAsIfEachWereDoneAtOnce(t *testing.T) {
	t.Parallel()
	seen := map[string]int{}
	for run := range drawnRuns(1, 60) {
		m := impl.MdlNew([]int{10, 11, 10, 12}, []int{1, 3})
		for _, one := range run {
			if one.told && one.a.Code != impl.AnsClash {
				var a impl.AnsAnswer
				m, a = impl.MdlDo(m, one.request())
				if !same(one.a, a) {
					t.Fatalf("%#v of %#v: %#v, at once %#v", one.e, one.h, one.a, a)
				}
			}
			if !same(impl.MdlOf(one.then), m) {
				t.Fatalf("%#v of %#v: %#v, not %#v", one.e, one.h, impl.MdlOf(one.then), m)
			}
			switch {
			case one.told && one.e.Kind == impl.EvtStep:
				seen[fmt.Sprint("step code ", one.a.Code)]++
				seen[fmt.Sprint("step code ", one.a.Code, " in ", one.h.Phase)]++
			case one.told:
				seen[fmt.Sprint(kindHas[one.request().Kind].word, " code ", one.a.Code)]++
			case same(one.h, one.then):
				seen["nothing"]++
			default:
				seen[fmt.Sprint("kind ", one.e.Kind)]++
			}
			if len(one.h.Tickets) > 1 {
				seen["beside each other"]++
			}
		}
	}
	enough(t, seen, 20, "step code 1", "nothing", "kind 2", "kind 3", "kind 4", "kind 5", "kind 6", "beside each other")
	enough(t, seen, 5, "step code 1 in 0", "step code 1 in 1", "step code 1 in 2", fmt.Sprint("step code ", impl.AnsStale), fmt.Sprint("step code ", impl.AnsClash))
	for _, kind := range kindHas {
		enough(t, seen, 10, kind.word+" code 1")
	}
}

// A place that some users never come to see: the paths of ref a of repo 0 at it and under it.
var secrets = []string{"", "s", "s/t", "s/t/u", "q"}

func lies(a, b string) bool { return impl.PthUnder(a, b) || impl.PthUnder(b, a) }

// hides says whether no rule that there ever was lets a user at a secret path, or over it, or under it.
func hides(run []event, user int, secret string) bool {
	for _, one := range run {
		for _, rule := range one.then.Repos[0].Rules {
			if (rule.User == 0 || rule.User == user) && (rule.Ref == "" || rule.Ref == "a") && lies(rule.Path, secret) {
				return false
			}
		}
	}
	return true
}

// secretEvent never copies ref a of repo 0; its puts are mostly there, and rules are mostly not about it.
func secretEvent(r *rand.Rand, h impl.HseHouse) impl.EvtEvent {
	e := calmEvent(r, h)
	if r.IntN(3) == 0 && e.Kind <= impl.EvtStart {
		e.Req = impl.ReqReq{User: 1, Key: 10, Kind: impl.ReqPut, Ref: "a"}
		for _, ref := range h.Repos[0].Refs {
			if ref.Name == "a" {
				e.Req.Old = ref.Count
			}
		}
		for range 1 + r.IntN(3) {
			e.Req.Edits = append(e.Req.Edits, impl.TreEdit{Path: oneOf(r, []string{"s/t/u", "s/t/v", "s/w", "q", "p/x", "p/y"}), Bytes: string(rune('a' + r.IntN(3)))})
		}
	}
	if e.Req.Kind == impl.ReqAllow && r.IntN(8) > 0 {
		e.Req.Rule.Ref = "b"
	}
	if e.Kind <= impl.EvtStart && r.IntN(3) == 0 {
		e.Req = impl.ReqReq{User: 2 + r.IntN(3), Kind: oneOf(r, []int{impl.ReqLook, impl.ReqRefs, impl.ReqUsed, impl.ReqPut, impl.ReqReset}), Ref: "a", Back: r.IntN(2), Edits: e.Req.Edits, Old: e.Req.Old}
		e.Req.Key = h.Keys[e.Req.User-1]
	}
	if e.Req.Kind == impl.ReqCopy && e.Req.From == 0 && e.Req.Other == "a" {
		e.Req.Other = "b"
	}
	return e
}

// secretRun is one in which users 2 to 4 may something, but not all.
func secretRun(r *rand.Rand) []event {
	var list []impl.EvtEvent
	for _, q := range []impl.ReqReq{
		{Kind: impl.ReqName, Ref: "a"},
		{Kind: impl.ReqName, Ref: "b"},
		{Kind: impl.ReqAllow, Rule: impl.RulRule{User: 1, Write: true}},
		{Kind: impl.ReqAllow, Rule: impl.RulRule{User: 2, Ref: "a", Path: "p", Write: true}},
		{Kind: impl.ReqAllow, Rule: impl.RulRule{User: 3, Ref: "b", Write: true}},
		{Kind: impl.ReqAllow, Rule: impl.RulRule{User: 4, Ref: "a", Path: oneOf(r, []string{"s/w", "q", "s/t"})}},
	} {
		q.User, q.Key = 1, 10
		list = append(list, impl.EvtEvent{Kind: impl.EvtDo, Req: q})
	}
	run := runOf(firstHouse(), list)
	for len(run) < 110 {
		h := run[len(run)-1].then
		run = append(run, happened(h, secretEvent(r, h)))
	}
	return run
}

// otherSecrets is the same events, with other bytes, as many, where they are put at the secret path of ref a, and under it.
func otherSecrets(r *rand.Rand, list []impl.EvtEvent, secret string) ([]impl.EvtEvent, int) {
	n := 0
	list = slices.Clone(list)
	for i, e := range list {
		if e.Req.Kind != impl.ReqPut || e.Req.Repo != 0 || e.Req.Ref != "a" {
			continue
		}
		edits := slices.Clone(e.Req.Edits)
		for k, edit := range edits {
			if impl.PthUnder(secret, edit.Path) && edit.Bytes != "" {
				n++
				edits[k].Bytes = ""
				for range edit.Bytes {
					edits[k].Bytes += string(rune('A' + r.IntN(20)))
				}
				for len(edits[k].Bytes) < len(edit.Bytes) {
					edits[k].Bytes += "."
				}
			}
		}
		list[i].Req.Edits = edits
	}
	return list, n
}

// P2.
func TestWhatMayNotBeReadIsNeverLearnt(t *testing.T) {
	t.Parallel()
	r := rand.New(rand.NewPCG(12, 2))
	seen := map[string]int{}
	for range 50 {
		run := secretRun(r)
		for _, secret := range secrets {
			list, n := otherSecrets(r, eventsOf(run), secret)
			others := runOf(firstHouse(), list)
			if n == 0 || clashes(run) || clashes(others) {
				seen["left out"]++
				continue
			}
			if !same(run[len(run)-1].then.Pool, others[len(others)-1].then.Pool) {
				seen["other pools"]++
			}
			for _, user := range []int{0, 2, 3, 4, 5, 99} {
				if !hides(run, user, secret) {
					seen["may read"]++
					continue
				}
				for i, one := range run {
					if one.user() != user {
						continue
					}
					if other := others[i]; other.told != one.told || !same(other.a, one.a) {
						t.Fatalf("the user %d may not read %q of a, and %#v of %#v is %#v; of %#v it is %#v", user, secret, one.e, one.h, one.a, other.h, other.a)
					}
					if one.told {
						seen[fmt.Sprint("user ", user)]++
						seen[fmt.Sprintf("secret %q", secret)]++
						seen[fmt.Sprint(kindHas[one.request().Kind].word, " done ", one.a.Code == impl.AnsDone)]++
					}
				}
			}
		}
	}
	enough(t, seen, 50, "other pools", "may read", "user 2", "user 3", "user 4", "look done true", "look done false", "put done true", "put done false", "refs done true", "used done true", "reset done false")
	for _, secret := range secrets {
		enough(t, seen, 50, fmt.Sprintf("secret %q", secret))
	}
}

// P2: a look tells who may read the other bytes, so what is held against each other does differ.
func TestWhoMayReadLearnsOtherBytes(t *testing.T) {
	put := func(bytes string) impl.HseHouse {
		h := firstHouse()
		for _, q := range []impl.ReqReq{
			{Kind: impl.ReqName, Ref: "a"},
			{Kind: impl.ReqAllow, Rule: impl.RulRule{User: 1, Write: true}},
			{Kind: impl.ReqAllow, Rule: impl.RulRule{User: 2, Path: "p"}},
			{Kind: impl.ReqAllow, Rule: impl.RulRule{User: 4, Path: "s/t"}},
			{Kind: impl.ReqPut, Ref: "a", Edits: []impl.TreEdit{{Path: "s/t", Bytes: bytes}, {Path: "p", Bytes: "x"}}},
		} {
			q.User, q.Key = 1, 10
			h, _, _ = impl.EvtHappens(h, impl.EvtEvent{Kind: impl.EvtDo, Req: q})
		}
		return h
	}
	look := func(h impl.HseHouse, user int) impl.AnsAnswer {
		_, a, _ := impl.EvtHappens(h, impl.EvtEvent{Kind: impl.EvtStart, Req: impl.ReqReq{User: user, Key: h.Keys[user-1], Kind: impl.ReqLook, Ref: "a"}})
		return a
	}
	x, y := put("xx"), put("yy")
	for user, learns := range map[int]bool{1: true, 2: false, 3: false, 4: true} {
		if a, b := look(x, user), look(y, user); same(a, b) == learns {
			t.Fatalf("the user %d: %#v and %#v", user, a, b)
		}
	}
}

// P4 and P9, behind each step.
func TestNothingThatMustStayIsGone(t *testing.T) {
	t.Parallel()
	seen := map[string]int{}
	for run := range drawnRuns(4, 40) {
		for i, one := range run {
			h := one.then
			if !impl.HseOk(h) || i%8 == 0 && !keptByHand(h) {
				t.Fatalf("%#v of %#v: %#v is not ok", one.e, one.h, h)
			}
			links := linksOf(h.Pool)
			if roots := impl.GcRoots(h); !slices.Equal(roots, stayByHand(h)) || !allThere(links, ledTo(links, roots, nil)) {
				t.Fatalf("%#v of %#v: of what must stay something is gone, of %#v", one.e, one.h, h)
			}
			safe := ledTo(links, rootsByHand(h), nil)
			for _, id := range h.Loose {
				if safe[id] {
					t.Fatalf("%#v of %#v: %d is Loose, of %#v", one.e, one.h, id, h)
				}
			}
			if len(h.Loose) > 0 {
				seen["Loose"]++
			}
			if len(h.Pool) < len(one.h.Pool) {
				seen[fmt.Sprint("less by kind ", one.e.Kind)]++
			}
			seen[fmt.Sprint("in ", h.Phase)]++
		}
	}
	enough(t, seen, 100, "Loose", "in 0", "in 1", "in 2")
	enough(t, seen, 40, "less by kind 5")
	enough(t, seen, 5, "less by kind 6")
}

// withoutSweeps is a run without its steps of the sweeping.
func withoutSweeps(run []event) []event {
	return slices.DeleteFunc(slices.Clone(run), func(one event) bool { return one.e.Kind == impl.EvtSweep })
}

// P8.
func TestSweepingMakesNoDifference(t *testing.T) {
	t.Parallel()
	seen := map[string]int{}
	for run := range drawnRuns(8, 80) {
		swept := withoutSweeps(run)
		calm := runOf(firstHouse(), eventsOf(swept))
		if clashes(run) || clashes(calm) {
			seen["clash"]++
			continue
		}
		for i, one := range swept {
			other := calm[i]
			if !same(one.a, other.a) || one.told != other.told || !same(one.then.Roll, other.then.Roll) || !same(impl.MdlOf(one.then), impl.MdlOf(other.then)) {
				t.Fatalf("%#v of %#v: %#v; never swept, of %#v: %#v", one.e, one.h, one.a, other.h, other.a)
			}
			if !same(one.then.Pool, other.then.Pool) {
				seen["other pools"]++
			}
		}
		last := run[len(run)-1].then
		if !same(last.Roll, calm[len(calm)-1].then.Roll) || !same(impl.MdlOf(last), impl.MdlOf(calm[len(calm)-1].then)) {
			t.Fatalf("%#v, and never swept %#v", last, calm[len(calm)-1].then)
		}
		seen["runs"]++
	}
	enough(t, seen, 20, "runs", "other pools")
}

// P10.
func TestEachAnswerHasItsLine(t *testing.T) {
	t.Parallel()
	seen := map[string]int{}
	ask := func(one event) {
		want := one.h.Roll
		if one.told {
			want = withLine(one.h, one.request(), one.a.Code).Roll
		}
		if !slices.Equal(one.then.Roll, want) {
			t.Fatalf("%#v of %#v: %v", one.e, one.h, one.then.Roll)
		}
		what := "a line"
		if one.told && len(one.h.Roll) == 120 {
			what = "no room"
		}
		seen[fmt.Sprint(what, " by kind ", one.e.Kind, " told ", one.told)]++
	}
	for run := range drawnRuns(10, 24) {
		for _, one := range run {
			ask(one)
		}
	}
	for one := range events(10, 1500) {
		ask(one)
	}
	enough(t, seen, 20, "a line by kind 1 told true", "a line by kind 2 told true", "a line by kind 3 told true", "no room by kind 1 told true", "no room by kind 2 told true")
	enough(t, seen, 1, "no room by kind 3 told true")
	enough(t, seen, 20, "a line by kind 2 told false", "a line by kind 3 told false", "a line by kind 4 told false", "a line by kind 5 told false", "a line by kind 6 told false")
}

// P11.
func TestUsedGrowsByOnesOwnAlone(t *testing.T) {
	t.Parallel()
	seen := map[string]int{}
	for run := range drawnRuns(11, 32) {
		for _, one := range run {
			for i, was := range one.h.Used {
				is := one.then.Used[i]
				if is < was || is > was && !(one.told && one.a.Code == impl.AnsDone && one.request().User == i+1) {
					t.Fatalf("%#v of %#v: the user %d has laid down %d, and had %d", one.e, one.h, i+1, is, was)
				}
				if is > was {
					seen[fmt.Sprint("grows by kind ", one.e.Kind)]++
				}
			}
			if one.told && one.a.Code != impl.AnsDone {
				seen["refused"]++
			}
		}
	}
	enough(t, seen, 10, "grows by kind 1", "grows by kind 3", "refused")
}

// P12.
func TestOthersUnderWayAreNotTurned(t *testing.T) {
	t.Parallel()
	seen := map[string]int{}
	ask := func(one event) {
		if one.e.Kind == impl.EvtFall {
			if len(one.then.Tickets) > 0 {
				t.Fatalf("%#v of %#v: %#v", one.e, one.h, one.then)
			}
			return
		}
		others := othersOf(one.h, one.user())
		if !same(othersOf(one.then, one.user()), others) {
			t.Fatalf("%#v of %#v: under way is %#v", one.e, one.h, one.then.Tickets)
		}
		if len(others) > 0 {
			seen[fmt.Sprint("kind ", one.e.Kind, " told ", one.told)]++
		}
	}
	for run := range drawnRuns(12, 24) {
		for _, one := range run {
			ask(one)
		}
	}
	for one := range events(12, 1500) {
		ask(one)
	}
	enough(t, seen, 20, "kind 1 told true", "kind 2 told true", "kind 2 told false", "kind 3 told true", "kind 3 told false", "kind 4 told false", "kind 5 told false")
}

// P13.
func TestHappensIsWhatItsKindSays(t *testing.T) {
	t.Parallel()
	seen := map[string]int{}
	for one := range events(13, 4000) {
		h, e := one.h, one.e
		then, a, told := h, impl.AnsAnswer{}, false
		ok := impl.ReqOk(e.Req)
		switch {
		case e.Kind == impl.EvtDo && ok:
			then, a = impl.HseDo(h, e.Req)
			told = true
		case e.Kind == impl.EvtStart && ok:
			then, a, told = impl.HseStart(h, e.Req)
		case e.Kind == impl.EvtStep:
			then, a, told = impl.HseStep(h, e.User)
		case e.Kind == impl.EvtLeave:
			then = impl.HseLeave(h, e.User)
		case e.Kind == impl.EvtSweep:
			then = impl.GcStep(h)
		case e.Kind == impl.EvtFall:
			then = impl.HseFall(h, e.Keep)
		default:
			seen["nothing turns"]++
		}
		if !same(one.then, then) || !same(one.a, a) || one.told != told {
			t.Fatalf("%#v of %#v: %#v, %#v, %v; not %#v, %#v, %v", e, h, one.then, one.a, one.told, then, a, told)
		}
		if !same(then, h) {
			seen[fmt.Sprint("kind ", e.Kind)]++
		}
	}
	enough(t, seen, 50, "nothing turns", "kind 1", "kind 2", "kind 3", "kind 4", "kind 5", "kind 6")
}

// askLooks looks at each ref, by each user.
func askLooks(t *testing.T, h impl.HseHouse, seen map[string]int) {
	t.Helper()
	m := impl.MdlOf(h)
	for i, repo := range m.Repos {
		for _, name := range append(refNames(repo), "zz") {
			for k, key := range m.Keys {
				q := impl.ReqReq{User: k + 1, Key: key, Repo: i, Kind: impl.ReqLook, Ref: name}
				_, a, told := impl.EvtHappens(h, impl.EvtEvent{Kind: oneOf(rand.New(rand.NewPCG(1, uint64(k))), []int{impl.EvtDo, impl.EvtStart}), Req: q})
				at := refAt(repo, name)
				want := impl.AnsAnswer{Code: impl.AnsMayNot}
				switch {
				case impl.RulMay(repo.Rules, k+1, name, "", false) && at >= 0:
					want = impl.AnsAnswer{Code: impl.AnsDone, Files: latestOf(repo.Refs[at]), N: repo.Refs[at].Count}
					seen["all"]++
				case impl.RulSees(repo.Rules, k+1, name):
					seen["a part, or no ref"]++
					continue
				default:
					seen["nothing"]++
				}
				if !told || !same(a, want) {
					t.Fatalf("the user %d looks at %q of the repo %d of %#v: %#v, not %#v", k+1, name, i, h, a, want)
				}
			}
		}
	}
}

// P14.
func TestLookTellsTheLatest(t *testing.T) {
	t.Parallel()
	seen := map[string]int{}
	for run := range drawnRuns(14, 32) {
		for i := 20; i < len(run); i += 20 {
			askLooks(t, run[i].then, seen)
		}
		askLooks(t, run[len(run)-1].then, seen)
	}
	enough(t, seen, 100, "all", "nothing", "a part, or no ref")
}

// P15.
func TestPoolIsWhatRefsLeadTo(t *testing.T) {
	t.Parallel()
	seen := map[string]int{}
	for run := range drawnRuns(15, 40) {
		for i := range run {
			if i%7 > 0 {
				continue
			}
			h := run[i].then
			then := h
			for _, user := range fewUsers {
				then, _, _ = impl.EvtHappens(then, impl.EvtEvent{Kind: impl.EvtLeave, User: user})
			}
			then = impl.GcAll(impl.GcAll(then))
			led := slices.Sorted(maps.Keys(ledTo(linksOf(h.Pool), rootsByHand(h), nil)))
			if !slices.Equal(impl.PolIds(then.Pool), led) || !same(impl.MdlOf(then), impl.MdlOf(h)) || !impl.HseOk(then) {
				t.Fatalf("given up and swept, of %#v there is left %#v", h, then)
			}
			seen[fmt.Sprint("in ", h.Phase, ", under way ", len(h.Tickets) > 0)]++
			if len(led) < len(h.Pool) {
				seen["less"]++
			}
		}
	}
	enough(t, seen, 10, "in 0, under way true", "in 1, under way true", "in 2, under way true", "in 1, under way false", "in 2, under way false", "less")
}

// P16.
func TestRunsAreCutAnywhere(t *testing.T) {
	t.Parallel()
	r := rand.New(rand.NewPCG(12, 16))
	n := 0
	for run := range drawnRuns(16, 24) {
		list, first, last := eventsOf(run), firstHouse(), run[len(run)-1].then
		if got := impl.EvtRun(first, list); !same(got, last) {
			t.Fatalf("%v: %#v, not %#v", list, got, last)
		}
		for cut := 0; cut <= len(list); cut += 1 + r.IntN(9) {
			before := impl.EvtRun(first, list[:cut])
			if cut > 0 && !same(before, run[cut-1].then) {
				t.Fatalf("%v: %#v, not %#v", list[:cut], before, run[cut-1].then)
			}
			if got := impl.EvtRun(before, list[cut:]); !same(got, last) {
				t.Fatalf("%v, cut at %d: %#v, not %#v", list, cut, got, last)
			}
			n++
		}
	}
	for one := range events(16, 400) {
		list := []impl.EvtEvent{one.e, {Kind: impl.EvtSweep}, one.e, eventOf(r, one.then, anyKind(r, one.then)), eventOf(r, one.then, anyKind(r, one.then))}
		for cut := range len(list) + 1 {
			if got, want := impl.EvtRun(impl.EvtRun(one.h, list[:cut]), list[cut:]), impl.EvtRun(one.h, list); !same(got, want) || !same(want, runByHand(one.h, list)) {
				t.Fatalf("%v of %#v, cut at %d: %#v, not %#v", list, one.h, cut, got, want)
			}
		}
	}
	if n < 300 {
		t.Fatal("too few were asked:", n)
	}
}

// P16: two lists that are together just as many as may be, or one more.
func TestLongRunsAreCut(t *testing.T) {
	r := rand.New(rand.NewPCG(12, 17))
	run := drawnRun(r, 301, anyEvent)
	list, first := eventsOf(run), firstHouse()
	for _, cut := range []int{0, 1, 150, 299, 300} {
		before := impl.EvtRun(first, list[:cut])
		if got := impl.EvtRun(before, list[cut:300]); !same(got, run[299].then) || !same(got, impl.EvtRun(first, list[:300])) {
			t.Fatalf("cut at %d: %#v", cut, got)
		}
		if cut > 0 && !same(impl.EvtRun(before, list[cut:]), run[300].then) {
			t.Fatalf("cut at %d, with one more: not the same", cut)
		}
	}
	if got := impl.EvtRun(first, list); !same(got, impl.HseHouse{}) {
		t.Fatalf("one more than may be: %#v", got)
	}
}

// The document's example, as far as it is of what happens.
func TestExampleOfEvents(t *testing.T) {
	ask := func(kind int, user int, q impl.ReqReq) impl.EvtEvent {
		q.User, q.Key = user, 9+user
		return impl.EvtEvent{Kind: kind, Req: q}
	}
	lay := func(path, bytes string) impl.TreEdit { return impl.TreEdit{Path: path, Bytes: bytes} }
	put := func(old int, edits ...impl.TreEdit) impl.ReqReq {
		return impl.ReqReq{Kind: impl.ReqPut, Ref: "a", Old: old, Edits: edits}
	}
	list := []impl.EvtEvent{
		ask(1, 1, impl.ReqReq{Kind: impl.ReqName, Ref: "a"}),
		ask(1, 1, impl.ReqReq{Kind: impl.ReqAllow, Rule: impl.RulRule{User: 1, Write: true}}),
		ask(1, 1, impl.ReqReq{Kind: impl.ReqAllow, Rule: impl.RulRule{User: 2, Ref: "a", Path: "pub"}}),
		ask(1, 1, put(0, lay("pub/x", "A"), lay("own", "B"))),
		ask(1, 2, impl.ReqReq{Kind: impl.ReqLook, Ref: "a"}),
		ask(2, 1, put(1, lay("pub/y", "A"))),
		{Kind: impl.EvtStep, User: 1},
		{Kind: impl.EvtSweep},
		ask(1, 2, put(1, lay("pub/z", "C"))),
		{Kind: impl.EvtFall, Keep: []bool{false}},
		ask(1, 1, impl.ReqReq{Kind: impl.ReqLook, Ref: "a"}),
		ask(1, 1, impl.ReqReq{Kind: impl.ReqReset, Ref: "a", Old: 1, Back: 1}),
		ask(1, 1, put(1, lay("pub/z", "C"))),
		ask(1, 2, impl.ReqReq{Kind: impl.ReqLook, Ref: "a", Path: "pub", Back: 1}),
		{Kind: impl.EvtDo, Req: impl.ReqReq{User: 3, Key: 1, Kind: impl.ReqRefs}},
	}
	files := []impl.TreFile{{Path: "own", Bytes: "B"}, {Path: "pub/x", Bytes: "A"}}
	want := []impl.AnsAnswer{{Code: 1}, {Code: 1}, {Code: 1}, {Code: 1}, {Code: 1, N: 1, Files: files[1:]}, {Code: 4}, {Code: 1, N: 1, Files: files}, {Code: 1}, {Code: 6}, {Code: 1, N: 2, Files: files[1:]}, {Code: 2}}
	var got []impl.AnsAnswer
	run := runOf(impl.HseNew([]int{10, 11, 12}, []int{1}), list)
	for _, one := range run {
		if one.told {
			got = append(got, one.a)
		}
	}
	if !same(got, want) {
		t.Fatalf("%#v, not %#v", got, want)
	}
	if then := impl.EvtRun(run[0].h, list); !same(then, run[len(run)-1].then) {
		t.Fatalf("%#v", then)
	}
}
