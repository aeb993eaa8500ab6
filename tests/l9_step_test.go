package tests

import (
	"fmt"
	"iter"
	"math"
	"math/rand/v2"
	"reflect"
	"runtime"
	"slices"
	"testing"
	"time"

	"loop.example/chartulary/impl"
)

// Users of whom none is one of a house, and such as may be.
var (
	strangers = []int{-1, 0, 5, 99, 100, math.MaxInt, math.MinInt}
	fewUsers  = []int{1, 2, 3, 4}
)

func ticketAt(h impl.HseHouse, user int) int {
	return slices.IndexFunc(h.Tickets, func(ticket impl.HseTicket) bool { return ticket.Req.User == user })
}

// withLine is a house with one line more on its roll, if there is room.
func withLine(h impl.HseHouse, q impl.ReqReq, code int) impl.HseHouse {
	h = keptCopy(h)
	if len(h.Roll) < 120 {
		h.Roll = append(h.Roll, impl.HseLine{User: q.User, Repo: q.Repo, Kind: q.Kind, Code: code})
	}
	return h
}

func withoutTicket(h impl.HseHouse, at int) impl.HseHouse {
	h = keptCopy(h)
	h.Tickets = slices.Concat(h.Tickets[:at], h.Tickets[at+1:])
	return h
}

// wantsByHand is the texts of what a request that is done would lay down.
func wantsByHand(then impl.MdlHouse, q impl.ReqReq) []string {
	repo := then.Repos[q.Repo]
	return layByHand(latestOf(repo.Refs[refAt(repo, q.Ref)]))
}

// startByHand is what HseStart must answer, of any house and request.
func startByHand(h impl.HseHouse, q impl.ReqReq) (impl.HseHouse, impl.AnsAnswer, bool) {
	m, ok := heldByHand(h)
	if !ok || !requestByHand(q) {
		return impl.HseHouse{}, impl.AnsAnswer{}, false
	}
	writes := slices.Contains([]int{impl.ReqPut, impl.ReqReset, impl.ReqCopy}, q.Kind)
	if !writes || !known(m, q) || q.Repo >= len(m.Repos) || ticketAt(h, q.User) >= 0 {
		then, a := keepByHand(h, q)
		return then, a, true
	}
	then, a := doByHand(m, q)
	if a.Code != impl.AnsDone {
		return withLine(h, q, a.Code), a, true
	}
	is := keptCopy(h)
	is.Tickets = append(is.Tickets, impl.HseTicket{Req: q, Wait: wantsByHand(then, q)})
	slices.SortFunc(is.Tickets, func(a, b impl.HseTicket) int { return a.Req.User - b.Req.User })
	return is, impl.AnsAnswer{}, false
}

// stepByHand is what HseStep must answer, of any house and user.
func stepByHand(h impl.HseHouse, user int) (impl.HseHouse, impl.AnsAnswer, bool) {
	if !keptByHand(h) {
		return impl.HseHouse{}, impl.AnsAnswer{}, false
	}
	at := ticketAt(h, user)
	if at < 0 {
		return keptCopy(h), impl.AnsAnswer{}, false
	}
	ticket := h.Tickets[at]
	if len(ticket.Wait) == 0 {
		then, a := keepByHand(withoutTicket(h, at), ticket.Req)
		return then, a, true
	}
	is := keptCopy(h)
	pool, id, came := putByHand(is.Pool, ticket.Wait[0])
	if came == impl.PolClash {
		return withLine(withoutTicket(h, at), ticket.Req, impl.AnsClash), impl.AnsAnswer{Code: impl.AnsClash}, true
	}
	is.Pool = pool
	if came == impl.PolNew {
		is.Loose = sortedOnce(append(is.Loose, id))
	}
	if is.Phase != 0 {
		for led := range ledTo(linksOf(pool), []int{id}, nil) {
			is.Marks = sortedOnce(append(is.Marks, led))
		}
	}
	is.Tickets[at].Wait = ticket.Wait[1:]
	is.Tickets[at].Pins = sortedOnce(append(slices.Clone(ticket.Pins), id))
	return is, impl.AnsAnswer{}, false
}

// leaveByHand is what HseLeave must answer, of any house and user.
func leaveByHand(h impl.HseHouse, user int) impl.HseHouse {
	if !keptByHand(h) {
		return impl.HseHouse{}
	}
	if at := ticketAt(h, user); at >= 0 {
		return withoutTicket(h, at)
	}
	return keptCopy(h)
}

// fallByHand is what HseFall must answer, of any house and list.
func fallByHand(h impl.HseHouse, keep []bool) impl.HseHouse {
	if !keptByHand(h) {
		return impl.HseHouse{}
	}
	is := keptCopy(h)
	is.Tickets, is.Phase, is.Marks, is.Grey, is.Loose = nil, 0, nil, nil, nil
	gone := map[int]bool{}
	for k, id := range h.Loose {
		gone[id] = true
		for place, kept := range keep {
			if place == k && kept {
				gone[id] = false
			}
		}
	}
	is.Pool = slices.DeleteFunc(is.Pool, func(item impl.PolItem) bool { return gone[item.Id] })
	return is
}

// sweepOn is the house behind one step of its sweeping, as the chapter on the sweeping says.
func sweepOn(h impl.HseHouse) impl.HseHouse {
	h = keptCopy(h)
	unmarked := slices.IndexFunc(h.Pool, func(item impl.PolItem) bool { return !slices.Contains(h.Marks, item.Id) })
	switch {
	case h.Phase == impl.GcIdle:
		h.Phase, h.Grey = impl.GcMarks, stayByHand(h)
	case h.Phase == impl.GcMarks && len(h.Grey) > 0:
		markOn(&h, 1)
	case h.Phase == impl.GcMarks:
		h.Phase = impl.GcSweeps
	case unmarked >= 0:
		h.Loose = slices.DeleteFunc(h.Loose, func(id int) bool { return id == h.Pool[unmarked].Id })
		h.Pool = slices.Delete(h.Pool, unmarked, unmarked+1)
	default:
		h.Phase, h.Marks = impl.GcIdle, nil
	}
	return h
}

// happening is one thing that happens to a house, and what came of it.
type happening struct {
	what string
	h    impl.HseHouse
	q    impl.ReqReq
	user int
	keep []bool
	then impl.HseHouse
	a    impl.AnsAnswer
	told bool
}

func started(h impl.HseHouse, q impl.ReqReq) happening {
	one := happening{what: "start", h: h, q: q, user: q.User}
	one.then, one.a, one.told = impl.HseStart(h, q)
	return one
}

// stepped has the request that is gone on with, if there is one.
func stepped(h impl.HseHouse, user int) happening {
	one := happening{what: "step", h: h, user: user}
	if at := ticketAt(h, user); at >= 0 {
		one.q = h.Tickets[at].Req
	}
	one.then, one.a, one.told = impl.HseStep(h, user)
	return one
}

func left(h impl.HseHouse, user int) happening {
	return happening{what: "leave", h: h, user: user, then: impl.HseLeave(h, user)}
}

func fallen(h impl.HseHouse, keep []bool) happening {
	return happening{what: "fall", h: h, keep: keep, then: impl.HseFall(h, keep)}
}

// byHand is what must have come of it.
func (one happening) byHand() happening {
	want := one
	switch one.what {
	case "start":
		want.then, want.a, want.told = startByHand(one.h, one.q)
	case "step":
		want.then, want.a, want.told = stepByHand(one.h, one.user)
	case "leave":
		want.then = leaveByHand(one.h, one.user)
	case "fall":
		want.then = fallByHand(one.h, one.keep)
	}
	return want
}

// askHappening asks whether what came of it is what must have.
func askHappening(t *testing.T, what string, one happening) {
	t.Helper()
	want := one.byHand()
	if !same(one.then, want.then) || !same(one.a, want.a) || one.told != want.told {
		t.Fatalf("%s: %s of %#v, user %d, keep %v, of %#v: %#v, %#v, %v; not %#v, %#v, %v", what, one.what, one.q, one.user, one.keep, one.h, one.then, one.a, one.told, want.then, want.a, want.told)
	}
	if keptByHand(one.h) && requestOrNone(one.q) && (!keptByHand(one.then) || !impl.HseOk(one.then)) {
		t.Fatalf("%s: %s of %#v: %#v is not ok", what, one.what, one.h, one.then)
	}
}

func requestOrNone(q impl.ReqReq) bool {
	return same(q, impl.ReqReq{}) || requestByHand(q)
}

func anyKeep(r *rand.Rand, h impl.HseHouse) []bool {
	keep := make([]bool, max(0, len(h.Loose)+oneOf(r, []int{-len(h.Loose), -1, 0, 0, 1, 5})))
	often := r.IntN(4)
	for i := range keep {
		keep[i] = r.IntN(3) < often
	}
	return keep
}

// userOf is mostly one who has a request under way, if there is one.
func userOf(r *rand.Rand, h impl.HseHouse) int {
	if len(h.Tickets) > 0 && r.IntN(6) > 0 {
		return oneOf(r, h.Tickets).Req.User
	}
	return oneOf(r, slices.Concat(strangers, fewUsers, fewUsers))
}

// anyHappening is of one of the kinds, or of any.
func anyHappening(r *rand.Rand, h impl.HseHouse, what string) happening {
	if what == "" {
		what = oneOf(r, []string{"start", "start", "start", "step", "step", "step", "step", "step", "leave", "fall"})
	}
	switch what {
	case "start":
		m := impl.MdlOf(h)
		if r.IntN(4) > 0 {
			return started(h, requestOf(r, h, m, impl.ReqPut, impl.ReqReset, impl.ReqCopy))
		}
		return started(h, requestOf(r, h, m))
	case "step":
		return stepped(h, userOf(r, h))
	case "leave":
		return left(h, userOf(r, h))
	}
	return fallen(h, anyKeep(r, h))
}

// clashing is a house in which texts wait that may clash, if any wait.
func clashing(r *rand.Rand, h impl.HseHouse) impl.HseHouse {
	h = keptCopy(h)
	for i, ticket := range h.Tickets {
		if r.IntN(6) == 0 {
			h.Tickets[i].Wait = slices.Insert(ticket.Wait, 0, oneOf(r, []string{clashOne, clashTwo, clashEmpty, "S"}))
		}
	}
	return h
}

// grownRun is a house at its beginning, with some refs and rules.
func grownRun(r *rand.Rand) impl.HseHouse {
	h := impl.HseNew([]int{10, 11, 10, 12}, []int{1, 3})
	h.Repos[0].Rules = []impl.RulRule{{User: oneOf(r, []int{0, 2}), Write: true}, {User: 1, Write: true}}
	h.Repos[1].Rules = []impl.RulRule{{Write: true}}
	for i, user := range []int{1, 1, 3} {
		h, _ = impl.HseDo(h, impl.ReqReq{User: user, Key: 10, Repo: i / 2, Kind: impl.ReqName, Ref: string(rune('a' + i))})
	}
	return h
}

// happenings is so many things that happen to any kept houses, and in runs from HseNew on, in which there is swept meanwhile; of one kind, if it is told.
func happenings(seed uint64, n int, what string) iter.Seq[happening] {
	return func(yield func(happening) bool) {
		r := rand.New(rand.NewPCG(9, seed))
		var any, grown impl.HseHouse
		for i := range n / 2 {
			if i%4 == 0 {
				any = clashing(r, anyKept(r))
			}
			if i%100 == 0 {
				grown = grownRun(r)
			}
			if !yield(anyHappening(r, any, what)) || !yield(anyHappening(r, grown, what)) {
				return
			}
			grown = goOnWith(r, grown)
		}
	}
}

// goOnWith is the house behind anything that may happen; falls are seldom, so that something is under way.
func goOnWith(r *rand.Rand, h impl.HseHouse) impl.HseHouse {
	for range r.IntN(12) {
		h = sweepOn(h)
	}
	what := oneOf(r, []string{"start", "step", "step", "step", "step", "step", "step", "step", "leave"})
	if len(h.Tickets) == 0 {
		what = "start"
	}
	one := anyHappening(r, h, what)
	switch r.IntN(12) {
	case 0:
		one.then, _ = impl.HseDo(h, requestOf(r, h, impl.MdlOf(h)))
	case 1:
		if r.IntN(4) == 0 {
			one = anyHappening(r, h, "fall")
		}
	}
	return one.then
}

// countStart tells apart what comes of a start.
func countStart(one happening) []string {
	word := kindHas[one.q.Kind].word
	switch {
	case !one.told:
		return []string{"under way", fmt.Sprint(word, " under way in ", one.h.Phase)}
	case ticketAt(one.h, one.q.User) >= 0:
		return []string{fmt.Sprint("busy, code ", one.a.Code), fmt.Sprint("busy ", word)}
	}
	return []string{fmt.Sprint(word, " code ", one.a.Code)}
}

func TestStartOfAnyRequest(t *testing.T) {
	t.Parallel()
	seen := map[string]int{}
	for one := range happenings(1, 4000, "start") {
		askHappening(t, "any", one)
		for _, what := range countStart(one) {
			seen[what]++
		}
	}
	enough(t, seen, 400, "under way")
	for _, kind := range []int{impl.ReqPut, impl.ReqReset, impl.ReqCopy} {
		word := kindHas[kind].word
		for _, phase := range phases {
			enough(t, seen, 10, fmt.Sprint(word, " under way in ", phase))
		}
		enough(t, seen, 5, "busy "+word)
		for _, code := range []int{impl.AnsStranger, impl.AnsNoRepo, impl.AnsMayNot, impl.AnsNoRef, impl.AnsStale, impl.AnsFull} {
			enough(t, seen, 3, fmt.Sprint(word, " code ", code))
		}
		// What is not refused is begun, not done.
		if n := seen[fmt.Sprint(word, " code ", impl.AnsDone)] + seen[fmt.Sprint(word, " code ", impl.AnsClash)]; n > 0 {
			t.Fatal(word, "was done at once so often:", n)
		}
	}
	enough(t, seen, 50, fmt.Sprint("busy, code ", impl.AnsDone))
	enough(t, seen, 1, fmt.Sprint("busy, code ", impl.AnsClash))
	enough(t, seen, 3, "look code 1", "refs code 1", "allow code 1", "forbid code 1", "name code 1", "drop code 1", "guard code 1", "used code 1")
}

// countStep tells apart what comes of a step.
func countStep(one happening) []string {
	at := ticketAt(one.h, one.user)
	switch {
	case at < 0:
		return []string{"nothing under way"}
	case one.told && len(one.h.Tickets[at].Wait) > 0:
		return []string{"clash", fmt.Sprint("clash in ", one.h.Phase)}
	case one.told:
		return []string{fmt.Sprint("last, code ", one.a.Code), fmt.Sprint("last, done ", one.a.Code == impl.AnsDone, " in ", one.h.Phase)}
	case len(one.then.Loose) > len(one.h.Loose):
		return []string{fmt.Sprint("new in ", one.h.Phase)}
	}
	return []string{fmt.Sprint("there in ", one.h.Phase)}
}

func TestStepOfAnyUser(t *testing.T) {
	t.Parallel()
	seen := map[string]int{}
	for one := range happenings(2, 6000, "step") {
		askHappening(t, "any", one)
		for _, what := range countStep(one) {
			seen[what]++
		}
	}
	for _, phase := range phases {
		for _, what := range []string{"clash in ", "new in ", "there in ", "last, done true in ", "last, done false in "} {
			enough(t, seen, 10, fmt.Sprint(what, phase))
		}
	}
	enough(t, seen, 100, "nothing under way")
	for _, code := range []int{impl.AnsDone, impl.AnsMayNot, impl.AnsNoRef, impl.AnsStale, impl.AnsBad, impl.AnsOver} {
		enough(t, seen, 2, fmt.Sprint("last, code ", code))
	}
}

func TestLeaveAndFallOfAnyHouse(t *testing.T) {
	t.Parallel()
	for _, what := range []string{"leave", "fall"} {
		turns := 0
		for one := range happenings(3, 2000, what) {
			askHappening(t, "any", one)
			if !same(one.h, one.then) {
				turns++
			}
		}
		if turns < 700 {
			t.Fatal("too few were asked:", what, turns)
		}
	}
}

func TestBusyOfAnyUser(t *testing.T) {
	t.Parallel()
	seen := map[bool]int{}
	for one := range happenings(4, 600, "") {
		for _, user := range slices.Concat(strangers, fewUsers) {
			for _, h := range []impl.HseHouse{one.h, one.then} {
				busy := ticketAt(h, user) >= 0
				seen[busy]++
				if impl.HseBusy(h, user) != busy {
					t.Fatalf("the user %d of %#v: %v", user, h, !busy)
				}
			}
		}
	}
	if seen[true] < 300 || seen[false] < 300 {
		t.Fatal("too few were asked:", seen)
	}
}

// A request that is none of ReqWrites, of a stranger, about no repo, or of a user who has one under way, is done at once.
func TestStartAtOnce(t *testing.T) {
	for _, phase := range phases {
		for _, lines := range []int{0, 119, 120} {
			calm := inPhase(keptOf(calmHouse(), wasteLeaf), phase, 4)
			calm.Roll = linesOf(lines)
			for kind := 1; kind <= 11; kind++ {
				writes := slices.Contains([]int{1, 9, 10}, kind)
				for what, turn := range map[string]func(*impl.HseHouse, *impl.ReqReq){
					"as it is":      func(h *impl.HseHouse, q *impl.ReqReq) {},
					"a wrong key":   func(h *impl.HseHouse, q *impl.ReqReq) { q.Key = 1 },
					"no key":        func(h *impl.HseHouse, q *impl.ReqReq) { q.Key = 0 },
					"user 0":        func(h *impl.HseHouse, q *impl.ReqReq) { q.User = 0 },
					"user 5":        func(h *impl.HseHouse, q *impl.ReqReq) { q.User = 5 },
					"user 99":       func(h *impl.HseHouse, q *impl.ReqReq) { q.User = 99 },
					"repo 2":        func(h *impl.HseHouse, q *impl.ReqReq) { q.Repo = 2 },
					"repo 99":       func(h *impl.HseHouse, q *impl.ReqReq) { q.Repo = 99 },
					"one under way": func(h *impl.HseHouse, q *impl.ReqReq) { h.Tickets = []impl.HseTicket{{Req: calmRequest(kind)}} },
				} {
					h, q := keptCopy(calm), calmRequest(kind)
					turn(&h, &q)
					if len(h.Tickets) > 0 {
						h.Tickets[0].Req.Kind = impl.ReqPut
					}
					one := started(h, q)
					askHappening(t, what, one)
					under := writes && what == "as it is"
					if one.told == under || impl.HseBusy(one.then, q.User) != (under || what == "one under way") {
						t.Fatalf("%s, kind %d in the Phase %d: told %v", what, kind, phase, one.told)
					}
					if then, a := impl.HseDo(h, q); !under && (!same(one.then, then) || !same(one.a, a)) {
						t.Fatalf("%s, kind %d in the Phase %d: %#v is not as by HseDo", what, kind, phase, one.a)
					}
				}
			}
		}
	}
}

// What MdlDo would refuse is refused with that code and its line, and nothing else turns.
func TestStartIsRefusedWithEachCode(t *testing.T) {
	for _, kind := range []int{impl.ReqPut, impl.ReqReset, impl.ReqCopy} {
		seen := map[int]int{}
		for i, f := range faultsOf(kind) {
			m, q := calmHouse(), calmRequest(kind)
			f.make(&m, &q)
			h := inPhase(keptOf(m, wasteLeaf), phases[i%3], i)
			h.Roll = linesOf([]int{0, 1, 119, 120}[i%4])
			one := started(h, q)
			want := withLine(h, q, f.code)
			if !one.told || !same(one.a, impl.AnsAnswer{Code: f.code}) || !same(one.then, want) || impl.HseBusy(one.then, q.User) {
				t.Fatalf("kind %d, code %d: %#v, %v, %#v", kind, f.code, one.a, one.told, one.then)
			}
			seen[f.code]++
		}
		for _, code := range kindCodes[kind] {
			if code != impl.AnsDone && seen[code] == 0 {
				t.Fatalf("kind %d was never refused with %d", kind, code)
			}
		}
	}
}

// To begin asks neither whether there is room nor whether a text clashes.
func TestStartDoesNotPut(t *testing.T) {
	q := putOf(impl.TreEdit{Path: "b", Bytes: clashOne[1:]}, impl.TreEdit{Path: "c", Bytes: clashTwo[1:]})
	files := []impl.TreFile{{Path: "b", Bytes: clashOne[1:]}, {Path: "c", Bytes: clashTwo[1:]}, {Path: "x", Bytes: "x"}}
	for _, room := range []int{0, 1, 100} {
		for _, phase := range phases {
			h := inPhase(fillPool(storyHouse(), room), phase, 3)
			one := started(h, q)
			askHappening(t, "no room", one)
			want := keptCopy(h)
			want.Tickets = slices.Insert(want.Tickets, 0, impl.HseTicket{Req: q, Wait: layByHand(files)})
			if one.told || !same(one.then, want) {
				t.Fatalf("room for %d in the Phase %d: %#v, %#v", room, phase, one.a, one.then)
			}
		}
	}
}

// Tickets stand by their users, in whatever order they are begun.
func TestTicketsStandByTheirUsers(t *testing.T) {
	h := keptOf(impl.MdlHouse{Keys: []int{1, 1, 1, 1}, Used: make([]int, 4), Repos: []impl.MdlRepo{{Admin: 1, Rules: []impl.RulRule{{Write: true}}, Refs: []impl.MdlRef{{Name: "a", Versions: make([][]impl.TreFile, 1)}}}}})
	for _, order := range [][]int{{1, 2, 3, 4}, {4, 3, 2, 1}, {2, 4, 1, 3}, {3, 1}, {2}} {
		then := h
		for _, user := range order {
			edits := []impl.TreEdit{{Path: "a"}, {Path: "b"}, {Path: "c"}, {Path: "d"}}[:user]
			one := started(then, impl.ReqReq{User: user, Key: 1, Kind: impl.ReqPut, Ref: "a", Edits: edits})
			askHappening(t, fmt.Sprint("order ", order), one)
			then = one.then
		}
		var users []int
		for _, ticket := range then.Tickets {
			users = append(users, ticket.Req.User)
			if len(ticket.Req.Edits) != ticket.Req.User {
				t.Fatalf("order %v: %#v", order, ticket)
			}
		}
		if !slices.Equal(users, sortedOnce(order)) {
			t.Fatal("order", order, "stands as", users)
		}
	}
}

// A version without files is one text, the sheet without entries, and two steps.
func TestVersionWithoutFilesUnderWay(t *testing.T) {
	reset := impl.ReqReq{User: 1, Key: 10, Kind: impl.ReqReset, Ref: "a", Old: 1, Back: 1}
	last := impl.ReqReq{User: 1, Key: 10, Kind: impl.ReqPut, Ref: "a", Old: 1, Edits: []impl.TreEdit{{Path: "x", Gone: true}}}
	for _, q := range []impl.ReqReq{reset, last} {
		for _, phase := range phases {
			h := inPhase(storyHouse(), phase, 3)
			one := started(h, q)
			if one.told || !slices.Equal(one.then.Tickets[0].Wait, []string{"S"}) || len(one.then.Tickets[0].Pins) > 0 {
				t.Fatalf("begun: %#v, %#v", one.a, one.then.Tickets)
			}
			two := stepped(one.then, 1)
			askHappening(t, "first step", two)
			if two.told || len(two.then.Tickets[0].Wait) > 0 || !slices.Equal(two.then.Tickets[0].Pins, idsOf("S")) || !same(two.then.Loose, h.Loose) {
				t.Fatalf("first step: %#v, %#v", two.a, two.then.Tickets)
			}
			three := stepped(two.then, 1)
			askHappening(t, "second step", three)
			files, ok := impl.MdlFiles(impl.MdlOf(three.then), 0, "a", 0)
			if !three.told || three.a.Code != impl.AnsDone || !ok || len(files) > 0 || impl.HseBusy(three.then, 1) {
				t.Fatalf("second step: %#v, %q", three.a, files)
			}
		}
	}
}

// The steps of one put told in whole, in each Phase: texts that are new, waste, another one's and twice there.
func TestStepsInEachPhase(t *testing.T) {
	q := putOf(impl.TreEdit{Path: "n", Bytes: "new"}, impl.TreEdit{Path: "o", Bytes: "waste"}, impl.TreEdit{Path: "p", Bytes: "new"}, impl.TreEdit{Path: "y", Bytes: "y"})
	root := sheetByHand([]impl.ObjEntry{{Name: "n", Id: idByHand("Lnew")}, {Name: "o", Id: idByHand("Lwaste")}, {Name: "p", Id: idByHand("Lnew")}, {Name: "x", Id: idByHand("Lx")}, {Name: "y", Id: idByHand("Ly")}})
	texts := []string{"Lnew", "Lwaste", "Lnew", "Lx", "Ly", root}
	for _, phase := range phases {
		for steps := range 7 {
			first := storyHouse()
			// Not Loose, so that what is there and waste does not come to be so.
			first.Loose = idsOf("Ly")
			first = inPhase(first, phase, steps)
			then, _, _ := impl.HseStart(first, q)
			for i, text := range texts {
				want := keptCopy(first)
				want.Tickets = slices.Insert(want.Tickets, 0, ticketOf(q, texts, i+1))
				want.Pool = poolOfTexts(append(textsIn(first), texts[:i+1]...)...)
				want.Loose = idsOf("Ly", "Lnew")
				if text == root {
					want.Loose = idsOf("Ly", "Lnew", root)
				}
				if phase != impl.GcIdle {
					want.Marks = sortedOnce(append(want.Marks, idsOf(texts[:i+1]...)...))
				}
				one := stepped(then, 1)
				if !same(one.then, want) || one.told || !same(one.a, impl.AnsAnswer{}) {
					t.Fatalf("the step %d in the Phase %d behind %d: %#v, not %#v", i, phase, steps, one.then, want)
				}
				if !impl.HseOk(one.then) || !impl.HseBusy(one.then, 1) || !impl.HseBusy(one.then, 2) {
					t.Fatalf("the step %d in the Phase %d behind %d: not ok", i, phase, steps)
				}
				then = one.then
			}
			one := stepped(then, 1)
			askHappening(t, "the last step", one)
			if !one.told || one.a.Code != impl.AnsDone || !slices.Equal(one.then.Loose, []int(nil)) || len(one.then.Tickets) != 1 {
				t.Fatalf("the last step in the Phase %d: %#v, %#v", phase, one.a, one.then)
			}
		}
	}
}

// What is named under a sheet that was there, and unmarked, is marked with it.
func TestStepMarksAllToWhichItLeads(t *testing.T) {
	h := keptOf(impl.MdlHouse{Keys: []int{1}, Used: []int{0}, Repos: []impl.MdlRepo{{Admin: 1}}}, wasteLeaf, wasteSheet, wasteTop, "Lother")
	h.Tickets = []impl.HseTicket{{Req: impl.ReqReq{User: 1, Key: 1, Kind: impl.ReqPut}, Wait: []string{wasteTop}, Pins: idsOf(wasteSheet)}}
	for _, phase := range phases[1:] {
		now := keptCopy(h)
		now.Phase, now.Grey = phase, idsOf(wasteSheet)
		if phase == impl.GcSweeps {
			now.Grey, now.Marks = nil, idsOf(wasteSheet, wasteLeaf)
		}
		one := stepped(now, 1)
		askHappening(t, "waste", one)
		if !slices.Equal(one.then.Marks, idsOf(wasteTop, wasteSheet, wasteLeaf)) || !same(one.then.Grey, now.Grey) || len(one.then.Loose) > 0 {
			t.Fatalf("in the Phase %d: %v, %v", phase, one.then.Marks, one.then.Grey)
		}
	}
}

// A clash ends a request: what it has put stays, and its line comes on the roll, if there is room.
func TestStepAtAClash(t *testing.T) {
	lay := func(path, text string) impl.TreEdit { return impl.TreEdit{Path: path, Bytes: text[1:]} }
	for _, c := range []struct {
		what  string
		h     impl.HseHouse
		q     impl.ReqReq
		steps int
		put   []string
	}{
		{"two leaves", storyHouse(), putOf(lay("b", clashOne), lay("c", clashTwo)), 2, []string{clashOne}},
		{"two leaves, the other one first", storyHouse(), putOf(lay("b", clashTwo), lay("c", clashOne)), 2, []string{clashTwo}},
		{"no room at all", fillPool(storyHouse(), 0), putOf(lay("b", "Lnew")), 1, nil},
		{"room for one", fillPool(storyHouse(), 1), putOf(lay("b", "Lnew")), 3, []string{"Lnew"}},
		{"what is there needs no room", fillPool(storyHouse(), 0), putOf(lay("b", wasteLeaf)), 3, nil},
		{"room for two", fillPool(storyHouse(), 2), putOf(lay("b", "Lnew"), lay("bb", "Lnewer")), 4, []string{"Lnew", "Lnewer"}},
	} {
		for _, phase := range phases {
			for _, lines := range []int{0, 119, 120} {
				h := inPhase(c.h, phase, 3)
				h.Roll = linesOf(lines)
				then, _, _ := impl.HseStart(h, c.q)
				var last happening
				steps := 0
				for ; steps < 20 && impl.HseBusy(then, 1); steps++ {
					last = stepped(then, 1)
					askHappening(t, c.what, last)
					then = last.then
				}
				want := withLine(h, c.q, impl.AnsClash)
				if steps != c.steps || !last.told || !same(last.a, impl.AnsAnswer{Code: impl.AnsClash}) || !same(then.Roll, want.Roll) || !same(then.Tickets, h.Tickets) {
					t.Fatalf("%s in the Phase %d: %d steps, %#v, %v", c.what, phase, steps, last.a, then.Roll)
				}
				if !same(then.Pool, poolOfTexts(append(textsIn(h), c.put...)...)) || !same(then.Loose, sortedOnce(append(idsOf(c.put...), h.Loose...))) || !same(impl.MdlOf(then), impl.MdlOf(h)) {
					t.Fatalf("%s in the Phase %d: %v, %v", c.what, phase, then.Pool, then.Loose)
				}
			}
		}
	}
}

// With no room in the pool a request goes on whose texts are all there.
func TestStepsInAFullPool(t *testing.T) {
	for _, q := range []impl.ReqReq{
		{User: 1, Key: 10, Kind: impl.ReqReset, Ref: "a", Old: 1, Back: 1},
		{User: 1, Key: 10, Kind: impl.ReqReset, Ref: "a", Old: 1},
		{User: 1, Key: 10, Kind: impl.ReqCopy, Ref: "b", Old: 2, Other: "a"},
	} {
		for _, phase := range phases {
			h := inPhase(fillPool(storyHouse(), 0), phase, 3)
			one := started(h, q)
			for steps := 0; steps < 20 && impl.HseBusy(one.then, 1); steps++ {
				one = stepped(one.then, 1)
				askHappening(t, "full", one)
			}
			if !one.told || one.a.Code != impl.AnsDone || !same(one.then.Pool, h.Pool) || !same(one.then.Loose, h.Loose) {
				t.Fatalf("%#v in the Phase %d: %#v", q, phase, one.a)
			}
		}
	}
}

// meanwhileHouse has a ref that holds x, turned no times, and one more of another repo.
func meanwhileHouse() impl.HseHouse {
	return keptOf(impl.MdlHouse{
		Keys: []int{10, 11}, Used: []int{0, 0},
		Repos: []impl.MdlRepo{
			{Admin: 2, Rules: []impl.RulRule{{User: 1, Write: true}, {User: 2, Write: true}}, Refs: []impl.MdlRef{{Name: "a", Versions: [][]impl.TreFile{nil, filesAt("x")}}}},
			{Admin: 2, Rules: []impl.RulRule{{Write: true}}, Refs: []impl.MdlRef{{Name: "b", Versions: [][]impl.TreFile{filesAt("y")}}}},
		},
	}, "Lkeep")
}

// The last step is answered by what the house is then, not by what it was at the beginning.
func TestHouseTurnsMeanwhile(t *testing.T) {
	put := impl.ReqReq{User: 1, Key: 10, Kind: impl.ReqPut, Ref: "a", Edits: []impl.TreEdit{{Path: "n", Bytes: "n"}}}
	takeOut := impl.ReqReq{User: 1, Key: 10, Kind: impl.ReqPut, Ref: "a", Edits: []impl.TreEdit{{Path: "x", Gone: true}}}
	reset := impl.ReqReq{User: 1, Key: 10, Kind: impl.ReqReset, Ref: "a", Back: 1}
	take := impl.ReqReq{User: 1, Key: 10, Kind: impl.ReqCopy, Ref: "a", From: 1, Other: "b"}
	admin := func(repo, kind int, ref string) impl.ReqReq {
		return impl.ReqReq{User: 2, Key: 11, Repo: repo, Kind: kind, Ref: ref}
	}
	drop, name, guard := admin(0, impl.ReqDrop, "a"), admin(0, impl.ReqName, "a"), admin(0, impl.ReqGuard, "a")
	dropOther, nameOther := admin(1, impl.ReqDrop, "b"), admin(1, impl.ReqName, "b")
	forbid := impl.ReqReq{User: 2, Key: 11, Kind: impl.ReqForbid, Rule: impl.RulRule{User: 1, Write: true}}
	forbidOther := impl.ReqReq{User: 2, Key: 11, Repo: 1, Kind: impl.ReqForbid, Rule: impl.RulRule{Write: true}}
	other := impl.ReqReq{User: 2, Key: 11, Kind: impl.ReqPut, Ref: "a", Edits: []impl.TreEdit{{Path: "z", Bytes: "z"}}}
	own := impl.ReqReq{User: 1, Key: 10, Repo: 1, Kind: impl.ReqPut, Ref: "b", Edits: []impl.TreEdit{{Path: "m", Bytes: "mm"}}}
	for _, c := range []struct {
		what  string
		q     impl.ReqReq
		used  int
		mean  []impl.ReqReq
		code  int
		files []impl.TreFile
	}{
		{"nothing", put, 0, nil, impl.AnsDone, []impl.TreFile{{Path: "n", Bytes: "n"}, {Path: "x", Bytes: "x"}}},
		{"a rule is gone", put, 0, []impl.ReqReq{forbid}, impl.AnsMayNot, filesAt("x")},
		{"a rule is gone, a reset", reset, 0, []impl.ReqReq{forbid}, impl.AnsMayNot, filesAt("x")},
		{"the other repo's rule is gone", take, 0, []impl.ReqReq{forbidOther}, impl.AnsMayNot, filesAt("x")},
		{"the ref is gone", put, 0, []impl.ReqReq{drop}, impl.AnsNoRef, nil},
		{"another put", put, 0, []impl.ReqReq{other}, impl.AnsStale, []impl.TreFile{{Path: "x", Bytes: "x"}, {Path: "z", Bytes: "z"}}},
		{"the ref is guarded", reset, 0, []impl.ReqReq{guard}, impl.AnsGuarded, filesAt("x")},
		{"the ref is guarded, a put", put, 0, []impl.ReqReq{guard}, impl.AnsDone, []impl.TreFile{{Path: "n", Bytes: "n"}, {Path: "x", Bytes: "x"}}},
		{"the ref is named anew", takeOut, 0, []impl.ReqReq{drop, name}, impl.AnsBad, nil},
		{"the ref is named anew, a reset", reset, 0, []impl.ReqReq{drop, name}, impl.AnsBad, nil},
		{"the ref is named anew, and it fits", put, 0, []impl.ReqReq{drop, name}, impl.AnsDone, []impl.TreFile{{Path: "n", Bytes: "n"}}},
		{"the other ref is gone", take, 0, []impl.ReqReq{dropOther}, impl.AnsBad, filesAt("x")},
		{"the other ref is named anew", take, 0, []impl.ReqReq{dropOther, nameOther}, impl.AnsDone, nil},
		{"the other ref is turned", take, 0, []impl.ReqReq{own}, impl.AnsDone, []impl.TreFile{{Path: "m", Bytes: "mm"}, {Path: "y", Bytes: "x"}}},
		{"its user lays much down", put, 196, []impl.ReqReq{own}, impl.AnsOver, filesAt("x")},
		{"its user lays down just so much", put, 195, []impl.ReqReq{own}, impl.AnsDone, []impl.TreFile{{Path: "n", Bytes: "n"}, {Path: "x", Bytes: "x"}}},
	} {
		for _, phase := range phases {
			for _, lines := range []int{0, 119, 120} {
				h := meanwhileHouse()
				h.Used[0] = c.used
				h = inPhase(h, phase, 2)
				one := started(h, c.q)
				for steps := 0; steps < 20 && !one.told && len(one.then.Tickets[0].Wait) > 0; steps++ {
					one = stepped(one.then, 1)
				}
				then := one.then
				for _, q := range c.mean {
					turned, a := impl.HseDo(then, q)
					if a.Code != impl.AnsDone {
						t.Fatalf("%s: %#v is %#v", c.what, q, a)
					}
					then = turned
				}
				then.Roll = linesOf(lines)
				last := stepped(then, 1)
				askHappening(t, c.what, last)
				files, _ := impl.MdlFiles(impl.MdlOf(last.then), 0, "a", 0)
				if !last.told || !same(last.a, impl.AnsAnswer{Code: c.code}) || !sameFiles(files, c.files) || impl.HseBusy(last.then, 1) {
					t.Fatalf("%s in the Phase %d: %#v, %v, %q", c.what, phase, last.a, last.told, files)
				}
				if !same(last.then.Roll, withLine(then, c.q, c.code).Roll) {
					t.Fatalf("%s in the Phase %d: the roll is %v", c.what, phase, last.then.Roll)
				}
			}
		}
	}
}

// A version that is another one by then is put at once in the last step, and that may clash.
func TestLastStepMayClash(t *testing.T) {
	q := impl.ReqReq{User: 1, Key: 10, Kind: impl.ReqPut, Ref: "a", Edits: []impl.TreEdit{{Path: "n", Bytes: "x"}}}
	for _, phase := range phases {
		for room, code := range map[int]int{0: impl.AnsClash, 1: impl.AnsDone} {
			h := inPhase(fillPool(meanwhileHouse(), room+1), phase, 2)
			one := started(h, q)
			for range 3 {
				one = stepped(one.then, 1)
			}
			then := one.then
			for _, kind := range []int{impl.ReqDrop, impl.ReqName} {
				then, _ = impl.HseDo(then, impl.ReqReq{User: 2, Key: 11, Kind: kind, Ref: "a"})
			}
			last := stepped(then, 1)
			askHappening(t, "named anew", last)
			if len(then.Pool) != 700-room || !last.told || !same(last.a, impl.AnsAnswer{Code: code}) || impl.HseBusy(last.then, 1) {
				t.Fatalf("room for %d in the Phase %d: %d texts, %#v", room, phase, len(then.Pool), last.a)
			}
			if code == impl.AnsClash && !same(last.then, withLine(withoutTicket(then, 0), q, code)) {
				t.Fatalf("in the Phase %d a clash turned %#v into %#v", phase, then, last.then)
			}
		}
	}
}

// Who has nothing under way may step and leave, and is not busy; it is as it was.
func TestUsersWithNothingUnderWay(t *testing.T) {
	for _, phase := range phases {
		for _, users := range [][]int{nil, {1}, {4}, {2, 3}, {1, 2, 4}} {
			h := fullKept()
			h.Tickets = slices.DeleteFunc(h.Tickets, func(ticket impl.HseTicket) bool { return !slices.Contains(users, ticket.Req.User) })
			h = inPhase(h, phase, 9)
			for _, user := range slices.Concat(strangers, fewUsers) {
				busy := ticketAt(h, user) >= 0
				if impl.HseBusy(h, user) != busy {
					t.Fatal("the user", user, "of", users, "is busy:", !busy)
				}
				step, leave := stepped(h, user), left(h, user)
				askHappening(t, fmt.Sprint(users), step)
				askHappening(t, fmt.Sprint(users), leave)
				if !busy && (step.told || !same(step.a, impl.AnsAnswer{}) || !same(step.then, h) || !same(leave.then, h)) {
					t.Fatal("the user", user, "of", users, "has turned something")
				}
				if busy && (same(leave.then, h) || impl.HseBusy(leave.then, user)) {
					t.Fatal("the user", user, "of", users, "is busy still")
				}
			}
		}
	}
}

func repeated(kept bool, n int) []bool {
	return slices.Repeat([]bool{kept}, n)
}

// What is Loose is left by its place; a place that keep has not is not kept.
func TestFallKeepsByPlaces(t *testing.T) {
	loose := idsOf("Lp", wasteLeaf, wasteSheet, openSheet, selfSheet)
	for _, phase := range phases {
		h := fullKept()
		h.Loose = loose
		h = inPhase(h, phase, 9)
		for _, c := range []struct {
			what   string
			keep   []bool
			places []int
		}{
			{"none", nil, nil},
			{"an empty one", []bool{}, nil},
			{"all false", repeated(false, 5), nil},
			{"all true", repeated(true, 5), []int{0, 1, 2, 3, 4}},
			{"longer, all true", repeated(true, 99), []int{0, 1, 2, 3, 4}},
			{"longer, all false", repeated(false, 99), nil},
			{"longer, true behind the end alone", append(repeated(false, 5), true, true, true), nil},
			{"shorter, all true", repeated(true, 3), []int{0, 1, 2}},
			{"shorter by one, all true", repeated(true, 4), []int{0, 1, 2, 3}},
			{"shorter, all false", repeated(false, 2), nil},
			{"the first", []bool{true}, []int{0}},
			{"the last", []bool{false, false, false, false, true}, []int{4}},
			{"each second", []bool{true, false, true, false, true}, []int{0, 2, 4}},
			{"each second, the others", []bool{false, true, false, true}, []int{1, 3}},
		} {
			one := fallen(h, c.keep)
			askHappening(t, c.what, one)
			want := keptCopy(h)
			want.Phase, want.Tickets, want.Loose, want.Marks, want.Grey = impl.GcIdle, nil, nil, nil, nil
			for k, id := range loose {
				if !slices.Contains(c.places, k) {
					want.Pool = impl.PolOut(want.Pool, id)
				}
			}
			if !same(one.then, want) || len(want.Pool) != len(h.Pool)-5+len(c.places) || !impl.HseOk(one.then) {
				t.Fatalf("%s in the Phase %d: %d texts are left of %d", c.what, phase, len(one.then.Pool), len(h.Pool))
			}
		}
	}
}

func TestFallWhereNothingIsLoose(t *testing.T) {
	for _, phase := range phases {
		h := fullKept()
		h.Loose = nil
		h = inPhase(h, phase, 9)
		for _, keep := range [][]bool{nil, repeated(true, 3), repeated(false, 3), repeated(true, 1000)} {
			one := fallen(h, keep)
			askHappening(t, "nothing Loose", one)
			if !same(one.then.Pool, h.Pool) || len(one.then.Tickets) > 0 {
				t.Fatalf("in the Phase %d: %#v", phase, one.then)
			}
		}
	}
}

// nothingOf asks that all five answer nothing of a house that is not ok.
func nothingOf(t *testing.T, h impl.HseHouse, q impl.ReqReq, user int, keep []bool) {
	t.Helper()
	for _, one := range []happening{started(h, q), stepped(h, user), left(h, user), fallen(h, keep)} {
		if !same(one.then, impl.HseHouse{}) || !same(one.a, impl.AnsAnswer{}) || one.told {
			t.Fatalf("%s of %#v: %#v, %#v, %v", one.what, h, one.then, one.a, one.told)
		}
	}
	if impl.HseBusy(h, user) {
		t.Fatalf("the user %d of %#v is busy", user, h)
	}
}

func TestUnderWayOfWhatIsNotOk(t *testing.T) {
	t.Parallel()
	r := rand.New(rand.NewPCG(9, 5))
	for _, h := range noKept() {
		user := oneOf(r, []int{1, 2, 4})
		nothingOf(t, h, impl.ReqReq{User: 1, Key: 1, Kind: oneOf(r, []int{impl.ReqUsed, impl.ReqPut, impl.ReqName}), Ref: "n", Edits: editsOf(1)}, user, repeated(true, 700))
	}
	bad := 0
	for range 2000 {
		q := anyRequest(r)
		if requestByHand(q) {
			continue
		}
		bad++
		one := started(inPhase(fullKept(), r.IntN(3), 9), q)
		if !same(one.then, impl.HseHouse{}) || !same(one.a, impl.AnsAnswer{}) || one.told {
			t.Fatalf("%#v: %#v, %#v, %v", q, one.then, one.a, one.told)
		}
	}
	for _, kind := range []int{0, 12, -1} {
		if one := started(fullKept(), impl.ReqReq{User: 1, Key: 1, Kind: kind}); !same(one.then, impl.HseHouse{}) || one.told {
			t.Fatalf("the kind %d: %#v", kind, one.then)
		}
	}
	if bad < 200 {
		t.Fatal("too few were asked:", bad)
	}
}

// Houses with any fault, any numbers, and texts of any bytes.
func TestUnderWayOfAnyFault(t *testing.T) {
	t.Parallel()
	r := rand.New(rand.NewPCG(9, 6))
	seen := map[bool]int{}
	for range 600 {
		h := keptCopy(anyKept(r))
		q := requestOf(r, h, impl.MdlOf(h))
		for more := true; more; more = r.IntN(3) == 0 {
			anyFault(r, &h)
		}
		ok := keptByHand(h)
		seen[ok]++
		user, keep := userOf(r, h), anyKeep(r, h)
		if !ok {
			nothingOf(t, h, q, user, keep)
			continue
		}
		for _, one := range []happening{started(h, q), stepped(h, user), left(h, user), fallen(h, keep)} {
			askHappening(t, "any fault", one)
		}
	}
	if seen[true] < 100 || seen[false] < 100 {
		t.Fatal("too few were asked:", seen)
	}
	numbers := []int{0, 1, -1, 2, 99, 100, 1 << 32, math.MaxInt, math.MinInt}
	texts := slices.Concat(noObjects(), []string{"L", "S", selfSheet})
	for range 1500 {
		h := impl.HseHouse{Keys: []int{oneOf(r, numbers)}, Used: []int{0}, Phase: oneOf(r, numbers), Repos: []impl.HseRepo{{Admin: 1}}}
		h.Pool = []impl.PolItem{{Id: oneOf(r, numbers), Text: oneOf(r, texts)}}
		h.Tickets = []impl.HseTicket{{Req: anyRequest(r), Wait: []string{oneOf(r, texts)}, Pins: []int{oneOf(r, numbers)}}}
		h.Loose = []int{oneOf(r, numbers)}
		nothingOf(t, h, anyRequest(r), oneOf(r, numbers), repeated(true, r.IntN(3)))
	}
}

// Texts of any bytes wait, and are put as they are.
func TestLeavesOfAnyBytesUnderWay(t *testing.T) {
	for _, bytes := range []string{"", "\x00", "\xff\xfe", "=/!- \n", "ä€", "L", "S"} {
		h := meanwhileHouse()
		q := impl.ReqReq{User: 1, Key: 10, Kind: impl.ReqPut, Ref: "a", Edits: []impl.TreEdit{{Path: "n", Bytes: bytes}}}
		one := started(h, q)
		for steps := 0; !one.told && steps < 9; steps++ {
			one = stepped(one.then, 1)
			askHappening(t, fmt.Sprintf("%q", bytes), one)
		}
		files, _ := impl.MdlFiles(impl.MdlOf(one.then), 0, "a", 0)
		if one.a.Code != impl.AnsDone || !sameFiles(files, []impl.TreFile{{Path: "n", Bytes: bytes}, {Path: "x", Bytes: "x"}}) {
			t.Fatalf("%q: %#v, %q", bytes, one.a, files)
		}
	}
}

// askSteppingMemory asks that nothing is written into, and that no answer shares memory.
func askSteppingMemory(t *testing.T, h impl.HseHouse, q impl.ReqReq, user int, keep []bool) []happening {
	t.Helper()
	wholeH, wholeQ, wholeKeep := wholeOf(h), wholeOf(q), wholeOf(keep)
	all := []happening{started(h, q), stepped(h, user), left(h, user), fallen(h, keep)}
	var told []any
	for _, one := range all {
		apart(t, one.what, []any{one.then, one.a}, h, q, keep)
		told = append(told, one.then, one.a)
	}
	apart(t, "all", told, h, q, keep)
	impl.HseBusy(h, user)
	if !reflect.DeepEqual(wholeOf(h), wholeH) || !reflect.DeepEqual(wholeOf(q), wholeQ) || !reflect.DeepEqual(wholeOf(keep), wholeKeep) {
		t.Fatalf("an argument was written into: %#v, user %d, of %#v", q, user, h)
	}
	return all
}

func TestUnderWaySharesNoMemory(t *testing.T) {
	t.Parallel()
	r := rand.New(rand.NewPCG(9, 7))
	fills := append(keptFills(), true)
	bad := noKept()
	seen := map[string]int{}
	i := 0
	for one := range happenings(7, 1000, "step") {
		i++
		h := clashing(r, one.h)
		if i%10 == 0 {
			h = oneOf(r, bad)
		}
		if len(h.Pool) > 300 && i%5 > 0 || len(h.Tickets)+len(h.Roll)+len(h.Grey)+len(h.Marks)+len(h.Pool) > 3000 || len(h.Loose) > 1000 {
			continue
		}
		q := requestOf(r, one.h, impl.MdlOf(one.h), impl.ReqPut, impl.ReqPut, impl.ReqReset, impl.ReqCopy)
		user := userOf(r, h)
		for _, one := range askSteppingMemory(t, roomy(h, fills...), roomy(q, fills...), user, roomy(anyKeep(r, h), fills...)) {
			seen[one.what]++
			switch {
			case one.what == "start" && same(one.then, impl.HseHouse{}):
				seen["not ok"]++
			case one.what == "start":
				seen[countStart(one)[0]]++
			case one.what == "step" && !same(one.then, impl.HseHouse{}):
				seen[countStep(one)[0]]++
			}
		}
	}
	enough(t, seen, 10, "not ok", "under way", "nothing under way", "clash", "new in 0", "new in 1", "new in 2", "there in 0", "there in 1", "there in 2", "last, code 1")
}

// Lists of an argument may share memory; those of an answer do not.
func TestSharedTicketsAreToldApart(t *testing.T) {
	shared := idsOf("Ly", wasteLeaf)
	h := storyHouse()
	h.Tickets = append([]impl.HseTicket{{Req: impl.ReqReq{User: 1, Kind: impl.ReqPut}}}, h.Tickets...)
	h.Tickets[0].Pins, h.Tickets[1].Pins, h.Loose = shared, shared, shared
	texts := []string{"Lq", "Lr"}
	h.Tickets[0].Wait, h.Tickets[1].Wait = texts, texts[:1]
	edits := []impl.TreEdit{{Path: "n", Bytes: "new"}}
	h.Tickets[0].Req.Edits, h.Tickets[1].Req.Edits = edits, edits
	h.Used = h.Keys
	for _, phase := range phases {
		now := h
		now.Phase = phase
		if phase == impl.GcMarks {
			now.Grey = stayByHand(h)
		}
		if phase == impl.GcSweeps {
			now.Grey = stayByHand(h)
			markOn(&now, math.MaxInt)
		}
		for _, user := range []int{1, 2, 3} {
			for _, one := range askSteppingMemory(t, now, putOf(edits...), user, []bool{true}) {
				if !impl.HseOk(one.then) {
					t.Fatalf("in the Phase %d, the user %d: %s is not ok", phase, user, one.what)
				}
			}
		}
	}
	// Here the request that is begun has the edits of one that is under way.
	free := h
	free.Tickets = h.Tickets[1:]
	if one := askSteppingMemory(t, free, putOf(edits...), 2, nil)[0]; one.told || len(one.then.Tickets) != 2 {
		t.Fatalf("%#v", one.a)
	}
}

// quietened waits till there are no more goroutines than there were, or long enough: one that has ended may be told for a while.
func quietened(before int) bool {
	for range 10000 {
		if runtime.NumGoroutine() <= before {
			return true
		}
		time.Sleep(time.Millisecond)
	}
	return false
}

// No goroutine is left behind, whatever comes of a call.
func TestNoGoroutineIsLeftBehind(t *testing.T) {
	r := rand.New(rand.NewPCG(9, 8))
	before := runtime.NumGoroutine()
	seen := map[string]int{}
	bad := noKept()
	for one := range happenings(8, 800, "step") {
		seen[countStep(one)[0]]++
		anyHappening(r, one.h, "start")
		anyHappening(r, one.h, "leave")
		anyHappening(r, one.h, "fall")
		nothingOf(t, oneOf(r, bad), one.q, 1, nil)
		if !quietened(before) {
			t.Fatal("of", before, "goroutines there are now", runtime.NumGoroutine())
		}
	}
	enough(t, seen, 5, "nothing under way", "clash", "new in 0", "new in 1", "new in 2", "there in 0", "last, code 1")
}

// What is told once is told again, also by many at once.
func TestUnderWayIsAnsweredTheSameEachTime(t *testing.T) {
	r := rand.New(rand.NewPCG(9, 9))
	for range 60 {
		h := clashing(r, anyKept(r))
		q, user, keep := requestOf(r, h, impl.MdlOf(h)), userOf(r, h), anyKeep(r, h)
		all := func() []happening {
			return []happening{started(h, q), stepped(h, user), left(h, user), fallen(h, keep)}
		}
		want := all()
		done := make(chan bool)
		for range 4 {
			go func() {
				ok := true
				for i, one := range all() {
					ok = ok && same(one.then, want[i].then) && same(one.a, want[i].a) && one.told == want[i].told
				}
				done <- ok
			}()
		}
		for range 4 {
			if !<-done {
				t.Fatalf("%#v, user %d, of %#v is answered otherwise", q, user, h)
			}
		}
	}
}
