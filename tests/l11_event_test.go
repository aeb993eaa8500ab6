package tests

import (
	"fmt"
	"math"
	"math/rand/v2"
	"reflect"
	"runtime"
	"slices"
	"testing"

	"loop.example/chartulary/impl"
)

// Kinds of which none is one of an event.
var noEvents = []int{0, -1, 7, 8, -6, 255, 257, 1 << 32, 1<<32 + 1, math.MaxInt, math.MinInt}

// eventByHand is what EvtHappens must answer, of any house and event.
func eventByHand(h impl.HseHouse, e impl.EvtEvent) (impl.HseHouse, impl.AnsAnswer, bool) {
	if !keptByHand(h) {
		return impl.HseHouse{}, impl.AnsAnswer{}, false
	}
	asks := requestByHand(e.Req)
	switch {
	case e.Kind == 1 && asks:
		then, a := keepByHand(h, e.Req)
		return then, a, true
	case e.Kind == 2 && asks:
		return startByHand(h, e.Req)
	case e.Kind == 3:
		return stepByHand(h, e.User)
	case e.Kind == 4:
		return leaveByHand(h, e.User), impl.AnsAnswer{}, false
	case e.Kind == 5:
		return sweepOn(h), impl.AnsAnswer{}, false
	case e.Kind == 6:
		return fallByHand(h, e.Keep), impl.AnsAnswer{}, false
	}
	return keptCopy(h), impl.AnsAnswer{}, false
}

// event is one that happened to a house, and what came of it.
type event struct {
	h    impl.HseHouse
	e    impl.EvtEvent
	then impl.HseHouse
	a    impl.AnsAnswer
	told bool
}

func happened(h impl.HseHouse, e impl.EvtEvent) event {
	one := event{h: h, e: e}
	one.then, one.a, one.told = impl.EvtHappens(h, e)
	return one
}

// request is the one that is answered, if one is.
func (one event) request() impl.ReqReq {
	if at := ticketAt(one.h, one.e.User); one.e.Kind == impl.EvtStep && at >= 0 {
		return one.h.Tickets[at].Req
	}
	return one.e.Req
}

// user is whose event it is, 0 of one that is nobody's.
func (one event) user() int {
	switch one.e.Kind {
	case impl.EvtDo, impl.EvtStart:
		return one.e.Req.User
	case impl.EvtStep, impl.EvtLeave:
		return one.e.User
	}
	return 0
}

// askEvent asks whether what came of it is what must have.
func askEvent(t *testing.T, what string, one event) {
	t.Helper()
	then, a, told := eventByHand(one.h, one.e)
	if !same(one.then, then) || !same(one.a, a) || one.told != told {
		t.Fatalf("%s: %#v of %#v: %#v, %#v, %v; not %#v, %#v, %v", what, one.e, one.h, one.then, one.a, one.told, then, a, told)
	}
}

// eventOf has all parts, those too that its kind does not ask for.
func eventOf(r *rand.Rand, h impl.HseHouse, kind int) impl.EvtEvent {
	kinds := []int{}
	if kind == impl.EvtStart && r.IntN(6) > 0 {
		kinds = []int{impl.ReqPut, impl.ReqPut, impl.ReqReset, impl.ReqCopy}
	}
	e := impl.EvtEvent{Kind: kind, User: userOf(r, h), Req: requestOf(r, h, impl.MdlOf(h), kinds...), Keep: anyKeep(r, h)}
	if r.IntN(10) == 0 {
		e.Req = anyRequest(r)
	}
	return e
}

// anyKind is any kind of an event; most are steps and sweeps, as there must be many of these till something comes of them.
func anyKind(r *rand.Rand, h impl.HseHouse) int {
	if r.IntN(60) == 0 {
		return oneOf(r, noEvents)
	}
	if r.IntN(40) == 0 {
		return oneOf(r, []int{impl.EvtLeave, impl.EvtFall})
	}
	if len(h.Tickets) == 0 && r.IntN(2) == 0 {
		return impl.EvtStart
	}
	return oneOf(r, []int{impl.EvtDo, impl.EvtDo, impl.EvtStart, impl.EvtStep, impl.EvtStep, impl.EvtStep, impl.EvtSweep, impl.EvtSweep, impl.EvtSweep, impl.EvtSweep})
}

// events is so many of them, of any kept houses, and of such as come to be in runs from HseNew on.
func events(seed uint64, n int) func(yield func(event) bool) {
	return func(yield func(event) bool) {
		r := rand.New(rand.NewPCG(11, seed))
		var any, grown impl.HseHouse
		for i := range n / 2 {
			if i%4 == 0 {
				any = clashing(r, anyKept(r))
			}
			if i%150 == 0 {
				grown = grownRun(r)
			}
			kind := oneOf(r, []int{1, 2, 3, 4, 5, 6})
			if r.IntN(20) == 0 {
				kind = oneOf(r, noEvents)
			}
			one := happened(grown, eventOf(r, grown, anyKind(r, grown)))
			if !yield(happened(any, eventOf(r, any, kind))) || !yield(one) {
				return
			}
			grown = one.then
		}
	}
}

// countEvent tells apart what comes of an event.
func countEvent(one event) []string {
	said := []string{fmt.Sprint("kind ", one.e.Kind, " told ", one.told)}
	switch {
	case slices.Contains(noEvents, one.e.Kind):
		said = append(said, "no kind")
	case one.e.Kind <= impl.EvtStart && !requestByHand(one.e.Req):
		said = append(said, fmt.Sprint("kind ", one.e.Kind, " no request"))
	case one.e.Kind == impl.EvtStep || one.e.Kind == impl.EvtLeave:
		said = append(said, fmt.Sprint("kind ", one.e.Kind, " busy ", ticketAt(one.h, one.e.User) >= 0))
	case one.e.Kind == impl.EvtFall:
		longer := len(one.e.Keep) - len(one.h.Loose)
		said = append(said, fmt.Sprint("fall with as many ", longer == 0, ", longer ", longer > 0))
	}
	if one.told && one.a.Code == impl.AnsClash {
		said = append(said, fmt.Sprint("kind ", one.e.Kind, " clash"))
	}
	return append(said, fmt.Sprint("kind ", one.e.Kind, " in ", one.h.Phase))
}

func TestLimitsOfEvents(t *testing.T) {
	got := []int{impl.EvtDo, impl.EvtStart, impl.EvtStep, impl.EvtLeave, impl.EvtSweep, impl.EvtFall, impl.EvtMaxRun}
	if !slices.Equal(got, []int{1, 2, 3, 4, 5, 6, 300}) {
		t.Fatal(got)
	}
}

func TestHappensOfAnyEvent(t *testing.T) {
	t.Parallel()
	seen := map[string]int{}
	for one := range events(1, 6000) {
		askEvent(t, "any", one)
		for _, what := range countEvent(one) {
			seen[what]++
		}
	}
	for kind := 1; kind <= 6; kind++ {
		for _, phase := range phases {
			enough(t, seen, 20, fmt.Sprint("kind ", kind, " in ", phase))
		}
	}
	enough(t, seen, 20, "kind 1 told true", "kind 1 no request", "kind 2 told true", "kind 2 told false", "kind 2 no request", "kind 3 told true", "kind 3 told false", "kind 4 told false", "kind 5 told false", "kind 6 told false", "no kind")
	enough(t, seen, 4, "kind 1 clash", "kind 3 clash")
	enough(t, seen, 10, "kind 3 busy true", "kind 3 busy false", "kind 4 busy true", "kind 4 busy false")
	enough(t, seen, 10, "fall with as many true, longer false", "fall with as many false, longer true", "fall with as many false, longer false")
}

// Of another Kind, and of the first two with a request that is not ok, the house is told as it was.
func TestHappensNothing(t *testing.T) {
	r := rand.New(rand.NewPCG(11, 2))
	for _, phase := range phases {
		h := inPhase(fullKept(), phase, 9)
		for _, kind := range noEvents {
			for range 5 {
				e := eventOf(r, h, kind)
				if one := happened(h, e); one.told || !same(one.a, impl.AnsAnswer{}) || !same(one.then, h) {
					t.Fatalf("%#v in the Phase %d: %#v, %v, %#v", e, phase, one.a, one.told, one.then)
				}
			}
		}
		for _, kind := range []int{impl.EvtDo, impl.EvtStart} {
			bad := []impl.ReqReq{{}, {User: 1, Key: 1}, {User: 1, Key: 1, Kind: 12}, {User: -1, Key: 1, Kind: 1}, {User: 1, Key: 1, Kind: impl.ReqUsed, Path: "/"}, {User: 1, Key: 1, Kind: impl.ReqRefs, Edits: editsOf(5)}}
			for range 60 {
				if q := anyRequest(r); !requestByHand(q) {
					bad = append(bad, q)
				}
			}
			for _, q := range bad {
				e := impl.EvtEvent{Kind: kind, User: 1, Req: q, Keep: repeated(true, 3)}
				if one := happened(h, e); one.told || !same(one.a, impl.AnsAnswer{}) || !same(one.then, h) {
					t.Fatalf("%#v in the Phase %d: %#v, %v, %#v", e, phase, one.a, one.told, one.then)
				}
			}
		}
	}
}

// Each kind asks for its own parts alone: a request that is not ok, a user who is none, or a long Keep are nothing to the others.
func TestEachKindAsksForItsOwn(t *testing.T) {
	q := calmRequest(impl.ReqPut)
	calm := keptOf(calmHouse(), wasteLeaf, wasteSheet)
	calm.Loose = idsOf(wasteLeaf, wasteSheet)
	under, _, _ := impl.HseStart(calm, q)
	bad := impl.ReqReq{User: -1, Kind: 99}
	for _, phase := range phases {
		free, busy := inPhase(calm, phase, 3), inPhase(under, phase, 3)
		done, answer := keepByHand(free, q)
		for _, c := range []struct {
			what string
			h    impl.HseHouse
			e    impl.EvtEvent
			then impl.HseHouse
			a    impl.AnsAnswer
			told bool
		}{
			{"do", free, impl.EvtEvent{Kind: 1, User: 99, Req: q, Keep: repeated(true, 9)}, done, answer, true},
			{"start", free, impl.EvtEvent{Kind: 2, User: 99, Req: q, Keep: repeated(true, 9)}, inPhase(under, phase, 3), impl.AnsAnswer{}, false},
			{"step", busy, impl.EvtEvent{Kind: 3, User: 2, Req: bad, Keep: repeated(true, 9)}, stepped(busy, 2).byHand().then, impl.AnsAnswer{}, false},
			{"leave", busy, impl.EvtEvent{Kind: 4, User: 2, Req: bad, Keep: repeated(true, 9)}, free, impl.AnsAnswer{}, false},
			{"sweep", busy, impl.EvtEvent{Kind: 5, User: 2, Req: bad, Keep: repeated(true, 9)}, sweepOn(busy), impl.AnsAnswer{}, false},
			{"fall", busy, impl.EvtEvent{Kind: 6, User: 2, Req: bad, Keep: []bool{true}}, fallByHand(busy, []bool{true}), impl.AnsAnswer{}, false},
			{"step of another", busy, impl.EvtEvent{Kind: 3, User: 1, Req: q}, busy, impl.AnsAnswer{}, false},
			{"step of none", busy, impl.EvtEvent{Kind: 3, Req: q}, busy, impl.AnsAnswer{}, false},
			{"leave of another", busy, impl.EvtEvent{Kind: 4, User: 1, Req: q}, busy, impl.AnsAnswer{}, false},
			{"leave of none", busy, impl.EvtEvent{Kind: 4, User: -2, Req: q}, busy, impl.AnsAnswer{}, false},
			{"step of who has nothing", free, impl.EvtEvent{Kind: 3, User: 2, Req: q}, free, impl.AnsAnswer{}, false},
			{"leave of who has nothing", free, impl.EvtEvent{Kind: 4, User: 2, Req: q}, free, impl.AnsAnswer{}, false},
		} {
			one := happened(c.h, c.e)
			if !same(one.then, c.then) || !same(one.a, c.a) || one.told != c.told || !keptByHand(c.h) {
				t.Fatalf("%s in the Phase %d: %#v, %v, %#v, not %#v", c.what, phase, one.a, one.told, one.then, c.then)
			}
			askEvent(t, c.what, one)
		}
	}
}

// A fall with a Keep that is shorter, longer and as long as what is Loose.
func TestFallHappens(t *testing.T) {
	for _, phase := range phases {
		h := inPhase(fullKept(), phase, 9)
		for n := range 9 {
			for _, kept := range []bool{true, false} {
				one := happened(h, impl.EvtEvent{Kind: impl.EvtFall, Keep: repeated(kept, n)})
				askEvent(t, "fall", one)
				if want := impl.HseFall(h, repeated(kept, n)); !same(one.then, want) || one.told {
					t.Fatalf("%d times %v in the Phase %d: %#v, not %#v", n, kept, phase, one.then, want)
				}
				lost := len(h.Loose)
				if kept {
					lost = max(0, len(h.Loose)-n)
				}
				if len(one.then.Pool) != len(h.Pool)-lost {
					t.Fatalf("%d times %v in the Phase %d: %d texts are left", n, kept, phase, len(one.then.Pool))
				}
			}
		}
	}
}

func TestEventsOfWhatIsNotOk(t *testing.T) {
	t.Parallel()
	r := rand.New(rand.NewPCG(11, 3))
	ask := func(h impl.HseHouse, e impl.EvtEvent) {
		t.Helper()
		one := happened(h, e)
		run := impl.EvtRun(h, slices.Repeat([]impl.EvtEvent{e}, r.IntN(3)))
		if !same(one.then, impl.HseHouse{}) || !same(one.a, impl.AnsAnswer{}) || one.told || !same(run, impl.HseHouse{}) {
			t.Fatalf("%#v of %#v: %#v, %#v, %v, %#v", e, h, one.then, one.a, one.told, run)
		}
	}
	for i, h := range noKept() {
		for _, kind := range []int{1 + i%6, 1 + i/6%6, oneOf(r, noEvents)} {
			ask(h, impl.EvtEvent{Kind: kind, User: 1, Req: impl.ReqReq{User: 1, Key: 1, Kind: 1 + i%11, Ref: "n"}, Keep: repeated(true, 3)})
		}
	}
	seen := map[bool]int{}
	for range 800 {
		h := keptCopy(anyKept(r))
		e := eventOf(r, h, 1+r.IntN(6))
		for more := true; more; more = r.IntN(3) == 0 {
			anyFault(r, &h)
		}
		ok := keptByHand(h)
		seen[ok]++
		askEvent(t, "any fault", happened(h, e))
		if !ok {
			ask(h, e)
		}
	}
	if seen[true] < 150 || seen[false] < 150 {
		t.Fatal("too few were asked:", seen)
	}
	numbers := []int{0, 1, -1, 2, 99, 1 << 32, math.MaxInt, math.MinInt}
	texts := slices.Concat(noObjects(), []string{"L", "S", selfSheet})
	for range 1000 {
		h := impl.HseHouse{Keys: []int{1}, Used: []int{0}, Phase: oneOf(r, numbers), Repos: []impl.HseRepo{{Admin: 1}}, Marks: []int{oneOf(r, numbers)}, Grey: []int{oneOf(r, numbers)}}
		h.Pool = []impl.PolItem{{Id: oneOf(r, numbers), Text: oneOf(r, texts)}}
		ask(h, impl.EvtEvent{Kind: oneOf(r, numbers), User: oneOf(r, numbers), Req: anyRequest(r)})
	}
}

// runByHand lets events happen one by one.
func runByHand(h impl.HseHouse, list []impl.EvtEvent) impl.HseHouse {
	h = keptCopy(h)
	for _, e := range list {
		h, _, _ = impl.EvtHappens(h, e)
	}
	return h
}

// As many events as may be, and one more; none; and some that turn nothing.
func TestHowManyEventsRun(t *testing.T) {
	sweep := impl.EvtEvent{Kind: impl.EvtSweep}
	nothing := impl.EvtEvent{Kind: 7}
	for _, phase := range phases {
		h := inPhase(fullKept(), phase, 9)
		for _, e := range []impl.EvtEvent{sweep, nothing, {Kind: impl.EvtDo, Req: calmRequest(impl.ReqUsed)}} {
			for _, n := range []int{0, 1, 2, 299, 300, 301, 302, 600, 10000} {
				list := slices.Repeat([]impl.EvtEvent{e}, n)
				got := impl.EvtRun(h, list)
				if n > 300 {
					if !same(got, impl.HseHouse{}) {
						t.Fatalf("%d events in the Phase %d: %#v", n, phase, got)
					}
					continue
				}
				if want := runByHand(h, list); !same(got, want) || !impl.HseOk(got) {
					t.Fatalf("%d of %#v in the Phase %d: %#v, not %#v", n, e, phase, got, want)
				}
				if (n == 0 || e.Kind == 7) && !same(got, h) {
					t.Fatalf("%d of %#v in the Phase %d turned it into %#v", n, e, phase, got)
				}
			}
		}
		if got := impl.EvtRun(h, nil); !same(got, h) {
			t.Fatalf("no events in the Phase %d: %#v", phase, got)
		}
	}
	if got := impl.EvtRun(impl.HseHouse{}, nil); !same(got, impl.HseHouse{}) {
		t.Fatalf("nothing, and no events: %#v", got)
	}
}

// A run goes on behind a clash as it does event by event: of what was put ahead of it nothing is left, by a request that is done at once.
func TestRunGoesOnBehindAClash(t *testing.T) {
	lay := func(path, text string) impl.TreEdit { return impl.TreEdit{Path: path, Bytes: text[1:]} }
	clash := putOf(lay("b", "Lnew"), lay("c", clashOne), lay("d", clashTwo))
	again := putOf(lay("b", "Lnew"), lay("d", clashTwo))
	name := impl.ReqReq{User: 1, Key: 10, Kind: impl.ReqName, Ref: "c"}
	for _, phase := range phases {
		h := inPhase(storyHouse(), phase, 3)
		for _, list := range [][]impl.EvtEvent{
			{{Kind: 1, Req: clash}, {Kind: 1, Req: again}},
			{{Kind: 1, Req: clash}, {Kind: 2, Req: again}, {Kind: 3, User: 1}, {Kind: 5}, {Kind: 3, User: 1}, {Kind: 3, User: 1}, {Kind: 3, User: 1}, {Kind: 3, User: 1}},
			{{Kind: 2, Req: clash}, {Kind: 3, User: 1}, {Kind: 3, User: 1}, {Kind: 3, User: 1}, {Kind: 1, Req: again}, {Kind: 1, Req: name}},
			{{Kind: 1, Req: clash}, {Kind: 5}, {Kind: 5}, {Kind: 5}, {Kind: 5}, {Kind: 5}, {Kind: 5}, {Kind: 5}, {Kind: 5}, {Kind: 1, Req: again}},
			{{Kind: 1, Req: clash}, {Kind: 6}, {Kind: 1, Req: again}, {Kind: 1, Req: again}},
		} {
			got, want := impl.EvtRun(h, list), runByHand(h, list)
			if !same(got, want) || !impl.HseOk(got) || got.Roll[0].Code != impl.AnsClash {
				t.Fatalf("%v in the Phase %d: %#v, not %#v", list, phase, got, want)
			}
		}
	}
	full := fillPool(storyHouse(), 1)
	list := []impl.EvtEvent{{Kind: 1, Req: putOf(lay("b", "Lnew"))}, {Kind: 1, Req: putOf(lay("b", wasteLeaf))}}
	if got := impl.EvtRun(full, list); !same(got, runByHand(full, list)) || got.Roll[1].Code != impl.AnsDone {
		t.Fatalf("in a full pool: %v", got.Roll)
	}
}

// askEventMemory asks that nothing is written into, and that no answer shares memory.
func askEventMemory(t *testing.T, h impl.HseHouse, list []impl.EvtEvent) event {
	t.Helper()
	wholeH, wholeList := wholeOf(h), wholeOf(list)
	one := happened(h, list[0])
	run, none := impl.EvtRun(h, list), impl.EvtRun(h, nil)
	apart(t, "events", []any{one.then, one.a, run, none}, h, list)
	if !reflect.DeepEqual(wholeOf(h), wholeH) || !reflect.DeepEqual(wholeOf(list), wholeList) {
		t.Fatalf("an argument was written into: %#v of %#v", list, h)
	}
	return one
}

func TestEventsShareNoMemory(t *testing.T) {
	t.Parallel()
	r := rand.New(rand.NewPCG(11, 4))
	fills := append(keptFills(), true, impl.EvtEvent{Kind: 77})
	bad := noKept()
	seen := map[string]int{}
	i := 0
	for one := range events(4, 1500) {
		i++
		h := one.h
		list := []impl.EvtEvent{one.e, eventOf(r, h, anyKind(r, h)), eventOf(r, h, anyKind(r, h)), one.e}
		if i%10 == 0 {
			h = oneOf(r, bad)
		}
		if len(h.Pool) > 300 && i%5 > 0 || len(h.Tickets)+len(h.Roll)+len(h.Grey)+len(h.Marks)+len(h.Pool) > 3000 || len(h.Loose) > 1000 {
			continue
		}
		ok := impl.HseOk(h)
		one := askEventMemory(t, roomy(h, fills...), roomy(list, fills...))
		if !ok {
			seen["not ok"]++
			continue
		}
		for _, what := range countEvent(one) {
			seen[what]++
		}
	}
	enough(t, seen, 4, "kind 1 no request", "kind 2 no request", "kind 3 told true")
	enough(t, seen, 10, "not ok", "no kind", "kind 1 told true", "kind 2 told true", "kind 2 told false", "kind 3 told false", "kind 3 busy false", "kind 4 busy true", "kind 4 busy false", "kind 5 told false", "kind 6 told false")
}

// No goroutine is left behind, and what is told once is told again, also by many at once.
func TestEventsAreAnsweredTheSameEachTime(t *testing.T) {
	before := runtime.NumGoroutine()
	for one := range events(5, 300) {
		list := slices.Repeat([]impl.EvtEvent{one.e, {Kind: impl.EvtSweep}}, 3)
		want := impl.EvtRun(one.h, list)
		done := make(chan bool)
		for range 4 {
			go func() {
				again := happened(one.h, one.e)
				done <- same(again.then, one.then) && same(again.a, one.a) && again.told == one.told && same(impl.EvtRun(one.h, list), want)
			}()
		}
		for range 4 {
			if !<-done {
				t.Fatalf("%#v of %#v is answered otherwise", one.e, one.h)
			}
		}
	}
	if !quietened(before) {
		t.Fatal("of", before, "goroutines there are now", runtime.NumGoroutine())
	}
}
