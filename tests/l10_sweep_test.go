package tests

import (
	"fmt"
	"math"
	"math/rand/v2"
	"reflect"
	"runtime"
	"slices"
	"testing"

	"loop.example/chartulary/impl"
)

// allSweptByHand is what GcAll must answer of a house that is ok, told at once: what is marked in the end is what was, and all that waited to be.
func allSweptByHand(h impl.HseHouse) impl.HseHouse {
	h = keptCopy(h)
	if h.Phase == impl.GcIdle {
		h.Grey = stayByHand(h)
	}
	stays := ledTo(linksOf(h.Pool), h.Grey, h.Marks)
	for _, id := range h.Marks {
		stays[id] = true
	}
	h.Pool = slices.DeleteFunc(h.Pool, func(item impl.PolItem) bool { return !stays[item.Id] })
	h.Loose = slices.DeleteFunc(h.Loose, func(id int) bool { return !stays[id] })
	h.Phase, h.Grey, h.Marks = impl.GcIdle, nil, nil
	return h
}

// wasteByHand is what GcWaste must answer of a house that is ok.
func wasteByHand(h impl.HseHouse) []int {
	var waste []int
	stays := ledTo(linksOf(h.Pool), stayByHand(h), nil)
	for _, item := range h.Pool {
		if !stays[item.Id] {
			waste = append(waste, item.Id)
		}
	}
	return waste
}

// swept is all that the chapter on the sweeping answers.
type swept struct {
	roots, waste []int
	one, all     impl.HseHouse
}

func sweptBy(h impl.HseHouse) swept {
	return swept{impl.GcRoots(h), impl.GcWaste(h), impl.GcStep(h), impl.GcAll(h)}
}

// sweptByHand is what must be answered, of any house.
func sweptByHand(h impl.HseHouse) (swept, bool) {
	if !keptByHand(h) {
		return swept{}, false
	}
	return swept{stayByHand(h), wasteByHand(h), sweepOn(h), allSweptByHand(h)}, true
}

// askSweeping holds all of the chapter on the sweeping against what is worked out by hand, and says whether the house is ok.
func askSweeping(t *testing.T, what string, h impl.HseHouse) bool {
	t.Helper()
	got := sweptBy(h)
	want, ok := sweptByHand(h)
	if !slices.Equal(got.roots, want.roots) || !slices.Equal(got.waste, want.waste) {
		t.Fatalf("%s: the roots and the waste of %#v: %v and %v, not %v and %v", what, h, got.roots, got.waste, want.roots, want.waste)
	}
	if !same(got.one, want.one) {
		t.Fatalf("%s: a step of %#v: %#v, not %#v", what, h, got.one, want.one)
	}
	if !same(got.all, want.all) {
		t.Fatalf("%s: all of %#v: %#v, not %#v", what, h, got.all, want.all)
	}
	if impl.HseOk(got.one) != ok || impl.HseOk(got.all) != ok {
		t.Fatalf("%s: %#v is swept, and not ok", what, h)
	}
	return ok
}

// sweepings is so many houses: any kept ones, and such as come to be in runs from HseNew on.
func sweepings(seed uint64, n int) func(yield func(impl.HseHouse) bool) {
	return func(yield func(impl.HseHouse) bool) {
		for one := range happenings(seed, n, "step") {
			if !yield(one.then) {
				return
			}
		}
	}
}

// stepKind tells apart what a step of the sweeping finds.
func stepKind(h impl.HseHouse) string {
	unmarked := 0
	for _, item := range h.Pool {
		if !slices.Contains(h.Marks, item.Id) {
			unmarked++
		}
	}
	switch {
	case h.Phase == impl.GcIdle:
		return fmt.Sprint("idle, roots ", len(stayByHand(h)) > 0)
	case h.Phase == impl.GcMarks && len(h.Grey) == 0:
		return "marked all"
	case h.Phase == impl.GcMarks && slices.Contains(h.Marks, h.Grey[0]):
		return "marked already"
	case h.Phase == impl.GcMarks:
		text, _ := impl.PolGet(h.Pool, h.Grey[0])
		return fmt.Sprint("marks a ", text[:1])
	case unmarked == 0:
		return "nothing to take out"
	}
	at := slices.IndexFunc(h.Pool, func(item impl.PolItem) bool { return !slices.Contains(h.Marks, item.Id) })
	return fmt.Sprint("takes out, the last ", unmarked == 1, ", Loose ", slices.Contains(h.Loose, h.Pool[at].Id))
}

func TestSweepingOfAnyHouse(t *testing.T) {
	t.Parallel()
	seen := map[string]int{}
	for h := range sweepings(201, 2500) {
		askSweeping(t, "any", h)
		seen[stepKind(h)]++
		if len(wasteByHand(h)) > 0 {
			seen["waste"]++
		}
	}
	enough(t, seen, 20, "idle, roots true", "marked all", "marked already", "marks a L", "marks a S", "nothing to take out", "waste")
	for _, last := range []bool{true, false} {
		for _, loose := range []bool{true, false} {
			enough(t, seen, 20, fmt.Sprint("takes out, the last ", last, ", Loose ", loose))
		}
	}
}

// Step by step it comes to the same as at once, from wherever it was.
func TestStepsComeToAll(t *testing.T) {
	t.Parallel()
	n := 0
	for h := range sweepings(202, 500) {
		if len(h.Pool) > 50 {
			continue
		}
		n++
		want := impl.GcAll(h)
		then := h
		for more := true; more; more = then.Phase != impl.GcIdle {
			next := impl.GcStep(then)
			if !same(next, sweepOn(then)) {
				t.Fatalf("a step of %#v: %#v", then, next)
			}
			then = next
		}
		if !same(then, want) {
			t.Fatalf("%#v is swept step by step: %#v; at once: %#v", h, then, want)
		}
	}
	if n < 300 {
		t.Fatal("too few were asked:", n)
	}
}

// The tree of sweptHouse's ref, and what a request under way has put.
var (
	sweptLow   = sheetOf(false, "Lx", "Ly")
	sweptRoot  = sheetOf(false, sweptLow, "Lz")
	sweptTexts = []string{"Lx", "Ly", "Lz", sweptLow, sweptRoot, "Lp"}
)

// sweptHouse is told with the texts that are marked and grey; three of its texts are waste, and two of these are Loose, as is a Pin.
func sweptHouse(phase int, marks, grey []string) impl.HseHouse {
	h := impl.HseNew([]int{1}, []int{1})
	h.Pool = poolOfTexts(append(slices.Clone(sweptTexts), wasteLeaf, wasteSheet, wasteTop)...)
	h.Repos[0].Refs = []impl.HseRef{{Name: "a", Roots: idsOf(sweptRoot)}}
	h.Tickets = []impl.HseTicket{{Req: impl.ReqReq{User: 1, Kind: impl.ReqPut}, Pins: idsOf("Lp")}}
	h.Loose = idsOf("Lp", wasteLeaf, wasteSheet)
	h.Phase, h.Marks, h.Grey = phase, idsOf(marks...), idsOf(grey...)
	h.Roll = linesOf(3)
	return h
}

// askStep asks for just this of one step.
func askStep(t *testing.T, what string, h, want impl.HseHouse) {
	t.Helper()
	if got := impl.GcStep(h); !same(got, want) {
		t.Fatalf("%s: a step of %#v: %#v, not %#v", what, h, got, want)
	}
	if !askSweeping(t, what, h) || !keptByHand(want) {
		t.Fatalf("%s: %#v is not ok", what, h)
	}
}

func TestStepFromIdle(t *testing.T) {
	askStep(t, "a ref, and a Pin", sweptHouse(0, nil, nil), sweptHouse(1, nil, []string{sweptRoot, "Lp"}))
	h, want := sweptHouse(0, nil, nil), sweptHouse(1, nil, []string{sweptRoot})
	h.Tickets, want.Tickets = nil, nil
	askStep(t, "nothing under way", h, want)
	h, want = sweptHouse(0, nil, nil), sweptHouse(1, nil, []string{"Lp"})
	h.Repos[0].Refs, want.Repos[0].Refs = nil, nil
	askStep(t, "no ref", h, want)
	h, want = sweptHouse(0, nil, nil), sweptHouse(1, nil, []string{sweptRoot})
	h.Tickets[0].Pins, want.Tickets[0].Pins = idsOf(sweptRoot), idsOf(sweptRoot)
	askStep(t, "the Pin is the root", h, want)
	h, want = sweptHouse(0, nil, nil), sweptHouse(1, nil, []string{sweptRoot, sweptLow})
	h.Tickets[0].Pins, want.Tickets[0].Pins = idsOf(sweptLow), idsOf(sweptLow)
	askStep(t, "the Pin hangs on the root", h, want)
	h, want = sweptHouse(0, nil, nil), sweptHouse(1, nil, nil)
	h.Repos[0].Refs, h.Tickets, want.Repos[0].Refs, want.Tickets = nil, nil, nil, nil
	askStep(t, "all is waste", h, want)
	h = impl.HseNew([]int{1}, []int{1})
	want = keptCopy(h)
	want.Phase = impl.GcMarks
	askStep(t, "nothing at all", h, want)
}

// firstOf is the one with the least id.
func firstOf(texts []string) string {
	return slices.MinFunc(texts, func(a, b string) int { return idByHand(a) - idByHand(b) })
}

func TestStepMarks(t *testing.T) {
	but := func(gone string) []string {
		return slices.DeleteFunc(slices.Clone(sweptTexts), func(s string) bool { return s == gone })
	}
	for _, c := range []struct {
		what                string
		marks, grey         []string
		thenMarks, thenGrey []string
	}{
		{what: "a leaf", marks: but("Lz"), grey: []string{"Lz"}, thenMarks: sweptTexts},
		{what: "a Pin", marks: but("Lp"), grey: []string{"Lp"}, thenMarks: sweptTexts},
		{what: "one that is marked already", marks: sweptTexts, grey: []string{"Lz"}, thenMarks: sweptTexts},
		{what: "a sheet that is marked already", marks: sweptTexts, grey: []string{sweptRoot}, thenMarks: sweptTexts},
		{what: "a sheet that names what is marked", marks: but(sweptRoot), grey: []string{sweptRoot}, thenMarks: sweptTexts},
		{what: "a sheet that names what is neither", marks: []string{"Lp"}, grey: []string{sweptRoot}, thenMarks: []string{"Lp", sweptRoot}, thenGrey: []string{sweptLow, "Lz"}},
		{what: "a sheet that names one that is marked, and one that is neither", marks: []string{"Lp", "Lz"}, grey: []string{sweptRoot}, thenMarks: []string{"Lp", "Lz", sweptRoot}, thenGrey: []string{sweptLow}},
		{what: "a sheet of a marked one", marks: []string{"Lp", sweptRoot, "Lz"}, grey: []string{sweptLow}, thenMarks: []string{"Lp", sweptRoot, "Lz", sweptLow}, thenGrey: []string{"Lx", "Ly"}},
		{what: "waste", marks: sweptTexts, grey: []string{wasteTop}, thenMarks: append([]string{wasteTop}, sweptTexts...), thenGrey: []string{wasteSheet}},
	} {
		askStep(t, c.what, sweptHouse(1, c.marks, c.grey), sweptHouse(1, c.thenMarks, c.thenGrey))
	}
}

// Of several that are grey the first by its id is taken, and no other one.
func TestStepMarksTheFirst(t *testing.T) {
	for _, grey := range [][]string{{sweptRoot, "Lp"}, {sweptRoot, "Lp", wasteLeaf}, {sweptRoot, "Lp", sweptLow}, {sweptRoot, "Lp", wasteTop, wasteSheet, wasteLeaf}, append([]string{wasteLeaf}, sweptTexts...)} {
		first := firstOf(grey)
		then := slices.DeleteFunc(slices.Clone(grey), func(s string) bool { return s == first })
		for _, s := range append([]string{wasteLeaf, wasteSheet}, sweptTexts...) {
			if slices.Contains(kidsByHand(first), idByHand(s)) && s != first {
				then = append(then, s)
			}
		}
		askStep(t, fmt.Sprintf("%q", grey), sweptHouse(1, nil, grey), sweptHouse(1, []string{first}, then))
	}
}

// leafWith is a leaf whose id is as it is asked for.
func leafWith(fits func(id int) bool) string {
	for _, s := range leafTexts(1000) {
		if fits(idByHand(s)) {
			return s
		}
	}
	panic("there is no such leaf")
}

// A sheet names what is marked, what is grey, and what is neither: ahead of all that is grey, between, and behind.
func TestStepMarksASheetOfAllKinds(t *testing.T) {
	marked := leafWith(func(id int) bool { return id > 1<<30 && id < 2<<30 })
	grey := leafWith(func(id int) bool { return id > 3<<30 && id < 3<<30+1<<29 })
	last := leafWith(func(id int) bool { return id > 3<<30+1<<29+1<<28 })
	for _, names := range [][]string{
		{marked, grey, leafWith(func(id int) bool { return id > 2<<30 && id < 3<<30 })},
		{marked, grey, leafWith(func(id int) bool { return id > 3<<30+1<<29 && id < 3<<30+1<<29+1<<28 })},
		{marked, grey, leafWith(func(id int) bool { return id > idByHand(last) })},
		{marked, grey, last, leafWith(func(id int) bool { return id > 2<<30 && id < 3<<30 }), leafWith(func(id int) bool { return id > idByHand(last) })},
		{grey, last},
		{marked},
	} {
		sheet := sheetOf(false, names...)
		for entries := 0; idByHand(sheet) > idByHand(grey); entries++ {
			// Another sheet with the same leaves, and an id that is less.
			sheet = sheetOf(false, append(slices.Clone(names), slices.Repeat([]string{marked}, entries)...)...)
		}
		h := impl.HseNew([]int{1}, []int{1})
		h.Pool = poolOfTexts(append(slices.Clone(names), marked, grey, last, sheet)...)
		h.Repos[0].Refs = []impl.HseRef{{Name: "a", Roots: idsOf(sheet)}}
		h.Phase, h.Marks, h.Grey = impl.GcMarks, idsOf(marked), idsOf(sheet, grey, last)
		want := keptCopy(h)
		want.Marks = idsOf(marked, sheet)
		want.Grey = slices.DeleteFunc(idsOf(append(slices.Clone(names), grey, last)...), func(id int) bool { return id == idByHand(marked) })
		askStep(t, fmt.Sprintf("%q", names), h, want)
	}
}

// A sheet that names itself is not grey again.
func TestStepMarksWhatNamesItself(t *testing.T) {
	h := impl.HseNew([]int{1}, []int{1})
	h.Pool = poolOfTexts(selfSheet, "Lx")
	h.Phase, h.Grey = impl.GcMarks, idsOf(selfSheet)
	want := keptCopy(h)
	want.Marks, want.Grey = idsOf(selfSheet), nil
	askStep(t, "itself", h, want)
}

func TestStepEndsTheMarking(t *testing.T) {
	askStep(t, "nothing grey", sweptHouse(1, sweptTexts, nil), sweptHouse(2, sweptTexts, nil))
	all := append([]string{wasteLeaf, wasteSheet, wasteTop}, sweptTexts...)
	askStep(t, "nothing grey, and all is marked", sweptHouse(1, all, nil), sweptHouse(2, all, nil))
	h := impl.HseNew([]int{1}, []int{1})
	h.Phase = impl.GcMarks
	want := keptCopy(h)
	want.Phase = impl.GcSweeps
	askStep(t, "an empty pool", h, want)
}

// What is not marked is taken out one by one, by its id, and what is Loose of it is so no more.
func TestStepTakesOut(t *testing.T) {
	waste := []string{wasteLeaf, wasteSheet, wasteTop}
	slices.SortFunc(waste, func(a, b string) int { return idByHand(a) - idByHand(b) })
	h := sweptHouse(2, sweptTexts, nil)
	for _, text := range waste {
		want := keptCopy(h)
		want.Pool = impl.PolOut(h.Pool, idByHand(text))
		want.Loose = slices.DeleteFunc(want.Loose, func(id int) bool { return id == idByHand(text) })
		if len(want.Pool) != len(h.Pool)-1 || slices.Contains([]string{wasteLeaf, wasteSheet}, text) != (len(want.Loose) < len(h.Loose)) {
			t.Fatalf("%q: what is asked for is wrong", text)
		}
		askStep(t, text, h, want)
		h = impl.GcStep(h)
	}
	idle := keptCopy(h)
	idle.Phase, idle.Marks = impl.GcIdle, nil
	askStep(t, "nothing to take out", h, idle)
	if !slices.Equal(h.Loose, idsOf("Lp")) || len(h.Pool) != len(sweptTexts) {
		t.Fatalf("%#v", h)
	}
	h = impl.HseNew([]int{1}, []int{1})
	h.Phase = impl.GcSweeps
	askStep(t, "an empty pool", h, impl.HseNew([]int{1}, []int{1}))
}

// The one to be taken out stands first, last, or between; it is Loose or not.
func TestStepTakesOutWhereverItStands(t *testing.T) {
	others := append([]string{wasteLeaf, wasteSheet, wasteTop}, sweptTexts...)
	ids := idsOf(others...)
	for what, text := range map[string]string{
		"first":   leafWith(func(id int) bool { return id < ids[0] }),
		"between": leafWith(func(id int) bool { return id > ids[2] && id < ids[len(ids)-2] }),
		"last":    leafWith(func(id int) bool { return id > ids[len(ids)-1] }),
	} {
		for _, loose := range []bool{true, false} {
			h := impl.HseNew([]int{1}, []int{1})
			h.Pool = poolOfTexts(append([]string{text}, others...)...)
			h.Phase, h.Marks = impl.GcSweeps, ids
			want := keptCopy(h)
			want.Pool = poolOfTexts(others...)
			h.Loose, want.Loose = idsOf("Lp", wasteTop), idsOf("Lp", wasteTop)
			if loose {
				h.Loose = idsOf(text, "Lp", wasteTop)
			}
			askStep(t, fmt.Sprintf("%s, Loose %v", what, loose), h, want)
		}
	}
}

func TestRootsAndWasteByHand(t *testing.T) {
	for _, phase := range phases {
		for _, c := range []struct {
			what         string
			turn         func(*impl.HseHouse)
			roots, waste []string
		}{
			{"as it is", func(h *impl.HseHouse) {}, []string{sweptRoot, "Lp"}, []string{wasteLeaf, wasteSheet, wasteTop}},
			{"nothing under way", func(h *impl.HseHouse) { h.Tickets = nil }, []string{sweptRoot}, []string{wasteLeaf, wasteSheet, wasteTop, "Lp"}},
			{"under way, and nothing put yet", func(h *impl.HseHouse) { h.Tickets[0].Pins, h.Tickets[0].Wait = nil, []string{"Lp"} }, []string{sweptRoot}, []string{wasteLeaf, wasteSheet, wasteTop, "Lp"}},
			{"no ref", func(h *impl.HseHouse) { h.Repos[0].Refs = nil }, []string{"Lp"}, []string{"Lx", "Ly", "Lz", sweptLow, sweptRoot, wasteLeaf, wasteSheet, wasteTop}},
			{"neither", func(h *impl.HseHouse) { h.Repos[0].Refs, h.Tickets = nil, nil }, nil, append([]string{wasteLeaf, wasteSheet, wasteTop}, sweptTexts...)},
			{"a Pin that hangs on the root", func(h *impl.HseHouse) { h.Tickets[0].Pins = idsOf("Lp", "Lx") }, []string{sweptRoot, "Lp", "Lx"}, []string{wasteLeaf, wasteSheet, wasteTop}},
			{"a Pin that is the root", func(h *impl.HseHouse) { h.Tickets[0].Pins = idsOf(sweptRoot) }, []string{sweptRoot}, []string{"Lp", wasteLeaf, wasteSheet, wasteTop}},
			{"Pins that nothing else leads to", func(h *impl.HseHouse) { h.Tickets[0].Pins = idsOf(wasteSheet, "Lp") }, []string{sweptRoot, wasteSheet, "Lp"}, []string{wasteTop}},
			{"a Pin on top of all waste", func(h *impl.HseHouse) { h.Tickets[0].Pins = idsOf(wasteTop) }, []string{sweptRoot, wasteTop}, []string{"Lp"}},
			{"one root twice", func(h *impl.HseHouse) { h.Repos[0].Refs[0].Roots = slices.Repeat(idsOf(sweptRoot), 3) }, []string{sweptRoot, "Lp"}, []string{wasteLeaf, wasteSheet, wasteTop}},
			{"two refs, and two roots", func(h *impl.HseHouse) {
				h.Repos[0].Refs = append(h.Repos[0].Refs, impl.HseRef{Name: "b", Roots: idsOf(sweptLow, wasteSheet)})
				h.Loose = nil
			}, []string{sweptRoot, sweptLow, wasteSheet, "Lp"}, []string{wasteTop}},
			{"an empty pool", func(h *impl.HseHouse) { h.Repos[0].Refs, h.Tickets, h.Pool, h.Loose = nil, nil, nil, nil }, nil, nil},
		} {
			h := sweptHouse(0, nil, nil)
			c.turn(&h)
			h = inPhase(h, phase, 2)
			roots, waste := impl.GcRoots(h), impl.GcWaste(h)
			if !impl.HseOk(h) || !slices.Equal(roots, idsOf(c.roots...)) || !slices.Equal(waste, idsOf(c.waste...)) {
				t.Fatalf("%s in the Phase %d: %v, %v", c.what, phase, roots, waste)
			}
			askSweeping(t, c.what, h)
		}
	}
}

// All from each Phase: what was marked as waste is left by the first one, and by no second one.
func TestAllFromEachPhase(t *testing.T) {
	clean := sweptHouse(0, nil, nil)
	clean.Pool, clean.Loose = poolOfTexts(sweptTexts...), idsOf("Lp")
	waste := append([]string{wasteLeaf, wasteSheet}, sweptTexts...)
	left := sweptHouse(0, nil, nil)
	left.Pool = poolOfTexts(waste...)
	for _, c := range []struct {
		what    string
		h, want impl.HseHouse
	}{
		{"idle", sweptHouse(0, nil, nil), clean},
		{"nothing marked yet", sweptHouse(1, nil, []string{sweptRoot, "Lp"}), clean},
		{"marking", sweptHouse(1, []string{sweptRoot, "Lp"}, []string{sweptLow, "Lz"}), clean},
		{"all marked", sweptHouse(1, sweptTexts, nil), clean},
		{"all marked, and grey", sweptHouse(1, sweptTexts, sweptTexts), clean},
		{"waste is grey", sweptHouse(1, sweptTexts, []string{wasteSheet}), left},
		{"waste is marked", sweptHouse(1, waste, nil), left},
		{"sweeping", sweptHouse(2, sweptTexts, nil), clean},
		{"sweeping, waste is marked", sweptHouse(2, waste, nil), left},
		{"nothing is waste", clean, clean},
	} {
		if got := impl.GcAll(c.h); !same(got, c.want) {
			t.Fatalf("%s: %#v, not %#v", c.what, got, c.want)
		}
		if got := impl.GcAll(impl.GcAll(c.h)); !same(got, clean) || len(impl.GcWaste(got)) > 0 {
			t.Fatalf("%s, twice: %#v, not %#v", c.what, got, clean)
		}
		askSweeping(t, c.what, c.h)
	}
	for _, phase := range phases {
		h := impl.HseNew([]int{1, 2}, []int{2})
		h.Phase = phase
		if got := impl.GcAll(h); !same(got, impl.HseNew([]int{1, 2}, []int{2})) {
			t.Fatalf("an empty pool in the Phase %d: %#v", phase, got)
		}
	}
}

// chainTexts is a leaf, and sheets each of which names the one ahead of it.
func chainTexts(n int) []string {
	texts := []string{"Lx"}
	for len(texts) < n {
		texts = append(texts, sheetByHand([]impl.ObjEntry{{Name: "a", Sheet: true, Id: idByHand(texts[len(texts)-1])}}))
	}
	return texts
}

// Full pools: all waste, all pinned one by one, and all on one chain.
func TestSweepingOfFullPools(t *testing.T) {
	chain := chainTexts(700)
	for what, turn := range map[string]func(*impl.HseHouse){
		"all waste":             func(h *impl.HseHouse) { h.Pool = poolOfTexts(leafTexts(700)...) },
		"all on a chain, waste": func(h *impl.HseHouse) { h.Pool = poolOfTexts(chain...) },
		"all pinned": func(h *impl.HseHouse) {
			h.Pool = poolOfTexts(leafTexts(700)...)
			h.Tickets = []impl.HseTicket{{Req: impl.ReqReq{User: 1, Kind: impl.ReqPut}, Pins: impl.PolIds(h.Pool)}}
		},
		"the end of a chain is pinned": func(h *impl.HseHouse) {
			h.Pool = poolOfTexts(chain...)
			h.Tickets = []impl.HseTicket{{Req: impl.ReqReq{User: 1, Kind: impl.ReqPut}, Pins: idsOf(chain[699])}}
		},
		"the midst of a chain is pinned": func(h *impl.HseHouse) {
			h.Pool = poolOfTexts(chain...)
			h.Loose = impl.PolIds(h.Pool)
			h.Tickets = []impl.HseTicket{{Req: impl.ReqReq{User: 1, Kind: impl.ReqPut}, Pins: idsOf(chain[350])}}
		},
	} {
		h := impl.HseNew([]int{1}, []int{1})
		turn(&h)
		for _, phase := range phases {
			now := inPhase(h, phase, 300)
			if len(now.Pool) != 700 || !impl.HseOk(now) {
				t.Fatalf("%s: %d texts", what, len(now.Pool))
			}
			askSweeping(t, what, now)
		}
	}
}

func TestSweepingOfWhatIsNotOk(t *testing.T) {
	t.Parallel()
	ask := func(h impl.HseHouse) {
		t.Helper()
		if len(impl.GcRoots(h)) > 0 || len(impl.GcWaste(h)) > 0 || !same(impl.GcStep(h), impl.HseHouse{}) || !same(impl.GcAll(h), impl.HseHouse{}) {
			t.Fatalf("of %#v: %v, %v, %#v, %#v", h, impl.GcRoots(h), impl.GcWaste(h), impl.GcStep(h), impl.GcAll(h))
		}
	}
	for _, h := range noKept() {
		ask(h)
	}
	r := rand.New(rand.NewPCG(10, 1))
	seen := map[bool]int{}
	for range 800 {
		h := keptCopy(anyKept(r))
		for more := true; more; more = r.IntN(3) == 0 {
			anyFault(r, &h)
		}
		ok := askSweeping(t, "any fault", h)
		seen[ok]++
		if !ok {
			ask(h)
		}
	}
	if seen[true] < 150 || seen[false] < 150 {
		t.Fatal("too few were asked:", seen)
	}
	numbers := []int{0, 1, -1, 2, 99, 1 << 32, math.MaxInt, math.MinInt}
	texts := slices.Concat(noObjects(), []string{"L", "S", selfSheet})
	for range 1000 {
		h := impl.HseHouse{Keys: []int{1}, Used: []int{0}, Phase: oneOf(r, numbers), Repos: []impl.HseRepo{{Admin: 1}}, Marks: []int{oneOf(r, numbers)}, Grey: []int{oneOf(r, numbers)}}
		h.Pool = []impl.PolItem{{Id: oneOf(r, numbers), Text: oneOf(r, texts)}}
		ask(h)
	}
}

// askSweepingMemory asks that nothing is written into, and that no answer shares memory.
func askSweepingMemory(t *testing.T, h impl.HseHouse) {
	t.Helper()
	whole := wholeOf(h)
	roots, one, all, waste := impl.GcRoots(h), impl.GcStep(h), impl.GcAll(h), impl.GcWaste(h)
	apart(t, "the sweeping", []any{roots, one, all, waste}, h)
	if !reflect.DeepEqual(wholeOf(h), whole) {
		t.Fatalf("an argument was written into: %#v", h)
	}
}

func TestSweepingSharesNoMemory(t *testing.T) {
	t.Parallel()
	fills := keptFills()
	bad := noKept()
	seen := map[string]int{}
	i := 0
	for h := range sweepings(203, 900) {
		i++
		if i%10 == 0 {
			h = bad[i%len(bad)]
		}
		if len(h.Pool) > 300 && i%5 > 0 || len(h.Tickets)+len(h.Roll)+len(h.Grey)+len(h.Marks)+len(h.Pool) > 3000 || len(h.Loose) > 1000 {
			continue
		}
		askSweepingMemory(t, roomy(h, fills...))
		if impl.HseOk(h) {
			seen[fmt.Sprint("in ", h.Phase)]++
		} else {
			seen["not ok"]++
		}
	}
	enough(t, seen, 40, "in 0", "in 1", "in 2")
	enough(t, seen, 10, "not ok")
}

// Lists of an argument may share memory; those of an answer do not.
func TestSharedGreyAndMarksAreToldApart(t *testing.T) {
	shared := idsOf("Lp", wasteLeaf)
	for _, phase := range phases {
		h := sweptHouse(phase, nil, nil)
		h.Repos[0].Refs = nil
		h.Tickets[0].Pins, h.Loose = shared, shared
		if phase == impl.GcMarks {
			h.Grey, h.Marks = shared, shared[:1]
		}
		if phase == impl.GcSweeps {
			h.Marks = shared
		}
		if !impl.HseOk(h) {
			t.Fatalf("in the Phase %d: not ok", phase)
		}
		askSweepingMemory(t, h)
		askSweeping(t, "shared", h)
	}
}

// No goroutine is left behind, and what is told once is told again, also by many at once.
func TestSweepingIsAnsweredTheSameEachTime(t *testing.T) {
	before := runtime.NumGoroutine()
	all := func(h impl.HseHouse) []any {
		return []any{impl.GcRoots(h), impl.GcStep(h), impl.GcAll(h), impl.GcWaste(h)}
	}
	for h := range sweepings(204, 200) {
		want := all(h)
		done := make(chan bool)
		for range 4 {
			go func() {
				ok := true
				for i, one := range all(h) {
					ok = ok && same(one, want[i])
				}
				done <- ok
			}()
		}
		for range 4 {
			if !<-done {
				t.Fatalf("%#v is answered otherwise", h)
			}
		}
	}
	all(impl.HseHouse{})
	if !quietened(before) {
		t.Fatal("of", before, "goroutines there are now", runtime.NumGoroutine())
	}
}
