package tests

import (
	"math"
	"math/rand/v2"
	"slices"
	"strconv"
	"testing"

	"loop.example/chartulary/impl"
)

// Two leaves with one id, and sheets that name themselves.
const (
	clashOne  = "Lawtz"
	clashTwo  = "Lukhd"
	selfSheet = "Sa/00a2e315"
	selfLeaf  = "Sa=1114ccb0"
	// An id of 1 by the last rule of IdOf, but no object.
	idOneText = "aeachc\xdc"
)

// poolOfTexts is texts by their ids, each once, put together without the pool's own functions.
func poolOfTexts(texts ...string) []impl.PolItem {
	var list []impl.PolItem
	seen := map[string]bool{}
	for _, s := range texts {
		if !seen[s] {
			seen[s] = true
			list = append(list, impl.PolItem{Id: idByHand(s), Text: s})
		}
	}
	slices.SortFunc(list, func(a, b impl.PolItem) int { return a.Id - b.Id })
	return list
}

func leafTexts(n int) []string {
	var all []string
	for i := range n {
		all = append(all, "L"+strconv.Itoa(i))
	}
	return all
}

// linkedTexts is leaves and sheets that name some of those ahead of them, and ids that are not there.
func linkedTexts(r *rand.Rand, n int) []string {
	all := []string{"L", "S"}
	for i := range n {
		if r.IntN(3) == 0 {
			all = append(all, "L"+strconv.Itoa(i))
			continue
		}
		var entries []impl.ObjEntry
		for k := range 1 + r.IntN(4) {
			id := idByHand(all[r.IntN(len(all))])
			if r.IntN(12) == 0 {
				id = 1 + r.IntN(1000)
			}
			entries = append(entries, impl.ObjEntry{Name: string(rune('a' + k)), Sheet: r.IntN(2) == 0, Id: id})
		}
		all = append(all, sheetByHand(entries))
	}
	return all
}

func somePools() [][]impl.PolItem {
	r := rand.New(rand.NewPCG(3, 60))
	all := [][]impl.PolItem{
		nil,
		{},
		poolOfTexts("L"),
		poolOfTexts("S"),
		poolOfTexts("Lx", "Ly", "S"),
		poolOfTexts("Sa=00000001"),
		poolOfTexts(selfSheet, "L"),
		poolOfTexts(selfLeaf, "S"),
		poolOfTexts(clashOne, "Lx"),
		poolOfTexts(leafTexts(699)...),
		poolOfTexts(leafTexts(700)...),
	}
	for range 12 {
		all = append(all, poolOfTexts(linkedTexts(r, r.IntN(40))...))
	}
	return all
}

// noPools is pools that are not ok, each by another fault.
func noPools() [][]impl.PolItem {
	two := poolOfTexts("Lx", "Ly")
	swapped := []impl.PolItem{two[1], two[0]}
	late := poolOfTexts(leafTexts(700)...)
	late[699].Text = "X"
	lateId := poolOfTexts(leafTexts(700)...)
	lateId[699].Id++
	return [][]impl.PolItem{
		poolOfTexts(leafTexts(701)...),
		poolOfTexts(leafTexts(1500)...),
		late,
		lateId,
		swapped,
		{two[0], two[0]},
		{two[0], two[1], two[1]},
		{{}},
		{{Id: idByHand(""), Text: ""}},
		{{Id: idByHand("X"), Text: "X"}},
		{{Id: 1, Text: idOneText}},
		{{Id: idByHand("L1234567"), Text: "L1234567"}},
		{{Id: idByHand("Sa=00000000"), Text: "Sa=00000000"}},
		{{Id: 1, Text: "Lx"}},
		{{Id: idByHand("Lx") + 1, Text: "Lx"}},
		{{Id: -idByHand("Lx"), Text: "Lx"}},
		{{Id: idByHand("Lx") + 1<<32, Text: "Lx"}},
		{{Id: 0, Text: "Lx"}},
		{{Id: math.MinInt, Text: "Lx"}, {Id: math.MaxInt, Text: "Ly"}},
		{{Id: idByHand(clashOne), Text: clashOne}, {Id: idByHand(clashOne), Text: clashTwo}},
	}
}

// manyPuts is texts to put, objects and others.
func manyPuts() []string {
	return slices.Concat(noObjects(), []string{
		"L", "Lx", "Ly", "Lz", "L0", "L123456", "S", "Sa=00000001", "Sa/ffffffff", clashOne, clashTwo, selfSheet, selfLeaf, idOneText,
	})
}

func TestLimitsOfPools(t *testing.T) {
	got := []int{impl.PolMax, impl.PolNew, impl.PolThere, impl.PolClash, impl.PolNone}
	if !slices.Equal(got, []int{700, 1, 2, 3, 4}) {
		t.Fatal(got)
	}
}

func TestPolOk(t *testing.T) {
	for i, pool := range somePools() {
		if !impl.PolOk(pool) {
			t.Errorf("pool %d of %d texts is ok", i, len(pool))
		}
	}
	for i, pool := range noPools() {
		if impl.PolOk(pool) {
			t.Errorf("pool %d of %d texts is not ok", i, len(pool))
		}
	}
}

// P60.
func TestPutTextIsThere(t *testing.T) {
	for _, pool := range somePools() {
		for _, s := range manyPuts() {
			got, id, came := impl.PolPut(pool, s)
			want, wantId, wantCame := putByHand(pool, s)
			if !slices.Equal(got, want) || id != wantId || came != wantCame {
				t.Fatalf("put %q into %d texts: %d texts, %d, %d", s, len(pool), len(got), id, came)
			}
			if came != impl.PolNew && came != impl.PolThere {
				continue
			}
			if back, ok := impl.PolGet(got, id); !ok || back != s || !impl.PolOk(got) {
				t.Fatalf("%q was put, and is read %q, %v", s, back, ok)
			}
			for _, item := range pool {
				if back, ok := impl.PolGet(got, item.Id); !ok || back != item.Text {
					t.Fatalf("%q was put, and %q is read %q, %v", s, item.Text, back, ok)
				}
			}
			again, same, there := impl.PolPut(got, s)
			if !slices.Equal(again, got) || same != id || there != impl.PolThere {
				t.Fatalf("%q put again: %d texts, %d, %d", s, len(again), same, there)
			}
		}
	}
}

// putByHand is what the document says of a pool that is ok.
func putByHand(pool []impl.PolItem, s string) ([]impl.PolItem, int, int) {
	if kindByForm(s) == impl.ObjNone {
		return nil, 0, impl.PolNone
	}
	id := idByHand(s)
	for _, item := range pool {
		if item.Id == id && item.Text == s {
			return pool, id, impl.PolThere
		}
		if item.Id == id {
			return pool, 0, impl.PolClash
		}
	}
	if len(pool) == 700 {
		return pool, 0, impl.PolClash
	}
	texts := []string{s}
	for _, item := range pool {
		texts = append(texts, item.Text)
	}
	return poolOfTexts(texts...), id, impl.PolNew
}

func TestPutOfWhatIsNotOk(t *testing.T) {
	for i, pool := range noPools() {
		for _, s := range []string{"Lx", "S", "", "X"} {
			if got, id, came := impl.PolPut(pool, s); len(got) != 0 || id != 0 || came != impl.PolNone {
				t.Errorf("put %q into the pool %d: %d texts, %d, %d", s, i, len(got), id, came)
			}
		}
	}
}

func TestPutWhereThereIsNoRoom(t *testing.T) {
	full := poolOfTexts(leafTexts(700)...)
	if got, id, came := impl.PolPut(full, "L5"); !slices.Equal(got, full) || id != idByHand("L5") || came != impl.PolThere {
		t.Error("what is there:", len(got), id, came)
	}
	if got, id, came := impl.PolPut(full, "Lnew"); !slices.Equal(got, full) || id != 0 || came != impl.PolClash {
		t.Error("what is not there:", len(got), id, came)
	}
	if got, id, came := impl.PolPut(full[:699], "Lnew"); len(got) != 700 || id != idByHand("Lnew") || came != impl.PolNew || !impl.PolOk(got) {
		t.Error("the last one:", len(got), id, came)
	}
	if got, id, came := impl.PolPut(full, "X"); len(got) != 0 || id != 0 || came != impl.PolNone {
		t.Error("what is no object:", len(got), id, came)
	}
}

func TestPutOfAnotherTextOfAnId(t *testing.T) {
	if idByHand(clashOne) != idByHand(clashTwo) {
		t.Fatal("the two have two ids")
	}
	pool := poolOfTexts("Lx", clashOne)
	if got, id, came := impl.PolPut(pool, clashTwo); !slices.Equal(got, pool) || id != 0 || came != impl.PolClash {
		t.Error(len(got), id, came)
	}
}

// P61.
func TestPutInEitherOrder(t *testing.T) {
	seen := 0
	for _, pool := range somePools() {
		for _, a := range manyPuts() {
			for _, b := range []string{"Lx", "Lnew", "S", clashTwo, "Sb=00000007", "X"} {
				one, ok := putTwo(pool, a, b)
				other, fine := putTwo(pool, b, a)
				if ok && fine {
					seen++
					if !slices.Equal(one, other) {
						t.Fatalf("%q and %q in either order: %d and %d texts", a, b, len(one), len(other))
					}
				}
				if ok != fine {
					t.Fatalf("%q and %q go well in one order alone", a, b)
				}
			}
		}
	}
	if seen < 100 {
		t.Fatal("too few went well:", seen)
	}
}

func putTwo(pool []impl.PolItem, a, b string) ([]impl.PolItem, bool) {
	one, _, came := impl.PolPut(pool, a)
	if came > impl.PolThere {
		return nil, false
	}
	both, _, came := impl.PolPut(one, b)
	return both, came <= impl.PolThere
}

func TestGetOfAnyId(t *testing.T) {
	for _, pool := range somePools() {
		ids := []int{0, 1, -1, 7, impl.IdMax, impl.IdMax + 1, math.MaxInt, math.MinInt}
		for _, item := range pool {
			ids = append(ids, item.Id, item.Id-1, item.Id+1)
		}
		for _, id := range ids {
			want, there := "", false
			for _, item := range pool {
				if item.Id == id {
					want, there = item.Text, true
				}
			}
			if got, ok := impl.PolGet(pool, id); got != want || ok != there {
				t.Fatalf("the text of %d: %q, %v", id, got, ok)
			}
		}
	}
}

func TestGetByHalves(t *testing.T) {
	for _, c := range []struct {
		ids   []int
		id    int
		place int
	}{
		{nil, 0, -1},
		{[]int{0}, 0, 0},
		{[]int{5, 1, 3}, 1, -1},
		{[]int{5, 1, 3}, 5, -1},
		{[]int{5, 1, 3}, 3, 2},
		{[]int{2, 2, 2}, 2, 0},
		{[]int{1, 2, 2, 3}, 2, 1},
		{[]int{9, 2, 9, 2}, 2, -1},
		{[]int{9, 2, 9, 2}, 9, 2},
		{[]int{3, 3, 1, 3, 3}, 3, 3},
		{[]int{3, 1, 3, 3}, 3, 2},
		{[]int{-7, 0, -7}, -7, 0},
		{[]int{math.MaxInt, math.MinInt}, math.MaxInt, -1},
		{[]int{math.MaxInt, math.MinInt}, math.MinInt, -1},
		{[]int{4, 3, 2, 1}, 2, -1},
		{[]int{4, 3, 2, 1}, 1, -1},
		{[]int{4, 3, 2, 1}, 3, -1},
	} {
		var pool []impl.PolItem
		for i, id := range c.ids {
			pool = append(pool, impl.PolItem{Id: id, Text: strconv.Itoa(i)})
		}
		want := ""
		if c.place >= 0 {
			want = strconv.Itoa(c.place)
		}
		if got, ok := impl.PolGet(pool, c.id); got != want || ok != (c.place >= 0) {
			t.Errorf("%d in %v: %q, %v", c.id, c.ids, got, ok)
		}
	}
}

func TestGetByHalvesInAnyPool(t *testing.T) {
	r := rand.New(rand.NewPCG(3, 3))
	for range 5000 {
		pool := make([]impl.PolItem, r.IntN(12))
		for i := range pool {
			pool[i] = impl.PolItem{Id: r.IntN(6) - 1, Text: strconv.Itoa(i)}
		}
		for id := range 6 {
			at := lowByHalves(pool, id-1, 0, len(pool))
			want, there := "", at < len(pool) && pool[at].Id == id-1
			if there {
				want = pool[at].Text
			}
			if got, ok := impl.PolGet(pool, id-1); got != want || ok != there {
				t.Fatalf("%d in %v: %q, %v", id-1, pool, got, ok)
			}
		}
	}
}

func lowByHalves(pool []impl.PolItem, id, low, high int) int {
	if low >= high {
		return low
	}
	mid := (low + high) / 2
	if pool[mid].Id < id {
		return lowByHalves(pool, id, mid+1, high)
	}
	return lowByHalves(pool, id, low, mid)
}

// P62.
func TestOutTakesOneIdOut(t *testing.T) {
	for _, pool := range slices.Concat(somePools(), noPools()) {
		ids := []int{0, 1, -1, impl.IdMax, math.MaxInt, math.MinInt}
		for _, item := range pool[:min(len(pool), 50)] {
			ids = append(ids, item.Id)
		}
		for _, id := range ids {
			var rest []impl.PolItem
			var restIds []int
			size := 0
			for _, item := range pool {
				if item.Id == id {
					size += len(item.Text)
					continue
				}
				rest, restIds = append(rest, item), append(restIds, item.Id)
			}
			got := impl.PolOut(pool, id)
			if !slices.Equal(got, rest) || !slices.Equal(impl.PolIds(got), restIds) {
				t.Fatalf("without %d: %d texts, not %d", id, len(got), len(rest))
			}
			if impl.PolSize(got) != impl.PolSize(pool)-size {
				t.Fatalf("without %d: %d bytes of %d", id, impl.PolSize(got), impl.PolSize(pool))
			}
			if impl.PolOk(pool) && !impl.PolOk(got) {
				t.Fatalf("without %d the pool is not ok", id)
			}
		}
	}
}

func TestIdsAndSizeOfAnyPool(t *testing.T) {
	for _, pool := range slices.Concat(somePools(), noPools()) {
		var ids []int
		size := 0
		for _, item := range pool {
			ids, size = append(ids, item.Id), size+len(item.Text)
		}
		if got := impl.PolIds(pool); !slices.Equal(got, ids) {
			t.Errorf("ids: %v, not %v", got, ids)
		}
		if got := impl.PolSize(pool); got != size {
			t.Errorf("bytes: %d, not %d", got, size)
		}
	}
}

// reachByHand takes one more until there is no more.
func reachByHand(pool []impl.PolItem, ids []int) ([]int, bool) {
	told := slices.Clone(ids)
	for more := true; more; {
		more = false
		for _, item := range pool {
			if !slices.Contains(told, item.Id) {
				continue
			}
			for _, m := range entryForm.FindAllStringSubmatch(item.Text, -1) {
				id, _ := strconv.ParseInt(m[3], 16, 64)
				if item.Text[0] == 'S' && !slices.Contains(told, int(id)) {
					told, more = append(told, int(id)), true
				}
			}
		}
	}
	var found []int
	for _, item := range pool {
		if slices.Contains(told, item.Id) {
			found = append(found, item.Id)
		}
	}
	all := true
	for _, id := range told {
		all = all && slices.Contains(found, id)
	}
	return found, all
}

// P63.
func TestReach(t *testing.T) {
	r := rand.New(rand.NewPCG(3, 63))
	whole, part := 0, 0
	for _, pool := range somePools() {
		lists := [][]int{nil, {}, {0}, {-1}, {1}, {math.MaxInt, math.MinInt}, {impl.IdMax + 1}}
		for range 30 {
			var ids []int
			for range r.IntN(4) {
				if len(pool) > 0 {
					ids = append(ids, pool[r.IntN(len(pool))].Id)
				}
			}
			lists = append(lists, ids, append(slices.Clone(ids), ids...), append(slices.Clone(ids), r.IntN(9)))
		}
		for _, ids := range lists {
			got, all := impl.PolReach(pool, ids)
			want, wantAll := reachByHand(pool, ids)
			if !slices.Equal(got, want) || all != wantAll {
				t.Fatalf("from %v: %v, %v, not %v, %v", ids, got, all, want, wantAll)
			}
			if all {
				whole++
			} else {
				part++
			}
		}
	}
	if whole < 50 || part < 50 {
		t.Fatal("too few were asked:", whole, part)
	}
}

func TestReachByHand(t *testing.T) {
	under := sheetByHand([]impl.ObjEntry{{Name: "a", Id: idByHand("Lx")}, {Name: "b", Id: idByHand("Ly")}})
	root := sheetByHand([]impl.ObjEntry{{Name: "c", Sheet: true, Id: idByHand(under)}})
	pool := poolOfTexts("Lx", "Ly", "Lz", under, root)
	all := poolOfTexts("Lx", "Ly", under, root)
	if got, ok := impl.PolReach(pool, []int{idByHand(root)}); !ok || !slices.Equal(got, impl.PolIds(all)) {
		t.Error("all is there:", got, ok)
	}
	missing := impl.PolOut(pool, idByHand("Ly"))
	if got, ok := impl.PolReach(missing, []int{idByHand(root)}); ok || !slices.Equal(got, impl.PolIds(poolOfTexts("Lx", under, root))) {
		t.Error("a leaf is not there:", got, ok)
	}
	if got, ok := impl.PolReach(missing, []int{idByHand("Lz")}); !ok || !slices.Equal(got, []int{idByHand("Lz")}) {
		t.Error("what is not there is not named:", got, ok)
	}
	cut := impl.PolOut(pool, idByHand(under))
	if got, ok := impl.PolReach(cut, []int{idByHand(root)}); ok || !slices.Equal(got, []int{idByHand(root)}) {
		t.Error("a sheet is not there:", got, ok)
	}
	if got, ok := impl.PolReach(pool, []int{5}); ok || len(got) != 0 {
		t.Error("what is told is not there:", got, ok)
	}
	if got, ok := impl.PolReach(pool, nil); !ok || len(got) != 0 {
		t.Error("nothing is told:", got, ok)
	}
	if got, ok := impl.PolReach(poolOfTexts(selfSheet), []int{idByHand(selfSheet)}); !ok || !slices.Equal(got, []int{idByHand(selfSheet)}) {
		t.Error("a sheet names itself:", got, ok)
	}
}

func TestReachOfWhatIsNotOk(t *testing.T) {
	for i, pool := range noPools() {
		for _, ids := range [][]int{nil, {1}, impl.PolIds(pool)} {
			if got, ok := impl.PolReach(pool, ids); ok || len(got) != 0 {
				t.Errorf("the pool %d: %v, %v", i, got, ok)
			}
		}
	}
	pool := poolOfTexts("Lx")
	many := slices.Repeat([]int{idByHand("Lx")}, 701)
	if got, ok := impl.PolReach(pool, many[:700]); !ok || !slices.Equal(got, many[:1]) {
		t.Error("700 ids:", got, ok)
	}
	if got, ok := impl.PolReach(pool, many); ok || len(got) != 0 {
		t.Error("701 ids:", got, ok)
	}
}

func TestPoolsShareNoMemory(t *testing.T) {
	fill := impl.PolItem{Id: 3, Text: "filled"}
	for _, pool := range slices.Concat(somePools(), noPools()) {
		w, ids := watch(pool, fill), watch(impl.PolIds(pool)[:min(len(pool), 20)], 77)
		some := 0
		if len(pool) > 0 {
			some = pool[len(pool)/2].Id
		}
		impl.PolOk(w.list)
		impl.PolGet(w.list, some)
		impl.PolSize(w.list)
		for _, s := range []string{"Lnew", "Lx", "X", clashTwo} {
			got, _, _ := impl.PolPut(w.list, s)
			scribble(got, impl.PolItem{Id: 9, Text: "over"})
		}
		scribble(impl.PolOut(w.list, some), impl.PolItem{Id: 9, Text: "over"})
		scribble(impl.PolOut(w.list, -5), impl.PolItem{Id: 9, Text: "over"})
		scribble(impl.PolIds(w.list), 9)
		reached, _ := impl.PolReach(w.list, ids.list)
		scribble(reached, 9)
		untouched(t, "a pool", w)
		untouched(t, "ids", ids)
	}
}
