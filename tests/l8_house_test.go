package tests

import (
	"fmt"
	"math"
	"math/rand/v2"
	"reflect"
	"slices"
	"strconv"
	"strings"
	"testing"

	"loop.example/chartulary/impl"
)

// A leaf with the id of the sheet without entries.
const clashEmpty = "L08n5vb"

// same holds two values against each other, empty and nil lists taken for the same.
func same(a, b any) bool {
	return sameParts(reflect.ValueOf(a), reflect.ValueOf(b))
}

func sameParts(a, b reflect.Value) bool {
	switch a.Kind() {
	case reflect.Struct:
		for i := range a.NumField() {
			if !sameParts(a.Field(i), b.Field(i)) {
				return false
			}
		}
		return true
	case reflect.Slice:
		if a.Len() != b.Len() {
			return false
		}
		for i := range a.Len() {
			if !sameParts(a.Index(i), b.Index(i)) {
				return false
			}
		}
		return true
	}
	return a.Equal(b)
}

// keptCopy is laid anew, so that it may be turned.
func keptCopy(h impl.HseHouse) impl.HseHouse {
	return roomy(h)
}

func sortedOnce(ids []int) []int {
	return slices.Compact(slices.Sorted(slices.Values(ids)))
}

func fromBehind[T any](list []T) []T {
	list = slices.Clone(list)
	slices.Reverse(list)
	return list
}

// ascends says whether numbers do so strictly.
func ascends(ids []int) bool {
	return slices.Equal(ids, sortedOnce(ids))
}

func idsOf(texts ...string) []int {
	var ids []int
	for _, s := range texts {
		ids = append(ids, idByHand(s))
	}
	return sortedOnce(ids)
}

// kidsByHand cuts a sheet at its signs; it is for texts that are objects.
func kidsByHand(s string) []int {
	var kids []int
	if strings.HasPrefix(s, "L") {
		return nil
	}
	for at := strings.IndexAny(s, "=/"); at >= 0; at = strings.IndexAny(s, "=/") {
		id, _ := strconv.ParseInt(s[at+1:at+9], 16, 64)
		kids, s = append(kids, int(id)), s[at+9:]
	}
	return kids
}

// linksOf is what each text of a pool names.
func linksOf(pool []impl.PolItem) map[int][]int {
	links := map[int][]int{}
	for _, item := range pool {
		links[item.Id] = kidsByHand(item.Text)
	}
	return links
}

// ledTo is all ids that are told or named, there or not, by ways on which nothing is barred.
func ledTo(links map[int][]int, from []int, barred []int) map[int]bool {
	led := map[int]bool{}
	var visit func(id int)
	visit = func(id int) {
		if led[id] || slices.Contains(barred, id) {
			return
		}
		led[id] = true
		for _, kid := range links[id] {
			visit(kid)
		}
	}
	for _, id := range from {
		visit(id)
	}
	return led
}

// allThere says whether all ids are in the pool.
func allThere(links map[int][]int, ids map[int]bool) bool {
	for id := range ids {
		if _, there := links[id]; !there {
			return false
		}
	}
	return true
}

func setOf(ids []int) map[int]bool {
	set := map[int]bool{}
	for _, id := range ids {
		set[id] = true
	}
	return set
}

func poolByHand(pool []impl.PolItem) bool {
	var ids []int
	for _, item := range pool {
		if kindByForm(item.Text) == impl.ObjNone || idByHand(item.Text) != item.Id {
			return false
		}
		ids = append(ids, item.Id)
	}
	return len(pool) <= 700 && ascends(ids)
}

func rollByHand(roll []impl.HseLine) bool {
	ok := len(roll) <= 120
	for _, line := range roll {
		ok = ok && inRange(line.User, 0, 99) && inRange(line.Repo, 0, 99) && inRange(line.Kind, 1, 11) && inRange(line.Code, 1, 11)
	}
	return ok
}

func ticketByHand(ticket impl.HseTicket, links map[int][]int) bool {
	pinned := ledTo(links, ticket.Pins, nil)
	ok := requestByHand(ticket.Req) && slices.Contains([]int{impl.ReqPut, impl.ReqReset, impl.ReqCopy}, ticket.Req.Kind)
	ok = ok && ascends(ticket.Pins) && allThere(links, pinned) && len(ticket.Wait) <= 700
	for i, s := range ticket.Wait {
		if !ok || kindByForm(s) == impl.ObjNone {
			return false
		}
		for _, kid := range kidsByHand(s) {
			ok = ok && (pinned[kid] || slices.ContainsFunc(ticket.Wait[:i], func(s string) bool { return idByHand(s) == kid }))
		}
	}
	return ok
}

func rootsByHand(h impl.HseHouse) []int {
	var roots []int
	for _, repo := range h.Repos {
		for _, ref := range repo.Refs {
			roots = append(roots, ref.Roots...)
		}
	}
	return roots
}

// stayByHand is roots of refs and Pins, on which hangs what must stay.
func stayByHand(h impl.HseHouse) []int {
	roots := rootsByHand(h)
	for _, ticket := range h.Tickets {
		roots = append(roots, ticket.Pins...)
	}
	return sortedOnce(roots)
}

func sweepByHand(h impl.HseHouse, links map[int][]int) bool {
	ok := inRange(h.Phase, 0, 2) && ascends(h.Marks) && ascends(h.Grey)
	ok = ok && allThere(links, setOf(h.Marks)) && allThere(links, ledTo(links, h.Grey, nil))
	ok = ok && (h.Phase != 0 || len(h.Marks) == 0) && (h.Phase == 1 || len(h.Grey) == 0)
	if !ok || h.Phase == 0 {
		return ok
	}
	must := ledTo(links, stayByHand(h), nil)
	for _, id := range h.Marks {
		for _, kid := range links[id] {
			must[kid] = true
		}
	}
	waits := ledTo(links, h.Grey, h.Marks)
	for id := range must {
		ok = ok && (slices.Contains(h.Marks, id) || waits[id])
	}
	return ok
}

// heldByHand is what a house holds, and whether it is ok.
func heldByHand(h impl.HseHouse) (impl.MdlHouse, bool) {
	m := impl.MdlHouse{Keys: h.Keys, Used: h.Used}
	if !poolByHand(h.Pool) || len(h.Repos) > 3 {
		return impl.MdlHouse{}, false
	}
	for _, repo := range h.Repos {
		held := impl.MdlRepo{Admin: repo.Admin, Rules: repo.Rules}
		for _, ref := range repo.Refs[:min(len(repo.Refs), 4)] {
			one := impl.MdlRef{Name: ref.Name, Guard: ref.Guard, Count: ref.Count}
			for _, root := range ref.Roots[:min(len(ref.Roots), 4)] {
				files, ok := readByHand(h.Pool, nil, root)
				if !ok {
					return impl.MdlHouse{}, false
				}
				one.Versions = append(one.Versions, files)
			}
			held.Refs = append(held.Refs, one)
		}
		m.Repos = append(m.Repos, held)
	}
	links := linksOf(h.Pool)
	ok := houseByHand(m) && rollByHand(h.Roll)
	var users []int
	for _, ticket := range h.Tickets {
		users = append(users, ticket.Req.User)
		ok = ok && ticketByHand(ticket, links)
	}
	ok = ok && ascends(users) && (len(users) == 0 || users[0] >= 1 && users[len(users)-1] <= len(h.Keys))
	safe := ledTo(links, rootsByHand(h), nil)
	ok = ok && ascends(h.Loose) && allThere(links, setOf(h.Loose)) && !slices.ContainsFunc(h.Loose, func(id int) bool { return safe[id] })
	if !ok || !sweepByHand(h, links) {
		return impl.MdlHouse{}, false
	}
	return houseCopy(m), true
}

func keptByHand(h impl.HseHouse) bool {
	_, ok := heldByHand(h)
	return ok
}

// keptOf is a house as it is kept that holds a model, with these texts in its pool, too.
func keptOf(m impl.MdlHouse, more ...string) impl.HseHouse {
	h := impl.HseHouse{Keys: slices.Clone(m.Keys), Used: slices.Clone(m.Used)}
	texts := slices.Clone(more)
	for _, repo := range m.Repos {
		kept := impl.HseRepo{Admin: repo.Admin, Rules: slices.Clone(repo.Rules)}
		for _, ref := range repo.Refs {
			one := impl.HseRef{Name: ref.Name, Guard: ref.Guard, Count: ref.Count}
			for _, files := range ref.Versions {
				texts = append(texts, layByHand(files)...)
				one.Roots = append(one.Roots, idByHand(texts[len(texts)-1]))
			}
			kept.Refs = append(kept.Refs, one)
		}
		h.Repos = append(h.Repos, kept)
	}
	h.Pool = poolOfTexts(texts...)
	return h
}

// ticketOf is a request under way that has put the first ones of its texts.
func ticketOf(q impl.ReqReq, texts []string, put int) impl.HseTicket {
	return impl.HseTicket{Req: q, Wait: slices.Clone(texts[put:]), Pins: idsOf(texts[:put]...)}
}

// markOn goes on with the marking by so many steps, as the chapter on the sweeping says.
func markOn(h *impl.HseHouse, steps int) {
	links := linksOf(h.Pool)
	for range steps {
		if len(h.Grey) == 0 {
			return
		}
		id := h.Grey[0]
		h.Grey = h.Grey[1:]
		if slices.Contains(h.Marks, id) {
			continue
		}
		h.Marks = sortedOnce(append(h.Marks, id))
		for _, kid := range links[id] {
			if !slices.Contains(h.Marks, kid) {
				h.Grey = sortedOnce(append(slices.Clone(h.Grey), kid))
			}
		}
	}
}

// inPhase brings the sweeping of a house that is idle so far; in GcMarks by so many steps.
func inPhase(h impl.HseHouse, phase int, steps int) impl.HseHouse {
	h = keptCopy(h)
	h.Phase = phase
	if phase == impl.GcIdle {
		return h
	}
	h.Grey = stayByHand(h)
	if phase == impl.GcSweeps {
		steps = math.MaxInt
	}
	markOn(&h, steps)
	return h
}

var phases = []int{impl.GcIdle, impl.GcMarks, impl.GcSweeps}

func linesOf(n int) []impl.HseLine {
	var roll []impl.HseLine
	for i := range n {
		roll = append(roll, impl.HseLine{User: i % 100, Repo: 99 - i%100, Kind: 1 + i%11, Code: 11 - i%11})
	}
	return roll
}

// Texts that no ref of fullKept leads to.
var (
	wasteLeaf  = "Lwaste"
	wasteSheet = sheetOf(false, wasteLeaf)
	wasteTop   = sheetOf(false, wasteSheet)
	openSheet  = sheetOf(false, "Lgone")
	pinnedTree = []impl.TreFile{{Path: "p", Bytes: "p"}, {Path: "q/p", Bytes: "p"}, {Path: "q/q", Bytes: "q"}, {Path: "x", Bytes: "x"}}
)

// fullKept is ok, stands at many bounds, and is idle: users 1, 2 and 4 have requests under way.
func fullKept() impl.HseHouse {
	texts := layByHand(pinnedTree)
	h := keptOf(fullHouse(), append(slices.Clone(texts), wasteLeaf, wasteSheet, wasteTop, openSheet, selfSheet, clashOne)...)
	h.Tickets = []impl.HseTicket{
		ticketOf(impl.ReqReq{User: 1, Kind: impl.ReqPut, Edits: editsOf(4)}, texts, 0),
		ticketOf(impl.ReqReq{User: 2, Key: 9999, Repo: 99, Kind: impl.ReqCopy, Ref: "q", From: 99}, texts, 4),
		ticketOf(impl.ReqReq{User: 4, Kind: impl.ReqReset, Back: 99}, texts, len(texts)),
	}
	h.Loose = idsOf("Lp", texts[len(texts)-1], wasteSheet)
	h.Roll = linesOf(120)
	return h
}

// A turning of a kept house that is ok, and whether it is ok behind it.
type keptTurn struct {
	what  string
	phase int
	ok    bool
	turn  func(h *impl.HseHouse)
}

func rootTurns() []keptTurn {
	var all []keptTurn
	add := func(what string, ok bool, turn func(*impl.HseHouse)) { all = append(all, keptTurn{what, 0, ok, turn}) }
	empty := idByHand("S")
	for _, n := range []int{0, 1, 2, 3, 4, 5, 100000} {
		add(fmt.Sprint(n, " roots"), inRange(n, 1, 3), func(h *impl.HseHouse) { h.Repos[2].Refs[0].Roots = slices.Repeat([]int{empty}, n) })
		add(fmt.Sprint(n, " roots of many files"), inRange(n, 1, 3), func(h *impl.HseHouse) {
			h.Repos[2].Refs[0].Roots = slices.Repeat(h.Repos[0].Refs[0].Roots[1:2], n)
		})
	}
	deep := sheetOf(false, sheetOf(false, wasteTop))
	for _, text := range []string{wasteLeaf, "L", clashOne, openSheet, selfSheet, "Lgone", deep, sheetOf(false, "S"), sheetOf(true, wasteLeaf), sheetOf(true, wasteSheet)} {
		for at := range 3 {
			add(fmt.Sprintf("a root of %q at %d", text, at), false, func(h *impl.HseHouse) {
				h.Loose = nil
				if text != "Lgone" {
					h.Pool, _, _ = putByHand(h.Pool, text)
				}
				h.Repos[0].Refs[0].Roots[at] = idByHand(text)
			})
		}
	}
	for _, id := range []int{0, 1, -1, 5, impl.IdMax, impl.IdMax + 1, -empty, empty + 1<<32, math.MaxInt, math.MinInt} {
		add(fmt.Sprint("the root ", id), false, func(h *impl.HseHouse) { h.Repos[2].Refs[0].Roots[0] = id })
	}
	for _, text := range []string{wasteSheet, wasteTop, "S"} {
		add(fmt.Sprintf("a root of %q", text), true, func(h *impl.HseHouse) {
			h.Loose = nil
			h.Repos[2].Refs[0].Roots[0] = idByHand(text)
		})
	}
	return all
}

// heldTurns is the turnings of what a house holds, as far as that can be kept.
func heldTurns() []keptTurn {
	var all []keptTurn
	for _, c := range houseTurns() {
		m := houseCopy(fullHouse())
		c.turn(&m)
		trees := true
		for _, repo := range m.Repos {
			for _, ref := range repo.Refs {
				trees = trees && !slices.ContainsFunc(ref.Versions, func(files []impl.TreFile) bool { return !treeByHand(files) })
			}
		}
		if trees && len(m.Repos) < 9 {
			all = append(all, keptTurn{c.what, 0, c.ok, func(h *impl.HseHouse) { *h = keptOf(m) }})
		}
	}
	for _, n := range []int{4, 5, 100000} {
		all = append(all, keptTurn{fmt.Sprint(n, " refs"), 0, false, func(h *impl.HseHouse) {
			h.Repos[2].Refs = slices.Repeat(h.Repos[2].Refs, n)
		}}, keptTurn{fmt.Sprint(n, " repos"), 0, false, func(h *impl.HseHouse) {
			h.Repos = slices.Repeat(h.Repos[:1], n)
		}})
	}
	for i, pool := range noPools() {
		all = append(all, keptTurn{fmt.Sprint("no pool, ", i), 0, false, func(h *impl.HseHouse) {
			*h = impl.HseNew([]int{1}, []int{1})
			h.Pool = pool
		}})
	}
	for i, pool := range somePools() {
		all = append(all, keptTurn{fmt.Sprint("the pool ", i), 0, true, func(h *impl.HseHouse) {
			*h = impl.HseNew([]int{1}, []int{1})
			h.Pool = pool
		}})
	}
	return all
}

func rollTurns() []keptTurn {
	var all []keptTurn
	add := func(what string, ok bool, turn func(*impl.HseHouse)) { all = append(all, keptTurn{what, 0, ok, turn}) }
	for _, n := range []int{0, 1, 119, 120, 121, 122, 100000} {
		add(fmt.Sprint(n, " lines"), n <= 120, func(h *impl.HseHouse) { h.Roll = linesOf(n) })
	}
	for _, n := range []int{-1, 0, 1, 10, 11, 12, 99, 100, -99, 101, 1 << 32, 1<<32 + 1, math.MaxInt, math.MinInt} {
		for _, at := range []int{0, 60, 119} {
			add(fmt.Sprint("the User ", n, " at ", at), inRange(n, 0, 99), func(h *impl.HseHouse) { h.Roll[at].User = n })
			add(fmt.Sprint("the Repo ", n, " at ", at), inRange(n, 0, 99), func(h *impl.HseHouse) { h.Roll[at].Repo = n })
			add(fmt.Sprint("the Kind ", n, " at ", at), inRange(n, 1, 11), func(h *impl.HseHouse) { h.Roll[at].Kind = n })
			add(fmt.Sprint("the Code ", n, " at ", at), inRange(n, 1, 11), func(h *impl.HseHouse) { h.Roll[at].Code = n })
		}
	}
	return all
}

func ticketTurns() []keptTurn {
	var all []keptTurn
	add := func(what string, ok bool, turn func(*impl.HseHouse)) { all = append(all, keptTurn{what, 0, ok, turn}) }
	for _, users := range [][3]int{{1, 2, 3}, {1, 2, 4}, {2, 3, 4}, {1, 3, 4}, {2, 1, 3}, {1, 3, 2}, {3, 2, 1}, {1, 1, 2}, {1, 2, 2}, {0, 1, 2}, {-1, 1, 2}, {1, 2, 5}, {1, 2, 99}, {1, 2, math.MaxInt}, {math.MinInt, 1, 2}} {
		ok := ascends(users[:]) && users[0] >= 1 && users[2] <= 4
		add(fmt.Sprint("the users ", users), ok, func(h *impl.HseHouse) {
			for i, user := range users {
				h.Tickets[i].Req.User = user
			}
		})
	}
	add("no tickets", true, func(h *impl.HseHouse) { h.Tickets = nil })
	add("a user of four, where there are two", false, func(h *impl.HseHouse) {
		*h = impl.HseHouse{Keys: h.Keys[:2], Used: h.Used[:2], Repos: []impl.HseRepo{{Admin: 1}}, Tickets: []impl.HseTicket{{Req: impl.ReqReq{User: 3, Kind: impl.ReqPut}}}}
	})
	add("very many tickets", false, func(h *impl.HseHouse) { h.Tickets = slices.Repeat(h.Tickets, 30000) })
	for kind := -1; kind <= 12; kind++ {
		for at := range 3 {
			add(fmt.Sprint("the kind ", kind, " at ", at), slices.Contains([]int{1, 9, 10}, kind), func(h *impl.HseHouse) { h.Tickets[at].Req.Kind = kind })
		}
	}
	for what, turn := range map[string]func(*impl.ReqReq){
		"Key":   func(q *impl.ReqReq) { q.Key = 10000 },
		"Repo":  func(q *impl.ReqReq) { q.Repo = 100 },
		"Ref":   func(q *impl.ReqReq) { q.Ref = "abcd" },
		"Path":  func(q *impl.ReqReq) { q.Path = "/" },
		"Old":   func(q *impl.ReqReq) { q.Old = -1 },
		"Back":  func(q *impl.ReqReq) { q.Back = 100 },
		"Edits": func(q *impl.ReqReq) { q.Edits = editsOf(5) },
		"Edit":  func(q *impl.ReqReq) { q.Edits = []impl.TreEdit{{Path: "a", Gone: true, Bytes: "x"}} },
		"Rule":  func(q *impl.ReqReq) { q.Rule.User = 5 },
		"From":  func(q *impl.ReqReq) { q.From = -1 },
		"Other": func(q *impl.ReqReq) { q.Other = "\xff" },
	} {
		for at := range 3 {
			add(fmt.Sprint("a request with a bad ", what, " at ", at), false, func(h *impl.HseHouse) { turn(&h.Tickets[at].Req) })
		}
	}
	return all
}

func waitTurns() []keptTurn {
	var all []keptTurn
	add := func(what string, ok bool, at int, texts ...string) {
		all = append(all, keptTurn{what, 0, ok, func(h *impl.HseHouse) { h.Tickets[at].Wait = texts }})
	}
	for _, n := range []int{0, 1, 699, 700, 701, 702, 100000} {
		add(fmt.Sprint(n, " texts to put"), n <= 700, 1, leafTexts(n)...)
		add(fmt.Sprint(n, " times one text"), n <= 700, 1, slices.Repeat([]string{"S"}, n)...)
	}
	for _, s := range noObjects() {
		add(fmt.Sprintf("%q to put", s), false, 1, "Lx", s)
		add(fmt.Sprintf("%q to put first", s), false, 0, s, "Lx")
	}
	texts := layByHand(pinnedTree)
	add("all of a tree", true, 0, texts...)
	add("all of a tree but a leaf that stands in it twice", true, 0, texts[1:]...)
	add("all of a tree but a leaf", false, 0, slices.Concat(texts[:2], texts[3:])...)
	add("all of a tree but a sheet", false, 0, slices.Concat(texts[:3], texts[4:])...)
	add("a tree from behind", false, 0, fromBehind(texts)...)
	add("what is named stands behind it", false, 0, wasteSheet, wasteLeaf)
	add("what is named stands behind it, and ahead", true, 0, wasteLeaf, wasteSheet, wasteLeaf)
	add("what is named is in the pool alone", false, 0, wasteSheet)
	add("what is named is in the pool, two deep", false, 0, wasteTop)
	add("what is named is what roots of refs lead to", false, 0, sheetOf(false, "S"))
	add("what is named is nowhere", false, 0, openSheet)
	add("a sheet names itself", false, 0, selfSheet)
	add("a sheet names itself, twice", false, 0, selfSheet, selfSheet)
	add("what another one's Pins are", false, 0, sheetOf(false, "Lp"))
	add("what its own Pins are", true, 1, sheetOf(false, "Lp"), sheetOf(true, "Lp"))
	add("what its own Pins lead to", true, 2, sheetOf(false, "Lp", "Lq", "Lx"), sheetOf(false, texts[len(texts)-1]))
	add("one that its Pins do not lead to, at the end", false, 2, sheetOf(false, "Lp", "Lq", "Lx"), sheetOf(false, "Lp", wasteLeaf))
	add("another text of the id that is named", true, 0, clashOne, sheetOf(false, clashTwo))
	return append(all, pinTurns()...)
}

func pinTurns() []keptTurn {
	var all []keptTurn
	add := func(what string, ok bool, pins ...int) {
		all = append(all, keptTurn{what, 0, ok, func(h *impl.HseHouse) { h.Tickets[0].Wait, h.Tickets[0].Pins = nil, pins }})
	}
	add("no Pins", true)
	add("Pins that are all there", true, idsOf(wasteLeaf, wasteTop, "S", "Lx")...)
	add("Pins that fall", false, fromBehind(idsOf(wasteLeaf, "S"))...)
	add("a Pin twice", false, idByHand("S"), idByHand("S"))
	add("a Pin that is not there", false, idByHand("Lgone"))
	add("Pins, one of them not there", false, idsOf("S", "Lgone", wasteLeaf)...)
	add("a Pin that names what is not there", false, idByHand(openSheet))
	add("a Pin that names itself", true, idByHand(selfSheet))
	for _, id := range []int{0, -1, impl.IdMax, impl.IdMax + 1, math.MaxInt, math.MinInt} {
		add(fmt.Sprint("the Pin ", id), false, id)
	}
	add("very many Pins", false, slices.Repeat(idsOf("S"), 100000)...)
	deep := []keptTurn{{"a Pin that leads to what is not there", 0, false, func(h *impl.HseHouse) {
		h.Pool, _, _ = putByHand(h.Pool, sheetOf(false, openSheet))
		h.Tickets[0].Wait, h.Tickets[0].Pins = nil, idsOf(sheetOf(false, openSheet))
	}}, {"what a Pin leads to is gone", 0, false, func(h *impl.HseHouse) {
		h.Pool, h.Loose = impl.PolOut(h.Pool, idByHand("Lp")), nil
	}}}
	return append(all, deep...)
}

func looseTurns() []keptTurn {
	var all []keptTurn
	add := func(what string, ok bool, loose ...int) {
		all = append(all, keptTurn{what, 0, ok, func(h *impl.HseHouse) { h.Loose = loose }})
	}
	tree := layByHand(pinnedTree)
	add("nothing Loose", true)
	add("Loose what Pins are, and waste", true, idsOf("Lp", "Lq", tree[len(tree)-1], wasteLeaf, wasteTop, openSheet, selfSheet)...)
	add("Loose that falls", false, fromBehind(idsOf("Lp", wasteLeaf))...)
	add("Loose twice", false, idByHand("Lp"), idByHand("Lp"))
	add("Loose that is not there", false, idByHand("Lgone"))
	add("Loose, one of it not there", false, idsOf("Lp", "Lq", "Lgone")...)
	add("a root that is Loose", false, idByHand("S"))
	add("a leaf of a root that is Loose", false, idByHand("Lx"))
	add("a leaf of a root, and of Pins", false, idsOf("Lp", "Lx", wasteLeaf)...)
	files := fullHouse().Repos[0].Refs[0].Versions[1]
	for i, text := range layByHand(files) {
		if i%20 < 2 || text[0] == 'S' {
			add(fmt.Sprintf("%q of a root that is Loose", text), false, idByHand(text))
		}
	}
	for _, id := range []int{0, -1, impl.IdMax, impl.IdMax + 1, math.MaxInt, math.MinInt} {
		add(fmt.Sprint("the Loose ", id), false, id)
	}
	add("very much Loose", false, slices.Repeat(idsOf("Lp"), 100000)...)
	return all
}

// sweepTurns is of a house with one ref, its tree two deep, so that each text has its place in the sweeping.
func sweepTurns() []keptTurn {
	var all []keptTurn
	low := sheetOf(false, "Lx", "Ly")
	top := sheetOf(false, low, "Lz")
	add := func(what string, phase int, ok bool, marks, grey []string) {
		all = append(all, keptTurn{what, phase, ok, func(h *impl.HseHouse) {
			*h = impl.HseNew([]int{1}, []int{1})
			h.Pool = poolOfTexts("Lx", "Ly", "Lz", low, top, wasteLeaf, wasteSheet, wasteTop, openSheet, selfSheet, "Lp")
			h.Repos[0].Refs = []impl.HseRef{{Name: "a", Roots: idsOf(top)}}
			h.Tickets = []impl.HseTicket{{Req: impl.ReqReq{User: 1, Kind: impl.ReqPut}, Pins: idsOf("Lp")}}
			h.Phase, h.Marks, h.Grey = phase, idsOf(marks...), idsOf(grey...)
		}})
	}
	tree := []string{"Lx", "Ly", "Lz", low, top, "Lp"}
	with := func(more ...string) []string { return slices.Concat(tree, more) }
	add("idle", 0, true, nil, nil)
	add("idle, with marks", 0, false, tree, nil)
	add("idle, with one mark", 0, false, []string{wasteLeaf}, nil)
	add("idle, with grey", 0, false, nil, []string{top, "Lp"})
	add("marking begins", 1, true, nil, []string{top, "Lp"})
	add("the root does not wait", 1, false, nil, []string{"Lp"})
	add("the Pin does not wait", 1, false, nil, []string{top})
	add("nothing waits", 1, false, nil, nil)
	add("the Pin is marked", 1, true, []string{"Lp"}, []string{top})
	add("the root is marked, what it names is grey", 1, true, []string{"Lp", top}, []string{low, "Lz"})
	add("one that the root names is neither", 1, false, []string{"Lp", top}, []string{low})
	add("another one that the root names is neither", 1, false, []string{"Lp", top}, []string{"Lx", "Ly", "Lz"})
	add("one that it names is marked", 1, true, []string{"Lp", top, "Lz"}, []string{low})
	add("a leaf is left out", 1, false, []string{"Lp", top, "Lz", low}, []string{"Lx"})
	add("the last ones are grey", 1, true, []string{"Lp", top, "Lz", low}, []string{"Lx", "Ly"})
	add("all is marked", 1, true, tree, nil)
	add("all is marked, and grey", 1, true, tree, tree)
	add("the root is marked and grey, and nothing else", 1, false, []string{"Lp", top}, []string{top})
	add("a marked one stands between", 1, false, []string{"Lp", low}, []string{top})
	add("a marked one stands between, what it names is marked", 1, true, []string{"Lp", low, "Lx", "Ly"}, []string{top})
	add("a marked one stands between, what it names is grey", 1, true, []string{"Lp", low}, []string{top, "Lx", "Ly"})
	add("what is grey and marked does not lead on", 1, false, []string{"Lp", "Lx", top, low}, []string{top, low, "Lz"})
	add("a leaf is marked early", 1, true, []string{"Lx"}, []string{top, "Lp"})
	add("waste is grey", 1, true, tree, []string{wasteTop})
	add("waste is marked", 1, true, with(wasteTop, wasteSheet, wasteLeaf), nil)
	add("waste is marked, what it names is grey", 1, true, with(wasteTop), []string{wasteSheet})
	add("waste is marked, what it names is not", 1, false, with(wasteTop), nil)
	add("waste is marked, what it names is not, two deep", 1, false, with(wasteTop, wasteSheet), nil)
	add("waste leads to what must stay", 1, false, []string{"Lp"}, []string{low, "Lz"})
	add("grey that names what is not there", 1, false, tree, []string{openSheet})
	add("a mark that names what is not there", 1, false, with(openSheet), nil)
	add("one that names itself is grey", 1, true, tree, []string{selfSheet})
	add("one that names itself is marked", 1, true, with(selfSheet), nil)
	add("grey that is not there", 1, false, tree, []string{"Lgone"})
	add("a mark that is not there", 1, false, with("Lgone"), nil)
	add("sweeping", 2, true, tree, nil)
	add("sweeping, waste is marked", 2, true, with(wasteTop, wasteSheet, wasteLeaf, selfSheet), nil)
	add("sweeping, with grey", 2, false, tree, []string{"Lx"})
	add("sweeping, with grey that is not marked", 2, false, []string{"Lp", top, low, "Lx", "Lz"}, []string{"Ly"})
	add("sweeping, waste is marked, what it names is not", 2, false, with(wasteTop, wasteSheet), nil)
	add("sweeping, a mark names what is not there", 2, false, with(openSheet), nil)
	add("sweeping, a mark that is not there", 2, false, with("Lgone"), nil)
	add("sweeping, nothing is marked", 2, false, nil, nil)
	for i := range tree {
		add(fmt.Sprint("sweeping, all but ", i, " is marked"), 2, false, slices.Delete(slices.Clone(tree), i, i+1), nil)
		add(fmt.Sprint("marking, all but ", i, " is marked"), 1, false, slices.Delete(slices.Clone(tree), i, i+1), nil)
		add(fmt.Sprint("marking, all but ", i, " is marked, that is grey"), 1, true, slices.Delete(slices.Clone(tree), i, i+1), tree[i:i+1])
	}
	for _, phase := range []int{-1, 3, 4, -2, 255, 256, 1 << 32, 1<<32 + 1, math.MaxInt, math.MinInt} {
		add(fmt.Sprint("the Phase ", phase), phase, false, tree, nil)
		add(fmt.Sprint("the Phase ", phase, " with nothing"), phase, false, nil, nil)
		add(fmt.Sprint("the Phase ", phase, " with grey"), phase, false, nil, []string{top, "Lp"})
	}
	return append(all, orderTurns()...)
}

// orderTurns is of Marks and Grey that do not rise, or have any numbers.
func orderTurns() []keptTurn {
	var all []keptTurn
	for _, phase := range []int{impl.GcMarks, impl.GcSweeps} {
		add := func(what string, turn func(*impl.HseHouse)) {
			all = append(all, keptTurn{fmt.Sprint(what, " in the Phase ", phase), phase, false, func(h *impl.HseHouse) {
				*h = inPhase(*h, phase, 10)
				turn(h)
			}})
		}
		add("Marks that fall", func(h *impl.HseHouse) { slices.Reverse(h.Marks) })
		add("two Marks turned round", func(h *impl.HseHouse) { h.Marks[0], h.Marks[1] = h.Marks[1], h.Marks[0] })
		add("a Mark twice", func(h *impl.HseHouse) { h.Marks = slices.Insert(h.Marks, 0, h.Marks[0]) })
		add("Grey that falls", func(h *impl.HseHouse) { h.Grey = fromBehind(idsOf(wasteLeaf, wasteSheet)) })
		add("a Grey one twice", func(h *impl.HseHouse) { h.Grey = slices.Repeat(idsOf(wasteLeaf), 2) })
		add("very many Marks", func(h *impl.HseHouse) { h.Marks = slices.Repeat(h.Marks, 10000) })
		add("very many Grey ones", func(h *impl.HseHouse) { h.Grey = slices.Repeat(idsOf(wasteLeaf), 100000) })
		for _, id := range []int{0, -1, 1, impl.IdMax, impl.IdMax + 1, math.MaxInt, math.MinInt} {
			add(fmt.Sprint("the Mark ", id), func(h *impl.HseHouse) { h.Marks = sortedOnce(append(h.Marks, id)) })
			add(fmt.Sprint("the Grey one ", id), func(h *impl.HseHouse) { h.Grey = sortedOnce(append(h.Grey, id)) })
		}
	}
	return all
}

func keptTurns() []keptTurn {
	return slices.Concat(rootTurns(), heldTurns(), rollTurns(), ticketTurns(), waitTurns(), looseTurns(), sweepTurns())
}

// noKept is kept houses that are not ok, each by another fault.
func noKept() []impl.HseHouse {
	all := []impl.HseHouse{{}}
	for _, c := range keptTurns() {
		if h := fullKept(); !c.ok {
			c.turn(&h)
			all = append(all, h)
		}
	}
	return all
}

func TestLimitsOfKeptHouses(t *testing.T) {
	got := []int{impl.HseMaxRoll, impl.HseAsks, impl.GcIdle, impl.GcMarks, impl.GcSweeps}
	if !slices.Equal(got, []int{120, 0, 0, 1, 2}) {
		t.Fatal(got)
	}
}

func TestHseOk(t *testing.T) {
	for _, phase := range phases {
		for _, steps := range []int{0, 1, 5, 30, 100, 500} {
			if h := inPhase(fullKept(), phase, steps); !keptByHand(h) || !impl.HseOk(h) {
				t.Fatalf("a house that is ok, in the Phase %d behind %d steps", phase, steps)
			}
		}
	}
	if impl.HseOk(impl.HseHouse{}) {
		t.Fatal("nothing is no house")
	}
	for _, c := range keptTurns() {
		h := fullKept()
		c.turn(&h)
		if keptByHand(h) != c.ok {
			t.Fatalf("%s: what is asked for is wrong", c.what)
		}
		if impl.HseOk(h) != c.ok {
			t.Errorf("%s: %v", c.what, !c.ok)
		}
	}
}

// What hangs on no Phase makes no house ok or not by it.
func TestHseOkInEachPhase(t *testing.T) {
	t.Parallel()
	for _, c := range slices.Concat(rollTurns(), ticketTurns(), looseTurns()) {
		for _, phase := range phases {
			h := inPhase(fullKept(), phase, 7)
			was := h
			c.turn(&h)
			if len(h.Pool) != len(was.Pool) {
				continue
			}
			if keptByHand(h) != c.ok || impl.HseOk(h) != c.ok {
				t.Errorf("%s in the Phase %d: %v", c.what, phase, !c.ok)
			}
		}
	}
}

// anyKept is ok, in any Phase, with requests under way, waste, and what is Loose.
func anyKept(r *rand.Rand) impl.HseHouse {
	m := anyHouse(r)
	var more []string
	for range r.IntN(3) {
		for _, s := range layByHand(anyTree(r, 4)) {
			if r.IntN(4) > 0 {
				more = append(more, s)
			}
		}
	}
	for _, s := range []string{clashOne, clashEmpty, selfSheet, openSheet, "S"} {
		if r.IntN(4) == 0 {
			more = append(more, s)
		}
	}
	tickets := anyTickets(r, m, &more)
	if r.IntN(40) == 0 {
		more = append(more, leafTexts(700)...)
	}
	if h := keptOf(m, more...); clash(textsIn(h)) {
		return anyKept(r)
	}
	h := keptOf(m, more...)
	if spare := len(h.Pool) - 700 + r.IntN(2); len(h.Pool) > 600 && spare > 0 {
		h = keptOf(m, more[:len(more)-spare]...)
	}
	h.Tickets = tickets
	safe := ledTo(linksOf(h.Pool), rootsByHand(h), nil)
	for _, item := range h.Pool {
		if !safe[item.Id] && r.IntN(3) > 0 {
			h.Loose = append(h.Loose, item.Id)
		}
	}
	h.Roll = linesOf(oneOf(r, []int{0, 0, 1, 5, 119, 120}))
	return anySweep(r, h)
}

func textsIn(h impl.HseHouse) []string {
	var texts []string
	for _, item := range h.Pool {
		texts = append(texts, item.Text)
	}
	return texts
}

// anyTickets is requests under way, mostly such as would be done; what they have put is told, too.
func anyTickets(r *rand.Rand, m impl.MdlHouse, pool *[]string) []impl.HseTicket {
	var tickets []impl.HseTicket
	for i, key := range m.Keys {
		if r.IntN(2) == 0 {
			continue
		}
		q := requestTo(r, m, impl.ReqPut, impl.ReqPut, impl.ReqReset, impl.ReqCopy)
		q.User, q.Key = i+1, key
		files := anyTree(r, 5)
		if then, a := doByHand(m, q); a.Code == impl.AnsDone {
			files = latestOf(then.Repos[q.Repo].Refs[refAt(then.Repos[q.Repo], q.Ref)])
		}
		texts := layByHand(files)
		put := r.IntN(len(texts) + 1)
		*pool = append(*pool, texts[:put]...)
		tickets = append(tickets, ticketOf(q, texts, put))
	}
	return tickets
}

// anySweep brings the sweeping so far as it can come to be.
func anySweep(r *rand.Rand, h impl.HseHouse) impl.HseHouse {
	h.Phase = r.IntN(3)
	if h.Phase == impl.GcIdle {
		return h
	}
	links := linksOf(h.Pool)
	h.Grey = stayByHand(h)
	// What was a root when the sweeping began may be none any more.
	for _, item := range h.Pool {
		if r.IntN(8) == 0 && allThere(links, ledTo(links, []int{item.Id}, nil)) {
			h.Grey = sortedOnce(append(h.Grey, item.Id))
		}
	}
	if h.Phase == impl.GcMarks {
		markOn(&h, r.IntN(2*len(h.Pool)+2))
		return h
	}
	markOn(&h, math.MaxInt)
	for range r.IntN(4) {
		at := slices.IndexFunc(h.Pool, func(item impl.PolItem) bool { return !slices.Contains(h.Marks, item.Id) })
		if at >= 0 {
			h.Loose = slices.DeleteFunc(slices.Clone(h.Loose), func(id int) bool { return id == h.Pool[at].Id })
			h.Pool = slices.Delete(slices.Clone(h.Pool), at, at+1)
		}
	}
	return h
}

// anyFault turns something of a house, so that it is often not ok any more.
func anyFault(r *rand.Rand, h *impl.HseHouse) {
	var ids []int
	for _, item := range h.Pool {
		ids = append(ids, item.Id)
	}
	if len(ids) == 0 {
		ids = []int{7}
	}
	turnIds := func(list *[]int) {
		switch n := len(*list); {
		case n == 0 || r.IntN(3) == 0:
			*list = sortedOnce(append(*list, oneOf(r, ids)))
		case r.IntN(2) == 0:
			at := r.IntN(n)
			*list = slices.Delete(*list, at, at+1)
		case r.IntN(2) == 0:
			(*list)[r.IntN(n)] = oneOf(r, ids)
		default:
			*list = append(*list, r.IntN(9))
		}
	}
	switch r.IntN(11) {
	case 0:
		if len(h.Pool) > 0 {
			h.Pool = impl.PolOut(h.Pool, oneOf(r, ids))
		}
	case 1, 2:
		turnIds(&h.Marks)
	case 3, 4:
		turnIds(&h.Grey)
	case 5:
		turnIds(&h.Loose)
	case 6:
		h.Phase = r.IntN(5) - 1
	case 7:
		if refs := h.Repos[r.IntN(len(h.Repos))].Refs; len(refs) > 0 {
			turnIds(&refs[r.IntN(len(refs))].Roots)
		}
	case 8:
		h.Pool = slices.Clone(h.Pool)
		if len(h.Pool) > 0 {
			at := r.IntN(len(h.Pool))
			h.Pool[at].Text = turned(r, h.Pool[at].Text)
			h.Pool[at].Id = idByHand(h.Pool[at].Text)
			slices.SortFunc(h.Pool, func(a, b impl.PolItem) int { return a.Id - b.Id })
		}
	default:
		if len(h.Tickets) > 0 {
			ticketFault(r, &h.Tickets[r.IntN(len(h.Tickets))], turnIds)
		}
	}
}

func ticketFault(r *rand.Rand, ticket *impl.HseTicket, turnIds func(*[]int)) {
	n := len(ticket.Wait)
	switch {
	case n == 0 || r.IntN(3) == 0:
		turnIds(&ticket.Pins)
	case r.IntN(3) == 0:
		at := r.IntN(n)
		ticket.Wait = slices.Delete(ticket.Wait, at, at+1)
	case r.IntN(3) == 0:
		a, b := r.IntN(n), r.IntN(n)
		ticket.Wait[a], ticket.Wait[b] = ticket.Wait[b], ticket.Wait[a]
	case r.IntN(3) == 0:
		at := r.IntN(n)
		ticket.Wait[at] = turned(r, ticket.Wait[at])
	case r.IntN(3) == 0:
		ticket.Req.User = r.IntN(6)
	default:
		ticket.Req = anyRequest(r)
	}
}

func TestHseOkOfAnyHouse(t *testing.T) {
	t.Parallel()
	r := rand.New(rand.NewPCG(8, 1))
	seen := map[bool]int{}
	for range 1500 {
		h := anyKept(r)
		if !keptByHand(h) || !impl.HseOk(h) {
			t.Fatalf("%#v", h)
		}
		for range 4 {
			other := keptCopy(h)
			for more := true; more; more = r.IntN(3) == 0 {
				anyFault(r, &other)
			}
			want, ok := heldByHand(other)
			seen[ok]++
			if impl.HseOk(other) != ok || !same(impl.MdlOf(other), want) {
				t.Fatalf("%#v: %v", other, !ok)
			}
		}
	}
	if seen[true] < 1200 || seen[false] < 1200 {
		t.Fatal("too few were asked:", seen)
	}
}

// Any numbers, and texts of any bytes, are no fault of who is asked.
func TestAnyNumbersAndTextsAreAnswered(t *testing.T) {
	r := rand.New(rand.NewPCG(8, 2))
	numbers := []int{0, 1, -1, 2, 3, 99, 100, 700, 1 << 31, 1 << 32, math.MaxInt, math.MinInt}
	list := func() []int {
		var ids []int
		for range r.IntN(4) {
			ids = append(ids, oneOf(r, numbers))
		}
		return ids
	}
	texts := slices.Concat(noObjects(), []string{"L", "S", selfSheet})
	for range 3000 {
		h := impl.HseHouse{Keys: list(), Used: list(), Loose: list(), Phase: oneOf(r, numbers), Grey: list(), Marks: list()}
		for range r.IntN(4) {
			h.Repos = append(h.Repos, impl.HseRepo{Admin: oneOf(r, numbers), Rules: anyRules(r), Refs: []impl.HseRef{{Name: oneOf(r, texts), Count: oneOf(r, numbers), Roots: list()}}})
			h.Pool = append(h.Pool, impl.PolItem{Id: oneOf(r, numbers), Text: oneOf(r, texts)})
			h.Tickets = append(h.Tickets, impl.HseTicket{Req: anyRequest(r), Wait: []string{oneOf(r, texts)}, Pins: list()})
			h.Roll = append(h.Roll, impl.HseLine{User: oneOf(r, numbers), Repo: oneOf(r, numbers), Kind: oneOf(r, numbers), Code: oneOf(r, numbers)})
		}
		if keptByHand(h) {
			continue
		}
		q := anyRequest(r)
		then, a := impl.HseDo(h, q)
		if impl.HseOk(h) || !same(impl.MdlOf(h), impl.MdlHouse{}) || !same(then, impl.HseHouse{}) || !same(a, impl.AnsAnswer{}) {
			t.Fatalf("%#v of %#v: %#v, %#v", q, h, then, a)
		}
	}
}

// laysByHand says whether a request that is done lays a version down.
func laysByHand(q impl.ReqReq) bool {
	return slices.Contains([]int{impl.ReqPut, impl.ReqReset, impl.ReqCopy, impl.ReqName}, q.Kind)
}

// keepByHand is what HseDo must answer, of any house and request.
func keepByHand(h impl.HseHouse, q impl.ReqReq) (impl.HseHouse, impl.AnsAnswer) {
	m, ok := heldByHand(h)
	if !ok || !requestByHand(q) {
		return impl.HseHouse{}, impl.AnsAnswer{}
	}
	then, a := doByHand(m, q)
	is := keptCopy(h)
	if a.Code == impl.AnsDone {
		turned, fits := turnByRequest(keptCopy(h), q, then)
		is = turned
		if !fits {
			is, a = keptCopy(h), impl.AnsAnswer{Code: impl.AnsClash}
		}
	}
	is.Roll = append(is.Roll, impl.HseLine{User: q.User, Repo: q.Repo, Kind: q.Kind, Code: a.Code})[:min(len(h.Roll)+1, 120)]
	return is, a
}

// turnByRequest turns a house into one that holds a model, and says whether there was no clash.
func turnByRequest(h impl.HseHouse, q impl.ReqReq, then impl.MdlHouse) (impl.HseHouse, bool) {
	roots := map[string][]int{}
	for i, repo := range h.Repos {
		for _, ref := range repo.Refs {
			roots[fmt.Sprint(i, ref.Name)] = ref.Roots
		}
	}
	var texts []string
	if laysByHand(q) {
		texts = layByHand(latestOf(then.Repos[q.Repo].Refs[refAt(then.Repos[q.Repo], q.Ref)]))
		at := fmt.Sprint(q.Repo, q.Ref)
		roots[at] = append(roots[at], idByHand(texts[len(texts)-1]))
		roots[at] = roots[at][max(0, len(roots[at])-3):]
	}
	for _, s := range texts {
		pool, _, came := putByHand(h.Pool, s)
		if came == impl.PolClash {
			return impl.HseHouse{}, false
		}
		h.Pool = pool
	}
	laid := idsOf(texts...)
	h.Loose = slices.DeleteFunc(h.Loose, func(id int) bool { return slices.Contains(laid, id) })
	if h.Phase != 0 {
		h.Marks = sortedOnce(append(h.Marks, laid...))
	}
	h.Used, h.Repos = then.Used, nil
	for i, repo := range then.Repos {
		kept := impl.HseRepo{Admin: repo.Admin, Rules: repo.Rules}
		for _, ref := range repo.Refs {
			kept.Refs = append(kept.Refs, impl.HseRef{Name: ref.Name, Guard: ref.Guard, Count: ref.Count, Roots: roots[fmt.Sprint(i, ref.Name)]})
		}
		h.Repos = append(h.Repos, kept)
	}
	return h, true
}

// keeping is a request of a kept house, and what came of it.
type keeping struct {
	h    impl.HseHouse
	q    impl.ReqReq
	then impl.HseHouse
	a    impl.AnsAnswer
}

func keep(h impl.HseHouse, q impl.ReqReq) keeping {
	then, a := impl.HseDo(h, q)
	return keeping{h, q, then, a}
}

// requestOf is often done; puts and names are asked more than others, as they alone may clash.
func requestOf(r *rand.Rand, h impl.HseHouse, m impl.MdlHouse, kinds ...int) impl.ReqReq {
	if len(kinds) == 0 {
		kinds = []int{oneOf(r, []int{1, 2, 3, 4, 5, 6, 7, 8, 9, 10, 11, 1, 1, 1, 6, 9, 10})}
	}
	q := oneRequestOf(r, h, m, kinds...)
	for range oneOf(r, []int{0, 0, 15}) {
		if codeByHand(m, q) == impl.AnsDone {
			break
		}
		q = oneRequestOf(r, h, m, kinds...)
	}
	return q
}

// oneRequestOf often is one that is under way, so that some of what it lays down is there and Loose; or it clashes.
func oneRequestOf(r *rand.Rand, h impl.HseHouse, m impl.MdlHouse, kinds ...int) impl.ReqReq {
	if len(h.Tickets) > 0 && r.IntN(2) == 0 {
		if q := oneOf(r, h.Tickets).Req; slices.Contains(kinds, q.Kind) {
			return q
		}
	}
	q := requestTo(r, m, kinds...)
	if len(q.Edits) > 0 && r.IntN(3) == 0 {
		q.Edits = slices.Clone(q.Edits)
		for i := range q.Edits {
			if !q.Edits[i].Gone {
				q.Edits[i].Bytes = oneOf(r, []string{clashOne, clashTwo})[1:]
			}
		}
	}
	return q
}

// keepings is so many requests of any kept houses, and of such as come to be from HseNew on; of some kinds, if they are told.
func keepings(seed uint64, n int, kinds ...int) func(yield func(keeping) bool) {
	return func(yield func(keeping) bool) {
		r := rand.New(rand.NewPCG(8, seed))
		var any, grown impl.HseHouse
		for i := range n / 2 {
			if i%4 == 0 {
				any = anyKept(r)
			}
			if i%100 == 0 {
				grown = impl.HseNew([]int{10, 11, 10}, []int{1, 3})
				grown.Repos[r.IntN(2)].Rules = []impl.RulRule{{User: r.IntN(3), Write: true}}
			}
			if !yield(keep(any, requestOf(r, any, impl.MdlOf(any), kinds...))) {
				return
			}
			if !yield(keep(inPhase(grown, r.IntN(3), r.IntN(30)), requestOf(r, grown, impl.MdlOf(grown), kinds...))) {
				return
			}
			grown, _ = impl.HseDo(grown, requestOf(r, grown, impl.MdlOf(grown)))
		}
	}
}

func TestKeptDoOfAnyRequest(t *testing.T) {
	t.Parallel()
	seen := map[[2]int]int{}
	done := map[[3]int]int{}
	for one := range keepings(3, 8000) {
		then, a := keepByHand(one.h, one.q)
		if !same(one.a, a) || !same(one.then, then) {
			t.Fatalf("%#v of %#v: %#v, %#v; not %#v, %#v", one.q, one.h, one.then, one.a, then, a)
		}
		if !impl.HseOk(one.then) || !keptByHand(one.then) {
			t.Fatalf("%#v of %#v: %#v is not ok", one.q, one.h, one.then)
		}
		seen[[2]int{one.q.Kind, a.Code}]++
		done[[3]int{one.q.Kind, a.Code, one.h.Phase}]++
	}
	for kind, codes := range kindCodes {
		if kind == impl.ReqPut || kind == impl.ReqName {
			codes = append(slices.Clone(codes), impl.AnsClash)
		}
		for code := range 12 {
			if n := seen[[2]int{kind, code}]; slices.Contains(codes, code) != (n > 0) {
				t.Errorf("kind %d was answered %d so often: %d", kind, code, n)
			}
			for _, phase := range phases {
				if n := done[[3]int{kind, code, phase}]; n == 0 && code == impl.AnsDone {
					t.Errorf("kind %d was never done in the Phase %d", kind, phase)
				}
			}
		}
	}
}

func TestKeptDoOfWhatIsNotOk(t *testing.T) {
	t.Parallel()
	r := rand.New(rand.NewPCG(8, 4))
	nothing := func(h impl.HseHouse, q impl.ReqReq) {
		t.Helper()
		if then, a := impl.HseDo(h, q); !same(then, impl.HseHouse{}) || !same(a, impl.AnsAnswer{}) {
			t.Fatalf("%#v of %#v: %#v, %#v", q, h, then, a)
		}
	}
	for _, h := range noKept() {
		nothing(h, impl.ReqReq{User: 1, Key: 1, Kind: impl.ReqUsed})
		nothing(h, impl.ReqReq{User: 1, Key: 1, Kind: impl.ReqName, Ref: "n", Repo: 1})
		nothing(h, impl.ReqReq{User: -1})
		if !same(impl.MdlOf(h), impl.MdlHouse{}) {
			t.Fatalf("MdlOf of %#v", h)
		}
	}
	bad := 0
	for range 3000 {
		q := anyRequest(r)
		if requestByHand(q) {
			continue
		}
		bad++
		nothing(inPhase(fullKept(), r.IntN(3), 9), q)
	}
	for _, h := range []impl.HseHouse{fullKept(), impl.HseNew([]int{1}, []int{1})} {
		nothing(h, impl.ReqReq{})
		nothing(h, impl.ReqReq{User: 1, Key: 1})
		nothing(h, impl.ReqReq{User: 1, Key: 1, Kind: 12})
		// What a kind has not must be ok, too.
		nothing(h, impl.ReqReq{User: 1, Key: 1, Kind: impl.ReqUsed, Path: "/"})
		nothing(h, impl.ReqReq{User: 1, Key: 1, Kind: impl.ReqRefs, Edits: editsOf(5)})
	}
	if bad < 300 {
		t.Fatal("too few were asked:", bad)
	}
}
