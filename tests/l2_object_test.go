package tests

import (
	"math"
	"math/rand/v2"
	"regexp"
	"slices"
	"strconv"
	"strings"
	"testing"

	"loop.example/chartulary/impl"
)

var (
	idForm    = regexp.MustCompile(`\A[0-9a-f]{8}\z`)
	entryForm = regexp.MustCompile(`([a-z]{1,3})([/=])([0-9a-f]{8})`)
	sheetForm = regexp.MustCompile(`\AS([a-z]{1,3}[/=][0-9a-f]{8}){0,60}\z`)
)

// kindByForm says what a text is, by the forms above.
func kindByForm(s string) int {
	if strings.HasPrefix(s, "L") && len(s) <= 1+6 {
		return impl.ObjALeaf
	}
	if !sheetForm.MatchString(s) {
		return impl.ObjNone
	}
	last := ""
	for _, m := range entryForm.FindAllStringSubmatch(s[1:], -1) {
		if m[1] <= last || m[3] == "00000000" {
			return impl.ObjNone
		}
		last = m[1]
	}
	return impl.ObjASheet
}

// manyEntries is so many entries that rise, of both kinds, ids at the edges among them.
func manyEntries(n int) []impl.ObjEntry {
	ids := []int{1, 2, 255, 0x1234abcd, impl.IdMax - 1, impl.IdMax}
	var list []impl.ObjEntry
	for i := range n {
		name := string([]byte{byte('a' + i/26%26), byte('a' + i%26)})
		list = append(list, impl.ObjEntry{Name: name, Sheet: i%3 == 0, Id: ids[i%len(ids)]})
	}
	return list
}

// someSheets is entries that make a sheet.
func someSheets() [][]impl.ObjEntry {
	return [][]impl.ObjEntry{
		nil,
		{},
		{{Name: "a", Id: 1}},
		{{Name: "a", Sheet: true, Id: impl.IdMax}},
		{{Name: "abc", Id: 0xabcdef}},
		{{Name: "a", Id: 7}, {Name: "aa", Id: 7}, {Name: "aaa", Id: 7}, {Name: "aab", Id: 7}, {Name: "ab", Id: 7}, {Name: "b", Id: 7}},
		{{Name: "a", Id: 0xaaaaaaaa}, {Name: "b", Sheet: true, Id: 0xbbbbbbbb}, {Name: "f", Id: 0xffffffff}},
		{{Name: "y", Sheet: true, Id: 9}, {Name: "z", Id: 1}, {Name: "zzz", Sheet: true, Id: 9}},
		manyEntries(59),
		manyEntries(60),
	}
}

// noSheets is entries that make none.
func noSheets() [][]impl.ObjEntry {
	late := manyEntries(60)
	late[59].Name = "A"
	twice := manyEntries(60)
	twice[59].Name = twice[58].Name
	return [][]impl.ObjEntry{
		manyEntries(61),
		manyEntries(600),
		late,
		twice,
		{{Name: "", Id: 1}},
		{{Name: "abcd", Id: 1}},
		{{Name: "A", Id: 1}},
		{{Name: "a/b", Id: 1}},
		{{Name: "a=", Id: 1}},
		{{Name: "\xff", Id: 1}},
		{{Name: "a"}},
		{{Name: "a", Id: -1}},
		{{Name: "a", Id: impl.IdMax + 1}},
		{{Name: "a", Id: math.MaxInt}},
		{{Name: "a", Id: math.MinInt}},
		{{Name: "a", Id: 1}, {Name: "a", Id: 1}},
		{{Name: "a", Id: 1}, {Name: "a", Sheet: true, Id: 2}},
		{{Name: "b", Id: 1}, {Name: "a", Id: 1}},
		{{Name: "aa", Id: 1}, {Name: "a", Id: 1}},
		{{Name: "b", Id: 1}, {Name: "ab", Id: 1}},
		{{Name: "a", Id: 1}, {Name: "c", Id: 1}, {Name: "b", Id: 1}},
		{{Name: "a", Id: 1}, {Name: "", Id: 1}},
		{{Name: "a", Id: 1}, {Name: "b", Id: 0}},
	}
}

// noObjects is texts that are none, each by another fault.
func noObjects() []string {
	many := "S"
	for _, e := range manyEntries(61) {
		many += e.Name + "=" + impl.IdHex(e.Id)
	}
	return []string{
		"", " ", "l", "s", "X", "\x00", "\xff", "0", "a=00000001", " L", " S", "\nS",
		"L1234567", "L" + strings.Repeat("x", 5000), "L\xff\xff\xff\xff\xff\xff\xff", "Lééé.",
		"Sa", "Sa=", "Sa/", "Sa=0", "Sa=0000001", "Sa=000000011", "Sa=00000001b", "Sa=00000001b=", "Sa=00000001 ",
		"S ", "S=", "S/", "S=00000001", "S/00000001", "Sabcd=00000001", "SA=00000001", "S1=00000001", "Sa =00000001",
		"Sa:00000001", "Sa00000001", "Sa==00000001", "Sa//00000001", "Sa=/00000001", "Sa\x0000000001",
		"Sa=00000000", "Sa=0000000A", "Sa=0000000g", "Sa=+0000001", "Sa=-0000001", "Sa=0x000001", "Sa= 0000001", "Sa=\xff0000001",
		"Sa=00000001a=00000001", "Sa=00000001a/00000002", "Sb=00000001a=00000001", "Saa=00000001a=00000001",
		"Sa=00000001,b=00000001", "Sa=00000001\nb=00000001", "Sa=00000001/b=00000001",
		"S" + strings.Repeat("a", 5000), "S" + strings.Repeat("a=00000001", 5000), many,
	}
}

// turned tells texts near a text: a byte in its place, one more, one less, one turned.
func turned(r *rand.Rand, s string) string {
	const bytes = "SLabz=/0189f{`Ag\x00\xff"
	at := r.IntN(len(s) + 1)
	b := bytes[r.IntN(len(bytes))]
	put := string([]byte{b})
	if at == len(s) {
		return s + put
	}
	switch r.IntN(4) {
	case 0:
		return s[:at] + put + s[at:]
	case 1:
		return s[:at] + s[at+1:]
	case 2:
		return s[:at] + put + s[at+1:]
	}
	return s[:at]
}

// manyObjects is texts that are objects, and such that nearly are.
func manyObjects() []string {
	all := noObjects()
	for _, b := range someLeaves() {
		all = append(all, "L"+b)
	}
	r := rand.New(rand.NewPCG(2, 58))
	for _, list := range someSheets() {
		s := sheetByHand(list)
		all = append(all, s)
		for range 400 {
			one := turned(r, s)
			all = append(all, one, turned(r, one))
		}
	}
	return append(all, textsOf("LSa=0", 5)...)
}

func someLeaves() []string {
	all := []string{"", "x", "xy", "123456", "L", "S", "Sa=", "\x00", "\x00\x00\x00\x00\x00\x00", "\xff\xfe\x80", "ééé", "\n", "a/b"}
	for b := range 256 {
		all = append(all, string([]byte{byte(b)}))
	}
	return all
}

func sheetByHand(list []impl.ObjEntry) string {
	s := "S"
	for _, e := range list {
		sign := "="
		if e.Sheet {
			sign = "/"
		}
		digits := strconv.FormatInt(int64(e.Id), 16)
		s += e.Name + sign + strings.Repeat("0", 8-len(digits)) + digits
	}
	return s
}

func TestLimitsOfObjects(t *testing.T) {
	got := []int{impl.ObjNone, impl.ObjALeaf, impl.ObjASheet, impl.ObjMaxLeaf, impl.ObjMaxList, impl.IdMax}
	if !slices.Equal(got, []int{0, 1, 2, 6, 60, 4294967295}) {
		t.Fatal(got)
	}
}

// P56.
func TestIdsAreReadAsWritten(t *testing.T) {
	for n, want := range map[int]string{
		1: "00000001", 9: "00000009", 10: "0000000a", 15: "0000000f", 16: "00000010", 255: "000000ff",
		0x12345678: "12345678", 0x90abcdef: "90abcdef", impl.IdMax - 1: "fffffffe", impl.IdMax: "ffffffff",
	} {
		if got := impl.IdHex(n); got != want {
			t.Errorf("IdHex of %d: %q", n, got)
		}
	}
	r := rand.New(rand.NewPCG(2, 56))
	for range 5000 {
		n := 1 + int(r.Uint64N(impl.IdMax>>r.IntN(32)))
		s := impl.IdHex(n)
		if back, ok := impl.IdRead(s); !ok || back != n || !idForm.MatchString(s) {
			t.Fatalf("%d is written %q, and read %d, %v", n, s, back, ok)
		}
	}
}

func TestIdHexOfNoId(t *testing.T) {
	for _, n := range []int{0, -1, -255, impl.IdMax + 1, impl.IdMax + 2, 1 << 33, math.MaxInt, math.MinInt, -impl.IdMax} {
		if got := impl.IdHex(n); got != "" {
			t.Errorf("IdHex of %d: %q", n, got)
		}
	}
}

func TestIdReadOfAnyText(t *testing.T) {
	texts := []string{
		"", "0", "1", "0000001", "000000001", "00000000", "00000001", "ffffffff", "fffffffff", "100000000",
		"FFFFFFFF", "0000000A", "0000000g", "0000000/", "0000000:", "0000000`", "+0000001", "-0000001", "0x000001", "0000_001",
		" 0000001", "0000001 ", "0000001\n", "\x00\x00\x00\x00\x00\x00\x00\x01", "\xff\xff\xff\xff\xff\xff\xff\xff", "０００", strings.Repeat("0", 5000) + "1",
	}
	for b := range 256 {
		for at := range 8 {
			texts = append(texts, "12345678"[:at]+string([]byte{byte(b)})+"12345678"[at+1:])
		}
	}
	for _, s := range texts {
		n, ok := impl.IdRead(s)
		if ok != (idForm.MatchString(s) && s != "00000000") {
			t.Errorf("IdRead of %q: %d, %v", s, n, ok)
		}
		if ok && impl.IdHex(n) != s || !ok && n != 0 {
			t.Errorf("IdRead of %q: %d, %v, which is written %q", s, n, ok, impl.IdHex(n))
		}
	}
}

// idByHand is the document's rule in numbers that do not wrap round.
func idByHand(s string) int {
	const all = 4294967296
	x := uint64(2166136261 + len(s))
	for _, b := range []byte(s) {
		x = (x ^ uint64(b)) * 16777619 % all
		x = x ^ x/32768
	}
	x = x * 73856093 % all
	x = x ^ x/8192
	if x == 0 {
		return 1
	}
	return int(x)
}

// P57.
func TestIdOfAnyText(t *testing.T) {
	texts := slices.Concat(manyObjects(), noPaths, textsOf("a\x00\xff", 6))
	r := rand.New(rand.NewPCG(2, 57))
	for range 500 {
		b := make([]byte, r.IntN(40))
		for i := range b {
			b[i] = byte(r.Uint32())
		}
		texts = append(texts, string(b))
	}
	for _, s := range texts {
		id := impl.IdOf(s)
		if id < 1 || id > impl.IdMax || id != idByHand(s) || id != impl.IdOf(strings.Clone(s)) {
			t.Fatalf("IdOf of %q: %d", s, id)
		}
	}
}

func TestIdOfKnownTexts(t *testing.T) {
	for s, want := range map[string]int{
		"":                        507766409,
		"L":                       4148212726,
		"S":                       2532812355,
		"a":                       4162926558,
		"Lxy":                     3214480440,
		"\x00":                    2298759106,
		"\xff\xfe":                1234658407,
		"Sa=000000ffb/00000001":   4117682041,
		strings.Repeat("x", 1000): 1444123355,
	} {
		if got := impl.IdOf(s); got != want {
			t.Errorf("IdOf of %q: %d", s, got)
		}
	}
}

// The sums of these texts come to 0, which is no id.
func TestIdOfIsNeverZero(t *testing.T) {
	for _, s := range []string{"aeachc\xdc", "hwtdpf\xfb", "vqayxh\xf1"} {
		if got := impl.IdOf(s); got != 1 {
			t.Errorf("IdOf of %q: %d", s, got)
		}
	}
}

// P58.
func TestBytesOfLeafAreTheBytes(t *testing.T) {
	for _, b := range someLeaves() {
		s := impl.ObjLeaf(b)
		got, ok := impl.ObjBytes(s)
		if s != "L"+b || !ok || got != b {
			t.Errorf("the leaf of %q is %q, and has %q, %v", b, s, got, ok)
		}
	}
	for _, b := range []string{"1234567", "\x00\x00\x00\x00\x00\x00\x00", "éééx", strings.Repeat("x", 5000)} {
		if got := impl.ObjLeaf(b); got != "" {
			t.Errorf("the leaf of %d bytes is %q", len(b), got)
		}
	}
}

func TestEntriesOfSheetAreTheEntries(t *testing.T) {
	for _, list := range someSheets() {
		s := impl.ObjSheet(list)
		if s != sheetByHand(list) {
			t.Errorf("the sheet of %v is %q", list, s)
		}
		got, ok := impl.ObjEntries(s)
		if !ok || !slices.Equal(got, list) {
			t.Errorf("%q has the entries %v, %v", s, got, ok)
		}
	}
	for _, list := range noSheets() {
		if s := impl.ObjSheet(list); s != "" {
			t.Errorf("%d entries %v are the sheet %q", len(list), list, s)
		}
	}
}

// P59.
func TestObjectsAreTheirTexts(t *testing.T) {
	seen := map[int]int{}
	for _, s := range manyObjects() {
		kind := kindByForm(s)
		seen[kind]++
		if got := impl.ObjKind(s); got != kind {
			t.Fatalf("the kind of %q: %d", s, got)
		}
		bytes, isLeaf := impl.ObjBytes(s)
		if isLeaf != (kind == impl.ObjALeaf) || isLeaf && impl.ObjLeaf(bytes) != s || !isLeaf && bytes != "" {
			t.Fatalf("the bytes of %q: %q, %v", s, bytes, isLeaf)
		}
		entries, isSheet := impl.ObjEntries(s)
		if isSheet != (kind == impl.ObjASheet) || isSheet && impl.ObjSheet(entries) != s || !isSheet && len(entries) != 0 {
			t.Fatalf("the entries of %q: %v, %v", s, entries, isSheet)
		}
		var ids []int
		for _, e := range entries {
			ids = append(ids, e.Id)
		}
		if got := impl.ObjKids(s); !slices.Equal(got, ids) {
			t.Fatalf("the kids of %q: %v", s, got)
		}
	}
	if seen[impl.ObjNone] < 1000 || seen[impl.ObjALeaf] < 100 || seen[impl.ObjASheet] < 100 {
		t.Fatal("too few were asked:", seen)
	}
}

func TestWhatIsNoObject(t *testing.T) {
	for _, s := range noObjects() {
		if got := impl.ObjKind(s); got != impl.ObjNone {
			t.Errorf("the kind of %q: %d", s, got)
		}
	}
}

func TestKidsInOrderOfEntries(t *testing.T) {
	s := "Sa=000000ffb/00000001c=000000ffd/ffffffff"
	if got := impl.ObjKids(s); !slices.Equal(got, []int{255, 1, 255, impl.IdMax}) {
		t.Fatal(got)
	}
	for _, s := range []string{"", "S", "L", "La=0000", "Sb=00000001a=00000001"} {
		if got := impl.ObjKids(s); len(got) != 0 {
			t.Errorf("the kids of %q: %v", s, got)
		}
	}
}

func TestObjSheetLeavesItsArgument(t *testing.T) {
	room := manyEntries(20)
	before := slices.Clone(room)
	if impl.ObjSheet(room[:10]) != sheetByHand(before[:10]) || !slices.Equal(room, before) {
		t.Fatal("the list is turned, or what is behind its end", room)
	}
}

func TestListsOfObjectsAreNewMemory(t *testing.T) {
	s := "Sa=000000ffb/00000001c=00000002"
	one, _ := impl.ObjEntries(s)
	two, _ := impl.ObjEntries(s)
	want := slices.Clone(two)
	clear(one[:cap(one)])
	kids := impl.ObjKids(s)
	others := impl.ObjKids(s)
	clear(kids[:cap(kids)])
	if !slices.Equal(two, want) || !slices.Equal(others, []int{255, 1, 2}) {
		t.Fatal("two answers share memory", two, others)
	}
}
