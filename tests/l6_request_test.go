package tests

import (
	"encoding/hex"
	"fmt"
	"math"
	"math/rand/v2"
	"reflect"
	"regexp"
	"slices"
	"strings"
	"testing"

	"loop.example/chartulary/impl"
)

var editForm = regexp.MustCompile(`\A([a-z]{1,3}(?:/[a-z]{1,3}){0,2})(?:!|=-|=((?:[0-9a-f]{2}){1,6}))\z`)

var (
	someNumbers = []int{0, 1, 9, 10, 98, 99}
	noNumbers   = []int{-1, 100, -99, -100, 101, 255, 256, 9999, 1 << 32, math.MaxInt, math.MinInt}
	someKeys    = []int{0, 1, 99, 100, 9998, 9999}
	noKeys      = []int{-1, 10000, -9999, 10001, 65536, 1 << 32, math.MaxInt, math.MinInt}
	noKinds     = []int{0, 12, -1, -11, 13, 99, 255, 257, 1<<32 + 1, math.MaxInt, math.MinInt}
)

// kindHas is what the document's table says: the word of a kind, and what it has.
var kindHas = map[int]struct {
	word string
	has  []string
}{
	impl.ReqPut:    {"put", []string{"Ref", "Old", "Edits"}},
	impl.ReqLook:   {"look", []string{"Ref", "Path", "Back"}},
	impl.ReqRefs:   {"refs", nil},
	impl.ReqAllow:  {"allow", []string{"Rule"}},
	impl.ReqForbid: {"forbid", []string{"Rule"}},
	impl.ReqName:   {"name", []string{"Ref"}},
	impl.ReqDrop:   {"drop", []string{"Ref"}},
	impl.ReqGuard:  {"guard", []string{"Ref"}},
	impl.ReqReset:  {"reset", []string{"Ref", "Old", "Back"}},
	impl.ReqCopy:   {"copy", []string{"Ref", "Old", "From", "Other"}},
	impl.ReqUsed:   {"used", nil},
}

// ownParts is what a request may have or not, by its kind.
var ownParts = []string{"Ref", "Path", "Old", "Back", "Edits", "Rule", "From", "Other"}

func editByHand(e impl.TreEdit) bool {
	return e.Path != "" && pathForm.MatchString(e.Path) && len(e.Bytes) < 7 && !(e.Gone && len(e.Bytes) > 0)
}

func requestByHand(r impl.ReqReq) bool {
	for _, n := range []int{r.User, r.Repo, r.Old, r.Back, r.From} {
		if n < 0 || n >= 100 {
			return false
		}
	}
	for _, s := range []string{r.Ref, r.Other} {
		if s != "" && !nameForm.MatchString(s) {
			return false
		}
	}
	for _, e := range r.Edits {
		if !editByHand(e) {
			return false
		}
	}
	return r.Key >= 0 && r.Key < 10000 && r.Kind > 0 && r.Kind < 12 && pathForm.MatchString(r.Path) && ruleByHand(r.Rule) && len(r.Edits) < 5
}

func editTextByHand(e impl.TreEdit) string {
	switch {
	case !editByHand(e):
		return ""
	case e.Gone:
		return e.Path + "!"
	case e.Bytes == "":
		return e.Path + "=-"
	}
	return e.Path + "=" + hex.EncodeToString([]byte(e.Bytes))
}

// isNothing says whether a part of a request is nothing; of a list that is without elements, nil or not.
func isNothing(r impl.ReqReq, part string) bool {
	v := reflect.ValueOf(r).FieldByName(part)
	if v.Kind() == reflect.Slice {
		return v.Len() == 0
	}
	return v.IsZero()
}

// fitsItsKind says whether a request has what its kind has, and nothing else.
func fitsItsKind(r impl.ReqReq) bool {
	has := kindHas[r.Kind].has
	for _, part := range ownParts {
		if !slices.Contains(has, part) && !isNothing(r, part) {
			return false
		}
	}
	for _, part := range []string{"Ref", "Other", "Edits"} {
		if slices.Contains(has, part) && isNothing(r, part) {
			return false
		}
	}
	return true
}

func requestTextByHand(r impl.ReqReq) string {
	if !requestByHand(r) || !fitsItsKind(r) {
		return ""
	}
	s := fmt.Sprint(r.User, " ", r.Key, " ", r.Repo, " ") + kindHas[r.Kind].word
	for _, part := range kindHas[r.Kind].has {
		switch part {
		case "Edits":
			for _, e := range r.Edits {
				s += " " + editTextByHand(e)
			}
		case "Rule":
			s += " " + impl.RulText(r.Rule)
		case "Path":
			path := r.Path
			if path == "" {
				path = "-"
			}
			s += " " + path
		default:
			s += fmt.Sprint(" ", reflect.ValueOf(r).FieldByName(part))
		}
	}
	return s
}

// fullRequest is one that is ok and has all, more than any kind has.
func fullRequest(kind int) impl.ReqReq {
	return impl.ReqReq{
		User: 1, Key: 10, Repo: 2, Kind: kind, Ref: "a", Path: "x/y", Old: 3, Back: 4,
		Edits: []impl.TreEdit{{Path: "x/y", Bytes: "A"}, {Path: "z", Gone: true}},
		Rule:  impl.RulRule{User: 2, Ref: "b", Path: "p", Write: true}, From: 5, Other: "o",
	}
}

// keepParts sets all other parts that hang on the kind to nothing.
func keepParts(r impl.ReqReq, keep []string) impl.ReqReq {
	v := reflect.ValueOf(&r).Elem()
	for _, part := range ownParts {
		if !slices.Contains(keep, part) {
			v.FieldByName(part).SetZero()
		}
	}
	return r
}

// justRequest is one that has all that its kind has, and nothing else.
func justRequest(kind int) impl.ReqReq {
	return keepParts(fullRequest(kind), kindHas[kind].has)
}

func okEdit(r *rand.Rand) impl.TreEdit {
	if r.IntN(3) == 0 {
		return impl.TreEdit{Path: anyPath(r, 3), Gone: true}
	}
	b := make([]byte, r.IntN(7))
	for i := range b {
		b[i] = byte(r.IntN(256))
	}
	return impl.TreEdit{Path: anyPath(r, 3), Bytes: string(b)}
}

func anyEdit(r *rand.Rand) impl.TreEdit {
	e := okEdit(r)
	switch r.IntN(12) {
	case 0:
		e.Path = ""
	case 1:
		e.Path = noPaths[r.IntN(len(noPaths))]
	case 2:
		e.Bytes = strings.Repeat("x", 7+r.IntN(3))
	case 3:
		e.Gone, e.Bytes = true, "x"
	}
	return e
}

func oneOf[T any](r *rand.Rand, list []T) T {
	return list[r.IntN(len(list))]
}

func okRequest(r *rand.Rand) impl.ReqReq {
	q := impl.ReqReq{
		User: oneOf(r, someNumbers), Key: oneOf(r, someKeys), Repo: oneOf(r, someNumbers), Kind: 1 + r.IntN(11),
		Ref: oneOf(r, someRefs), Old: oneOf(r, someNumbers), Back: oneOf(r, someNumbers),
		Rule: okRule(r), From: oneOf(r, someNumbers), Other: oneOf(r, someRefs),
	}
	if r.IntN(3) > 0 {
		q.Path = anyPath(r, 3)
	}
	for range r.IntN(5) {
		q.Edits = append(q.Edits, okEdit(r))
	}
	return q
}

// anyRequest is often ok, often fits its kind, and has one fault or more now and then.
func anyRequest(r *rand.Rand) impl.ReqReq {
	q := okRequest(r)
	if r.IntN(3) > 0 {
		q = keepParts(q, kindHas[q.Kind].has)
	}
	for r.IntN(3) == 0 {
		switch r.IntN(12) {
		case 0:
			q.User = oneOf(r, noNumbers)
		case 1:
			q.Key = oneOf(r, noKeys)
		case 2:
			q.Repo = oneOf(r, noNumbers)
		case 3:
			q.Kind = oneOf(r, noKinds)
		case 4:
			q.Ref = oneOf(r, noRefs)
		case 5:
			q.Path = oneOf(r, noPaths)
		case 6:
			q.Old = oneOf(r, noNumbers)
		case 7:
			q.Back = oneOf(r, noNumbers)
		case 8:
			q.Edits = append(q.Edits, anyEdit(r), anyEdit(r), anyEdit(r))
		case 9:
			q.Rule = anyRule(r)
		case 10:
			q.From = oneOf(r, noNumbers)
		case 11:
			q.Other = oneOf(r, noRefs)
		}
	}
	return q
}

func TestLimitsOfRequests(t *testing.T) {
	kinds := []int{impl.ReqPut, impl.ReqLook, impl.ReqRefs, impl.ReqAllow, impl.ReqForbid, impl.ReqName, impl.ReqDrop, impl.ReqGuard, impl.ReqReset, impl.ReqCopy, impl.ReqUsed}
	codes := []int{impl.AnsDone, impl.AnsStranger, impl.AnsNoRepo, impl.AnsMayNot, impl.AnsNoRef, impl.AnsStale, impl.AnsBad, impl.AnsGuarded, impl.AnsFull, impl.AnsOver, impl.AnsClash}
	want := []int{1, 2, 3, 4, 5, 6, 7, 8, 9, 10, 11}
	if !slices.Equal(kinds, want) || !slices.Equal(codes, want) {
		t.Error("kinds", kinds, "codes", codes)
	}
	if impl.ReqMaxKind != 11 || impl.ReqMaxRepo != 3 || impl.ReqMaxCount != 14 {
		t.Error(impl.ReqMaxKind, impl.ReqMaxRepo, impl.ReqMaxCount)
	}
}

// oneTurned asks of a request with one part turned whether it is ok; it must not hang on the kind.
func oneTurned(t *testing.T, what string, want bool, turn func(*impl.ReqReq)) {
	t.Helper()
	for kind := 1; kind <= 11; kind++ {
		for _, r := range []impl.ReqReq{{Kind: kind}, justRequest(kind), fullRequest(kind)} {
			turn(&r)
			if impl.ReqOk(r) != want {
				t.Errorf("%s, kind %d: %v", what, kind, !want)
			}
		}
	}
}

func TestReqOkOfNumbers(t *testing.T) {
	parts := map[string]func(*impl.ReqReq, int){
		"User": func(r *impl.ReqReq, n int) { r.User = n },
		"Repo": func(r *impl.ReqReq, n int) { r.Repo = n },
		"Old":  func(r *impl.ReqReq, n int) { r.Old = n },
		"Back": func(r *impl.ReqReq, n int) { r.Back = n },
		"From": func(r *impl.ReqReq, n int) { r.From = n },
	}
	for part, set := range parts {
		for _, n := range someNumbers {
			oneTurned(t, fmt.Sprint(part, " ", n), true, func(r *impl.ReqReq) { set(r, n) })
		}
		for _, n := range noNumbers {
			oneTurned(t, fmt.Sprint(part, " ", n), false, func(r *impl.ReqReq) { set(r, n) })
		}
	}
	for _, n := range someKeys {
		oneTurned(t, fmt.Sprint("Key ", n), true, func(r *impl.ReqReq) { r.Key = n })
	}
	for _, n := range noKeys {
		oneTurned(t, fmt.Sprint("Key ", n), false, func(r *impl.ReqReq) { r.Key = n })
	}
	for n := 1; n <= 11; n++ {
		oneTurned(t, fmt.Sprint("Kind ", n), true, func(r *impl.ReqReq) { r.Kind = n })
	}
	for _, n := range noKinds {
		oneTurned(t, fmt.Sprint("Kind ", n), false, func(r *impl.ReqReq) { r.Kind = n })
	}
}

func TestReqOkOfTexts(t *testing.T) {
	for _, s := range slices.Concat(allRefs(), []string{"-", "a/b", "abc/d"}) {
		ok := s == "" || nameForm.MatchString(s)
		oneTurned(t, fmt.Sprintf("Ref %q", s), ok, func(r *impl.ReqReq) { r.Ref = s })
		oneTurned(t, fmt.Sprintf("Other %q", s), ok, func(r *impl.ReqReq) { r.Other = s })
	}
	for _, s := range rulePaths() {
		oneTurned(t, fmt.Sprintf("Path %q", s), pathForm.MatchString(s), func(r *impl.ReqReq) { r.Path = s })
	}
	for _, s := range manyTexts() {
		r := impl.ReqReq{Kind: 1, Path: s}
		if impl.ReqOk(r) != pathForm.MatchString(s) {
			t.Fatalf("ReqOk with the path %q", s)
		}
		for _, r := range []impl.ReqReq{{Kind: 1, Ref: s}, {Kind: 1, Other: s}} {
			if impl.ReqOk(r) != (s == "" || nameForm.MatchString(s)) {
				t.Fatalf("ReqOk of %v", r)
			}
		}
	}
	for _, rule := range []impl.RulRule{{}, {User: 4}, {Ref: "abc"}, {Path: "abc/abc/abc"}, {Write: true}} {
		oneTurned(t, fmt.Sprint("Rule ", rule), true, func(r *impl.ReqReq) { r.Rule = rule })
	}
	for _, rule := range []impl.RulRule{{User: 5}, {User: -1}, {Ref: "abcd"}, {Ref: "-"}, {Path: "/"}, {Path: "a/b/c/d"}} {
		oneTurned(t, fmt.Sprint("Rule ", rule), false, func(r *impl.ReqReq) { r.Rule = rule })
	}
}

// editsOf is so many edits that are ok.
func editsOf(n int) []impl.TreEdit {
	var edits []impl.TreEdit
	for i := range n {
		edits = append(edits, impl.TreEdit{Path: string(rune('a' + i%26)), Bytes: "123456"[:i%7], Gone: i%7 == 0})
	}
	return edits
}

func TestReqOkOfEdits(t *testing.T) {
	for n := range 9 {
		oneTurned(t, fmt.Sprint(n, " edits"), n <= 4, func(r *impl.ReqReq) { r.Edits = editsOf(n) })
	}
	oneTurned(t, "500 edits", false, func(r *impl.ReqReq) { r.Edits = editsOf(500) })
	oneTurned(t, "an empty list", true, func(r *impl.ReqReq) { r.Edits = []impl.TreEdit{} })
	twice := impl.TreEdit{Path: "a", Bytes: "x"}
	oneTurned(t, "one edit twice", true, func(r *impl.ReqReq) { r.Edits = []impl.TreEdit{twice, twice} })
	for _, c := range manyEdits() {
		for at := range 4 {
			oneTurned(t, fmt.Sprintf("%#v at %d", c, at), editByHand(c), func(r *impl.ReqReq) {
				r.Edits = editsOf(4)
				r.Edits[at] = c
			})
		}
	}
}

// manyEdits is edits at the bounds, ok and not.
func manyEdits() []impl.TreEdit {
	all := []impl.TreEdit{
		{}, {Gone: true}, {Bytes: "x"}, {Path: "a"}, {Path: "a", Gone: true}, {Path: "a", Bytes: "x"}, {Path: "a", Bytes: "x", Gone: true},
		{Path: "a", Bytes: "12345"}, {Path: "a", Bytes: "123456"}, {Path: "a", Bytes: "1234567"}, {Path: "a", Bytes: strings.Repeat("x", 5000)},
		{Path: "a", Bytes: "123456", Gone: true}, {Path: "a", Bytes: "1234567", Gone: true}, {Path: "a", Bytes: "\x00", Gone: true},
		{Path: "a", Bytes: "-"}, {Path: "a", Bytes: "="}, {Path: "a", Bytes: "!"}, {Path: "a", Bytes: " "}, {Path: "a", Bytes: "\x00"}, {Path: "a", Bytes: "é"},
		{Path: "a=", Bytes: "x"}, {Path: "a!", Bytes: "x"}, {Path: "a!", Gone: true}, {Path: "-", Bytes: "x"}, {Path: "-", Gone: true},
	}
	for _, path := range rulePaths() {
		all = append(all, impl.TreEdit{Path: path}, impl.TreEdit{Path: path, Bytes: "xy"}, impl.TreEdit{Path: path, Gone: true})
	}
	return all
}

func TestReqOkOfAnyRequest(t *testing.T) {
	r := rand.New(rand.NewPCG(6, 1))
	seen := map[bool]int{}
	for range 20000 {
		q := anyRequest(r)
		want := requestByHand(q)
		seen[want]++
		if impl.ReqOk(q) != want {
			t.Fatalf("%#v: %v", q, !want)
		}
	}
	if seen[true] < 2000 || seen[false] < 2000 {
		t.Fatal("too few were asked:", seen)
	}
	if impl.ReqOk(impl.ReqReq{}) {
		t.Error("nothing is ok")
	}
}

// P77.
func TestWritesHangsOnKindAlone(t *testing.T) {
	writes := []int{impl.ReqPut, impl.ReqReset, impl.ReqCopy}
	r := rand.New(rand.NewPCG(6, 77))
	for range 20000 {
		q := anyRequest(r)
		if impl.ReqWrites(q) != slices.Contains(writes, q.Kind) {
			t.Fatalf("%#v: %v", q, impl.ReqWrites(q))
		}
	}
	bad := impl.ReqReq{User: -1, Key: -1, Repo: -1, Ref: "-", Path: "/", Old: -1, Back: -1, Edits: editsOf(9), Rule: impl.RulRule{User: 9}, From: -1, Other: "-"}
	for _, kind := range slices.Concat(noKinds, []int{1, 2, 3, 4, 5, 6, 7, 8, 9, 10, 11}) {
		want := slices.Contains(writes, kind)
		for _, q := range []impl.ReqReq{{}, fullRequest(0), bad} {
			q.Kind = kind
			if impl.ReqWrites(q) != want {
				t.Errorf("%#v: %v", q, !want)
			}
		}
	}
}

// P76.
func TestEditsAreReadAsWritten(t *testing.T) {
	all := manyEdits()
	for b := range 256 {
		one := string([]byte{byte(b)})
		all = append(all, impl.TreEdit{Path: "x/y", Bytes: one}, impl.TreEdit{Path: "x", Bytes: "a" + one + one}, impl.TreEdit{Path: "x", Bytes: strings.Repeat(one, 6)})
	}
	r := rand.New(rand.NewPCG(6, 76))
	for range 5000 {
		all = append(all, anyEdit(r))
	}
	seen := map[bool]int{}
	for _, e := range all {
		s := impl.EdtText(e)
		if s != editTextByHand(e) {
			t.Fatalf("%#v is written %q", e, s)
		}
		seen[s != ""]++
		if s == "" {
			continue
		}
		if back, ok := impl.EdtRead(s); !ok || back != e {
			t.Fatalf("%q is read %#v, %v", s, back, ok)
		}
	}
	if seen[true] < 1000 || seen[false] < 300 {
		t.Fatal("too few were written:", seen)
	}
}

// manyEditTexts is texts of edits, and such that nearly are.
func manyEditTexts() []string {
	all := []string{
		"x=41", "x!", "x=-", "a/b/c=000000000000", "abc/abc/abc=ffffffffffff", "a/b!", "zzz=0a",
		"", "x", "=", "!", "-", "=-", "=41", " ", "/", "x=", "x=!", "x!=", "x!-", "x!=-", "x!=41", "x!41", "x!!", "x! ", " x!", "x !", "x!x", "!x", "x!\n", "x!\x00",
		"x==41", "x=41=", "x=41!", "x=-!", "x=!41", "x==", "x==-", "x=--", "x=-41", "x=41-", "x=4-", "x=- ", "x=-\n", "x= -", "x =-", " x=-",
		"x=4", "x=414", "x=4g", "x=g4", "x=4G", "x=AB", "x=aB", "x=Ab", "x=0A", "x=0x41", "x=4 1", "x=41 ", "x= 41", "x=41 42", "x=41\n", "x=٤١", "x=4\xb1", "x=\x004", "x=4:", "x=4/", "x=4`",
		"x=414243444546", "x=41424344454647", "x=4142434445464", "x=41424344454", "x=" + strings.Repeat("4", 12), "x=" + strings.Repeat("41", 6), "x=" + strings.Repeat("41", 7),
		"abcd=41", "abcd!", "a/b/c/d=41", "a/b/c/d!", "/a=41", "a/=41", "a//b!", "A=41", "A!", "a1=41", "é=41", "\xff!", "-=41", "-!", "a-=41", "x,y=41",
		"x=41 y=42", "x! y!", "x=41,y=42", strings.Repeat("x", 5000) + "!", "x=" + strings.Repeat("41", 5000), strings.Repeat("=", 5000), strings.Repeat("!", 5000),
	}
	r := rand.New(rand.NewPCG(6, 6))
	const bytes = "=!-/ 049afgAFxz{`\x00\xff\n"
	for _, s := range all[:7] {
		for b := range 256 {
			for at := range len(s) + 1 {
				all = append(all, s[:at]+string([]byte{byte(b)})+s[at:])
				if at < len(s) {
					all = append(all, s[:at]+string([]byte{byte(b)})+s[at+1:])
				}
			}
		}
		for range 1000 {
			at, b := r.IntN(len(s)), r.IntN(len(bytes))
			all = append(all, s[:at]+bytes[b:b+1]+s[at+1:], s[:at]+s[at+1:], s[:at]+s[at+r.IntN(len(s)-at):])
		}
	}
	return slices.Concat(all, manyTexts(), textsOf("x4=!-/", 5))
}

// P76.
func TestTextsOfEditsAreWrittenAsRead(t *testing.T) {
	seen := map[bool]int{}
	for _, s := range manyEditTexts() {
		e, ok := impl.EdtRead(s)
		seen[ok]++
		if ok != editForm.MatchString(s) {
			t.Fatalf("%q is read %#v, %v", s, e, ok)
		}
		if ok && (impl.EdtText(e) != s || editTextByHand(e) != s) {
			t.Fatalf("%q is read %#v, which is written %q", s, e, impl.EdtText(e))
		}
		if !ok && e != (impl.TreEdit{}) {
			t.Fatalf("%q is none, and is read %#v", s, e)
		}
	}
	if seen[true] < 500 || seen[false] < 500 {
		t.Fatal("too few were read:", seen)
	}
}

func TestEditTextsByHand(t *testing.T) {
	for s, want := range map[string]impl.TreEdit{
		"x!":                       {Path: "x", Gone: true},
		"a/b/c!":                   {Path: "a/b/c", Gone: true},
		"x=-":                      {Path: "x"},
		"x=2d":                     {Path: "x", Bytes: "-"},
		"x=21":                     {Path: "x", Bytes: "!"},
		"x=00":                     {Path: "x", Bytes: "\x00"},
		"x=ff":                     {Path: "x", Bytes: "\xff"},
		"x=0a":                     {Path: "x", Bytes: "\n"},
		"pub/x=41":                 {Path: "pub/x", Bytes: "A"},
		"a=c3a9":                   {Path: "a", Bytes: "é"},
		"abc/abc/abc=0123456789ab": {Path: "abc/abc/abc", Bytes: "\x01\x23\x45\x67\x89\xab"},
		"a=cdef":                   {Path: "a", Bytes: "\xcd\xef"},
	} {
		if got, ok := impl.EdtRead(s); !ok || got != want {
			t.Errorf("%q is read %#v, %v", s, got, ok)
		}
		if got := impl.EdtText(want); got != s {
			t.Errorf("%#v is written %q", want, got)
		}
	}
}

func TestRequestTextsByHand(t *testing.T) {
	rule := impl.RulRule{User: 2, Ref: "a", Path: "pub"}
	for s, r := range map[string]impl.ReqReq{
		"1 10 0 put a 0 pub/x=41 own=42":     {User: 1, Key: 10, Kind: impl.ReqPut, Ref: "a", Edits: []impl.TreEdit{{Path: "pub/x", Bytes: "A"}, {Path: "own", Bytes: "B"}}},
		"1 10 0 put a 14 x! y=- x! x=000aff": {User: 1, Key: 10, Kind: impl.ReqPut, Ref: "a", Old: 14, Edits: []impl.TreEdit{{Path: "x", Gone: true}, {Path: "y"}, {Path: "x", Gone: true}, {Path: "x", Bytes: "\x00\n\xff"}}},
		"2 11 0 look a - 0":                  {User: 2, Key: 11, Kind: impl.ReqLook, Ref: "a"},
		"2 11 3 look abc a/b/c 99":           {User: 2, Key: 11, Repo: 3, Kind: impl.ReqLook, Ref: "abc", Path: "a/b/c", Back: 99},
		"3 1 0 refs":                         {User: 3, Key: 1, Kind: impl.ReqRefs},
		"1 10 0 allow 2 a pub read":          {User: 1, Key: 10, Kind: impl.ReqAllow, Rule: rule},
		"1 10 0 allow 0 - - read":            {User: 1, Key: 10, Kind: impl.ReqAllow},
		"1 10 0 forbid 2 a pub read":         {User: 1, Key: 10, Kind: impl.ReqForbid, Rule: rule},
		"1 10 0 forbid 0 - - write":          {User: 1, Key: 10, Kind: impl.ReqForbid, Rule: impl.RulRule{Write: true}},
		"99 9999 99 name abc":                {User: 99, Key: 9999, Repo: 99, Kind: impl.ReqName, Ref: "abc"},
		"0 0 0 drop a":                       {Kind: impl.ReqDrop, Ref: "a"},
		"1 10 2 guard zz":                    {User: 1, Key: 10, Repo: 2, Kind: impl.ReqGuard, Ref: "zz"},
		"1 10 0 reset a 1 2":                 {User: 1, Key: 10, Kind: impl.ReqReset, Ref: "a", Old: 1, Back: 2},
		"1 10 0 reset a 0 0":                 {User: 1, Key: 10, Kind: impl.ReqReset, Ref: "a"},
		"1 10 0 copy a 1 2 b":                {User: 1, Key: 10, Kind: impl.ReqCopy, Ref: "a", Old: 1, From: 2, Other: "b"},
		"1 10 0 copy a 0 0 a":                {User: 1, Key: 10, Kind: impl.ReqCopy, Ref: "a", Other: "a"},
		"1 10 0 used":                        {User: 1, Key: 10, Kind: impl.ReqUsed},
	} {
		if got := impl.ReqText(r); got != s {
			t.Errorf("%#v is written %q, not %q", r, got, s)
		}
	}
}

func TestTextOfJustWhatAKindHas(t *testing.T) {
	for kind, form := range kindHas {
		r := justRequest(kind)
		if s := impl.ReqText(r); s == "" || s != requestTextByHand(r) {
			t.Errorf("%s: %q", form.word, s)
		}
		if !slices.Contains(form.has, "Edits") {
			r.Edits = []impl.TreEdit{}
			if s := impl.ReqText(r); s != requestTextByHand(r) || s == "" {
				t.Errorf("%s, with an empty list of edits: %q", form.word, s)
			}
		}
		if s := impl.ReqText(fullRequest(kind)); s != "" {
			t.Errorf("%s, with all: %q", form.word, s)
		}
		for _, part := range ownParts {
			one := keepParts(fullRequest(kind), append(slices.Clone(form.has), part))
			want := slices.Contains(form.has, part)
			if s := impl.ReqText(one); (s != "") != want {
				t.Errorf("%s, with %s as well: %q", form.word, part, s)
			}
			none := justRequest(kind)
			reflect.ValueOf(&none).Elem().FieldByName(part).SetZero()
			must := want && slices.Contains([]string{"Ref", "Other", "Edits"}, part)
			if s := impl.ReqText(none); (s == "") != must || s != requestTextByHand(none) {
				t.Errorf("%s, with %s nothing: %q", form.word, part, s)
			}
		}
	}
}

// Each part that a kind has not, at values of all sorts, ok and not.
func TestTextOfWhatAKindHasNot(t *testing.T) {
	more := []func(*impl.ReqReq){}
	for _, n := range slices.Concat(noNumbers, []int{1, 2, 50, 99}) {
		more = append(more, func(r *impl.ReqReq) { r.Old = n }, func(r *impl.ReqReq) { r.Back = n }, func(r *impl.ReqReq) { r.From = n })
	}
	for _, s := range allRefs()[1:] {
		more = append(more, func(r *impl.ReqReq) { r.Ref = s }, func(r *impl.ReqReq) { r.Other = s })
	}
	for _, s := range rulePaths() {
		more = append(more, func(r *impl.ReqReq) { r.Path = s })
	}
	for _, rule := range []impl.RulRule{{User: 1}, {Ref: "a"}, {Path: "a"}, {Write: true}, {User: 5}, {Ref: "-"}, {Path: "/"}} {
		more = append(more, func(r *impl.ReqReq) { r.Rule = rule })
	}
	for _, edits := range [][]impl.TreEdit{{}, {{}}, {{Path: "a"}}, {{Path: "a", Gone: true}}, {{Gone: true}}, editsOf(4), editsOf(5)} {
		more = append(more, func(r *impl.ReqReq) { r.Edits = edits })
	}
	for kind := range kindHas {
		for _, turn := range more {
			r := justRequest(kind)
			turn(&r)
			if s := impl.ReqText(r); s != requestTextByHand(r) {
				t.Fatalf("%#v is written %q", r, s)
			}
		}
	}
}

// Parts that would write another request's text are no way in.
func TestTextOfWhatIsNotOk(t *testing.T) {
	edit := []impl.TreEdit{{Path: "x", Bytes: "A"}}
	for _, r := range []impl.ReqReq{
		{},
		{Kind: 12, Ref: "a"},
		{Kind: impl.ReqName, Ref: "a b"},
		{Kind: impl.ReqName, Ref: " a"},
		{Kind: impl.ReqName, Ref: "-"},
		{Kind: impl.ReqPut, Ref: "a 1", Edits: edit},
		{Kind: impl.ReqPut, Ref: "a 1 y=41", Edits: edit},
		{Kind: impl.ReqPut, Ref: "a", Edits: []impl.TreEdit{{Path: "x=41 y", Bytes: "A"}}},
		{Kind: impl.ReqPut, Ref: "a", Edits: []impl.TreEdit{{}}},
		{Kind: impl.ReqPut, Ref: "a", Edits: []impl.TreEdit{{Path: "x", Bytes: "A"}, {}}},
		{Kind: impl.ReqPut, Ref: "a", Edits: editsOf(5)},
		{Kind: impl.ReqLook, Ref: "a", Path: "-"},
		{Kind: impl.ReqLook, Ref: "a", Path: "x 1"},
		{Kind: impl.ReqLook, Ref: "a -"},
		{Kind: impl.ReqAllow, Rule: impl.RulRule{User: 5}},
		{Kind: impl.ReqAllow, Rule: impl.RulRule{Ref: "a b"}},
		{Kind: impl.ReqForbid, Rule: impl.RulRule{Path: "-"}},
		{Kind: impl.ReqReset, Ref: "a", Old: -1},
		{Kind: impl.ReqReset, Ref: "a", Back: 100},
		{Kind: impl.ReqCopy, Ref: "a", From: 100, Other: "b"},
		{Kind: impl.ReqCopy, Ref: "a", Other: "b c"},
		{Kind: impl.ReqUsed, User: 100},
		{Kind: impl.ReqUsed, Key: 10000},
		{Kind: impl.ReqRefs, Repo: -1},
	} {
		if s := impl.ReqText(r); s != "" {
			t.Errorf("%#v is written %q", r, s)
		}
	}
}

func TestTextOfAnyRequest(t *testing.T) {
	r := rand.New(rand.NewPCG(6, 78))
	seen := map[int]int{}
	texts := map[string]impl.ReqReq{}
	for range 40000 {
		q := anyRequest(r)
		s := impl.ReqText(q)
		if s != requestTextByHand(q) {
			t.Fatalf("%#v is written %q", q, s)
		}
		if s == "" {
			seen[0]++
			continue
		}
		seen[q.Kind]++
		if len(q.Edits) == 0 {
			q.Edits = nil
		}
		// No two requests have one text, or a line could not say which it is.
		if other, there := texts[s]; there && !reflect.DeepEqual(other, q) {
			t.Fatalf("%#v and %#v are both written %q", q, other, s)
		}
		texts[s] = q
		if len(s) > 200 || strings.Contains(s, "  ") || strings.TrimSpace(s) != s {
			t.Fatalf("%#v is written %q", q, s)
		}
	}
	for kind := range 12 {
		if seen[kind] < 200 {
			t.Fatal("too few were written:", seen)
		}
	}
}

func TestRequestsShareNoMemory(t *testing.T) {
	r := rand.New(rand.NewPCG(6, 7))
	fill := impl.TreEdit{Path: "filled", Bytes: "filled", Gone: true}
	for range 3000 {
		q := anyRequest(r)
		w := watch(q.Edits, fill)
		q.Edits = w.list
		before := q
		ok, writes, s := impl.ReqOk(q), impl.ReqWrites(q), impl.ReqText(q)
		for _, e := range q.Edits {
			impl.EdtText(e)
		}
		untouched(t, "ReqOk, ReqWrites, ReqText", w)
		if !reflect.DeepEqual(q, before) {
			t.Fatal("a request was turned")
		}
		// What was answered stays, whatever becomes of the list, and so does what is answered again.
		kept := strings.Clone(s)
		q.Edits = slices.Clone(w.list)
		scribble(w.whole, fill)
		if s != kept || impl.ReqOk(q) != ok || impl.ReqWrites(q) != writes || impl.ReqText(q) != s {
			t.Fatalf("%#v is answered otherwise behind it", q)
		}
	}
}
