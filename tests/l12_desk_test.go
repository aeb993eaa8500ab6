package tests

import (
	"encoding/hex"
	"fmt"
	"math"
	"math/rand/v2"
	"reflect"
	"regexp"
	"runtime"
	"slices"
	"strconv"
	"strings"
	"testing"

	"loop.example/chartulary/impl"
)

// How a request's line is written, by its word, behind USER KEY REPO.
const (
	numberLine = `(?:0|[1-9][0-9]?)`
	nameLine   = `[a-z]{1,3}`
	pathLine   = nameLine + `(?:/` + nameLine + `){0,2}`
	editLine   = pathLine + `(?:!|=-|=(?:[0-9a-f]{2}){1,6})`
	ruleLine   = `[0-4] (?:-|` + nameLine + `) (?:-|` + pathLine + `) (?:read|write)`
	aheadLine  = numberLine + ` (?:0|[1-9][0-9]{0,3}) ` + numberLine + ` `
)

var (
	requestForms = map[int]*regexp.Regexp{
		impl.ReqPut:    requestForm(`put ` + nameLine + ` ` + numberLine + `(?: ` + editLine + `){1,4}`),
		impl.ReqLook:   requestForm(`look ` + nameLine + ` (?:-|` + pathLine + `) ` + numberLine),
		impl.ReqRefs:   requestForm(`refs`),
		impl.ReqAllow:  requestForm(`allow ` + ruleLine),
		impl.ReqForbid: requestForm(`forbid ` + ruleLine),
		impl.ReqName:   requestForm(`name ` + nameLine),
		impl.ReqDrop:   requestForm(`drop ` + nameLine),
		impl.ReqGuard:  requestForm(`guard ` + nameLine),
		impl.ReqReset:  requestForm(`reset ` + nameLine + ` ` + numberLine + ` ` + numberLine),
		impl.ReqCopy:   requestForm(`copy ` + nameLine + ` ` + numberLine + ` ` + numberLine + ` ` + nameLine),
		impl.ReqUsed:   requestForm(`used`),
	}
	userForm = regexp.MustCompile(`\A(step|leave) (0|[1-9][0-9]{0,3})\z`)
	fallForm = regexp.MustCompile(`\Afall((?: (?:keep|lose))*)\z`)
)

func requestForm(behind string) *regexp.Regexp {
	return regexp.MustCompile(`\A` + aheadLine + behind + `\z`)
}

func numberByHand(s string) int {
	n, err := strconv.Atoi(s)
	if err != nil {
		panic(s)
	}
	return n
}

func editsByHand(words []string) []impl.TreEdit {
	var edits []impl.TreEdit
	for _, word := range words {
		path, digits, _ := strings.Cut(word, "=")
		e := impl.TreEdit{Path: strings.TrimSuffix(path, "!"), Gone: strings.HasSuffix(path, "!")}
		if digits != "-" {
			b, err := hex.DecodeString(digits)
			if err != nil {
				panic(word)
			}
			e.Bytes = string(b)
		}
		edits = append(edits, e)
	}
	return edits
}

func emptyOfDash(s string) string {
	if s == "-" {
		return ""
	}
	return s
}

// readLineByHand reads a request, part by part, once its form is that of its kind.
func readLineByHand(line string) (impl.ReqReq, bool) {
	if len(line) > 200 {
		return impl.ReqReq{}, false
	}
	for kind, form := range requestForms {
		if !form.MatchString(line) {
			continue
		}
		words := strings.Split(line, " ")
		q := impl.ReqReq{User: numberByHand(words[0]), Key: numberByHand(words[1]), Repo: numberByHand(words[2]), Kind: kind}
		words = words[4:]
		switch kind {
		case impl.ReqPut:
			q.Ref, q.Old, q.Edits = words[0], numberByHand(words[1]), editsByHand(words[2:])
		case impl.ReqLook:
			q.Ref, q.Path, q.Back = words[0], emptyOfDash(words[1]), numberByHand(words[2])
		case impl.ReqAllow, impl.ReqForbid:
			q.Rule = impl.RulRule{User: numberByHand(words[0]), Ref: emptyOfDash(words[1]), Path: emptyOfDash(words[2]), Write: words[3] == "write"}
		case impl.ReqName, impl.ReqDrop, impl.ReqGuard:
			q.Ref = words[0]
		case impl.ReqReset:
			q.Ref, q.Old, q.Back = words[0], numberByHand(words[1]), numberByHand(words[2])
		case impl.ReqCopy:
			q.Ref, q.Old, q.From, q.Other = words[0], numberByHand(words[1]), numberByHand(words[2]), words[3]
		}
		return q, true
	}
	return impl.ReqReq{}, false
}

// eventLineByHand is what a line is.
func eventLineByHand(line string) (impl.EvtEvent, bool) {
	if len(line) > 200 {
		return impl.EvtEvent{}, false
	}
	for word, kind := range map[string]int{"do ": impl.EvtDo, "start ": impl.EvtStart} {
		if behind, is := strings.CutPrefix(line, word); is {
			if q, ok := readLineByHand(behind); ok {
				return impl.EvtEvent{Kind: kind, Req: q}, true
			}
			return impl.EvtEvent{}, false
		}
	}
	if parts := userForm.FindStringSubmatch(line); parts != nil {
		return impl.EvtEvent{Kind: map[string]int{"step": impl.EvtStep, "leave": impl.EvtLeave}[parts[1]], User: numberByHand(parts[2])}, true
	}
	if parts := fallForm.FindStringSubmatch(line); parts != nil {
		e := impl.EvtEvent{Kind: impl.EvtFall}
		for _, word := range strings.Fields(parts[1]) {
			e.Keep = append(e.Keep, word == "keep")
		}
		return e, true
	}
	return impl.EvtEvent{Kind: impl.EvtSweep}, line == "sweep"
}

// lineOf writes what happens as a line; of what has none it writes a line that is none.
func lineOf(e impl.EvtEvent) string {
	switch e.Kind {
	case impl.EvtDo, impl.EvtStart:
		text := requestTextByHand(keepParts(e.Req, kindHas[e.Req.Kind].has))
		return map[int]string{impl.EvtDo: "do ", impl.EvtStart: "start "}[e.Kind] + text
	case impl.EvtStep:
		return fmt.Sprint("step ", e.User)
	case impl.EvtLeave:
		return fmt.Sprint("leave ", e.User)
	case impl.EvtSweep:
		return "sweep"
	case impl.EvtFall:
		line := "fall"
		for _, kept := range e.Keep {
			line += map[bool]string{true: " keep", false: " lose"}[kept]
		}
		return line
	}
	return fmt.Sprint("kind ", e.Kind)
}

func answerByHand(a impl.AnsAnswer) []string {
	if !inRange(a.Code, 1, 11) || !inRange(a.N, 0, 9999) {
		return nil
	}
	lines := []string{fmt.Sprintf("code %d number %d", a.Code, a.N)}
	for _, file := range a.Files {
		digits := hex.EncodeToString([]byte(file.Bytes))
		if digits == "" {
			digits = "-"
		}
		lines = append(lines, fmt.Sprintf("file %s %s", file.Path, digits))
	}
	for _, name := range a.Names {
		lines = append(lines, fmt.Sprintf("ref %s", name))
	}
	return lines
}

// toldByHand is what each line answers, from HseNew on; nothing, if that is nothing.
func toldByHand(keys, admins []int, lines []string) [][]string {
	h := impl.HseNew(keys, admins)
	var told [][]string
	for i, line := range lines {
		e, is := eventLineByHand(line)
		if !is {
			told = append(told, []string{fmt.Sprint("line ", i+1)})
			continue
		}
		var a impl.AnsAnswer
		var answers bool
		h, a, answers = impl.EvtHappens(h, e)
		if !answers {
			a = impl.AnsAnswer{}
		}
		told = append(told, answerByHand(a))
	}
	return told
}

// askLine asks what a line is of both that read lines.
func askLine(t *testing.T, line string) (bool, bool) {
	t.Helper()
	q, isRequest := impl.DskReq(line)
	if want, is := readLineByHand(line); isRequest != is || !same(q, want) {
		t.Fatalf("DskReq of %q: %#v, %v; not %#v, %v", line, q, isRequest, want, is)
	}
	e, isEvent := impl.DskEvent(line)
	want, is := eventLineByHand(line)
	if !is {
		want = impl.EvtEvent{}
	}
	if isEvent != is || !same(e, want) {
		t.Fatalf("DskEvent of %q: %#v, %v; not %#v, %v", line, e, isEvent, want, is)
	}
	return isRequest, isEvent
}

// noLine asks that a line is neither.
func noLine(t *testing.T, line string) {
	t.Helper()
	if isRequest, isEvent := askLine(t, line); isRequest || isEvent {
		t.Fatalf("%q is a line: %v, %v", line, isRequest, isEvent)
	}
}

func TestLimitOfLines(t *testing.T) {
	if impl.DskMaxLines != 200 {
		t.Fatal(impl.DskMaxLines)
	}
}

func TestRequestLinesByHand(t *testing.T) {
	rule := impl.RulRule{User: 2, Ref: "a", Path: "pub"}
	for line, want := range map[string]impl.ReqReq{
		"1 10 0 put a 0 pub/x=41 own=42":     {User: 1, Key: 10, Kind: impl.ReqPut, Ref: "a", Edits: []impl.TreEdit{{Path: "pub/x", Bytes: "A"}, {Path: "own", Bytes: "B"}}},
		"1 10 0 put a 14 x! y=- x! x=000aff": {User: 1, Key: 10, Kind: impl.ReqPut, Ref: "a", Old: 14, Edits: []impl.TreEdit{{Path: "x", Gone: true}, {Path: "y"}, {Path: "x", Gone: true}, {Path: "x", Bytes: "\x00\n\xff"}}},
		"2 11 0 look a - 0":                  {User: 2, Key: 11, Kind: impl.ReqLook, Ref: "a"},
		"2 11 3 look abc a/b/c 99":           {User: 2, Key: 11, Repo: 3, Kind: impl.ReqLook, Ref: "abc", Path: "a/b/c", Back: 99},
		"3 1 0 refs":                         {User: 3, Key: 1, Kind: impl.ReqRefs},
		"1 10 0 allow 2 a pub read":          {User: 1, Key: 10, Kind: impl.ReqAllow, Rule: rule},
		"1 10 0 allow 0 - - write":           {User: 1, Key: 10, Kind: impl.ReqAllow, Rule: impl.RulRule{Write: true}},
		"1 10 0 forbid 2 a pub read":         {User: 1, Key: 10, Kind: impl.ReqForbid, Rule: rule},
		"99 9999 99 name abc":                {User: 99, Key: 9999, Repo: 99, Kind: impl.ReqName, Ref: "abc"},
		"0 0 0 drop a":                       {Kind: impl.ReqDrop, Ref: "a"},
		"1 10 2 guard zz":                    {User: 1, Key: 10, Repo: 2, Kind: impl.ReqGuard, Ref: "zz"},
		"1 10 0 reset a 2 1":                 {User: 1, Key: 10, Kind: impl.ReqReset, Ref: "a", Old: 2, Back: 1},
		"1 10 0 copy a 1 2 b":                {User: 1, Key: 10, Kind: impl.ReqCopy, Ref: "a", Old: 1, From: 2, Other: "b"},
		"1 10 0 used":                        {User: 1, Key: 10, Kind: impl.ReqUsed},
	} {
		if q, ok := impl.DskReq(line); !ok || !same(q, want) {
			t.Errorf("DskReq of %q: %#v, %v", line, q, ok)
		}
		if e, ok := impl.DskEvent(line); ok || !same(e, impl.EvtEvent{}) {
			t.Errorf("DskEvent of %q: %#v", line, e)
		}
		for word, kind := range map[string]int{"do ": impl.EvtDo, "start ": impl.EvtStart} {
			if e, ok := impl.DskEvent(word + line); !ok || !same(e, impl.EvtEvent{Kind: kind, Req: want}) {
				t.Errorf("DskEvent of %q: %#v, %v", word+line, e, ok)
			}
			if q, ok := impl.DskReq(word + line); ok || !same(q, impl.ReqReq{}) {
				t.Errorf("DskReq of %q: %#v", word+line, q)
			}
		}
	}
}

func TestEventLinesByHand(t *testing.T) {
	for line, want := range map[string]impl.EvtEvent{
		"step 0":                             {Kind: impl.EvtStep},
		"step 1":                             {Kind: impl.EvtStep, User: 1},
		"step 4":                             {Kind: impl.EvtStep, User: 4},
		"step 10":                            {Kind: impl.EvtStep, User: 10},
		"step 999":                           {Kind: impl.EvtStep, User: 999},
		"step 1000":                          {Kind: impl.EvtStep, User: 1000},
		"step 9999":                          {Kind: impl.EvtStep, User: 9999},
		"leave 0":                            {Kind: impl.EvtLeave},
		"leave 2":                            {Kind: impl.EvtLeave, User: 2},
		"leave 9999":                         {Kind: impl.EvtLeave, User: 9999},
		"sweep":                              {Kind: impl.EvtSweep},
		"fall":                               {Kind: impl.EvtFall},
		"fall keep":                          {Kind: impl.EvtFall, Keep: []bool{true}},
		"fall lose":                          {Kind: impl.EvtFall, Keep: []bool{false}},
		"fall keep lose":                     {Kind: impl.EvtFall, Keep: []bool{true, false}},
		"fall lose lose keep":                {Kind: impl.EvtFall, Keep: []bool{false, false, true}},
		"fall" + strings.Repeat(" keep", 39): {Kind: impl.EvtFall, Keep: repeated(true, 39)},
		"fall" + strings.Repeat(" lose", 39): {Kind: impl.EvtFall, Keep: repeated(false, 39)},
	} {
		if e, ok := impl.DskEvent(line); !ok || !same(e, want) {
			t.Errorf("DskEvent of %q: %#v, %v", line, e, ok)
		}
		if q, ok := impl.DskReq(line); ok || !same(q, impl.ReqReq{}) {
			t.Errorf("DskReq of %q: %#v", line, q)
		}
	}
}

// What is no line, though nearly one.
func TestLinesThatAreNone(t *testing.T) {
	for _, line := range []string{
		"", " ", "  ", "-", "\n", "\x00", "\xff", "x", "é", "no house", "long", "line 1", "code 1 number 0", "# sweep",
		"do", "do ", "do  ", "start", "start ", "do do 1 10 0 used", "start do 1 10 0 used", "do start 1 10 0 used", "Do 1 10 0 used", "DO 1 10 0 used", "do1 10 0 used", "do\t1 10 0 used",
		"do 1 10 used", "do 1 10 0", "do 1 10 0 ", "do 1 10 0 use", "do 1 10 0 useds", "do 1 10 0 used 1", "do 1 10 0 used -", "do 1 10 0 refs a", "do 1 10 0 USED", "do used 1 10 0", "do - 10 0 used",
		"do 01 10 0 used", "do 1 010 0 used", "do 1 10 00 used", "do -1 10 0 used", "do +1 10 0 used", "do 1 -10 0 used", "do 1 10 -0 used", "do 100 10 0 used", "do 1 10000 0 used", "do 1 10 100 used", "do 1.0 10 0 used", "do 1 1e1 0 used", "do 0x1 10 0 used", "do 1_0 10 0 used", "do 99999999999999999999 10 0 used",
		"do 1 10 0 put a 0", "do 1 10 0 put a 0 ", "do 1 10 0 put a x=41", "do 1 10 0 put 0 x=41", "do 1 10 0 put - 0 x=41", "do 1 10 0 put a 0 x", "do 1 10 0 put a 0 x=", "do 1 10 0 put a 0 =41", "do 1 10 0 put a 0 x=4", "do 1 10 0 put a 0 x=4A", "do 1 10 0 put a 0 x!41", "do 1 10 0 put a 0 x=41,y=42",
		"do 1 10 0 put a 0 a! b! c! d! e!", "do 1 10 0 put a 0 x=41424344454647", "do 1 10 0 put a 0 a/b/c/d=41", "do 1 10 0 put abcd 0 x=41", "do 1 10 0 put a 100 x=41", "do 1 10 0 put a 00 x=41", "do 1 10 0 put a -0 x=41", "do 1 10 0 put a 0 -=41", "do 1 10 0 put a 0 /=41",
		"do 1 10 0 look a 0", "do 1 10 0 look a - ", "do 1 10 0 look a -", "do 1 10 0 look a  0", "do 1 10 0 look - - 0", "do 1 10 0 look a - 0 0", "do 1 10 0 look a / 0", "do 1 10 0 look a x/ 0", "do 1 10 0 look a - 100", "do 1 10 0 look a - -1", "do 1 10 0 look a a/b/c/d 0", "do 1 10 0 look a -- 0",
		"do 1 10 0 allow", "do 1 10 0 allow 5 - - read", "do 1 10 0 allow - - - read", "do 1 10 0 allow 0 - - reads", "do 1 10 0 allow 0 - -", "do 1 10 0 allow 0 - - read write", "do 1 10 0 allow 0 - - read read", "do 1 10 0 allow 00 - - read", "do 1 10 0 allow -0 - - read", "do 1 10 0 allow +0 - - read", "do 1 10 0 forbid 0   read", "do 1 10 0 forbid 0 - - ", "do 1 10 0 forbid 0 abcd - read",
		"do 1 10 0 name", "do 1 10 0 name ", "do 1 10 0 name -", "do 1 10 0 name abcd", "do 1 10 0 name a b", "do 1 10 0 name A", "do 1 10 0 drop -", "do 1 10 0 drop a 0", "do 1 10 0 guard", "do 1 10 0 guard a/b",
		"do 1 10 0 reset a 1", "do 1 10 0 reset a 1 1 1", "do 1 10 0 reset - 1 1", "do 1 10 0 reset a - 1", "do 1 10 0 reset a 1 -1", "do 1 10 0 reset a 1 100", "do 1 10 0 copy a 1 0", "do 1 10 0 copy a 1 0 -", "do 1 10 0 copy - 1 0 b", "do 1 10 0 copy a 1 b 0", "do 1 10 0 copy a 1 100 b", "do 1 10 0 copy a 1 0 b c",
		"step", "step ", "step  1", "step 1 ", " step 1", "step 1 1", "step 01", "step 00", "step 0001", "step -1", "step -0", "step +1", "step 10000", "step 99999", "step 00000", "step 1.0", "step 1e1", "step x", "step -", "step 0x1", "step 1_0", "step 1\n", "step\t1", "step ١", "step 1x", "step\x001", "steps 1", "Step 1", "step1", "step 18446744073709551617", "step 4294967297", "step -9223372036854775808",
		"leave", "leave ", "leave  1", "leave 1 ", " leave 1", "leave 1 1", "leave 01", "leave 00", "leave -1", "leave -999", "leave +1", "leave +999", "leave 10000", "leave x", "leaves 1", "leave1", "leave 1.0", "leave 18446744073709551617",
		"sweep ", " sweep", "sweep 1", "sweep x", "sweep sweep", "sweeps", "swee", "Sweep", "SWEEP", "sweep\n", "sweep\x00", "sweep-", "sweep  x", "sweep keep",
		"fall ", " fall", "falls", "Fall", "fall x", "fall 1", "fall -", "fall  keep", "fall keep ", "fall keep  lose", "fall keep x", "fall x keep", "fall keeps", "fall Keep", "fall kee", "fall keep,lose", "fall keeplose", "fallkeep", "fall keep\n", "fall\tkeep", "fall true", "fall keep fall", "fall fall", "fall los", "fall loses", "fall keep lose  x", "keep", "lose", "keep lose", "fall\n",
		"1 10 0", "1 10 0 used ", " 1 10 0 used", "1  10 0 used", "1 10 0  used", "1 10 0 used\n", "1 10 0 used used", "01 10 0 used", "-0 10 0 used", "1 10 0 put a 0", "1 10 0 name -", "1 10000 0 used", "100 10 0 used",
	} {
		noLine(t, line)
		if got := impl.DskRun([]int{10}, []int{1}, []string{line}); !slices.Equal(got, []string{"line 1"}) {
			t.Errorf("DskRun of %q: %q", line, got)
		}
	}
}

// goodLines is a line of each form.
func goodLines() []string {
	lines := []string{"sweep", "step 0", "step 7", "step 9999", "leave 0", "leave 40", "leave 1234", "fall", "fall keep", "fall lose", "fall keep lose keep"}
	for kind := 1; kind <= 11; kind++ {
		text := requestTextByHand(justRequest(kind))
		lines = append(lines, text, "do "+text, "start "+text)
	}
	return append(lines, "do 0 0 0 put abc 10 a/b/c=000102030405 a! zz=- b/c!", "start 99 9999 99 look a - 0", "do 1 10 0 allow 0 - - read")
}

// At each place each byte more, or in place of another one; and each byte, and each word, less, twice, or before the one ahead.
func TestLinesWithAByteOfAnother(t *testing.T) {
	t.Parallel()
	seen := map[bool]int{}
	ask := func(line string) {
		t.Helper()
		isRequest, isEvent := askLine(t, line)
		seen[isRequest || isEvent]++
		if isRequest && isEvent {
			t.Fatalf("%q is both", line)
		}
	}
	for _, line := range goodLines() {
		ask(line)
		for at := range len(line) + 1 {
			for b := range 256 {
				one := string([]byte{byte(b)})
				ask(line[:at] + one + line[at:])
				if at < len(line) {
					ask(line[:at] + one + line[at+1:])
				}
			}
			if at < len(line) {
				ask(line[:at] + line[at+1:])
				ask(line[:at])
				ask(line[at:])
			}
		}
		words := strings.Split(line, " ")
		for at := range words {
			ask(strings.Join(slices.Delete(slices.Clone(words), at, at+1), " "))
			ask(strings.Join(slices.Insert(slices.Clone(words), at, words[at]), " "))
			ask(strings.Join(slices.Insert(slices.Clone(words), at, ""), " "))
			for _, word := range []string{"-", "0", "1", "a", "x=41", "x!", "read", "keep", "lose", "sweep", "step", "do", "00", "100", "9999", "10000"} {
				ask(strings.Join(slices.Insert(slices.Clone(words), at, word), " "))
				with := slices.Clone(words)
				with[at] = word
				ask(strings.Join(with, " "))
				ask(strings.Join(append(slices.Clone(words), word), " "))
			}
		}
		noLine(t, " "+line)
		noLine(t, line+" ")
		noLine(t, line+"\n")
		noLine(t, strings.ToUpper(line))
	}
	if seen[true] < 5000 || seen[false] < 100000 {
		t.Fatal("too few were asked:", seen)
	}
}

// Lines of any words, and of any bytes.
func TestAnyLines(t *testing.T) {
	t.Parallel()
	r := rand.New(rand.NewPCG(13, 1))
	words := []string{"do", "start", "step", "leave", "sweep", "fall", "keep", "lose", "0", "1", "10", "99", "a", "b", "-", "x=41", "y!", "put", "look", "refs", "allow", "name", "reset", "copy", "used", "read", "write", "", "00", "x/y", "9999"}
	seen := map[bool]int{}
	for range 200000 {
		var list []string
		for range r.IntN(10) {
			list = append(list, oneOf(r, words))
		}
		if r.IntN(3) == 0 {
			list = append([]string{oneOf(r, []string{"do", "start"}), "1", "10", "0"}, list...)
		}
		isRequest, isEvent := askLine(t, strings.Join(list, " "))
		seen[isRequest || isEvent]++
	}
	for range 20000 {
		b := make([]byte, r.IntN(30))
		for i := range b {
			b[i] = byte(r.IntN(256))
		}
		askLine(t, string(b))
	}
	if seen[true] < 1000 || seen[false] < 1000 {
		t.Fatal("too few were asked:", seen)
	}
}

// No thing has a line of just 200 bytes; the longest, of 199, is one, and what is longer than 200 is none.
func TestHowLongLinesAre(t *testing.T) {
	for n := range 300 {
		for _, word := range []string{" keep", " lose"} {
			line := "fall" + strings.Repeat(word, n)
			e, is := impl.DskEvent(line)
			if is != (n < 40) || is && len(e.Keep) != n || !is && !same(e, impl.EvtEvent{}) {
				t.Fatalf("fall and %d words, %d bytes: %v, %d", n, len(line), is, len(e.Keep))
			}
			askLine(t, line)
		}
	}
	for _, n := range []int{198, 199, 200, 201, 202, 1000, 1000000} {
		for _, line := range goodLines() {
			if len(line) > n {
				continue
			}
			for _, fill := range []string{" ", "0", "a", "-", "\x00", "\xff", "/", "="} {
				pad := strings.Repeat(fill, n-len(line))
				noLine(t, line+pad)
				noLine(t, pad+line)
			}
			long := line + strings.Repeat(" keep", (n-len(line))/5)
			askLine(t, long+strings.Repeat(" ", n-len(long)))
		}
		noLine(t, strings.Repeat("do ", n/3)+strings.Repeat(" ", n%3))
		noLine(t, strings.Repeat("9", n))
		noLine(t, "step "+strings.Repeat("0", n-5))
	}
	longest := "do 99 9999 99 put abc 99" + strings.Repeat(" abc/abc/abc=0123456789ab", 4)
	if e, is := impl.DskEvent(longest); !is || len(e.Req.Edits) != 4 || len(longest) != 124 {
		t.Fatalf("%q, %d bytes: %#v, %v", longest, len(longest), e, is)
	}
	noLine(t, longest+" x=41")
}

func TestAnswersByHand(t *testing.T) {
	for _, c := range []struct {
		a    impl.AnsAnswer
		want []string
	}{
		{impl.AnsAnswer{}, nil},
		{impl.AnsAnswer{Code: 1}, []string{"code 1 number 0"}},
		{impl.AnsAnswer{Code: 11}, []string{"code 11 number 0"}},
		{impl.AnsAnswer{Code: 12}, nil},
		{impl.AnsAnswer{Code: -1}, nil},
		{impl.AnsAnswer{Code: 1, N: 9999}, []string{"code 1 number 9999"}},
		{impl.AnsAnswer{Code: 1, N: 10000}, nil},
		{impl.AnsAnswer{Code: 1, N: -1}, nil},
		{impl.AnsAnswer{N: 5, Files: []impl.TreFile{{Path: "a", Bytes: "x"}}, Names: []string{"a"}}, nil},
		{impl.AnsAnswer{Code: 1, N: 10, Files: []impl.TreFile{{Path: "own", Bytes: "B"}, {Path: "pub/x"}, {Path: "z", Bytes: "\x00\x0a\xff"}}},
			[]string{"code 1 number 10", "file own 42", "file pub/x -", "file z 000aff"}},
		{impl.AnsAnswer{Code: 1, Names: []string{"a", "abc"}}, []string{"code 1 number 0", "ref a", "ref abc"}},
		{impl.AnsAnswer{Code: 7, N: 3, Names: []string{"b", "a", "b"}, Files: []impl.TreFile{{Path: "b", Bytes: "y"}, {Path: "a", Bytes: "x"}, {Path: "b", Bytes: "y"}}},
			[]string{"code 7 number 3", "file b 79", "file a 78", "file b 79", "ref b", "ref a", "ref b"}},
		// Files and names that are not ok are told like others.
		{impl.AnsAnswer{Code: 2, Files: []impl.TreFile{{}, {Path: "A/ -", Bytes: "1234567"}, {Path: "-", Bytes: "-"}}, Names: []string{"", "-", "a b", "abcd"}},
			[]string{"code 2 number 0", "file  -", "file A/ - 31323334353637", "file - 2d", "ref ", "ref -", "ref a b", "ref abcd"}},
	} {
		if got := impl.DskAnswer(c.a); !slices.Equal(got, c.want) {
			t.Errorf("%#v is told %q, not %q", c.a, got, c.want)
		}
	}
}

// The example of the document.
func TestRunOfTheExample(t *testing.T) {
	lines := []string{
		"do 1 10 0 name a",
		"do 1 10 0 allow 1 - - write",
		"do 1 10 0 allow 2 a pub read",
		"do 1 10 0 put a 0 pub/x=41 own=42",
		"do 2 11 0 look a - 0",
		"start 1 10 0 put a 1 pub/y=41",
		"step 1",
		"sweep",
		"do 2 11 0 put a 1 pub/z=43",
		"fall lose",
		"do 1 10 0 look a - 0",
		"do 1 10 0 reset a 1 1",
		"do 1 10 0 put a 1 pub/z=43",
		"do 2 11 0 look a pub 1",
		"do 3 1 0 refs",
	}
	want := [][]string{
		{"code 1 number 0"},
		{"code 1 number 0"},
		{"code 1 number 0"},
		{"code 1 number 0"},
		{"code 1 number 1", "file pub/x 41"},
		nil,
		nil,
		nil,
		{"code 4 number 0"},
		nil,
		{"code 1 number 1", "file own 42", "file pub/x 41"},
		{"code 1 number 0"},
		{"code 6 number 0"},
		{"code 1 number 2", "file pub/x 41"},
		{"code 2 number 0"},
	}
	for n := range len(lines) + 1 {
		got := impl.DskRun([]int{10, 11, 12}, []int{1}, lines[:n])
		if !slices.Equal(got, slices.Concat(want[:n]...)) {
			t.Fatalf("of the first %d lines: %q, not %q", n, got, slices.Concat(want[:n]...))
		}
	}
}

// Each code, but that of a clash, is told by some line.
func TestRunOfEachCode(t *testing.T) {
	lines := []string{
		"do 1 10 0 used", "do 3 10 0 used", "do 1 10 2 refs", "do 2 11 0 name a", "do 1 10 0 allow 0 - - write", "do 1 10 0 put a 0 x=41", "do 1 10 0 name a", "do 1 10 0 put a 3 x=41", "do 1 10 0 put a 0 y!", "do 1 10 0 guard a", "do 1 10 0 drop a", "do 1 10 0 name b", "do 1 10 0 name c", "do 1 10 0 name d", "do 1 10 0 refs",
		"do 2 11 1 allow 1 - - write", "do 2 11 1 name a", "start 1 10 0 copy b 0 1 a", "step 2", "leave 2", "step 1", "step 1", "fall", "step 1",
	}
	old := 0
	var want []string
	for _, code := range []int{1, 2, 3, 4, 1, 5, 1, 6, 7, 1, 8, 1, 1, 9, 1} {
		want = append(want, fmt.Sprintf("code %d number 0", code))
	}
	want = append(want, "ref a", "ref b", "ref c", "code 1 number 0", "code 1 number 0", "code 1 number 0")
	for used := 0; used+25 <= 200; used += 25 {
		lines = append(lines, fmt.Sprintf("do 1 10 0 put a %d abc=313233343536 abd=313233343536 a=3132333435", old), "do 1 10 0 used")
		want = append(want, "code 1 number 0", fmt.Sprint("code 1 number ", 24+used*24/25))
		old++
	}
	lines = append(lines, fmt.Sprintf("do 1 10 0 put a %d abc=313233343536", old), "do 1 10 0 look a abd 0")
	want = append(want, "code 10 number 0", "code 1 number 8", "file abd 313233343536")
	if got := impl.DskRun([]int{10, 11}, []int{1, 2}, lines); !slices.Equal(got, want) {
		t.Fatalf("%q\nnot\n%q", got, want)
	}
}

// Texts with one id: the clash is told, and the run goes on as if the request had not been.
func TestRunGoesOnBehindAClashOfLines(t *testing.T) {
	lay := func(path, text string) string { return fmt.Sprintf(" %s=%x", path, text[1:]) }
	lines := []string{
		"do 1 10 0 name a", "do 1 10 0 allow 1 - - write",
		"do 1 10 0 put a 0" + lay("b", "Lnew") + lay("c", clashOne) + lay("d", clashTwo),
		"do 1 10 0 put a 0" + lay("b", "Lnew") + lay("d", clashTwo),
		"start 1 10 0 put a 1" + lay("c", clashOne), "step 1", "step 1", "sweep", "step 1",
		"do 1 10 0 look a - 0",
	}
	want := []string{
		"code 1 number 0", "code 1 number 0", "code 11 number 0", "code 1 number 0", "code 11 number 0",
		"code 1 number 1", "file b 6e6577", "file d " + hex.EncodeToString([]byte(clashTwo[1:])),
	}
	if got := impl.DskRun([]int{10}, []int{1}, lines); !slices.Equal(got, want) {
		t.Fatalf("%q\nnot\n%q", got, want)
	}
}

// What a sweep, a fall and a leave do is seen by whether a text that was put is still there, as another one has its id: each does just its own.
func TestWhatIsLeftBehindLines(t *testing.T) {
	lay := func(path, text string) string { return fmt.Sprintf(" %s=%x", path, text[1:]) }
	ahead := []string{"do 1 10 0 name a", "do 1 10 0 allow 0 - - write", "start 1 10 0 put a 0" + lay("c", clashOne), "step 1"}
	behind := "do 2 11 0 put a 0" + lay("d", clashTwo)
	sweeps := func(n int) []string { return slices.Repeat([]string{"sweep"}, n) }
	for _, c := range []struct {
		between []string
		code    int
	}{
		{nil, 11},
		{[]string{"leave 1"}, 11},
		{[]string{"fall"}, 1},
		{[]string{"fall lose"}, 1},
		{[]string{"fall lose keep"}, 1},
		{[]string{"fall keep"}, 11},
		{[]string{"fall keep lose"}, 11},
		{[]string{"falls"}, 11},
		// The sweeping sets out, marks the one sheet, sees that no more is Grey, and takes the leaf out.
		{append([]string{"leave 1"}, sweeps(3)...), 11},
		{append([]string{"leave 1"}, sweeps(4)...), 1},
		{append([]string{"leave 1", "sweep "}, sweeps(3)...), 11},
		{append([]string{"fall keep"}, sweeps(3)...), 11},
		{append([]string{"fall keep"}, sweeps(4)...), 1},
		{append([]string{"leave 2"}, sweeps(30)...), 11},
		{append([]string{"leave 0"}, sweeps(30)...), 11},
		{append([]string{"leave 01"}, sweeps(30)...), 11},
		{append([]string{"leave 9999"}, sweeps(30)...), 11},
		{sweeps(30), 11},
	} {
		lines := slices.Concat(ahead, c.between, []string{behind})
		got := impl.DskRun([]int{10, 11}, []int{1}, lines)
		if want := slices.Concat(toldByHand([]int{10, 11}, []int{1}, lines)...); !slices.Equal(got, want) {
			t.Fatalf("%q tell %q, not %q", lines, got, want)
		}
		if last := got[len(got)-1]; last != fmt.Sprintf("code %d number 0", c.code) {
			t.Fatalf("%q: the last one tells %q", lines, last)
		}
	}
}

func TestHowManyLinesRun(t *testing.T) {
	for _, line := range []string{"sweep", "do 1 10 0 used", "do 3 1 0 refs", "", "x", strings.Repeat("sweep ", 50), "fall keep", "step 1"} {
		for _, n := range []int{0, 1, 2, 199, 200, 201, 202, 400, 100000} {
			lines := slices.Repeat([]string{line}, n)
			got := impl.DskRun([]int{10, 11}, []int{1}, lines)
			if n > 200 {
				if !slices.Equal(got, []string{"long"}) {
					t.Fatalf("%d times %q: %q", n, line, got)
				}
				continue
			}
			if want := slices.Concat(toldByHand([]int{10, 11}, []int{1}, lines)...); !slices.Equal(got, want) {
				t.Fatalf("%d times %q: %q", n, line, got)
			}
		}
	}
	if got := impl.DskRun([]int{10}, []int{1}, nil); len(got) != 0 {
		t.Fatalf("no lines: %q", got)
	}
	got := impl.DskRun([]int{10}, []int{1}, slices.Repeat([]string{"x"}, 200))
	if len(got) != 200 || got[0] != "line 1" || got[99] != "line 100" || got[199] != "line 200" {
		t.Fatalf("%q", got)
	}
}

// No house, whatever the lines; that there are too many of them is told only behind it.
func TestLinesOfNoHouse(t *testing.T) {
	lineLists := [][]string{nil, {}, {"sweep"}, {"x"}, {"do 1 10 0 used"}, slices.Repeat([]string{"sweep"}, 200), slices.Repeat([]string{"sweep"}, 201)}
	for _, c := range []struct{ keys, admins []int }{
		{nil, nil}, {nil, []int{1}}, {[]int{}, []int{}}, {[]int{10}, nil}, {[]int{10}, []int{}},
		{[]int{0}, []int{1}}, {[]int{10000}, []int{1}}, {[]int{-1}, []int{1}}, {[]int{10, 0}, []int{1}}, {[]int{10, 10, 10, 10, 10}, []int{1}},
		{[]int{10}, []int{0}}, {[]int{10}, []int{2}}, {[]int{10}, []int{-1}}, {[]int{10}, []int{1, 1, 1, 1}}, {[]int{10, 11}, []int{1, 3}},
		{[]int{math.MaxInt}, []int{1}}, {[]int{10}, []int{math.MinInt}}, {make([]int, 100000), []int{1}}, {[]int{10}, make([]int, 100000)},
	} {
		for _, lines := range lineLists {
			if got := impl.DskRun(c.keys, c.admins, lines); !slices.Equal(got, []string{"no house"}) {
				t.Fatalf("%d keys, %d admins, %d lines: %q", len(c.keys), len(c.admins), len(lines), got)
			}
		}
	}
	for _, c := range []struct{ keys, admins []int }{{[]int{1}, []int{1}}, {[]int{9999}, []int{1, 1, 1}}, {[]int{1, 1, 1, 1}, []int{4, 1, 4}}} {
		for _, lines := range lineLists {
			got := impl.DskRun(c.keys, c.admins, lines)
			if slices.Contains(got, "no house") || slices.Contains(got, "long") != (len(lines) > 200) {
				t.Fatalf("%v, %v, %d lines: %q", c.keys, c.admins, len(lines), got)
			}
		}
	}
}

func TestLinesShareNoMemory(t *testing.T) {
	for _, line := range goodLines() {
		q, _ := impl.DskReq(line)
		again, _ := impl.DskReq(line)
		e, _ := impl.DskEvent(line)
		other, _ := impl.DskEvent(line)
		apart(t, line, []any{q, again, e, other})
		was := wholeOf(other)
		scribble(e.Keep, true)
		scribble(e.Req.Edits, impl.TreEdit{Path: "filled"})
		if !reflect.DeepEqual(wholeOf(other), was) {
			t.Fatalf("%q is read anew into what was read", line)
		}
		askLine(t, line)
	}
	fills := []any{77, "filled", impl.TreFile{Path: "filled", Bytes: "filled"}}
	for _, a := range []impl.AnsAnswer{
		{}, {Code: 12, Names: []string{"a"}}, {Code: 1}, {Code: 1, N: 10000, Names: []string{"a"}},
		{Code: 1, Files: []impl.TreFile{{Path: "a", Bytes: "x"}, {Path: "b"}}, Names: []string{"a", "b", "c"}},
		{Code: 1, Names: []string{"a", "b", "c"}},
	} {
		a = roomy(a, fills...)
		whole := wholeOf(a)
		got, again := impl.DskAnswer(a), impl.DskAnswer(a)
		apart(t, "DskAnswer", []any{got, again}, a)
		scribble(got, "written over")
		if !reflect.DeepEqual(wholeOf(a), whole) || !slices.Equal(again, impl.DskAnswer(a)) {
			t.Fatalf("%#v was written into", a)
		}
	}
	for i, c := range []struct {
		keys, admins []int
		lines        []string
	}{
		{[]int{10, 11}, []int{1}, []string{"do 1 10 0 name a", "do 1 10 0 allow 1 - - write", "start 1 10 0 put a 0 x=41", "step 1", "fall keep", "do 1 10 0 look a - 0", "x", "do 1 10 0 refs"}},
		{[]int{10, 11}, []int{1}, goodLines()},
		{[]int{10, 11}, []int{1}, nil},
		{[]int{10, 11}, []int{1}, slices.Repeat([]string{"x"}, 201)},
		{nil, []int{1}, []string{"x"}},
		{[]int{10, 11, 0}, []int{1}, []string{"x"}},
	} {
		keys, admins, lines := roomy(c.keys, fills...), roomy(c.admins, fills...), roomy(c.lines, fills...)
		wholes := []any{wholeOf(keys), wholeOf(admins), wholeOf(lines)}
		got, again := impl.DskRun(keys, admins, lines), impl.DskRun(keys, admins, lines)
		apart(t, "DskRun", []any{got, again}, keys, admins, lines)
		scribble(got, "written over")
		if !reflect.DeepEqual([]any{wholeOf(keys), wholeOf(admins), wholeOf(lines)}, wholes) || !slices.Equal(again, impl.DskRun(keys, admins, lines)) {
			t.Fatal(i, "was written into")
		}
	}
}

// No goroutine is left behind, and what is told once is told again, also by many at once.
func TestLinesAreAnsweredTheSameEachTime(t *testing.T) {
	before := runtime.NumGoroutine()
	i := 0
	for lines := range drawnLines(5, 12) {
		i++
		lines = lines[:min(len(lines), 60)]
		want := impl.DskRun(lineKeys, lineAdmins, lines)
		done := make(chan bool)
		for range 4 {
			go func() {
				done <- slices.Equal(impl.DskRun(lineKeys, lineAdmins, lines), want)
			}()
		}
		for range 4 {
			if !<-done {
				t.Fatalf("%q is answered otherwise", lines)
			}
		}
		if !quietened(before) {
			t.Fatal("of", before, "goroutines there are now", runtime.NumGoroutine())
		}
	}
	if i != 12 {
		t.Fatal("too few were asked:", i)
	}
}
