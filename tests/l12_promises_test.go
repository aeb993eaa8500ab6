package tests

import (
	"fmt"
	"iter"
	"math"
	"math/rand/v2"
	"slices"
	"strings"
	"testing"

	"loop.example/chartulary/impl"
)

// The keys and admins of firstHouse.
var (
	lineKeys   = []int{10, 11, 10, 12}
	lineAdmins = []int{1, 3}
)

// drawnLines is the lines of runs of each manner, in some of them with such as are spoilt.
func drawnLines(seed uint64, n int) iter.Seq[[]string] {
	return func(yield func([]string) bool) {
		r := rand.New(rand.NewPCG(14, seed))
		for run := range drawnRuns(seed+100, n) {
			var lines []string
			spoils := r.IntN(3) == 0
			for _, one := range run {
				line := lineOf(one.e)
				if spoils && r.IntN(20) == 0 {
					line = spoilt(r, line)
				}
				lines = append(lines, line)
			}
			if !yield(lines[:min(len(lines), 200)]) {
				return
			}
		}
	}
}

// spoilt is a line with a byte more, less, or another one; mostly it is none then.
func spoilt(r *rand.Rand, line string) string {
	const bytes = "  09-a=/x!\n"
	at, one := r.IntN(len(line)), bytes[r.IntN(len(bytes)):][:1]
	return oneOf(r, []string{line[:at] + one + line[at:], line[:at] + line[at+1:], line[:at] + one + line[at+1:], line + "  x"})
}

// P78.
func TestRequestLinesAreReadAsWritten(t *testing.T) {
	t.Parallel()
	r := rand.New(rand.NewPCG(14, 78))
	seen := map[int]int{}
	for range 60000 {
		q := anyRequest(r)
		line := impl.ReqText(q)
		got, ok := impl.DskReq(line)
		if line == "" {
			seen[0]++
			if ok || !same(got, impl.ReqReq{}) {
				t.Fatalf("the empty line is read %#v", got)
			}
			continue
		}
		seen[q.Kind]++
		if !ok || !same(got, q) {
			t.Fatalf("%#v is written %q and read %#v, %v", q, line, got, ok)
		}
		for range 3 {
			askBack(t, spoilt(r, line), seen)
		}
	}
	for kind := range 12 {
		if seen[kind] < 500 {
			t.Fatal("too few were asked:", seen)
		}
	}
	if seen[-1] < 500 || seen[-2] < 500 {
		t.Fatal("too few lines were asked:", seen)
	}
}

// askBack asks of any line that it is written again, if it is read.
func askBack(t *testing.T, line string, seen map[int]int) {
	t.Helper()
	q, ok := impl.DskReq(line)
	switch {
	case !ok:
		seen[-1]++
		if !same(q, impl.ReqReq{}) {
			t.Fatalf("%q is none, and read %#v", line, q)
		}
	default:
		seen[-2]++
		if !impl.ReqOk(q) || impl.ReqText(q) != line {
			t.Fatalf("%q is read %#v, which is written %q", line, q, impl.ReqText(q))
		}
	}
}

// P78, of all that a request may be at the bounds, kind by kind.
func TestRequestLinesAtTheBounds(t *testing.T) {
	for kind, form := range kindHas {
		for _, n := range someNumbers {
			for _, key := range someKeys {
				q := justRequest(kind)
				q.User, q.Repo, q.Key = n, 99-n, key
				q.Old, q.Back, q.From = n, 99-n, n
				q = keepParts(q, form.has)
				got, ok := impl.DskReq(impl.ReqText(q))
				if !ok || !same(got, q) {
					t.Fatalf("%#v is read %#v, %v", q, got, ok)
				}
			}
		}
		for _, s := range someRefs[1:] {
			q := justRequest(kind)
			q.Ref, q.Other, q.Path, q.Rule.Ref = s, s, s+"/"+s+"/"+s, s
			q = keepParts(q, form.has)
			if got, ok := impl.DskReq(impl.ReqText(q)); !ok || !same(got, q) {
				t.Fatalf("%#v is read %#v, %v", q, got, ok)
			}
		}
		// What a kind has not, and what is not ok, has no text, and so no line.
		if got, ok := impl.DskReq(impl.ReqText(fullRequest(kind))); ok || !same(got, impl.ReqReq{}) {
			t.Fatalf("%#v is read %#v", fullRequest(kind), got)
		}
	}
	for n := range 6 {
		q := impl.ReqReq{Kind: impl.ReqPut, Ref: "a", Edits: editsOf(n)}
		if got, ok := impl.DskReq(impl.ReqText(q)); ok != inRange(n, 1, 4) || ok && !same(got, q) {
			t.Fatalf("%d edits are read %#v, %v", n, got, ok)
		}
	}
}

// P79, and that a line is one thing: it begins with the one word of it, and is no request alone.
func TestTwoSpacesAndXBehindALine(t *testing.T) {
	t.Parallel()
	r := rand.New(rand.NewPCG(14, 79))
	seen := map[int]int{}
	ask := func(line string) {
		t.Helper()
		for _, behind := range []string{"  x", " ", "  ", " x", "  x  x"} {
			if e, is := impl.DskEvent(line + behind); is || !same(e, impl.EvtEvent{}) {
				t.Fatalf("%q is %#v", line+behind, e)
			}
			if q, is := impl.DskReq(line + behind); is || !same(q, impl.ReqReq{}) {
				t.Fatalf("%q is %#v", line+behind, q)
			}
		}
		e, is := impl.DskEvent(line)
		_, isRequest := impl.DskReq(line)
		if is && isRequest {
			t.Fatalf("%q is both", line)
		}
		if is && lineOf(e) != line {
			t.Fatalf("%q is %#v, of which the line is %q", line, e, lineOf(e))
		}
		seen[e.Kind]++
	}
	for _, line := range goodLines() {
		ask(line)
	}
	for run := range drawnRuns(79, 16) {
		for _, one := range run {
			ask(lineOf(one.e))
			ask(spoilt(r, lineOf(one.e)))
		}
	}
	for range 5000 {
		b := make([]byte, r.IntN(40))
		for i := range b {
			b[i] = byte(r.IntN(256))
		}
		ask(string(b))
	}
	for kind := range 7 {
		if seen[kind] < 10 {
			t.Fatal("too few were asked:", seen)
		}
	}
}

// P80, with files and names that are not ok, too.
func TestAnswersHaveALineForEach(t *testing.T) {
	r := rand.New(rand.NewPCG(14, 80))
	codes := []int{1, 2, 3, 4, 5, 6, 7, 8, 9, 10, 11}
	noCodes := []int{0, -1, 12, 13, -11, 99, 255, 257, 1 << 32, 1<<32 + 1, math.MaxInt, math.MinInt}
	numbers := []int{0, 1, 9, 10, 99, 100, 999, 1000, 9998, 9999}
	noNumbers := []int{-1, 10000, 10001, -9999, 65536, 1 << 32, math.MaxInt, math.MinInt}
	seen := map[string]int{}
	for range 20000 {
		a := impl.AnsAnswer{Code: oneOf(r, codes), N: oneOf(r, numbers)}
		ok := true
		if r.IntN(6) == 0 {
			a.Code, ok = oneOf(r, noCodes), false
		}
		if r.IntN(6) == 0 {
			a.N, ok = oneOf(r, noNumbers), false
		}
		for range oneOf(r, []int{0, 1, 4}) {
			a.Files = append(a.Files, impl.TreFile{Path: oneOf(r, rulePaths()), Bytes: anyEdit(r).Bytes})
		}
		for range oneOf(r, []int{0, 1, 4}) {
			a.Names = append(a.Names, oneOf(r, allRefs()))
		}
		got := impl.DskAnswer(a)
		if !slices.Equal(got, answerByHand(a)) {
			t.Fatalf("%#v is told %q", a, got)
		}
		if ok && len(got) != 1+len(a.Files)+len(a.Names) || !ok && len(got) != 0 {
			t.Fatalf("%#v is told in %d lines", a, len(got))
		}
		seen[fmt.Sprint(ok, " files ", len(a.Files) > 0, " names ", len(a.Names) > 0)]++
	}
	enough(t, seen, 300, "true files true names true", "true files true names false", "true files false names true", "true files false names false", "false files true names true", "false files false names false")
	for _, code := range append(codes, noCodes...) {
		for _, n := range append(numbers, noNumbers...) {
			a := impl.AnsAnswer{Code: code, N: n, Names: []string{"a"}, Files: []impl.TreFile{{Path: "a"}}}
			if got := impl.DskAnswer(a); !slices.Equal(got, answerByHand(a)) {
				t.Fatalf("%#v is told %q", a, got)
			}
		}
	}
	many := impl.AnsAnswer{Code: 1, Files: slices.Repeat([]impl.TreFile{{Path: "a", Bytes: strings.Repeat("x", 300)}}, 5000), Names: slices.Repeat([]string{"a"}, 5000)}
	if got := impl.DskAnswer(many); len(got) != 10001 || !slices.Equal(got, answerByHand(many)) {
		t.Fatal(len(got))
	}
}

// P81, with what the lines are read by hand, and once more as the program reads and writes them.
func TestRunTellsTheAnswersOfItsLines(t *testing.T) {
	t.Parallel()
	seen := map[string]int{}
	for lines := range drawnLines(81, 40) {
		told := toldByHand(lineKeys, lineAdmins, lines)
		got := impl.DskRun(lineKeys, lineAdmins, lines)
		if !slices.Equal(got, slices.Concat(told...)) {
			t.Fatalf("%q tell %q, not %q", lines, got, slices.Concat(told...))
		}
		h := impl.HseNew(lineKeys, lineAdmins)
		var own []string
		for i, line := range lines {
			e, is := impl.DskEvent(line)
			if !is {
				own = append(own, fmt.Sprint("line ", i+1))
				seen["none"]++
				continue
			}
			var a impl.AnsAnswer
			var answers bool
			h, a, answers = impl.EvtHappens(h, e)
			if answers {
				own = append(own, impl.DskAnswer(a)...)
			}
			seen[fmt.Sprint("kind ", e.Kind, " answers ", answers)]++
			if answers {
				seen[fmt.Sprint("code ", a.Code)]++
			}
			if len(a.Files) > 0 {
				seen["files"]++
			}
			if len(a.Names) > 0 {
				seen["names"]++
			}
		}
		if !slices.Equal(got, own) {
			t.Fatalf("%q tell %q, not %q", lines, got, own)
		}
	}
	enough(t, seen, 10, "files", "names")
	enough(t, seen, 20, "none", "kind 1 answers true", "kind 2 answers true", "kind 2 answers false", "kind 3 answers true", "kind 3 answers false", "kind 4 answers false", "kind 5 answers false", "kind 6 answers false")
	for _, code := range []int{1, 2, 3, 4, 5, 6, 7, 8, 9, 11} {
		enough(t, seen, 3, fmt.Sprint("code ", code))
	}
}

// P81, of lines that are none alone, and of houses of each size.
func TestRunOfOtherHouses(t *testing.T) {
	r := rand.New(rand.NewPCG(14, 81))
	for i := range 60 {
		keys, admins := []int{}, []int{}
		for range 1 + i%4 {
			keys = append(keys, oneOf(r, []int{1, 10, 9999}))
		}
		for range 1 + i%3 {
			admins = append(admins, 1+r.IntN(len(keys)))
		}
		h := impl.HseNew(keys, admins)
		var lines []string
		for range 40 {
			e := eventOf(r, h, anyKind(r, h))
			lines = append(lines, lineOf(e))
			if read, is := eventLineByHand(lineOf(e)); is {
				h, _, _ = impl.EvtHappens(h, read)
			}
		}
		want := slices.Concat(toldByHand(keys, admins, lines)...)
		if got := impl.DskRun(keys, admins, lines); !slices.Equal(got, want) || len(want) == 0 {
			t.Fatalf("%v, %v: %q tell %q, not %q", keys, admins, lines, got, want)
		}
	}
}

// P82.
func TestFirstLinesAnswerTheBeginning(t *testing.T) {
	t.Parallel()
	r := rand.New(rand.NewPCG(14, 82))
	shorter := 0
	for lines := range drawnLines(82, 8) {
		all := impl.DskRun(lineKeys, lineAdmins, lines)
		told := toldByHand(lineKeys, lineAdmins, lines)
		for _, n := range []int{0, 1, 2, 3, r.IntN(len(lines)), r.IntN(len(lines)), len(lines) / 2, len(lines) - 1, len(lines)} {
			first := impl.DskRun(lineKeys, lineAdmins, lines[:n])
			if len(first) > len(all) || !slices.Equal(first, all[:len(first)]) || len(first) != len(slices.Concat(told[:n]...)) {
				t.Fatalf("the first %d of %q tell %q, all %q", n, lines, first, all)
			}
			if len(first) < len(all) {
				shorter++
			}
		}
	}
	if shorter < 40 {
		t.Fatal("too few were asked:", shorter)
	}
}
