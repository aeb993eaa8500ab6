package tests

import (
	"math"
	"math/rand/v2"
	"slices"
	"strconv"
	"strings"
	"testing"

	"loop.example/chartulary/impl"
)

func filesAt(paths ...string) []impl.TreFile {
	var files []impl.TreFile
	for _, p := range paths {
		files = append(files, impl.TreFile{Path: p, Bytes: "x"})
	}
	return files
}

// manyFiles is so many files, three deep and less.
func manyFiles(n int) []impl.TreFile {
	var paths []string
	for i := range n {
		name := string([]byte{byte('a' + i/26), byte('a' + i%26)})
		switch i % 3 {
		case 1:
			name = "b/" + name
		case 2:
			name = "b/c/" + name
		}
		paths = append(paths, name)
	}
	slices.Sort(paths)
	return filesAt(paths...)
}

// treeByHand says whether files are a tree, each held against each.
func treeByHand(files []impl.TreFile) bool {
	for i, f := range files {
		if f.Path == "" || !pathForm.MatchString(f.Path) || len(f.Bytes) > 6 {
			return false
		}
		for k, g := range files {
			rest, begins := strings.CutPrefix(f.Path, g.Path)
			if k < i && g.Path >= f.Path || begins && strings.HasPrefix(rest, "/") {
				return false
			}
		}
	}
	return len(files) <= 60
}

// anyTree leaves out files of a random list until it is a tree.
func anyTree(r *rand.Rand, most int) []impl.TreFile {
	var files []impl.TreFile
	for range r.IntN(most + 1) {
		f := impl.TreFile{Path: anyPath(r, 3), Bytes: anyBytes(r)}
		next := append(slices.Clone(files), f)
		slices.SortFunc(next, func(a, b impl.TreFile) int { return strings.Compare(a.Path, b.Path) })
		if treeByHand(next) {
			files = next
		}
	}
	return files
}

func anyPath(r *rand.Rand, most int) string {
	names := []string{"a", "ab", "b", "c", "zzz"}
	var parts []string
	for range 1 + r.IntN(most) {
		parts = append(parts, names[r.IntN(len(names))])
	}
	return strings.Join(parts, "/")
}

func anyBytes(r *rand.Rand) string {
	return []string{"", "x", "y", "\x00\xff", "123456"}[r.IntN(5)]
}

func manyTrees() [][]impl.TreFile {
	r := rand.New(rand.NewPCG(4, 64))
	all := [][]impl.TreFile{
		nil,
		{},
		filesAt("a"),
		filesAt("a/b"),
		filesAt("a/b/c"),
		filesAt("a/b/c", "a/c/b", "b/a/c"),
		filesAt("a/a", "aa/a", "aaa", "ab"),
		{{Path: "a"}, {Path: "b"}, {Path: "c/a"}, {Path: "c/b"}},
		{{Path: "zzz/zzz/zzz", Bytes: "\xff\xff\xff\xff\xff\xff"}},
		manyFiles(59),
		manyFiles(60),
	}
	for range 60 {
		all = append(all, anyTree(r, 14))
	}
	return all
}

// noTrees is files that are none, each by another fault.
func noTrees() [][]impl.TreFile {
	late := manyFiles(60)
	late[59].Bytes = "1234567"
	return [][]impl.TreFile{
		manyFiles(61),
		manyFiles(500),
		late,
		filesAt(""),
		filesAt("", "a"),
		filesAt("a", ""),
		filesAt("abcd"),
		filesAt("a/b/c/d"),
		filesAt("/a"),
		filesAt("a/"),
		filesAt("A"),
		filesAt("\xff"),
		filesAt("a", "a"),
		filesAt("b", "a"),
		filesAt("aa", "a/b"),
		filesAt("a", "a/b"),
		filesAt("a", "a/b/c"),
		filesAt("a/b", "a/b/c"),
		filesAt("a", "a/b", "a/c"),
		filesAt("a/b/c", "b", "b/c"),
		filesAt("a/b/c", "a/b"),
		{{Path: "a", Bytes: "1234567"}},
		{{Path: "a", Bytes: strings.Repeat("x", 5000)}},
	}
}

func TestLimitsOfTrees(t *testing.T) {
	if impl.TreMaxFiles != 60 || impl.TreMaxEdits != 4 {
		t.Fatal(impl.TreMaxFiles, impl.TreMaxEdits)
	}
}

func TestTreOk(t *testing.T) {
	for _, files := range manyTrees() {
		if !impl.TreOk(files) {
			t.Errorf("%q is a tree", files)
		}
	}
	for _, files := range noTrees() {
		if impl.TreOk(files) {
			t.Errorf("%q is no tree", files)
		}
	}
	for _, one := range manyTexts() {
		if files := filesAt(one); impl.TreOk(files) != treeByHand(files) {
			t.Fatalf("%q: %v", files, impl.TreOk(files))
		}
	}
	for _, a := range somePaths {
		for _, b := range somePaths {
			for _, c := range somePaths {
				if files := filesAt(a, b, c); impl.TreOk(files) != treeByHand(files) {
					t.Fatalf("%q: %v", files, impl.TreOk(files))
				}
			}
		}
	}
}

// layByHand is the texts of a tree by its first names.
func layByHand(files []impl.TreFile) []string {
	var texts []string
	var names []string
	var entries []impl.ObjEntry
	for _, f := range files {
		if name := splitPath(f.Path)[0]; !slices.Contains(names, name) {
			names = append(names, name)
		}
	}
	for _, name := range names {
		var under []impl.TreFile
		leaf := false
		for _, f := range files {
			if f.Path == name {
				texts, leaf = append(texts, "L"+f.Bytes), true
			}
			if rest, found := strings.CutPrefix(f.Path, name+"/"); found {
				under = append(under, impl.TreFile{Path: rest, Bytes: f.Bytes})
			}
		}
		if !leaf {
			texts = append(texts, layByHand(under)...)
		}
		entries = append(entries, impl.ObjEntry{Name: name, Sheet: !leaf, Id: idByHand(texts[len(texts)-1])})
	}
	return append(texts, sheetByHand(entries))
}

func TestLay(t *testing.T) {
	for _, files := range manyTrees() {
		texts, id := impl.TreLay(files)
		want := layByHand(files)
		if !slices.Equal(texts, want) || id != idByHand(want[len(want)-1]) {
			t.Fatalf("%q is laid down as %q, %d", files, texts, id)
		}
	}
	for _, files := range noTrees() {
		if texts, id := impl.TreLay(files); len(texts) != 0 || id != 0 {
			t.Errorf("%q is laid down as %q, %d", files, texts, id)
		}
	}
}

func TestLayByHand(t *testing.T) {
	leaf, other := impl.IdHex(idByHand("Lx")), impl.IdHex(idByHand("Ly"))
	low := "Sc=" + leaf
	mid := "Sa=" + other + "b/" + impl.IdHex(idByHand(low))
	root := "Sa/" + impl.IdHex(idByHand(mid)) + "aa=" + leaf
	files := []impl.TreFile{{Path: "a/a", Bytes: "y"}, {Path: "a/b/c", Bytes: "x"}, {Path: "aa", Bytes: "x"}}
	texts, id := impl.TreLay(files)
	if !slices.Equal(texts, []string{"Ly", "Lx", low, mid, "Lx", root}) || id != idByHand(root) {
		t.Errorf("%q, %d", texts, id)
	}
	if texts, id := impl.TreLay(nil); !slices.Equal(texts, []string{"S"}) || id != idByHand("S") {
		t.Errorf("no files: %q, %d", texts, id)
	}
}

// putTree puts the texts of a tree, and says whether none clashed.
func putTree(pool []impl.PolItem, files []impl.TreFile) ([]impl.PolItem, int, bool) {
	texts, root := impl.TreLay(files)
	for _, s := range texts {
		next, _, came := impl.PolPut(pool, s)
		if came != impl.PolNew && came != impl.PolThere {
			return nil, 0, false
		}
		pool = next
	}
	return pool, root, true
}

// P64.
func TestTreeIsReadAsLaid(t *testing.T) {
	seen := 0
	for _, pool := range somePools() {
		for _, files := range manyTrees() {
			whole, root, ok := putTree(pool, files)
			if !ok {
				continue
			}
			seen++
			if got, fine := impl.TreRead(whole, root); !fine || !slices.Equal(got, files) {
				t.Fatalf("%q was laid down, and is read %q, %v", files, got, fine)
			}
		}
	}
	if seen < 500 {
		t.Fatal("too few were asked:", seen)
	}
}

// P65.
func TestOneIdIsOneTree(t *testing.T) {
	trees := manyTrees()
	for _, a := range trees {
		textsA, idA := impl.TreLay(a)
		for _, b := range trees {
			textsB, idB := impl.TreLay(b)
			if clash(slices.Concat(textsA, textsB)) {
				continue
			}
			if (idA == idB) != slices.Equal(a, b) {
				t.Fatalf("%q and %q: %d and %d", a, b, idA, idB)
			}
		}
		once := slices.Compact(slices.Sorted(slices.Values(textsA)))
		pool, _, ok := putTree(nil, a)
		if ok && len(pool) != len(once) {
			t.Fatalf("%q: %d texts in the pool, not %d", a, len(pool), len(once))
		}
	}
}

func clash(texts []string) bool {
	byId := map[int]string{}
	for _, s := range texts {
		if other, there := byId[idByHand(s)]; there && other != s {
			return true
		}
		byId[idByHand(s)] = s
	}
	return false
}

// readByHand reads all files of a sheet, however many and deep, with what is wrong about them.
func readByHand(pool []impl.PolItem, path []string, id int) ([]impl.TreFile, bool) {
	text := ""
	for _, item := range pool {
		if item.Id == id {
			text = item.Text
		}
	}
	if kindByForm(text) != impl.ObjASheet || len(path) >= 3 || len(path) > 0 && text == "S" {
		return nil, false
	}
	var files []impl.TreFile
	for _, m := range entryForm.FindAllStringSubmatch(text, -1) {
		kid, _ := strconv.ParseInt(m[3], 16, 64)
		down := append(slices.Clone(path), m[1])
		if m[2] == "/" {
			under, ok := readByHand(pool, down, int(kid))
			if !ok {
				return nil, false
			}
			files = append(files, under...)
			continue
		}
		leaf := ""
		for _, item := range pool {
			if item.Id == int(kid) {
				leaf = item.Text
			}
		}
		if kindByForm(leaf) != impl.ObjALeaf {
			return nil, false
		}
		files = append(files, impl.TreFile{Path: strings.Join(down, "/"), Bytes: leaf[1:]})
	}
	return files, len(files) <= 60
}

func TestReadOfAnyPool(t *testing.T) {
	r := rand.New(rand.NewPCG(4, 4))
	whole, none := 0, 0
	for range 150 {
		pool := poolOfTexts(linkedTexts(r, 4+r.IntN(20))...)
		for _, item := range pool {
			files, ok := readByHand(pool, nil, item.Id)
			if !ok {
				files = nil
			}
			got, fine := impl.TreRead(pool, item.Id)
			if fine != ok || !slices.Equal(got, files) {
				t.Fatalf("%q in %v: %q, %v", item.Text, pool, got, fine)
			}
			if !ok {
				none++
				continue
			}
			whole++
			if _, root := impl.TreLay(got); root != item.Id {
				t.Fatalf("%q is read %q, and laid down as %d", item.Text, got, root)
			}
		}
	}
	if whole < 100 || none < 100 {
		t.Fatal("too few were asked:", whole, none)
	}
}

// sheetOf names texts in order, sheets as sheets unless it is told otherwise.
func sheetOf(lie bool, texts ...string) string {
	var entries []impl.ObjEntry
	for i, s := range texts {
		name := string([]byte{byte('a' + i/26), byte('a' + i%26)})
		entries = append(entries, impl.ObjEntry{Name: name, Sheet: (s[0] == 'S') != lie, Id: idByHand(s)})
	}
	return sheetByHand(entries)
}

func TestReadOfWhatIsNamed(t *testing.T) {
	one := sheetOf(false, "Lx")
	two := sheetOf(false, one)
	three := sheetOf(false, two)
	four := sheetOf(false, three)
	for _, c := range []struct {
		what  string
		texts []string
		files []impl.TreFile
		ok    bool
	}{
		{"no entries", []string{"S"}, nil, true},
		{"one deep", []string{"Lx", one}, filesAt("aa"), true},
		{"two deep", []string{"Lx", one, two}, filesAt("aa/aa"), true},
		{"three deep", []string{"Lx", one, two, three}, filesAt("aa/aa/aa"), true},
		{"four deep", []string{"Lx", one, two, three, four}, nil, false},
		{"a sheet three deep that is not there", []string{two, three, four}, nil, false},
		{"no such id", []string{"Lx", sheetOf(false, "Ly")}, nil, false},
		{"no such sheet", []string{"Lx", two}, nil, false},
		{"a leaf", []string{"Lx"}, nil, false},
		{"a leaf named as a sheet", []string{"Lx", sheetOf(true, "Lx")}, nil, false},
		{"a sheet named as a leaf", []string{"Lx", one, sheetOf(true, one)}, nil, false},
		{"a sheet without entries is named", []string{"S", sheetOf(false, "S")}, nil, false},
		{"a sheet without entries is named as a leaf", []string{"S", sheetOf(true, "S")}, nil, false},
		{"a sheet without entries two deep", []string{"S", sheetOf(false, "S"), sheetOf(false, sheetOf(false, "S"))}, nil, false},
		{"a sheet names itself", []string{selfSheet}, nil, false},
		{"a sheet names itself as a leaf", []string{selfLeaf}, nil, false},
		{"beside it one that is not there", []string{"Lx", sheetOf(false, "Lx", "Ly")}, nil, false},
		{"a leaf of a name at the end is not there", []string{one, two, "Ly"}, nil, false},
		{"the same twice", []string{"Lx", sheetOf(false, "Lx", "Lx")}, filesAt("aa", "ab"), true},
	} {
		root := idByHand(c.texts[len(c.texts)-1])
		got, ok := impl.TreRead(poolOfTexts(c.texts...), root)
		if ok != c.ok || !slices.Equal(got, c.files) {
			t.Errorf("%s: %q, %v", c.what, got, ok)
		}
	}
}

func TestReadOfTooManyFiles(t *testing.T) {
	wide := sheetOf(false, slices.Repeat([]string{"Lx"}, 60)...)
	if got, ok := impl.TreRead(poolOfTexts("Lx", wide), idByHand(wide)); !ok || len(got) != 60 {
		t.Error("60 files:", len(got), ok)
	}
	more := sheetOf(false, wide, "Lx")
	if got, ok := impl.TreRead(poolOfTexts("Lx", wide, more), idByHand(more)); ok || len(got) != 0 {
		t.Error("61 files:", len(got), ok)
	}
	all := sheetOf(false, slices.Repeat([]string{wide}, 60)...)
	most := sheetOf(false, slices.Repeat([]string{all}, 60)...)
	if got, ok := impl.TreRead(poolOfTexts("Lx", wide, all, most), idByHand(most)); ok || len(got) != 0 {
		t.Error("216000 files:", len(got), ok)
	}
}

func TestReadOfWhatIsNotOk(t *testing.T) {
	for i, pool := range noPools() {
		for _, id := range append(impl.PolIds(pool)[:1], 0, 1, -1, idByHand("S")) {
			if got, ok := impl.TreRead(pool, id); ok || len(got) != 0 {
				t.Errorf("the pool %d: %q, %v", i, got, ok)
			}
		}
	}
	pool := append(poolOfTexts("S"), impl.PolItem{Id: impl.IdMax, Text: "L"})
	if got, ok := impl.TreRead(pool, idByHand("S")); ok || len(got) != 0 {
		t.Error("a fault elsewhere in the pool:", got, ok)
	}
	for _, id := range []int{0, 1, -1, impl.IdMax + 1, math.MaxInt, math.MinInt} {
		if got, ok := impl.TreRead(poolOfTexts("S", "Lx"), id); ok || len(got) != 0 {
			t.Errorf("the id %d: %q, %v", id, got, ok)
		}
	}
}

// turnByHand does edits to a list of files, which may be no tree between them.
func turnByHand(files []impl.TreFile, edits []impl.TreEdit) ([]impl.TreFile, bool) {
	if !treeByHand(files) || len(edits) > 4 {
		return nil, false
	}
	list := slices.Clone(files)
	for _, e := range edits {
		at := slices.IndexFunc(list, func(f impl.TreFile) bool { return f.Path == e.Path })
		if e.Gone && (at < 0 || e.Bytes != "") {
			return nil, false
		}
		if at >= 0 {
			list = slices.Delete(list, at, at+1)
		}
		if !e.Gone {
			list = append(list, impl.TreFile{Path: e.Path, Bytes: e.Bytes})
		}
	}
	slices.SortFunc(list, func(a, b impl.TreFile) int { return strings.Compare(a.Path, b.Path) })
	if !treeByHand(list) {
		return nil, false
	}
	return list, true
}

func anyEdits(r *rand.Rand, files []impl.TreFile) []impl.TreEdit {
	var edits []impl.TreEdit
	for range r.IntN(6) {
		e := impl.TreEdit{Path: anyPath(r, 3), Bytes: anyBytes(r), Gone: r.IntN(3) == 0}
		if len(files) > 0 && r.IntN(2) == 0 {
			e.Path = files[r.IntN(len(files))].Path
		}
		if e.Gone && r.IntN(8) > 0 {
			e.Bytes = ""
		}
		if r.IntN(30) == 0 {
			e.Path = noPaths[r.IntN(len(noPaths))]
		}
		edits = append(edits, e)
	}
	return edits
}

// P66.
func TestTurnTurnsWhatIsEdited(t *testing.T) {
	r := rand.New(rand.NewPCG(4, 66))
	done, not := 0, 0
	for range 60 {
		for _, files := range manyTrees() {
			edits := anyEdits(r, files)
			got, ok := impl.TreTurn(files, edits)
			want, fine := turnByHand(files, edits)
			if ok != fine || !slices.Equal(got, want) {
				t.Fatalf("%q turned by %v: %q, %v", files, edits, got, ok)
			}
			if !ok {
				not++
				continue
			}
			done++
			askTurned(t, files, edits, got)
		}
	}
	if done < 500 || not < 500 {
		t.Fatal("too few were asked:", done, not)
	}
}

// askTurned asks at each path, whether the last edit of it holds there, or the file as it was.
func askTurned(t *testing.T, files []impl.TreFile, edits []impl.TreEdit, got []impl.TreFile) {
	t.Helper()
	for _, f := range slices.Concat(files, got) {
		want, there := impl.TreFind(files, f.Path)
		for _, e := range edits {
			if e.Path == f.Path {
				want, there = e.Bytes, !e.Gone
			}
		}
		if bytes, ok := impl.TreFind(got, f.Path); ok != there || bytes != want {
			t.Fatalf("%q turned by %v: at %q %q, %v", files, edits, f.Path, bytes, ok)
		}
	}
	for _, e := range edits {
		if _, ok := impl.TreFind(got, e.Path); !ok && !slices.ContainsFunc(edits, func(o impl.TreEdit) bool { return o.Path == e.Path && o.Gone }) {
			t.Fatalf("%q turned by %v: nothing at %q", files, edits, e.Path)
		}
	}
}

func TestTurnByHand(t *testing.T) {
	lay := func(path, bytes string) impl.TreEdit { return impl.TreEdit{Path: path, Bytes: bytes} }
	gone := func(path string) impl.TreEdit { return impl.TreEdit{Path: path, Gone: true} }
	for _, c := range []struct {
		what  string
		files []impl.TreFile
		edits []impl.TreEdit
		want  []impl.TreFile
		ok    bool
	}{
		{"no edits", filesAt("a", "b"), nil, filesAt("a", "b"), true},
		{"nothing at all", nil, nil, nil, true},
		{"anew", filesAt("a", "c"), []impl.TreEdit{lay("b", "x")}, filesAt("a", "b", "c"), true},
		{"in the place", filesAt("a"), []impl.TreEdit{lay("a", "")}, []impl.TreFile{{Path: "a"}}, true},
		{"gone", filesAt("a", "b"), []impl.TreEdit{gone("a")}, filesAt("b"), true},
		{"the last one gone", filesAt("a"), []impl.TreEdit{gone("a")}, nil, true},
		{"gone, and not there", filesAt("a"), []impl.TreEdit{gone("b")}, nil, false},
		{"gone, and not just there", filesAt("a/b"), []impl.TreEdit{gone("a")}, nil, false},
		{"gone twice", filesAt("a"), []impl.TreEdit{gone("a"), gone("a")}, nil, false},
		{"gone and back", filesAt("a"), []impl.TreEdit{gone("a"), lay("a", "x")}, filesAt("a"), true},
		{"there and gone", filesAt("a"), []impl.TreEdit{lay("b", "x"), gone("b")}, filesAt("a"), true},
		{"gone with bytes", filesAt("a"), []impl.TreEdit{{Path: "a", Bytes: "x", Gone: true}}, nil, false},
		{"gone with bytes, laid anew", filesAt("a"), []impl.TreEdit{{Path: "a", Bytes: "x", Gone: true}, lay("a", "x")}, nil, false},
		{"four", nil, []impl.TreEdit{lay("a", "x"), lay("d", "x"), lay("c", "x"), lay("b", "x")}, filesAt("a", "b", "c", "d"), true},
		{"five", nil, []impl.TreEdit{lay("a", "x"), lay("b", "x"), lay("c", "x"), lay("d", "x"), lay("e", "x")}, nil, false},
		{"five at one path", nil, slices.Repeat([]impl.TreEdit{lay("a", "x")}, 5), nil, false},
		{"above a file", filesAt("a/b"), []impl.TreEdit{lay("a", "x")}, nil, false},
		{"above a file for a while", filesAt("a/b"), []impl.TreEdit{lay("a", "x"), gone("a/b")}, filesAt("a"), true},
		{"under a file", filesAt("a"), []impl.TreEdit{lay("a/b", "x")}, nil, false},
		{"under a file for a while", filesAt("a"), []impl.TreEdit{lay("a/b", "x"), gone("a")}, filesAt("a/b"), true},
		{"too many bytes", nil, []impl.TreEdit{lay("a", "1234567")}, nil, false},
		{"too many bytes for a while", nil, []impl.TreEdit{lay("a", "1234567"), lay("a", "x")}, filesAt("a"), true},
		{"no path", nil, []impl.TreEdit{lay("a/b/c/d", "x")}, nil, false},
		{"no path for a while", filesAt("a"), []impl.TreEdit{lay("\xff", "x"), gone("\xff")}, filesAt("a"), true},
		{"the empty path", nil, []impl.TreEdit{lay("", "x")}, nil, false},
		{"the empty path for a while", nil, []impl.TreEdit{lay("", "x"), gone("")}, nil, true},
		{"61 files", manyFiles(60), []impl.TreEdit{lay("z", "x")}, nil, false},
		{"61 files for a while", manyFiles(60), []impl.TreEdit{lay("z", "x"), gone("z")}, manyFiles(60), true},
	} {
		got, ok := impl.TreTurn(c.files, c.edits)
		if ok != c.ok || !slices.Equal(got, c.want) {
			t.Errorf("%s: %q, %v", c.what, got, ok)
		}
	}
	for _, files := range noTrees() {
		edits := []impl.TreEdit{lay("q", "x")}
		if len(files) > 0 {
			edits = append(edits, gone(files[0].Path))
		}
		for n := range len(edits) + 1 {
			if got, ok := impl.TreTurn(files, edits[:n]); ok || len(got) != 0 {
				t.Errorf("%q: %q, %v", files, got, ok)
			}
		}
	}
}

// P67.
func TestDiffersBothWays(t *testing.T) {
	r := rand.New(rand.NewPCG(4, 67))
	seen := 0
	for range 4000 {
		a := anyTree(r, 6)
		b, ok := impl.TreTurn(a, anyEdits(r, a))
		if !ok {
			b = anyTree(r, 6)
		}
		paths := impl.TreDiffers(a, b)
		if !slices.Equal(paths, impl.TreDiffers(b, a)) || !slices.Equal(paths, differsByHand(a, b)) {
			t.Fatalf("%q and %q differ at %q, and at %q", a, b, paths, impl.TreDiffers(b, a))
		}
		if len(impl.TreDiffers(a, a)) != 0 || (len(paths) == 0) != slices.Equal(a, b) {
			t.Fatalf("%q and %q differ at %q", a, b, paths)
		}
		if len(paths) > 4 {
			continue
		}
		seen++
		if got, ok := impl.TreTurn(a, editsBetween(paths, b)); !ok || !slices.Equal(got, b) {
			t.Fatalf("%q turned at %q: %q, not %q", a, paths, got, b)
		}
	}
	if seen < 500 {
		t.Fatal("too few were turned:", seen)
	}
}

func editsBetween(paths []string, to []impl.TreFile) []impl.TreEdit {
	var edits []impl.TreEdit
	for _, p := range paths {
		bytes, there := impl.TreFind(to, p)
		edits = append(edits, impl.TreEdit{Path: p, Bytes: bytes, Gone: !there})
	}
	return edits
}

// differsByHand looks each file up in the other list, of any files.
func differsByHand(a, b []impl.TreFile) []string {
	var paths []string
	at := func(files []impl.TreFile, path string) int {
		return slices.IndexFunc(files, func(f impl.TreFile) bool { return f.Path == path })
	}
	for _, f := range a {
		if k := at(b, f.Path); k < 0 || b[k].Bytes != f.Bytes {
			paths = append(paths, f.Path)
		}
	}
	for _, f := range b {
		if at(a, f.Path) < 0 {
			paths = append(paths, f.Path)
		}
	}
	slices.Sort(paths)
	return slices.Compact(paths)
}

// anyFiles is a list that need not be a tree: paths come twice, in any order, and need not be paths.
func anyFiles(r *rand.Rand) []impl.TreFile {
	var files []impl.TreFile
	for range r.IntN(7) {
		path := anyPath(r, 2)
		if r.IntN(5) == 0 {
			path = noPaths[r.IntN(20)]
		}
		if r.IntN(9) == 0 {
			path = ""
		}
		files = append(files, impl.TreFile{Path: path, Bytes: anyBytes(r)})
	}
	return files
}

func TestDiffersOfAnyFiles(t *testing.T) {
	x := func(path, bytes string) impl.TreFile { return impl.TreFile{Path: path, Bytes: bytes} }
	for _, c := range []struct {
		a, b []impl.TreFile
		want []string
	}{
		{nil, nil, nil},
		{filesAt("b", "a", "b"), nil, []string{"a", "b"}},
		{nil, filesAt("b", "a", "b"), []string{"a", "b"}},
		{[]impl.TreFile{x("a", "1"), x("a", "2")}, []impl.TreFile{x("a", "1")}, []string{"a"}},
		{[]impl.TreFile{x("a", "1")}, []impl.TreFile{x("a", "1"), x("a", "2")}, nil},
		{[]impl.TreFile{x("a", "2")}, []impl.TreFile{x("a", "1"), x("a", "2")}, []string{"a"}},
		{[]impl.TreFile{x("a", "1"), x("a", "2")}, []impl.TreFile{x("a", "1"), x("a", "2")}, []string{"a"}},
		{filesAt("\xff", ""), filesAt(""), []string{"\xff"}},
		{filesAt("B", "a"), filesAt("aa", "a/b"), []string{"B", "a", "a/b", "aa"}},
	} {
		if got := impl.TreDiffers(c.a, c.b); !slices.Equal(got, c.want) {
			t.Errorf("%q and %q differ at %q", c.a, c.b, got)
		}
	}
	r := rand.New(rand.NewPCG(4, 1))
	for range 3000 {
		a, b := anyFiles(r), anyFiles(r)
		if got := impl.TreDiffers(a, b); !slices.Equal(got, differsByHand(a, b)) {
			t.Fatalf("%q and %q differ at %q", a, b, got)
		}
	}
}

// P68.
func TestUnderIsATree(t *testing.T) {
	for _, files := range manyTrees() {
		if got := impl.TreUnder(files, ""); !slices.Equal(got, files) {
			t.Fatalf("under the empty path: %q, not %q", got, files)
		}
		paths := slices.Clone(somePaths)
		for _, f := range files {
			paths = append(paths, f.Path, impl.PthFirst(f.Path))
		}
		for _, p := range paths {
			under := impl.TreUnder(files, p)
			if !treeByHand(under) {
				t.Fatalf("%q under %q is no tree: %q", files, p, under)
			}
			var want []impl.TreFile
			if bytes, ok := impl.TreFind(files, p); ok {
				want = []impl.TreFile{{Path: p, Bytes: bytes}}
			}
			for _, name := range impl.TreNames(files, p) {
				want = append(want, impl.TreUnder(files, impl.PthJoin(p, name))...)
			}
			if !slices.Equal(under, want) {
				t.Fatalf("%q under %q: %q, not %q", files, p, under, want)
			}
		}
	}
}

func TestUnderAndNamesOfAnyFiles(t *testing.T) {
	r := rand.New(rand.NewPCG(4, 68))
	for range 3000 {
		files := anyFiles(r)
		path := anyPath(r, 3)
		if r.IntN(4) == 0 {
			path = noPaths[r.IntN(20)]
		}
		if r.IntN(4) == 0 {
			path = ""
		}
		var under []impl.TreFile
		var names []string
		for _, f := range files {
			parts, top := splitPath(f.Path), splitPath(path)
			if !pathForm.MatchString(path) || !pathForm.MatchString(f.Path) || len(parts) < len(top) || !slices.Equal(parts[:len(top)], top) {
				continue
			}
			under = append(under, f)
			if len(parts) > len(top) {
				names = append(names, parts[len(top)])
			}
		}
		slices.Sort(names)
		names = slices.Compact(names)
		if got := impl.TreUnder(files, path); !slices.Equal(got, under) {
			t.Fatalf("%q under %q: %q", files, path, got)
		}
		if got := impl.TreNames(files, path); !slices.Equal(got, names) {
			t.Fatalf("the names of %q behind %q: %q", files, path, got)
		}
	}
}

func TestFindOfAnyFiles(t *testing.T) {
	files := []impl.TreFile{{Path: "b", Bytes: "1"}, {Path: "a", Bytes: ""}, {Path: "b", Bytes: "2"}, {Path: "\xff", Bytes: "long and long"}, {Path: "", Bytes: "0"}}
	for path, want := range map[string]string{"b": "1", "a": "", "\xff": "long and long", "": "0"} {
		if got, ok := impl.TreFind(files, path); !ok || got != want {
			t.Errorf("at %q: %q, %v", path, got, ok)
		}
	}
	for _, path := range []string{"c", "b/", "/b", "b/a", "B"} {
		if got, ok := impl.TreFind(files, path); ok || got != "" {
			t.Errorf("at %q: %q, %v", path, got, ok)
		}
	}
	if got, ok := impl.TreFind(nil, ""); ok || got != "" {
		t.Errorf("in no files: %q, %v", got, ok)
	}
}

// P69.
func TestSizeIsOfAllEdits(t *testing.T) {
	r := rand.New(rand.NewPCG(4, 69))
	for range 1000 {
		edits := slices.Concat(anyEdits(r, nil), anyEdits(r, nil))
		want := 0
		for _, e := range edits {
			want += len(e.Path) + len(e.Bytes)
		}
		if got := impl.TreSize(edits); got != want {
			t.Fatalf("%v: %d", edits, got)
		}
		for n := range len(edits) + 1 {
			if impl.TreSize(edits[:n])+impl.TreSize(edits[n:]) != want {
				t.Fatalf("%v in two parts at %d", edits, n)
			}
		}
	}
	if got := impl.TreSize([]impl.TreEdit{{Path: "a/b", Bytes: "xy", Gone: true}, {Path: "\xff\xff", Bytes: "1234567"}}); got != 14 {
		t.Error("edits that are not ok:", got)
	}
	if got := impl.TreSize(nil); got != 0 {
		t.Error("no edits:", got)
	}
}

func TestTreesShareNoMemory(t *testing.T) {
	r := rand.New(rand.NewPCG(4, 7))
	over := impl.TreFile{Path: "over", Bytes: "over"}
	trees := slices.Concat(manyTrees(), noTrees())
	for i := range 500 {
		a, b := watch(trees[i%len(trees)], over), watch(anyFiles(r), over)
		edits := watch(anyEdits(r, a.list), impl.TreEdit{Path: "over"})
		texts, _ := impl.TreLay(a.list)
		scribble(texts, "over")
		got, _ := impl.TreTurn(a.list, edits.list)
		scribble(got, over)
		same, _ := impl.TreTurn(a.list, nil)
		scribble(same, over)
		scribble(impl.TreUnder(a.list, ""), over)
		scribble(impl.TreUnder(b.list, anyPath(r, 1)), over)
		scribble(impl.TreDiffers(a.list, b.list), "over")
		scribble(impl.TreNames(b.list, ""), "over")
		impl.TreOk(a.list)
		impl.TreSize(edits.list)
		impl.TreFind(b.list, "a")
		untouched(t, "a tree", a)
		untouched(t, "files", b)
		untouched(t, "edits", edits)
	}
	for _, files := range manyTrees() {
		pool, root, ok := putTree(nil, files)
		w := watch(pool, impl.PolItem{Id: 3, Text: "filled"})
		got, _ := impl.TreRead(w.list, root)
		scribble(got, over)
		untouched(t, "a pool", w)
		if again, fine := impl.TreRead(w.list, root); ok && (!fine || !slices.Equal(again, files)) {
			t.Errorf("%q is read %q, once an answer is written over", files, again)
		}
	}
}
