package impl

import (
	"errors"
	"strings"
)

// Kinds and limits of objects.
const (
	ObjNone    = 0
	ObjALeaf   = 1
	ObjASheet  = 2
	ObjMaxLeaf = 6
	ObjMaxList = 60
	IdMax      = 4294967295
)

// How objects are written.
const (
	leafMark   = "L"
	sheetMark  = "S"
	namesLeaf  = '='
	namesSheet = '/'
	idDigits   = 8
	hexDigits  = "0123456789abcdef"
)

// ObjEntry is an entry of a sheet: a name, and what it names.
type ObjEntry struct {
	Name  string
	Sheet bool
	Id    int
}

// object is a leaf or a sheet, ok or not: what is read and what is to be written is held against the same bounds.
type object interface {
	ok() bool
	text() string
}

type leafObject struct {
	bytes string
}

type sheetObject struct {
	entries []ObjEntry
}

// notObject says why a text cannot be read.
type notObject struct {
	why string
}

func (e notObject) Error() string {
	return "no object: " + e.why
}

func (o leafObject) ok() bool {
	return len(o.bytes) <= ObjMaxLeaf
}

func (o leafObject) text() string {
	return leafMark + o.bytes
}

func (o sheetObject) ok() bool {
	if len(o.entries) > ObjMaxList {
		return false
	}
	// No name is empty, so the first one rises above this.
	last := ""
	for _, e := range o.entries {
		if !entryOk(e) || e.Name <= last {
			return false
		}
		last = e.Name
	}
	return true
}

func (o sheetObject) text() string {
	var b strings.Builder
	b.WriteString(sheetMark)
	for _, e := range o.entries {
		b.WriteString(e.Name)
		if e.Sheet {
			b.WriteByte(namesSheet)
		} else {
			b.WriteByte(namesLeaf)
		}
		b.WriteString(IdHex(e.Id))
	}
	return b.String()
}

func idOk(n int) bool {
	return 1 <= n && n <= IdMax
}

func entryOk(e ObjEntry) bool {
	return NamOk(e.Name) && idOk(e.Id)
}

// cutEntry reads the entry at the beginning of a text, and leaves the names' order to the whole sheet.
func cutEntry(s string) (ObjEntry, string, error) {
	mark := letters(s)
	end := mark + 1 + idDigits
	if len(s) < end {
		return ObjEntry{}, "", notObject{"an entry is cut short"}
	}
	if s[mark] != namesLeaf && s[mark] != namesSheet {
		return ObjEntry{}, "", notObject{"an entry names neither a leaf nor a sheet"}
	}
	id, ok := IdRead(s[mark+1 : end])
	if !ok {
		return ObjEntry{}, "", notObject{"an entry has no id"}
	}
	return ObjEntry{Name: s[:mark], Sheet: s[mark] == namesSheet, Id: id}, s[end:], nil
}

func readSheet(s string) (sheetObject, error) {
	var o sheetObject
	for s != "" {
		e, rest, err := cutEntry(s)
		if err != nil {
			return sheetObject{}, err
		}
		o.entries = append(o.entries, e)
		s = rest
	}
	if !o.ok() {
		return sheetObject{}, notObject{"its entries are not ok, do not rise, or are too many"}
	}
	return o, nil
}

func readLeaf(s string) (leafObject, error) {
	o := leafObject{s}
	if !o.ok() {
		return leafObject{}, notObject{"it has too many bytes"}
	}
	return o, nil
}

func readObject(s string) (object, error) {
	if rest, found := strings.CutPrefix(s, leafMark); found {
		return readLeaf(rest)
	}
	if rest, found := strings.CutPrefix(s, sheetMark); found {
		return readSheet(rest)
	}
	return nil, notObject{"it is neither a leaf nor a sheet"}
}

// objectOf is nil where nothing can be read: a type switch then finds neither kind.
func objectOf(s string) object {
	o, err := readObject(s)
	var bad notObject
	if errors.As(err, &bad) {
		return nil
	}
	return o
}

func writeObject(o object) string {
	if !o.ok() {
		return ""
	}
	return o.text()
}

// IdHex writes an id in eight digits.
func IdHex(n int) string {
	if !idOk(n) {
		return ""
	}
	var digits [idDigits]byte
	for i := idDigits - 1; i >= 0; i-- {
		digits[i] = hexDigits[n%16]
		n /= 16
	}
	return string(digits[:])
}

// IdRead reads an id.
func IdRead(s string) (int, bool) {
	if len(s) != idDigits {
		return 0, false
	}
	n := 0
	for i := range len(s) {
		digit := strings.IndexByte(hexDigits, s[i])
		if digit < 0 {
			return 0, false
		}
		n = n*16 + digit
	}
	return n, idOk(n)
}

// IdOf is the id of a text.
func IdOf(s string) int {
	// 32 bits wrap round just where the sums are taken mod 4294967296.
	x := 2166136261 + uint32(len(s))
	for i := range len(s) {
		x = (x ^ uint32(s[i])) * 16777619
		x ^= x / 32768
	}
	x *= 73856093
	x ^= x / 8192
	if x == 0 {
		return 1
	}
	return int(x)
}

// ObjLeaf is the text of a leaf with bytes.
func ObjLeaf(b string) string {
	return writeObject(leafObject{b})
}

// ObjSheet is the text of a sheet with entries.
func ObjSheet(list []ObjEntry) string {
	return writeObject(sheetObject{list})
}

// ObjEntries is the entries of a sheet, by its text.
func ObjEntries(s string) ([]ObjEntry, bool) {
	switch o := objectOf(s).(type) {
	case sheetObject:
		return o.entries, true
	}
	return nil, false
}

// ObjKind says what a text is.
func ObjKind(s string) int {
	switch objectOf(s).(type) {
	case leafObject:
		return ObjALeaf
	case sheetObject:
		return ObjASheet
	}
	return ObjNone
}

// ObjBytes is the bytes of a leaf, by its text.
func ObjBytes(s string) (string, bool) {
	switch o := objectOf(s).(type) {
	case leafObject:
		return o.bytes, true
	}
	return "", false
}

// ObjKids is the ids that a text names.
func ObjKids(s string) []int {
	entries, _ := ObjEntries(s)
	var kids []int
	for _, e := range entries {
		kids = append(kids, e.Id)
	}
	return kids
}
