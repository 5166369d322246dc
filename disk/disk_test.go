package disk

import (
	"bytes"
	"math"
	"math/big"
	"slices"
	"strconv"
	"strings"
	"testing"

	"drover/api"
)

const (
	good = "abcdefghijklmnopqrstuvwxyz0123456789.-" // what may stand in a name
	full = api.MaxFile
)

// files lists files by their names and contents, in turn.
func files(l ...string) []api.File {
	var all []api.File
	for i := 0; i < len(l); i += 2 {
		all = append(all, api.File{Name: l[i], Data: []byte(l[i+1])})
	}
	return all
}

// made is New(files), which must be there.
func made(t *testing.T, l ...string) *Disk {
	t.Helper()
	d, e := New(files(l...))
	if d == nil || e != api.OK {
		t.Fatalf("New(%.200q) is %v, %d", l, d, e)
	}
	return d
}

// is asks whether a call answered want.
func is(t *testing.T, what string, e, want api.Errno) {
	t.Helper()
	if e != want {
		t.Errorf("%s is %d, not %d", what, e, want)
	}
}

// same reports whether two lists of files are equal.
func same(a, b []api.File) bool {
	return slices.EqualFunc(a, b, func(x, y api.File) bool { return x.Name == y.Name && bytes.Equal(x.Data, y.Data) })
}

// short tells of files what there is room for.
func short(l []api.File) string {
	s := ""
	for _, f := range l {
		s += quote(f.Name) + " (" + strconv.Itoa(len(f.Data)) + "): " + quote(string(f.Data)) + "\n"
	}
	return s
}

// quote is s, or its beginning, with quotation marks.
func quote(s string) string {
	return strconv.Quote(s[:min(len(s), 200)])
}

// finds asks what a crash leaves.
func finds(t *testing.T, d *Disk, picks []int, l ...string) {
	t.Helper()
	if got, want := d.Crash(picks), files(l...); !same(got, want) {
		t.Errorf("Crash(%v) is\n%snot\n%s", picks, short(got), short(want))
	}
}

// reads asks what is visible: List and Read.
func reads(t *testing.T, d *Disk, l ...string) {
	t.Helper()
	if got, want := visible(t, d), files(l...); !same(got, want) {
		t.Errorf("visible is\n%snot\n%s", short(got), short(want))
	}
}

// visible is what List and Read tell.
func visible(t *testing.T, d *Disk) []api.File {
	t.Helper()
	var got []api.File
	names, e := d.List()
	is(t, "List", e, api.OK)
	for _, s := range names {
		b, e := d.Read(s)
		is(t, "Read "+s, e, api.OK)
		got = append(got, api.File{Name: s, Data: b})
	}
	return got
}

// wrongNames lists names that are not valid.
func wrongNames() []string {
	long := strings.Repeat("n", api.MaxName)
	l := []string{"", long + "n", long + long, strings.Repeat("n", 1<<20), "ä", "aä", "ａ", "a\u0301", "a b", "a/b", "../a", "a_", "A", "aB", "a\x00", "\x00", " a", "a ", "a\n", long[1:] + "N", "N" + long[1:], long + "\x00"}
	for c := range 256 {
		if strings.IndexByte(good, byte(c)) < 0 {
			l = append(l, string([]byte{byte(c)}), string([]byte{'a', byte(c)}), string([]byte{byte(c), 'a'}), string([]byte{'a', byte(c), 'a'}))
		}
	}
	return l
}

// goodNames lists names that are valid, rising.
func goodNames() []string {
	l := []string{good[:api.MaxName], good[len(good)-api.MaxName:], strings.Repeat("-", api.MaxName), strings.Repeat("z", api.MaxName), "..", "--", ".-", "a.b", "0a", "log-1", "log.1"}
	for i := range good {
		l = append(l, good[i:i+1])
	}
	slices.Sort(l)
	return slices.Compact(l)
}

// P9.1: the files are there, durable, and nothing was called.
func TestNew(t *testing.T) {
	big := strings.Repeat("x", full)
	var most []string
	for i, s := range goodNames()[:api.MaxFiles] {
		most = append(most, s, strings.Repeat("y", i))
	}
	for _, l := range [][]string{nil, {"a", ""}, {"a", "x"}, {"a", big}, {"a", big, "b", big[1:], "c", ""}, {"-", "1", ".", "2", "0", "3", "9", "4", "a", "5", "a-", "6", "a.", "7", "a0", "8", "aa", "9", "b", ""}, {"a", "\x00\xff\n", "b", "\x00"}, most} {
		d := made(t, l...)
		reads(t, d, l...)
		for _, picks := range [][]int{nil, {0, 0}, {1, 1}, {2, 5, 2}, {-1}} {
			finds(t, d, picks, l...)
		}
		if k := d.Calls(); k != 0 {
			t.Errorf("%d calls", k)
		}
	}
	for _, l := range [][]api.File{nil, {}} {
		if d, e := New(l); d == nil || e != api.OK {
			t.Errorf("New(%#v) is %v, %d", l, d, e)
		}
	}
}

// P9.1: each valid name, and no other.
func TestNewNames(t *testing.T) {
	names := goodNames()
	for _, s := range names {
		reads(t, made(t, s, "x"), s, "x")
	}
	for i := range len(names) - api.MaxFiles {
		var l []string
		for _, s := range names[i : i+api.MaxFiles] {
			l = append(l, s, s)
		}
		reads(t, made(t, l...), l...)
	}
	for _, s := range wrongNames() {
		refuses(t, files(s, "x"))
		// Where it stands does not matter, as long as the names rise.
		for _, l := range [][]api.File{files("b", "", s, ""), files(s, "", "b", ""), files("-", "", s, "", "z", "")} {
			refuses(t, l)
		}
	}
}

// refuses asks whether New finds fault with files.
func refuses(t *testing.T, l []api.File) {
	t.Helper()
	if d, e := New(l); d != nil || e != api.ErrForm {
		t.Errorf("New is %v, %d of\n%s", d, e, short(l[:min(len(l), 20)]))
	}
}

// P9.1: too many files, too long ones, and names that don't rise.
func TestNewErrors(t *testing.T) {
	big := strings.Repeat("x", full+1)
	for _, l := range [][]string{{"a", big}, {"a", "", "b", big}, {"a", big, "b", ""}, {"a", big + big}} {
		refuses(t, files(l...))
	}
	for _, l := range [][]string{{"b", "a"}, {"a", "a"}, {"a", "b", "b"}, {"a", "c", "b"}, {"b", "a", "c"}, {"a", "b", "a"}, {"aa", "a"}, {"a-", "a"}, {"a", "0"}, {"0", "."}, {".", "-"}, {"z", "aa"}, {"10", "1"}, {"b1", "a2"}} {
		var all []api.File
		for _, s := range l {
			all = append(all, api.File{Name: s})
		}
		refuses(t, all)
	}
	names := goodNames()
	for _, n := range []int{api.MaxFiles + 1, api.MaxFiles + 2, len(names)} {
		var all []api.File
		for _, s := range names[:n] {
			all = append(all, api.File{Name: s})
		}
		refuses(t, all)
	}
	refuses(t, make([]api.File, 1<<20))
}

// P9.2: what Append makes visible, and that it isn't durable.
func TestAppend(t *testing.T) {
	d := made(t, "b", "12")
	for _, c := range []struct{ name, b string }{{"b", "34"}, {"b", ""}, {"a", ""}, {"c", "x"}, {"a", "\x00"}, {"b", "5"}, {"c", "y"}, {"b0", "z"}} {
		is(t, "Append "+c.name, d.Append(c.name, []byte(c.b)), api.OK)
	}
	is(t, "Append nil", d.Append("b", nil), api.OK)
	is(t, "Append nil", d.Append("d", nil), api.OK)
	reads(t, d, "a", "\x00", "b", "12345", "b0", "z", "c", "xy", "d", "")
	finds(t, d, nil, "a", "", "b", "12", "b0", "", "c", "", "d", "")
	for _, s := range goodNames()[:api.MaxFiles] {
		d := made(t)
		is(t, "Append "+s, d.Append(s, []byte("x")), api.OK)
		reads(t, d, s, "x")
	}
}

// P9.2: how long a file may be, in one piece and in several.
func TestAppendLimit(t *testing.T) {
	big := bytes.Repeat([]byte("x"), full+1)
	for _, first := range []int{0, 1, full / 2, full - 1, full} {
		d := made(t, "a", string(big[:first]))
		for _, more := range []int{full - first + 1, full + 1} {
			is(t, "Append beyond", d.Append("a", big[:more]), api.ErrLimit)
		}
		reads(t, d, "a", string(big[:first]))
		is(t, "Append", d.Append("a", big[:full-first]), api.OK)
		is(t, "Append one more", d.Append("a", big[:1]), api.ErrLimit)
		is(t, "Append nothing more", d.Append("a", nil), api.OK)
		reads(t, d, "a", string(big[:full]))
		is(t, "Cut", d.Cut("a", full-1), api.OK)
		is(t, "Append two", d.Append("a", big[:2]), api.ErrLimit)
		is(t, "Append one", d.Append("a", big[:1]), api.OK)
		reads(t, d, "a", string(big[:full]))
	}
	d := made(t)
	is(t, "Append to a new one beyond", d.Append("a", big), api.ErrLimit)
	reads(t, d)
	is(t, "Append to a new one", d.Append("a", big[:full]), api.OK)
	finds(t, d, nil, "a", "")
	// It is the visible content that may not be longer, whatever is durable.
	d = made(t, "a", string(big[:full]))
	is(t, "Cut", d.Cut("a", 0), api.OK)
	is(t, "Append behind Cut", d.Append("a", big[:full]), api.OK)
	is(t, "Append beyond", d.Append("a", big[:1]), api.ErrLimit)
}

// P9.2: how many files there may be, and that what is too long is told ahead of it.
func TestAppendFull(t *testing.T) {
	big := make([]byte, full+1)
	d := made(t)
	names := goodNames()
	for _, s := range names[:api.MaxFiles] {
		is(t, "Append "+s, d.Append(s, nil), api.OK)
	}
	for range 2 {
		for _, s := range names[api.MaxFiles:] {
			is(t, "Append one more, "+s, d.Append(s, nil), api.ErrFull)
			is(t, "Append one more, "+s, d.Append(s, big[1:]), api.ErrFull)
			is(t, "Append one more beyond, "+s, d.Append(s, big), api.ErrLimit)
		}
		for _, s := range names[:api.MaxFiles] {
			is(t, "Append "+s, d.Append(s, []byte("x")), api.OK)
		}
		is(t, "Append an invalid one", d.Append("A", big), api.ErrForm)
	}
	if l, _ := d.List(); !slices.Equal(l, names[:api.MaxFiles]) {
		t.Errorf("List is %v", l)
	}
	// There is room again behind a Remove, and behind a Rename to one that is there.
	last := names[api.MaxFiles]
	is(t, "Remove", d.Remove(names[3]), api.OK)
	is(t, "Append", d.Append(last, nil), api.OK)
	is(t, "Append", d.Append(names[3], nil), api.ErrFull)
	is(t, "Rename", d.Rename(names[0], names[1]), api.OK)
	is(t, "Append", d.Append(names[3], nil), api.OK)
	is(t, "Append", d.Append(names[0], nil), api.ErrFull)
	is(t, "Rename to a new one", d.Rename(names[1], names[0]), api.OK)
	is(t, "Append", d.Append(names[1], nil), api.ErrFull)
}

// P9.2: what Cut leaves, and that it isn't durable.
func TestCut(t *testing.T) {
	d := made(t, "a", "12345", "b", "", "c", "xyz")
	for _, n := range []int{5, 4, 4, 2} {
		is(t, "Cut", d.Cut("a", n), api.OK)
		reads(t, d, "a", "12345"[:n], "b", "", "c", "xyz")
		finds(t, d, nil, "a", "12345", "b", "", "c", "xyz")
	}
	is(t, "Cut of nothing", d.Cut("b", 0), api.OK)
	is(t, "Cut to nothing", d.Cut("c", 0), api.OK)
	reads(t, d, "a", "12", "b", "", "c", "")
	for _, n := range []int{3, 4, 5, 6, full, full + 1, math.MaxInt32, 1 << 32, 1<<32 + 1, math.MaxInt} {
		is(t, "Cut beyond", d.Cut("a", n), api.ErrForm)
		is(t, "Cut beyond", d.Cut("b", n), api.ErrForm)
	}
	is(t, "Append", d.Append("a", []byte("67")), api.OK)
	reads(t, d, "a", "1267", "b", "", "c", "")
	finds(t, d, []int{0, 0}, "a", "12345", "b", "", "c", "xyz")
	finds(t, d, []int{1, 0}, "a", "1267", "b", "", "c", "xyz")
}

// P9.2: what Sync makes durable, and of which file.
func TestSync(t *testing.T) {
	d := made(t, "a", "12345", "b", "xyz")
	for _, c := range []struct {
		cut int
		b   string
	}{{5, ""}, {5, "6"}, {6, "789"}, {9, ""}, {4, ""}, {2, "ab"}, {0, "1"}, {1, "2"}, {2, "345"}, {1, "2346"}, {0, ""}, {0, "long, longer than all of these"}, {3, "x"}} {
		is(t, "Cut", d.Cut("a", c.cut), api.OK)
		is(t, "Append", d.Append("a", []byte(c.b)), api.OK)
		is(t, "Append", d.Append("b", []byte("0")), api.OK)
		want, _ := d.Read("a")
		is(t, "Sync", d.Sync("a"), api.OK)
		reads(t, d, "a", string(want), "b", string(content(t, d, "b")))
		finds(t, d, nil, "a", string(want), "b", "xyz")
		// What comes later does not reach what is durable.
		is(t, "Append", d.Append("a", []byte("later")), api.OK)
		finds(t, d, nil, "a", string(want), "b", "xyz")
		is(t, "Cut", d.Cut("a", 0), api.OK)
		is(t, "Append", d.Append("a", bytes.Repeat([]byte("!"), len(want))), api.OK)
		finds(t, d, nil, "a", string(want), "b", "xyz")
		is(t, "Cut", d.Cut("a", 0), api.OK)
		is(t, "Append", d.Append("a", want), api.OK)
	}
	is(t, "Append", d.Append("new", []byte("n")), api.OK)
	is(t, "Sync", d.Sync("new"), api.OK)
	is(t, "Sync again", d.Sync("new"), api.OK)
	is(t, "Sync", d.Sync("b"), api.OK)
	finds(t, d, nil, visibleList(t, d)...)
}

// content is what is visible of a file.
func content(t *testing.T, d *Disk, name string) []byte {
	t.Helper()
	x, e := d.Read(name)
	is(t, "Read "+name, e, api.OK)
	return x
}

// visibleList lists what is visible as files takes it.
func visibleList(t *testing.T, d *Disk) []string {
	t.Helper()
	var l []string
	for _, f := range visible(t, d) {
		l = append(l, f.Name, string(f.Data))
	}
	return l
}

// P9.2: a file goes with both of its contents, and stays as unsynced as it was.
func TestRename(t *testing.T) {
	start := func() *Disk {
		d := made(t, "a", "1", "b", "2", "c", "3")
		d.Append("a", []byte("+"))
		d.Append("b", []byte("-"))
		d.Append("n", []byte("new"))
		return d
	}
	for _, c := range []struct {
		from, to     string
		seen, stayed []string
	}{
		{"a", "b", []string{"b", "1+", "c", "3", "n", "new"}, []string{"b", "1", "c", "3", "n", ""}},
		{"b", "a", []string{"a", "2-", "c", "3", "n", "new"}, []string{"a", "2", "c", "3", "n", ""}},
		{"a", "z", []string{"b", "2-", "c", "3", "n", "new", "z", "1+"}, []string{"b", "2", "c", "3", "n", "", "z", "1"}},
		{"n", "0", []string{"0", "new", "a", "1+", "b", "2-", "c", "3"}, []string{"0", "", "a", "1", "b", "2", "c", "3"}},
		{"c", "a", []string{"a", "3", "b", "2-", "n", "new"}, []string{"a", "3", "b", "2", "n", ""}},
		{"n", "c", []string{"a", "1+", "b", "2-", "c", "new"}, []string{"a", "1", "b", "2", "c", ""}},
		{"a", "a", []string{"a", "1+", "b", "2-", "c", "3", "n", "new"}, []string{"a", "1", "b", "2", "c", "3", "n", ""}},
		{"n", "n", []string{"a", "1+", "b", "2-", "c", "3", "n", "new"}, []string{"a", "1", "b", "2", "c", "3", "n", ""}},
		{"b", "bb", []string{"a", "1+", "bb", "2-", "c", "3", "n", "new"}, []string{"a", "1", "bb", "2", "c", "3", "n", ""}},
	} {
		d := start()
		is(t, "Rename "+c.from+" "+c.to, d.Rename(c.from, c.to), api.OK)
		reads(t, d, c.seen...)
		finds(t, d, nil, c.stayed...)
		finds(t, d, []int{1, 1, 1, 1}, c.seen...)
		if c.from != c.to {
			_, e := d.Read(c.from)
			is(t, "Read "+c.from, e, api.ErrNone)
		}
		is(t, "Sync "+c.to, d.Sync(c.to), api.OK)
		is(t, "Append "+c.to, d.Append(c.to, []byte("later")), api.OK)
		want := slices.Clone(c.stayed)
		want[slices.Index(want, c.to)+1] = c.seen[slices.Index(c.seen, c.to)+1]
		finds(t, d, nil, want...)
		// A file of the old name is another one.
		if c.from != c.to {
			is(t, "Append "+c.from, d.Append(c.from, []byte("again")), api.OK)
			if x := content(t, d, c.from); string(x) != "again" {
				t.Errorf("%s is %q", c.from, x)
			}
		}
	}
}

// P9.2: a file that was removed is gone for good, and another of its name is a new one.
func TestRemove(t *testing.T) {
	d := made(t, "a", "1", "b", "2", "c", "3")
	d.Append("b", []byte("+"))
	is(t, "Remove", d.Remove("b"), api.OK)
	reads(t, d, "a", "1", "c", "3")
	finds(t, d, []int{1, 1}, "a", "1", "c", "3")
	is(t, "Remove again", d.Remove("b"), api.ErrNone)
	is(t, "Append", d.Append("b", []byte("x")), api.OK)
	reads(t, d, "a", "1", "b", "x", "c", "3")
	finds(t, d, nil, "a", "1", "b", "", "c", "3")
	for _, s := range []string{"c", "a", "b"} {
		is(t, "Remove", d.Remove(s), api.OK)
	}
	reads(t, d)
	finds(t, d, nil)
}

// changes are the methods of P9.2, on a file of a name.
var changes = map[string]func(d *Disk, name string) api.Errno{
	"Append":      func(d *Disk, name string) api.Errno { return d.Append(name, []byte("x")) },
	"Append long": func(d *Disk, name string) api.Errno { return d.Append(name, make([]byte, full+1)) },
	"Cut":         func(d *Disk, name string) api.Errno { return d.Cut(name, 0) },
	"Cut beyond":  func(d *Disk, name string) api.Errno { return d.Cut(name, full+1) },
	"Sync":        func(d *Disk, name string) api.Errno { return d.Sync(name) },
	"Rename":      func(d *Disk, name string) api.Errno { return d.Rename(name, "other") },
	"Remove":      func(d *Disk, name string) api.Errno { return d.Remove(name) },
}

// P9.2, P9.3: an invalid name comes ahead of all, counts for nothing, and leaves all as it was.
func TestWrongNames(t *testing.T) {
	for _, off := range []bool{false, true} {
		d := made(t, "a", "1", "b", "2")
		d.Append("a", []byte("+"))
		if off {
			d.Off(0)
		}
		for _, s := range wrongNames() {
			for what, change := range changes {
				is(t, what+" "+quote(s), change(d, s), api.ErrForm)
			}
			for _, to := range []string{"a", "none", "A"} {
				is(t, "Rename from "+quote(s), d.Rename(s, to), api.ErrForm)
				is(t, "Rename to "+quote(s), d.Rename(to, s), api.ErrForm)
			}
			is(t, "Cut", d.Cut(s, -1), api.ErrForm)
			x, e := d.Read(s)
			is(t, "Read "+quote(s), e, api.ErrForm)
			if len(x) > 0 {
				t.Errorf("Read(%.200q) is %.200q", s, x)
			}
		}
		for _, n := range []int{-1, -2, math.MinInt32, -1 << 32, math.MinInt} {
			for _, s := range []string{"a", "none", "b"} {
				is(t, "Cut "+strconv.Itoa(n), d.Cut(s, n), api.ErrForm)
			}
		}
		if k := d.Calls(); k != 1 {
			t.Errorf("%d calls", k)
		}
		finds(t, d, nil, "a", "1", "b", "2")
		finds(t, d, []int{1}, "a", "1+", "b", "2")
	}
}

// P9.2, P9.3: a file that isn't there, ahead of what else is wrong, but behind the power.
func TestNone(t *testing.T) {
	for _, l := range [][]string{nil, {"a", "1", "c", "2"}} {
		for _, s := range []string{"b", "0", "z", "aa", "a-", strings.Repeat("c", api.MaxName)} {
			d := made(t, l...)
			for _, what := range []string{"Cut", "Cut beyond", "Sync", "Rename", "Remove"} {
				is(t, what+" "+s, changes[what](d, s), api.ErrNone)
			}
			is(t, "Rename to itself", d.Rename(s, s), api.ErrNone)
			is(t, "Rename to one that is there", d.Rename(s, "a"), api.ErrNone)
			x, e := d.Read(s)
			is(t, "Read "+s, e, api.ErrNone)
			if len(x) > 0 || d.Calls() != 7 {
				t.Errorf("Read(%q) is %q, behind %d calls", s, x, d.Calls())
			}
			reads(t, d, l...)
			finds(t, d, []int{1, 1}, l...)
		}
	}
}

// P9.3: all calls of P9.2 count but those of an invalid name or a negative n; no others do.
func TestCalls(t *testing.T) {
	d := made(t, "a", "1")
	want := 0
	for _, c := range []struct {
		call func() api.Errno
		e    api.Errno
		n    int
	}{
		{func() api.Errno { return d.Append("a", nil) }, api.OK, 1},
		{func() api.Errno { return d.Append("", nil) }, api.ErrForm, 0},
		{func() api.Errno { return d.Append("a", make([]byte, full)) }, api.ErrLimit, 1},
		{func() api.Errno { return d.Cut("a", -1) }, api.ErrForm, 0},
		{func() api.Errno { return d.Cut("a", 2) }, api.ErrForm, 1},
		{func() api.Errno { return d.Cut("none", 2) }, api.ErrNone, 1},
		{func() api.Errno { return d.Cut("A", -1) }, api.ErrForm, 0},
		{func() api.Errno { return d.Cut("A", 0) }, api.ErrForm, 0},
		{func() api.Errno { return d.Cut("a", 1) }, api.OK, 1},
		{func() api.Errno { return d.Sync("none") }, api.ErrNone, 1},
		{func() api.Errno { return d.Sync("A") }, api.ErrForm, 0},
		{func() api.Errno { return d.Sync("a") }, api.OK, 1},
		{func() api.Errno { return d.Rename("a", "a") }, api.OK, 1},
		{func() api.Errno { return d.Rename("a", "b") }, api.OK, 1},
		{func() api.Errno { return d.Rename("a", "c") }, api.ErrNone, 1},
		{func() api.Errno { return d.Rename("b", "") }, api.ErrForm, 0},
		{func() api.Errno { return d.Rename("", "b") }, api.ErrForm, 0},
		{func() api.Errno { return d.Remove("a") }, api.ErrNone, 1},
		{func() api.Errno { return d.Remove("B") }, api.ErrForm, 0},
		{func() api.Errno { return d.Remove("b") }, api.OK, 1},
		{func() api.Errno { _, e := d.Read("b"); return e }, api.ErrNone, 0},
		{func() api.Errno { _, e := d.List(); return e }, api.OK, 0},
		{func() api.Errno { d.Crash([]int{1}); return api.OK }, api.OK, 0},
		{func() api.Errno { d.Off(2); return api.OK }, api.OK, 0},
		{func() api.Errno { return d.Append("a", nil) }, api.OK, 1},
		{func() api.Errno { return d.Append("a", nil) }, api.ErrPower, 1},
		{func() api.Errno { return d.Cut("a", -1) }, api.ErrForm, 0},
		{func() api.Errno { return d.Cut("none", 9) }, api.ErrPower, 1},
		{func() api.Errno { return d.Sync("none") }, api.ErrPower, 1},
		{func() api.Errno { return d.Rename("none", "a") }, api.ErrPower, 1},
		{func() api.Errno { return d.Rename("none", "A") }, api.ErrForm, 0},
		{func() api.Errno { return d.Remove("none") }, api.ErrPower, 1},
		{func() api.Errno { d.Off(0); return api.OK }, api.OK, 0},
		{func() api.Errno { return d.Append("b", make([]byte, full+1)) }, api.ErrPower, 1},
	} {
		is(t, "call behind "+strconv.Itoa(want), c.call(), c.e)
		want += c.n
		if k := d.Calls(); k != want {
			t.Fatalf("Calls is %d, not %d", k, want)
		}
	}
}

// row is a row of numbers without a pattern, the same for each start.
type row uint64

// below is the next number, from 0 to n-1.
func (r *row) below(n int) int {
	*r = *r*6364136223846793005 + 1442695040888963407
	return int(*r>>33) % n
}

// order is the numbers from 0 to n-1 in some order.
func (r *row) order(n int) []int {
	var l []int
	for i := range n {
		l = slices.Insert(l, r.below(i+1), i)
	}
	return l
}

// P9.3: the names rise bytewise, in whichever order the files came.
func TestList(t *testing.T) {
	names := goodNames()[4 : 4+api.MaxFiles]
	for k := range 20 {
		d := made(t)
		r := row(k)
		for _, i := range r.order(len(names)) {
			is(t, "Append", d.Append(names[i], nil), api.OK)
			l, e := d.List()
			if e != api.OK || !slices.IsSorted(l) || !slices.Contains(l, names[i]) {
				t.Errorf("List is %v, %d", l, e)
			}
		}
		if l, e := d.List(); e != api.OK || !slices.Equal(l, names) {
			t.Errorf("List is %v, %d", l, e)
		}
	}
	if l, e := made(t).List(); len(l) > 0 || e != api.OK {
		t.Errorf("List of nothing is %v, %d", l, e)
	}
}

// P9.3: at its call the power goes off ahead of all that the call does, whichever it is, and stays off.
func TestOff(t *testing.T) {
	for what, change := range changes {
		for n := -2; n < 6; n++ {
			d := made(t, "a", "1", "b", "2")
			d.Append("a", []byte("+"))
			d.Off(n)
			var want []string
			for k := 1; k < n; k++ {
				is(t, "Append", d.Append("b", []byte("3")), api.OK)
				is(t, "Append", d.Append("B", []byte("3")), api.ErrForm)
				is(t, "Cut", d.Cut("b", -1), api.ErrForm)
				want = visibleList(t, d)
			}
			before := []string{"a", "1+", "b", "2" + strings.Repeat("3", max(0, n-1))}
			if n > 1 && !slices.Equal(want, before) {
				t.Errorf("visible is %v, not %v", want, before)
			}
			for _, name := range []string{"a", "none"} {
				is(t, what+" "+name, change(d, name), api.ErrPower)
				isOff(t, d)
			}
			for range 3 {
				is(t, "Append later", d.Append("b", nil), api.ErrPower)
				// It doesn't come back.
				d.Off(5)
				isOff(t, d)
			}
			finds(t, d, nil, "a", "1", "b", "2")
			finds(t, d, []int{1, 1}, before...)
		}
	}
}

// isOff asks whether nothing can be read.
func isOff(t *testing.T, d *Disk) {
	t.Helper()
	for _, s := range []string{"a", "none"} {
		x, e := d.Read(s)
		is(t, "Read "+s, e, api.ErrPower)
		if len(x) > 0 {
			t.Errorf("Read is %q", x)
		}
	}
	_, e := d.Read("A")
	is(t, "Read A", e, api.ErrForm)
	l, e := d.List()
	is(t, "List", e, api.ErrPower)
	if len(l) > 0 {
		t.Errorf("List is %v", l)
	}
}

// P9.3: calls that are refused for other reasons count on the way to the power's end; reading doesn't.
func TestOffCounts(t *testing.T) {
	d := made(t, "a", "1")
	d.Off(4)
	is(t, "Cut", d.Cut("a", 2), api.ErrForm)
	is(t, "Sync", d.Sync("none"), api.ErrNone)
	for range 10 {
		visible(t, d)
		d.Crash(nil)
		d.Calls()
		is(t, "Sync", d.Sync(""), api.ErrForm)
	}
	is(t, "Append", d.Append("a", make([]byte, full)), api.ErrLimit)
	visible(t, d)
	is(t, "Append", d.Append("a", nil), api.ErrPower)
	isOff(t, d)
}

// P9.3: while the power is on, a later Off takes the place of an earlier one.
func TestOffAgain(t *testing.T) {
	for _, first := range []int{1, 2, 3, 10, math.MaxInt32, math.MaxInt} {
		for between := range min(first, 4) {
			for _, then := range []int{math.MinInt, -1, 0, 1, 2, 5, 1000} {
				d := made(t)
				d.Off(first)
				for range between {
					is(t, "Append", d.Append("a", nil), api.OK)
				}
				d.Off(then)
				for range max(1, then) - 1 {
					is(t, "Append", d.Append("a", nil), api.OK)
				}
				if then > 0 {
					visible(t, d)
				}
				is(t, "Append", d.Append("a", nil), api.ErrPower)
				for range 20 {
					is(t, "Append", d.Append("a", nil), api.ErrPower)
				}
				isOff(t, d)
			}
		}
	}
	for _, far := range []int{1000, math.MaxInt32, 1 << 32, math.MaxInt} {
		d := made(t)
		d.Off(far)
		for range 999 {
			is(t, "Append", d.Append("a", []byte("x")), api.OK)
		}
		reads(t, d, "a", strings.Repeat("x", 999))
	}
}

// P9.4: the chapter's example, and picks of all kinds where there is nothing torn.
func TestCrash(t *testing.T) {
	d := made(t)
	is(t, "Append", d.Append("a", []byte("abc")), api.OK)
	finds(t, d, []int{1}, "a", "abc")
	finds(t, d, []int{0}, "a", "")
	for _, p := range []int{4, 7, 3*1000 + 1, -2, -5, math.MaxInt, math.MinInt} {
		finds(t, d, []int{p}, "a", "abc")
	}
	for _, p := range []int{3, 6, 3 * 1000, -3, -6, math.MaxInt - 1, math.MinInt + 2} {
		finds(t, d, []int{p}, "a", "")
	}
	for _, p := range []int{2, 8, 14, 2 + 6*1000, -4, -10} {
		finds(t, d, []int{p}, "a", "\x00\x00\x00")
	}
	for _, p := range []int{5, 11, 5 + 6*1000, -1, -7} {
		finds(t, d, []int{p}, "a", "abc")
	}
	// All are 2 modulo 3; a third of them, rounded down, is odd, then even.
	for _, p := range []int{math.MaxInt - 2, math.MinInt + 1} {
		finds(t, d, []int{p}, "a", "abc")
	}
	for _, p := range []int{math.MaxInt - 5, math.MinInt + 4} {
		finds(t, d, []int{p}, "a", "\x00\x00\x00")
	}
}

// torn is what P9.4 says of a file that isn't as it was synced, byte by byte.
func torn(visible, durable string, p int) []byte {
	third, kind := new(big.Int).DivMod(big.NewInt(int64(p)), big.NewInt(3), new(big.Int))
	switch kind.Int64() {
	case 0:
		return []byte(durable)
	case 1:
		return []byte(visible)
	}
	k := 0
	for max(len(visible), len(durable)) > k*api.Sector {
		k++
	}
	m := int(third.Mod(third, big.NewInt(int64(k+1))).Int64())
	var l []byte
	for i := range len(visible) {
		switch {
		case i/api.Sector < m:
			l = append(l, visible[i])
		case i < len(durable):
			l = append(l, durable[i])
		default:
			l = append(l, 0)
		}
	}
	return l
}

// P9.4: torn writes of all lengths around the sectors' edges, by all picks that differ, and by negative ones.
func TestTorn(t *testing.T) {
	letters := func(n, first int) string {
		l := make([]byte, n)
		for i := range l {
			l[i] = byte(first + i%13)
		}
		return string(l)
	}
	lengths := []int{0, 1, 31, 32, 33, 63, 64, 65, 96, 97, 100}
	for _, v := range lengths {
		for _, s := range lengths {
			visible, durable := letters(v, 'a'), letters(s, 'n')
			d := made(t, "a", durable, "b", "same")
			is(t, "Cut", d.Cut("a", 0), api.OK)
			is(t, "Append", d.Append("a", []byte(visible)), api.OK)
			for p := -20; p < 20; p++ {
				want := string(torn(visible, durable, p))
				if visible == durable {
					want = durable
				}
				finds(t, d, []int{p}, "a", want, "b", "same")
			}
			for _, p := range []int{math.MaxInt, math.MaxInt - 1, math.MaxInt - 2, math.MinInt, math.MinInt + 1, math.MinInt + 2, math.MinInt + 3, math.MinInt + 4, 1<<32 + 1, 1<<32 + 2, -1 << 32} {
				want := string(torn(visible, durable, p))
				if visible == durable {
					want = durable
				}
				finds(t, d, []int{p}, "a", want, "b", "same")
			}
		}
	}
}

// P9.4: torn writes by hand: where the sectors come from.
func TestTornByHand(t *testing.T) {
	x, y := strings.Repeat("x", 80), strings.Repeat("y", 40)
	z := strings.Repeat("\x00", 100)
	longer := made(t, "a", y)
	longer.Cut("a", 0)
	longer.Append("a", []byte(x))
	shorter := made(t, "a", x)
	shorter.Cut("a", 0)
	shorter.Append("a", []byte(y))
	fresh := made(t)
	fresh.Append("a", []byte(x))
	gone := made(t, "a", x)
	gone.Cut("a", 0)
	for m, c := range []struct{ longer, shorter, fresh string }{
		{y + z[:40], x[:40], z[:80]},
		{x[:32] + y[32:] + z[:40], y[:32] + x[:8], x[:32] + z[:48]},
		{x[:64] + z[:16], y, x[:64] + z[:16]},
		{x, y, x},
		// 80 bytes have three sectors, so that a fourth begins again with none.
		{y + z[:40], x[:40], z[:80]},
	} {
		p := 2 + 3*m
		finds(t, longer, []int{p}, "a", c.longer)
		finds(t, shorter, []int{p}, "a", c.shorter)
		finds(t, fresh, []int{p}, "a", c.fresh)
		finds(t, gone, []int{p}, "a", "")
		finds(t, longer, []int{p - 12}, "a", c.longer)
	}
	big := bytes.Repeat([]byte("b"), full)
	d := made(t)
	d.Append("a", big)
	finds(t, d, []int{2 + 3*(full/api.Sector)}, "a", string(big))
	finds(t, d, []int{2 + 3*(full/api.Sector-1)}, "a", string(big[api.Sector:])+z[:api.Sector])
	finds(t, d, []int{2 + 3*(full/api.Sector+1)}, "a", string(make([]byte, full)))
}

// P9.4: a pick goes to each file whose contents differ, in the order of the names, and to no other.
func TestPicks(t *testing.T) {
	d := made(t, "a", "1", "b", "2", "c", "3", "d", "4", "e", "5")
	d.Append("e", []byte("+"))
	d.Append("b", []byte("+"))
	d.Cut("d", 0)
	// What was changed and is as it was again takes none.
	d.Cut("c", 0)
	d.Append("c", []byte("3"))
	d.Append("new", nil)
	for _, c := range []struct {
		picks   []int
		b, d, e string
	}{
		{nil, "2", "4", "5"}, {[]int{}, "2", "4", "5"}, {[]int{1}, "2+", "4", "5"}, {[]int{0, 1}, "2", "", "5"}, {[]int{0, 0, 1}, "2", "4", "5+"}, {[]int{1, 1, 1}, "2+", "", "5+"},
		{[]int{1, 0, 1, 1, 1}, "2+", "4", "5+"}, {[]int{0, 0, 0, 1, 1}, "2", "4", "5"}, {[]int{2, 1, 2}, "2\x00", "", "5\x00"}, {[]int{5, 0, 4}, "2+", "4", "5+"},
	} {
		// Asked twice, for a crash changes nothing.
		for range 2 {
			finds(t, d, c.picks, "a", "1", "b", c.b, "c", "3", "d", c.d, "e", c.e, "new", "")
		}
	}
	reads(t, d, "a", "1", "b", "2+", "c", "3", "d", "", "e", "5+", "new", "")
	d.Off(0)
	finds(t, d, []int{1, 0, 1}, "a", "1", "b", "2+", "c", "3", "d", "4", "e", "5+", "new", "")
	isOff(t, d)
	finds(t, made(t), []int{1, 2, 3})
}

// P9.5: what was synced, and not written to since, is found behind every crash, also under another name and with other files around it.
func TestSynced(t *testing.T) {
	x := strings.Repeat("0123456789", 20)
	for p := -12; p < 40; p++ {
		d := made(t, "b", "old, and longer than what is synced"+x, "c", "3")
		d.Cut("b", 3)
		d.Append("b", []byte(x))
		d.Append("a", []byte("unsynced"))
		is(t, "Sync", d.Sync("b"), api.OK)
		d.Append("c", []byte("more"))
		d.Append("d", []byte(x))
		check := func(name string) {
			t.Helper()
			for _, picks := range [][]int{{p}, {p, p}, {p, p, p}, {p, p, p, p}, {0, p}, {p, 1, p}} {
				found := d.Crash(picks)
				i := slices.IndexFunc(found, func(f api.File) bool { return f.Name == name })
				if i < 0 || string(found[i].Data) != "old"+x {
					t.Errorf("behind Crash(%v): %s", picks, short(found))
				}
			}
		}
		check("b")
		is(t, "Rename", d.Rename("b", "d"), api.OK)
		check("d")
		is(t, "Rename", d.Rename("d", "0"), api.OK)
		check("0")
		is(t, "Remove", d.Remove("a"), api.OK)
		d.Off(1)
		is(t, "Append", d.Append("0", []byte("x")), api.ErrPower)
		is(t, "Cut", d.Cut("0", 0), api.ErrPower)
		check("0")
	}
}

// plain is a disk as the chapter tells it, without any thrift.
type plain struct {
	visible, durable map[string]string
	calls, left      int
	off              bool
}

// ok counts a call and reports whether it may go on.
func (p *plain) ok() bool {
	p.calls++
	p.left--
	p.off = p.off || p.left == 0
	return !p.off
}

// step makes one call of both, and returns what the disk answered and what the plain one says to it.
func step(r *row, d *Disk, p *plain) (got, want api.Errno) {
	names := []string{"a", "b", "c", "d"}
	a, z := names[r.below(4)], names[r.below(4)]
	content, there := p.visible[a]
	switch r.below(12) {
	case 0, 1, 2, 3, 4:
		x := strings.Repeat(string(rune('A'+r.below(26))), r.below(50))
		if got = d.Append(a, []byte(x)); !p.ok() {
			return got, api.ErrPower
		}
		p.visible[a] += x
		// A new file is there at once, without bytes.
		p.durable[a] += ""
	case 5, 6:
		n := r.below(len(content) + 2)
		switch got = d.Cut(a, n); {
		case !p.ok():
			return got, api.ErrPower
		case !there:
			return got, api.ErrNone
		case n > len(content):
			return got, api.ErrForm
		}
		p.visible[a] = content[:n]
	case 7, 8, 9:
		switch got = d.Sync(a); {
		case !p.ok():
			return got, api.ErrPower
		case !there:
			return got, api.ErrNone
		}
		p.durable[a] = content
	case 10:
		switch got = d.Rename(a, z); {
		case !p.ok():
			return got, api.ErrPower
		case !there:
			return got, api.ErrNone
		}
		stayed := p.durable[a]
		delete(p.visible, a)
		delete(p.durable, a)
		p.visible[z], p.durable[z] = content, stayed
	case 11:
		switch got = d.Remove(a); {
		case !p.ok():
			return got, api.ErrPower
		case !there:
			return got, api.ErrNone
		}
		delete(p.visible, a)
		delete(p.durable, a)
	}
	return got, api.OK
}

// P9.2 to P9.4: long runs of calls, beside the plain disk.
func TestRuns(t *testing.T) {
	for seed := range 60 {
		r := row(seed)
		p := &plain{visible: map[string]string{}, durable: map[string]string{}}
		d := made(t)
		for k := range 300 {
			if k == 200 && seed%2 == 1 {
				p.left = 1 + r.below(100)
				d.Off(p.left)
			}
			if got, want := step(&r, d, p); got != want {
				t.Fatalf("run %d, call %d: %d, not %d", seed, k, got, want)
			}
			compare(t, &r, d, p)
			if t.Failed() {
				t.Fatalf("run %d, call %d", seed, k)
			}
		}
	}
}

// compare asks whether the disk is as the plain one.
func compare(t *testing.T, r *row, d *Disk, p *plain) {
	t.Helper()
	var picks, left []int
	for range r.below(5) {
		picks = append(picks, r.below(60)-20)
	}
	left = picks
	var seen, found []string
	for _, s := range []string{"a", "b", "c", "d"} {
		v, ok := p.visible[s]
		if !ok {
			continue
		}
		seen = append(seen, s, v)
		stays := p.durable[s]
		if stays != v {
			pick := 0
			if len(left) > 0 {
				pick, left = left[0], left[1:]
			}
			stays = string(torn(v, stays, pick))
		}
		found = append(found, s, stays)
	}
	finds(t, d, picks, found...)
	if d.Calls() != p.calls {
		t.Errorf("Calls is %d, not %d", d.Calls(), p.calls)
	}
	if p.off {
		isOff(t, d)
		return
	}
	reads(t, d, seen...)
}

// R1: what was found can be opened again, and all goes on with it.
func TestOpenAgain(t *testing.T) {
	d := made(t, "a", "1")
	d.Append("a", []byte("2"))
	d.Append("b", []byte("3"))
	d.Off(0)
	again, e := New(d.Crash([]int{1}))
	if e != api.OK {
		t.Fatalf("New of what was found is %d", e)
	}
	reads(t, again, "a", "12", "b", "")
	finds(t, again, []int{1, 1}, "a", "12", "b", "")
	is(t, "Append", again.Append("b", []byte("4")), api.OK)
	finds(t, again, nil, "a", "12", "b", "")
	isOff(t, d)
}

// R1: two disks from the same files have nothing in common, and equal calls are answered equally.
func TestTwoDisks(t *testing.T) {
	l := files("a", "1", "b", "2")
	x, _ := New(l)
	y, _ := New(l)
	x.Append("a", []byte("+"))
	x.Sync("a")
	x.Cut("b", 0)
	x.Off(1)
	x.Sync("b")
	reads(t, y, "a", "1", "b", "2")
	finds(t, x, nil, "a", "1+", "b", "2")
	finds(t, y, nil, "a", "1", "b", "2")
	if x.Calls() != 4 || y.Calls() != 0 {
		t.Errorf("%d and %d calls", x.Calls(), y.Calls())
	}
}

// R1: a disk that New didn't make is an empty one; none of its calls panics.
func TestZeroDisk(t *testing.T) {
	var d Disk
	reads(t, &d)
	finds(t, &d, []int{1})
	for _, what := range []string{"Cut", "Sync", "Rename", "Remove"} {
		is(t, what, changes[what](&d, "a"), api.ErrNone)
	}
	is(t, "Append", d.Append("a", []byte("1")), api.OK)
	is(t, "Sync", d.Sync("a"), api.OK)
	reads(t, &d, "a", "1")
	finds(t, &d, nil, "a", "1")
	if d.Calls() != 6 {
		t.Errorf("%d calls", d.Calls())
	}
}

// spoil writes all over a list, and behind its end.
func spoil(l []byte) {
	for i := range l[:cap(l)] {
		l[:cap(l)][i] = '!'
	}
}

// R2: arguments are neither kept nor changed.
func TestArgumentsStay(t *testing.T) {
	room := append(make([]byte, 0, 64), "12"...)
	l := []api.File{{Name: "a", Data: room}, {Name: "b", Data: []byte("3")}}
	d, _ := New(l)
	more := append(make([]byte, 0, 64), "45"...)
	for _, s := range []string{"a", "new"} {
		is(t, "Append", d.Append(s, more), api.OK)
		is(t, "Append", d.Append(s, more), api.OK)
	}
	picks := []int{1, 2, 5, 1}
	d.Crash(picks)
	if !slices.Equal(picks, []int{1, 2, 5, 1}) || !same(l, files("a", "12", "b", "3")) || string(more) != "45" {
		t.Errorf("%v, %q, %s", picks, more, short(l))
	}
	for _, x := range [][]byte{room, more} {
		for _, c := range x[len(x):cap(x)] {
			if c != 0 {
				t.Errorf("behind %q stands %q", x, x[len(x):cap(x)])
				break
			}
		}
	}
	spoil(room)
	spoil(more)
	l[0].Name, l[1] = "zzz", api.File{}
	reads(t, d, "a", "124545", "b", "3", "new", "4545")
	finds(t, d, nil, "a", "12", "b", "3", "new", "")
}

// R2: what is answered can be written into, and behind its end, and nothing else changes.
func TestAnswersAreNew(t *testing.T) {
	d := made(t, "a", "123", "b", "456", "c", "789", "e", "")
	d.Append("a", []byte("+"))
	d.Append("b", []byte("+"))
	d.Cut("b", 2)
	d.Append("d", []byte("new"))
	d.Append("e", bytes.Repeat([]byte("e"), 50))
	seen := visibleList(t, d)
	for range 2 {
		for _, s := range []string{"a", "b", "c", "d", "e"} {
			x, y := content(t, d, s), content(t, d, s)
			want := string(x)
			spoil(x)
			if string(y) != want {
				t.Errorf("another answer became %q", y)
			}
		}
		names, _ := d.List()
		for i := range names[:cap(names)] {
			names[:cap(names)][i] = "zzz"
		}
		for _, p := range []int{0, 1, 2, 5} {
			picks := []int{p, p, p, p, p}
			x, y := d.Crash(picks), d.Crash(picks)
			// As texts, which nothing that is written later can reach.
			want := listOf(x)
			for i := range x {
				spoil(x[i].Data)
				if i+1 < len(x) && !same(x[i+1:], files(want...)[i+1:]) {
					t.Errorf("%s reaches another file of the answer", x[i].Name)
				}
			}
			clear(x[:cap(x)])
			if !same(y, files(want...)) {
				t.Errorf("another answer became %s", short(y))
			}
			finds(t, d, picks, want...)
		}
		reads(t, d, seen...)
	}
}

// listOf lists files as files takes them.
func listOf(l []api.File) []string {
	var all []string
	for _, f := range l {
		all = append(all, f.Name, string(f.Data))
	}
	return all
}

// P9.2: a long file that is appended to and synced again and again.
func TestManySyncs(t *testing.T) {
	d := made(t)
	x := []byte("0123456789abcdef")
	for k := range full / len(x) {
		if e := d.Append("a", x); e != api.OK {
			t.Fatalf("Append %d is %d", k, e)
		}
		if e := d.Sync("a"); e != api.OK {
			t.Fatalf("Sync %d is %d", k, e)
		}
	}
	is(t, "Append", d.Append("a", x), api.ErrLimit)
	want := string(bytes.Repeat(x, full/len(x)))
	reads(t, d, "a", want)
	finds(t, d, []int{1}, "a", want)
}
