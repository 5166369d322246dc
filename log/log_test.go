package log

import (
	"slices"
	"strconv"
	"strings"
	"testing"

	"drover/api"
	"drover/disk"
)

// files lists files by their names and contents, in turn.
func files(l ...string) []api.File {
	var all []api.File
	for i := 0; i < len(l); i += 2 {
		all = append(all, api.File{Name: l[i], Data: []byte(l[i+1])})
	}
	return all
}

// newDisk is a disk with these files, by names and contents in turn.
func newDisk(t *testing.T, l ...string) *disk.Disk {
	t.Helper()
	d, e := disk.New(files(l...))
	if e != api.OK {
		t.Fatalf("disk.New is %d", e)
	}
	return d
}

// crashed is the disk that is found behind a crash.
func crashed(t *testing.T, d *disk.Disk, picks ...int) *disk.Disk {
	t.Helper()
	again, e := disk.New(d.Crash(picks))
	if e != api.OK {
		t.Fatalf("disk.New behind Crash(%v) is %d", picks, e)
	}
	return again
}

// opened is Open(d), which must be there.
func opened(t *testing.T, d *disk.Disk) *Log {
	t.Helper()
	l, e := Open(d)
	if l == nil || e != api.OK {
		t.Fatalf("Open is %v, %d", l, e)
	}
	return l
}

// is asks whether a call answered want.
func is(t *testing.T, what string, e, want api.Errno) {
	t.Helper()
	if e != want {
		t.Errorf("%s is %d, not %d", what, e, want)
	}
}

// holds asks for the records of a log.
func holds(t *testing.T, l *Log, want ...string) {
	t.Helper()
	if got := l.All(); !slices.Equal(got, want) {
		t.Errorf("All is %s, not %s", short(got), short(want))
	}
}

// finds asks what Open finds behind a crash.
func finds(t *testing.T, d *disk.Disk, picks []int, want ...string) {
	t.Helper()
	holds(t, opened(t, crashed(t, d, picks...)), want...)
}

// short tells of records what there is room for.
func short(l []string) string {
	s := strconv.Itoa(len(l)) + ":"
	for _, r := range l[:min(len(l), 12)] {
		s += " " + strconv.Itoa(len(r)) + strconv.Quote(r[:min(len(r), 20)])
	}
	return s
}

// allBytes is a record of every byte there is.
func allBytes() string {
	var b []byte
	for c := range 256 {
		b = append(b, byte(c))
	}
	return string(b)
}

// hard lists records that could be mistaken for something else: zeros, ones, what a file of records looks like.
func hard() []string {
	var l []string
	for _, n := range []int{0, 1, 2, 28, 29, 30, 31, 32, 61, 62, 63, 64, 100, 300} {
		for _, c := range []byte{0, 1, 2, 'x', 255} {
			l = append(l, strings.Repeat(string([]byte{c}), n))
		}
	}
	inner := string(put(nil, "", "a", strings.Repeat("\x00", 40), strings.Repeat("\x01", 40)))
	return append(l, inner, inner+inner, inner[:len(inner)-1]+"\x00", strings.Repeat("\x00\x00\x01", 30), strings.Repeat("\x00\x01\x00", 30), strings.Repeat("\x00", 90)+"\x01", strings.Repeat("\x01", 90)+"\x00", allBytes(), "ä€\xff")
}

// P10.1: a disk without a log has an empty one, whatever else is on it, and nothing of that is touched.
func TestOpenEmpty(t *testing.T) {
	for _, others := range [][]string{nil, {"a", "1"}, {"-log", "1", "a.log", "2", "lo", "3", "lob", "4", "loh", "5", "new", "6"}, {"0", "", "lo.g", "\x00\x01a\x01"}} {
		d := newDisk(t, others...)
		l := opened(t, d)
		holds(t, l)
		is(t, "Sync", l.Sync(), api.OK)
		is(t, "Append", l.Append("x"), api.OK)
		is(t, "Sync", l.Sync(), api.OK)
		is(t, "Reset", l.Reset([]string{"y", "z"}), api.OK)
		is(t, "Append", l.Append("x"), api.OK)
		holds(t, opened(t, d), "y", "z", "x")
		names, e := d.List()
		is(t, "List", e, api.OK)
		var left []string
		for _, s := range names {
			b, e := d.Read(s)
			is(t, "Read "+s, e, api.OK)
			if !strings.HasPrefix(s, "log") {
				left = append(left, s, string(b))
			}
		}
		if !slices.Equal(left, others) {
			t.Errorf("of %v is left %v", others, left)
		}
	}
}

// P10.1: no disk, and one whose power is off.
func TestOpenErrors(t *testing.T) {
	if l, e := Open(nil); l != nil || e != api.ErrForm {
		t.Errorf("Open(nil) is %v, %d", l, e)
	}
	for _, records := range [][]string{nil, {"a"}, {"a", ""}} {
		d := newDisk(t)
		if len(records) > 0 {
			is(t, "Reset", opened(t, d).Reset(records), api.OK)
		}
		d.Off(0)
		for range 2 {
			if l, e := Open(d); l != nil || e != api.ErrPower {
				t.Errorf("Open is %v, %d", l, e)
			}
		}
		finds(t, d, nil, records...)
	}
}

// P10.1, P10.4: Open finds what was left there, synced or not, on the same disk and behind a crash; from then on it lasts.
func TestOpenAgain(t *testing.T) {
	for _, last := range []string{"", "b", strings.Repeat("\x00", 100), allBytes()} {
		d := newDisk(t)
		l := opened(t, d)
		is(t, "Append", l.Append("a"), api.OK)
		is(t, "Sync", l.Sync(), api.OK)
		is(t, "Append", l.Append(last), api.OK)
		for range 2 {
			holds(t, opened(t, d), "a", last)
			for _, picks := range [][]int{nil, {1}, {2}, {5}, {8}} {
				finds(t, d, picks, "a", last)
			}
		}
	}
}

// P10.2: records of all kinds and lengths, in the order in which they came.
func TestAppend(t *testing.T) {
	long := strings.Repeat("0123456789abcdef", api.MaxRecord/16)
	d := newDisk(t)
	l := opened(t, d)
	var want []string
	for _, s := range append(hard(), "a", "a", "", "", long, long[1:], strings.Repeat("\x00", api.MaxRecord), strings.Repeat("\x01", api.MaxRecord), long[:255], long[:256], long[:257]) {
		is(t, "Append", l.Append(s), api.OK)
		want = append(want, s)
		holds(t, l, want...)
		for _, wrong := range []string{long + "x", long + long, strings.Repeat("\x00", 1<<16), strings.Repeat("\x00", 1<<16+1), strings.Repeat("\x00", api.MaxFile)} {
			is(t, "Append too long", l.Append(wrong), api.ErrForm)
		}
		holds(t, l, want...)
	}
	holds(t, opened(t, d), want...)
	finds(t, d, nil, want...)
}

// P10.2: what the records may count together, to the byte, and that a record that is too long is told ahead of it.
func TestAppendFull(t *testing.T) {
	long := strings.Repeat("x", api.MaxRecord)
	for _, length := range []int{0, 1, 15, 16, 17, 1008, 1009, api.MaxRecord - 16, api.MaxRecord} {
		d := newDisk(t)
		l := opened(t, d)
		var want []string
		room := api.MaxFile / 2
		for room >= 16+length {
			s := strings.Repeat(string(rune('a'+len(want)%26)), length)
			is(t, "Append", l.Append(s), api.OK)
			want = append(want, s)
			room -= 16 + length
		}
		is(t, "Append one more", l.Append(long[:length]), api.ErrFull)
		is(t, "Append a longest one", l.Append(long), api.ErrFull)
		is(t, "Append too long", l.Append(long+"x"), api.ErrForm)
		if room >= 16 {
			is(t, "Append what is a byte too long", l.Append(long[:room-15]), api.ErrFull)
			is(t, "Append what just fits", l.Append(long[:room-16]), api.OK)
			want = append(want, long[:room-16])
		}
		is(t, "Append nothing more", l.Append(""), api.ErrFull)
		holds(t, l, want...)
		// Neither was an error of the disk, so all goes on, there and behind a crash.
		is(t, "Sync", l.Sync(), api.OK)
		l = opened(t, crashed(t, d))
		holds(t, l, want...)
		is(t, "Append nothing more", l.Append(""), api.ErrFull)
		is(t, "Reset", l.Reset([]string{"a"}), api.OK)
		is(t, "Append", l.Append(long), api.OK)
		holds(t, l, "a", long)
	}
}

// P10.2: what was synced is found behind every crash.
func TestSync(t *testing.T) {
	d := newDisk(t)
	l := opened(t, d)
	var want []string
	for k, s := range append(hard(), "", "") {
		is(t, "Append", l.Append(s), api.OK)
		want = append(want, s)
		if k%3 == 0 {
			is(t, "Append", l.Append("more"), api.OK)
			want = append(want, "more")
		}
		for range 1 + k%2 {
			is(t, "Sync", l.Sync(), api.OK)
		}
		holds(t, l, want...)
		for _, picks := range [][]int{nil, {1}, {2}, {5}} {
			finds(t, d, picks, want...)
		}
	}
}

// P10.2: other records in place of all, durable without any Sync.
func TestReset(t *testing.T) {
	long := strings.Repeat("x", api.MaxRecord)
	most := slices.Repeat([]string{long[:1008]}, 512)
	d := newDisk(t)
	l := opened(t, d)
	for _, want := range [][]string{nil, {""}, {"a"}, {}, {"a", "a", "", "b"}, hard(), nil, {long, long}, most, {"b"}, slices.Repeat([]string{""}, api.MaxFile/32), most, slices.Repeat([]string{long}, 127)} {
		is(t, "Reset", l.Reset(want), api.OK)
		holds(t, l, want...)
		for _, picks := range [][]int{nil, {1, 1}, {2, 2}, {5, 5}} {
			finds(t, d, picks, want...)
		}
		holds(t, opened(t, d), want...)
		if len(want) < 127 {
			is(t, "Append", l.Append("later"), api.OK)
			holds(t, l, append(slices.Clone(want), "later")...)
			holds(t, opened(t, d), append(slices.Clone(want), "later")...)
		}
	}
}

// P10.2: records that are too long or too many, and which of both is told; all stays as it was.
func TestResetErrors(t *testing.T) {
	long := strings.Repeat("x", api.MaxRecord)
	wrong := long + "x"
	tooMany := slices.Repeat([]string{long}, 128)
	most := slices.Repeat([]string{long[:1008]}, 512)
	d := newDisk(t)
	l := opened(t, d)
	is(t, "Reset", l.Reset([]string{"a", "b"}), api.OK)
	for _, c := range []struct {
		l []string
		e api.Errno
	}{
		{[]string{wrong}, api.ErrForm},
		{[]string{"a", wrong, "b"}, api.ErrForm},
		{[]string{"a", "b", long + long}, api.ErrForm},
		{append([]string{wrong}, tooMany...), api.ErrForm},
		{append(slices.Clone(tooMany), wrong), api.ErrForm},
		{slices.Repeat([]string{wrong}, 200), api.ErrForm},
		{tooMany, api.ErrFull},
		{append(slices.Clone(most), ""), api.ErrFull},
		{append([]string{""}, most...), api.ErrFull},
		{append(slices.Clone(most[1:]), long[:1009]), api.ErrFull},
		{slices.Repeat([]string{""}, api.MaxFile/32+1), api.ErrFull},
		{slices.Repeat([]string{long}, 1000), api.ErrFull},
	} {
		is(t, "Reset", l.Reset(c.l), c.e)
		holds(t, l, "a", "b")
		finds(t, d, []int{1, 1}, "a", "b")
	}
	is(t, "Append", l.Append("c"), api.OK)
	is(t, "Reset to as many as there may be", l.Reset(most), api.OK)
	is(t, "Append", l.Append(""), api.ErrFull)
	finds(t, d, nil, most...)
}

// isDead asks whether all calls answer ErrPower, also those that are wrong in other ways, and All what it did.
func isDead(t *testing.T, l *Log, want ...string) {
	t.Helper()
	long := strings.Repeat("x", api.MaxRecord)
	for range 2 {
		for _, s := range []string{"", "x", long, long + "x"} {
			is(t, "Append behind an error", l.Append(s), api.ErrPower)
		}
		is(t, "Sync behind an error", l.Sync(), api.ErrPower)
		for _, s := range [][]string{nil, {"x"}, {long + "x"}, slices.Repeat([]string{long}, 128)} {
			is(t, "Reset behind an error", l.Reset(s), api.ErrPower)
		}
		holds(t, l, want...)
	}
}

// P10.3: behind an error of the disk, at whichever of its calls, nothing goes any more.
func TestPower(t *testing.T) {
	steps := []func(l *Log) api.Errno{
		func(l *Log) api.Errno { return l.Append("x") },
		func(l *Log) api.Errno { return l.Sync() },
		func(l *Log) api.Errno { return l.Reset([]string{"y"}) },
		func(l *Log) api.Errno { return l.Reset(nil) },
	}
	for _, before := range [][]string{nil, {"a"}, {"a", "", "b"}} {
		for i, step := range steps {
			for at := range 8 {
				d := newDisk(t)
				l := opened(t, d)
				for _, s := range before {
					is(t, "Append", l.Append(s), api.OK)
				}
				is(t, "Sync", l.Sync(), api.OK)
				d.Off(at)
				e := step(l)
				if e == api.OK {
					continue
				}
				is(t, "step "+strconv.Itoa(i), e, api.ErrPower)
				isDead(t, l, before...)
				finds(t, d, nil, before...)
			}
		}
	}
	// Without the power, what is wrong is told as long as the disk was not asked.
	d := newDisk(t)
	l := opened(t, d)
	d.Off(0)
	long := strings.Repeat("x", api.MaxRecord)
	is(t, "Append too long", l.Append(long+"x"), api.ErrForm)
	is(t, "Reset to too long", l.Reset([]string{long + "x"}), api.ErrForm)
	is(t, "Reset to too many", l.Reset(slices.Repeat([]string{long}, 128)), api.ErrFull)
	is(t, "Sync of nothing", l.Sync(), api.ErrPower)
	isDead(t, l)
}

// P10.3: an error of the disk that is none of the power: all of its files are there already.
func TestFullDisk(t *testing.T) {
	var others []string
	for c := 'a'; len(others) < 2*api.MaxFiles; c++ {
		others = append(others, string(c), "")
	}
	d := newDisk(t, others...)
	l := opened(t, d)
	is(t, "Sync", l.Sync(), api.OK)
	is(t, "Append", l.Append("x"), api.ErrFull)
	isDead(t, l)
	l = opened(t, d)
	is(t, "Reset", l.Reset([]string{"x"}), api.ErrFull)
	isDead(t, l)
	// The power is on still, so that it goes on once there is room.
	is(t, "Remove", d.Remove("c"), api.OK)
	l = opened(t, d)
	is(t, "Append", l.Append("x"), api.OK)
	is(t, "Append", l.Append("y"), api.OK)
	if l.Reset([]string{"z"}) != api.OK {
		isDead(t, l, "x", "y")
		is(t, "Remove", d.Remove("d"), api.OK)
		l = opened(t, d)
		holds(t, l, "x", "y")
		is(t, "Reset", l.Reset([]string{"z"}), api.OK)
	}
	finds(t, d, nil, "z")
}

// P10.2, P10.3: no Sync is OK where somebody took the records away.
func TestTakenAway(t *testing.T) {
	d := newDisk(t)
	l := opened(t, d)
	is(t, "Append", l.Append("x"), api.OK)
	names, _ := d.List()
	for _, s := range names {
		is(t, "Remove "+s, d.Remove(s), api.OK)
	}
	is(t, "Sync", l.Sync(), api.ErrNone)
	isDead(t, l, "x")
	holds(t, opened(t, d))
}

// P10.3, P10.4: the room that a Reset without its end took on the disk is there again for others.
func TestLeftOver(t *testing.T) {
	var others []string
	for c := 'a'; len(others) < 2*(api.MaxFiles-1); c++ {
		others = append(others, string(c), "")
	}
	for at := 1; at < 20; at++ {
		d := newDisk(t, others...)
		l := opened(t, d)
		d.Off(at)
		if l.Reset([]string{"done"}) == api.OK {
			return
		}
		for _, pick := range []int{0, 1, 2, 5} {
			again := crashed(t, d, pick)
			names, _ := again.List()
			for _, s := range names {
				if !slices.Contains(others, s) && !strings.HasPrefix(s, "log") {
					t.Errorf("%q is left", s)
				}
			}
			l := opened(t, again)
			holds(t, l)
			is(t, "Append", l.Append("x"), api.OK)
			is(t, "Sync", l.Sync(), api.OK)
			finds(t, again, nil, "x")
		}
	}
	t.Errorf("no Reset is ever done")
}

// row is a row of numbers without a pattern, the same for each start.
type row uint64

// below is the next number, from 0 to n-1.
func (r *row) below(n int) int {
	*r = *r*6364136223846793005 + 1442695040888963407
	return int(*r>>33) % n
}

// picks lists what is handed to Crash so that a file of so many bytes is found in each way that there is.
func picks(size int) []int {
	l := []int{0, 1}
	for m := range (size+api.Sector-1)/api.Sector + 1 {
		l = append(l, 2+3*m)
	}
	return l
}

// P10.4: one record that isn't synced is there whole or not at all, wherever it is torn, and more can be appended behind it.
func TestTorn(t *testing.T) {
	for _, first := range [][]string{nil, {""}, {strings.Repeat("s", 11)}, {strings.Repeat("\x00", 29)}, {"a", strings.Repeat("\x01", 60)}} {
		for _, s := range append(hard(), strings.Repeat("x", 1000)) {
			d := newDisk(t)
			l := opened(t, d)
			is(t, "Reset", l.Reset(first), api.OK)
			is(t, "Append", l.Append(s), api.OK)
			both := append(slices.Clone(first), s)
			last := false
			for _, p := range picks(1100) {
				again := crashed(t, d, p)
				found := opened(t, again).All()
				if !slices.Equal(found, first) && !slices.Equal(found, both) {
					t.Fatalf("Crash(%d) behind %s leaves %s", p, short(both), short(found))
				}
				last = last || len(found) == len(both)
				// What is appended behind it may be torn in turn, with what was there below it.
				tornAgain(t, again, found)
			}
			if !last {
				t.Errorf("%s is never found", short(both))
			}
		}
	}
}

// tornAgain appends to the log of a disk, and asks what crashes leave of it.
func tornAgain(t *testing.T, d *disk.Disk, was []string) {
	t.Helper()
	l := opened(t, d)
	holds(t, l, was...)
	more := strings.Repeat("\x01", 50)
	is(t, "Append", l.Append(more), api.OK)
	for _, p := range []int{0, 1, 2, 5, 8, 11, 14} {
		found := opened(t, crashed(t, d, p)).All()
		if !slices.Equal(found, was) && !slices.Equal(found, append(slices.Clone(was), more)) {
			t.Fatalf("Crash(%d) leaves %s behind %s", p, short(found), short(was))
		}
	}
	is(t, "Sync", l.Sync(), api.OK)
	finds(t, d, nil, append(slices.Clone(was), more)...)
}

// P10.4: of several records that aren't synced the first ones are found.
func TestTornSeveral(t *testing.T) {
	all := hard()
	for k := range 40 {
		r := row(k)
		d := newDisk(t)
		l := opened(t, d)
		synced := r.below(4)
		var want []string
		for i := range synced + 8 {
			s := all[r.below(len(all))]
			is(t, "Append", l.Append(s), api.OK)
			want = append(want, s)
			if i == synced {
				is(t, "Sync", l.Sync(), api.OK)
			}
		}
		for _, p := range picks(3000) {
			found := opened(t, crashed(t, d, p)).All()
			if len(found) <= synced || len(found) > len(want) || !slices.Equal(found, want[:len(found)]) {
				t.Fatalf("Crash(%d) behind %s leaves %s", p, short(want), short(found))
			}
		}
	}
}

// P10.4: the power goes at each call of Open, of what a crash left, and nothing more is lost by it.
func TestCrashInOpen(t *testing.T) {
	for _, s := range []string{"", "x", strings.Repeat("\x00", 100), strings.Repeat("\x01", 100), string(put(nil, strings.Repeat("y", 28), "z", "", "\x00"))} {
		for off := 1; off < 6; off++ {
			d := newDisk(t)
			l := opened(t, d)
			is(t, "Reset", l.Reset([]string{"first"}), api.OK)
			is(t, "Append", l.Append(s), api.OK)
			d.Off(off)
			if l.Append(s) == api.OK {
				l.Reset([]string{s, s})
			}
			for _, p := range picks(250) {
				for _, q := range []int{0, 1, 2, 5, 8} {
					diesInOpen(t, d, p, q)
				}
			}
		}
	}
}

// diesInOpen crashes, opens with the power going at each call, crashes again, and asks whether the same is found as without that.
func diesInOpen(t *testing.T, d *disk.Disk, p, q int) {
	t.Helper()
	want := opened(t, crashed(t, d, p, q)).All()
	for at := range 20 {
		again := crashed(t, d, p, q)
		again.Off(at)
		l, e := Open(again)
		if _, left := again.List(); e != left || (l == nil) != (e != api.OK) {
			t.Errorf("Open is %v, %d, and the disk's List %d", l, e, left)
		}
		for _, p := range []int{0, 1, 2, 5, 8, 11} {
			finds(t, again, []int{p, q}, want...)
			finds(t, again, []int{q, p}, want...)
		}
		if e == api.OK {
			return
		}
	}
	t.Errorf("no Open is ever done")
}

// life is a log with what may be found of it behind a crash.
type life struct {
	disk *disk.Disk
	log  *Log
	can  [][]string
}

// step makes one call and reports whether the disk goes on.
func (x *life) step(t *testing.T, r *row) bool {
	t.Helper()
	all := hard()
	was := x.log.All()
	next := was
	var e api.Errno
	switch k := r.below(10); {
	case k < 6:
		s := all[r.below(len(all))]
		next = append(slices.Clone(was), s)
		e = x.log.Append(s)
	case k < 8:
		e = x.log.Sync()
		if e == api.OK {
			x.can = nil
		}
	default:
		next = nil
		for range r.below(4) {
			next = append(next, all[r.below(len(all))])
		}
		e = x.log.Reset(next)
		if e == api.OK {
			x.can = nil
		}
	}
	x.can = append(x.can, next)
	if e == api.OK {
		holds(t, x.log, next...)
		return true
	}
	is(t, "a call without power", e, api.ErrPower)
	holds(t, x.log, was...)
	return false
}

// openAgain crashes and opens until the power lasts for it.
func (x *life) openAgain(t *testing.T, r *row) {
	t.Helper()
	for off := range 20 {
		x.disk = crashed(t, x.disk, r.below(40)-10, r.below(40)-10)
		x.disk.Off(off + r.below(10))
		l, e := Open(x.disk)
		if e == api.OK {
			x.log = l
			return
		}
		is(t, "Open", e, api.ErrPower)
	}
	t.Fatalf("Open never has its power")
}

// P10.4: long runs, with the power going at any call, some of Open's among them, and several crashes behind each other.
func TestLives(t *testing.T) {
	for seed := range 400 {
		r := row(seed)
		d := newDisk(t, "a", "other", "z", "other")
		x := &life{disk: d, log: opened(t, d), can: [][]string{nil}}
		for range 12 {
			x.disk.Off(1 + r.below(25))
			for x.step(t, &r) {
			}
			x.openAgain(t, &r)
			found := x.log.All()
			if !slices.ContainsFunc(x.can, func(l []string) bool { return slices.Equal(l, found) }) {
				t.Fatalf("run %d: %s is found", seed, short(found))
			}
			x.can = [][]string{found}
		}
		for _, s := range []string{"a", "z"} {
			for _, f := range x.disk.Crash(nil) {
				if f.Name == s && string(f.Data) != "other" {
					t.Errorf("%s is %q", s, f.Data)
				}
			}
		}
	}
}

// R1: whatever stands in the files, Open ends with a log as there may be one, finds the same again, and goes on with it.
func TestJunk(t *testing.T) {
	x := string(put(nil, "a", "", "b"))
	long := strings.Repeat("x", api.MaxRecord)
	l := []string{"", "\x00", "\x00\x00", "\x00\x00\x00", "\x00\x00\x01", "\x00\x00\x02", "\x00\x01\x01", "\xff", "\xff\xff", "\xff\xff\xff", "\x10\x00", "\x10\x00" + long, "\x10\x01" + long + "x\x01", "\x10\x00" + long + "\x01", "\xff\xff" + strings.Repeat("x", 1<<16) + "\x01"}
	for i := range x {
		l = append(l, x[:i], x[i:], x[:i]+"\x00"+x[i:], x[:i]+"\xff"+x[i+1:])
	}
	// More records than there may be, and a file as long as there may be one.
	l = append(l, strings.Repeat("\x00\x00\x01", api.MaxFile/3), strings.Repeat("\x10\x00"+long+"\x01", 200), strings.Repeat("\x00", api.MaxFile), strings.Repeat("\x01", api.MaxFile))
	r := row(1)
	for range 300 {
		b := make([]byte, r.below(200))
		for i := range b {
			b[i] = byte(r.below(3))
		}
		l = append(l, string(b))
	}
	for _, s := range l {
		for _, d := range []*disk.Disk{newDisk(t, "log", s), newDisk(t, "log", s, "log.new", s), newDisk(t, "log.new", s), newDisk(t, "log-", s, "log.1", s, "log0", s, "logs", s)} {
			junk(t, d)
		}
	}
}

// junk opens a log on a disk with any files.
func junk(t *testing.T, d *disk.Disk) {
	t.Helper()
	l := opened(t, d)
	want := l.All()
	size := 0
	for _, s := range want {
		size += len(s) + 16
		if len(s) > api.MaxRecord {
			t.Errorf("%d bytes are a record", len(s))
		}
	}
	if size > api.MaxFile/2 {
		t.Errorf("the records count %d", size)
	}
	holds(t, opened(t, d), want...)
	finds(t, d, []int{2, 5}, want...)
	if e := l.Append("more"); e == api.OK {
		want = append(want, "more")
	} else {
		is(t, "Append", e, api.ErrFull)
	}
	is(t, "Sync", l.Sync(), api.OK)
	finds(t, d, nil, want...)
	is(t, "Reset", l.Reset([]string{"new"}), api.OK)
	finds(t, d, nil, "new")
}

// R1: a log that Open didn't make has no disk; none of its calls panics.
func TestZeroLog(t *testing.T) {
	var l Log
	isDead(t, &l)
}

// R1: equal calls are answered equally, and logs on two disks have nothing in common.
func TestTwoLogs(t *testing.T) {
	x, y, z := newDisk(t), newDisk(t), newDisk(t)
	a, b, c := opened(t, x), opened(t, y), opened(t, z)
	for _, l := range []*Log{a, b} {
		is(t, "Append", l.Append("1"), api.OK)
		is(t, "Reset", l.Reset([]string{"2", "3"}), api.OK)
		is(t, "Append", l.Append("4"), api.OK)
		is(t, "Append", l.Append("5"), api.OK)
	}
	holds(t, c)
	for _, p := range picks(30) {
		finds(t, y, []int{p}, opened(t, crashed(t, x, p)).All()...)
	}
	if x.Calls() != y.Calls() {
		t.Errorf("%d and %d calls", x.Calls(), y.Calls())
	}
	x.Off(0)
	is(t, "Append", a.Append("6"), api.ErrPower)
	is(t, "Append", b.Append("6"), api.OK)
	holds(t, a, "2", "3", "4", "5")
	holds(t, b, "2", "3", "4", "5", "6")
	holds(t, c)
}

// R2: what is handed in is neither kept nor changed.
func TestArgumentsStay(t *testing.T) {
	d := newDisk(t)
	l := opened(t, d)
	s := append(make([]string, 0, 8), "a", "b", "c")
	is(t, "Reset", l.Reset(s), api.OK)
	is(t, "Append", l.Append("d"), api.OK)
	if !slices.Equal(s[:8], []string{"a", "b", "c", "", "", "", "", ""}) {
		t.Errorf("the argument is %q", s[:8])
	}
	for i := range s[:8] {
		s[:8][i] = "spoilt"
	}
	holds(t, l, "a", "b", "c", "d")
	is(t, "Append", l.Append("e"), api.OK)
	is(t, "Sync", l.Sync(), api.OK)
	finds(t, d, nil, "a", "b", "c", "d", "e")
}

// R2: what All answers can be written into, and behind its end, and nothing else changes.
func TestAnswersAreNew(t *testing.T) {
	d := newDisk(t)
	l := opened(t, d)
	var want []string
	for k := range 20 {
		s := strconv.Itoa(k)
		is(t, "Append", l.Append(s), api.OK)
		want = append(want, s)
		for range 2 {
			x, y := l.All(), l.All()
			z := append(x, "behind")
			for _, a := range [][]string{x[:cap(x)], z} {
				for i := range a {
					a[i] = "spoilt"
				}
			}
			if !slices.Equal(y, want) {
				t.Errorf("another answer became %q", y)
			}
			holds(t, l, want...)
		}
		if k == 10 {
			want = []string{"x", "y"}
			is(t, "Reset", l.Reset(want), api.OK)
			want = slices.Clone(want)
		}
	}
	is(t, "Sync", l.Sync(), api.OK)
	finds(t, d, nil, want...)
}
