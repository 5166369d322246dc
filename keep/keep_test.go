package keep

import (
	"maps"
	"slices"
	"strconv"
	"strings"
	"testing"

	"drover/api"
	"drover/disk"
	"drover/log"
)

// vals is what a store should hold.
type vals map[string]string

// newDisk is a disk with these files, by names and contents in turn.
func newDisk(t *testing.T, l ...string) *disk.Disk {
	t.Helper()
	var files []api.File
	for i := 0; i < len(l); i += 2 {
		files = append(files, api.File{Name: l[i], Data: []byte(l[i+1])})
	}
	d, e := disk.New(files)
	if e != api.OK {
		t.Fatalf("disk.New is %d", e)
	}
	return d
}

// crashed is the disk that is found behind a crash.
func crashed(t *testing.T, d *disk.Disk, picks ...int) *disk.Disk {
	t.Helper()
	again, e := disk.New(d.Crash(picks))
	if e != api.OK {
		t.Fatalf("disk.New behind Crash(%v) is %d", picks, e)
	}
	return again
}

// opened is Open(d), which must be there.
func opened(t *testing.T, d *disk.Disk) *Keep {
	t.Helper()
	k, e := Open(d)
	if k == nil || e != api.OK {
		t.Fatalf("Open is %v, %d", k, e)
	}
	return k
}

// is asks whether a call answered want.
func is(t *testing.T, what string, e, want api.Errno) {
	t.Helper()
	if e != want {
		t.Errorf("%s is %d, not %d", what, e, want)
	}
}

// held lists what a store holds, and asks whether its keys rise.
func held(t *testing.T, k *Keep) vals {
	t.Helper()
	got := vals{}
	keys := k.Keys()
	for i, key := range keys {
		if i > 0 && keys[i-1] >= key {
			t.Errorf("%q stands ahead of %q", keys[i-1], key)
		}
		val, e := k.Get(key)
		is(t, "Get("+strconv.Quote(key)+")", e, api.OK)
		got[key] = val
	}
	return got
}

// holds asks for all keys and values of a store.
func holds(t *testing.T, k *Keep, want vals) {
	t.Helper()
	if got := held(t, k); !maps.Equal(got, want) {
		t.Errorf("it holds %s, not %s", short(got), short(want))
	}
}

// lacks asks for keys that have no value.
func lacks(t *testing.T, k *Keep, keys ...string) {
	t.Helper()
	for _, key := range keys {
		if val, e := k.Get(key); val != "" || e != api.ErrNone {
			t.Errorf("Get(%q) is %q, %d", key, val[:min(len(val), 20)], e)
		}
	}
}

// finds asks what Open finds behind a crash.
func finds(t *testing.T, d *disk.Disk, picks []int, want vals) {
	t.Helper()
	holds(t, opened(t, crashed(t, d, picks...)), want)
}

// put is a Put that must do.
func put(t *testing.T, k *Keep, key, val string) {
	t.Helper()
	is(t, "Put("+strconv.Quote(key)+")", k.Put(key, val), api.OK)
}

// drop is a Drop that must do.
func drop(t *testing.T, k *Keep, key string) {
	t.Helper()
	is(t, "Drop("+strconv.Quote(key)+")", k.Drop(key), api.OK)
}

// short tells of keys and values what there is room for.
func short(v vals) string {
	s := strconv.Itoa(len(v)) + ":"
	keys := slices.Sorted(maps.Keys(v))
	for _, key := range keys[:min(len(keys), 12)] {
		val := v[key]
		s += " " + strconv.Quote(key) + "=" + strconv.Itoa(len(val)) + strconv.Quote(val[:min(len(val), 12)])
	}
	return s
}

// repeat is a string of so many of one byte.
func repeat(c byte, n int) string {
	return strings.Repeat(string([]byte{c}), n)
}

// hardKeys lists keys that could be mistaken for something else, or for each other.
func hardKeys() []string {
	l := []string{"a", "ab", "a\x00", "+", "-", "+a", "-a", "-+\x01a", "+\x01a1", "\x00", "\x01", "\x00\x00", "\xff", "\xff\xff", " ", "ä", "€", "A", "log", "=", "\n"}
	for _, c := range []byte{0, 1, 'k', 0x80, 255} {
		l = append(l, repeat(c, api.MaxName-1), repeat(c, api.MaxName))
	}
	return l
}

// hardVals lists values of that sort.
func hardVals() []string {
	var all []byte
	for c := range 256 {
		all = append(all, byte(c))
	}
	l := []string{"", "1", "+", "-", "-a", "+\x01a1", "+\x00", string(all), "ä€\xff"}
	for _, n := range []int{1, 30, 100, 3000, api.MaxRecord - 64 - api.MaxName} {
		l = append(l, repeat(0, n), repeat(1, n), repeat('v', n), repeat(255, n))
	}
	return l
}

// P11.1: a disk without a store has an empty one, whatever else is on it, and nothing of that is touched.
func TestOpenEmpty(t *testing.T) {
	for _, others := range [][]string{nil, {"a", "1"}, {"-log", "1", "a.log", "2", "keep", "3", "lo", "4", "new", "5"}} {
		d := newDisk(t, others...)
		k := opened(t, d)
		holds(t, k, vals{})
		lacks(t, k, "", "a", "keep", repeat('k', 33))
		is(t, "Sync", k.Sync(), api.OK)
		put(t, k, "x", "1")
		is(t, "Sync", k.Sync(), api.OK)
		finds(t, d, nil, vals{"x": "1"})
		names, e := d.List()
		is(t, "List", e, api.OK)
		var left []string
		for _, s := range names {
			b, e := d.Read(s)
			is(t, "Read "+s, e, api.OK)
			if !strings.HasPrefix(s, "log") {
				left = append(left, s, string(b))
			}
		}
		if !slices.Equal(left, others) {
			t.Errorf("of %v is left %v", others, left)
		}
	}
}

// P11.1: no disk, and one whose power is off, also within the calls that Open makes.
func TestOpenErrors(t *testing.T) {
	if k, e := Open(nil); k != nil || e != api.ErrForm {
		t.Errorf("Open(nil) is %v, %d", k, e)
	}
	for _, want := range []vals{{}, {"a": "1"}, {"a": "1", "b": ""}} {
		d := newDisk(t)
		k := opened(t, d)
		for key, val := range want {
			put(t, k, key, val)
		}
		is(t, "Sync", k.Sync(), api.OK)
		d.Off(0)
		for range 2 {
			if k, e := Open(d); k != nil || e != api.ErrPower {
				t.Errorf("Open is %v, %d", k, e)
			}
		}
		finds(t, d, nil, want)
		for at := range 10 {
			again := crashed(t, d)
			again.Off(at)
			k, e := Open(again)
			if _, left := again.List(); e != left || (k == nil) != (e != api.OK) {
				t.Errorf("Open is %v, %d, and the disk's List %d", k, e, left)
			}
			finds(t, again, []int{1}, want)
		}
	}
}

// P11.1: Open finds what was left there, on the same disk and behind a crash; from then on it lasts.
func TestOpenAgain(t *testing.T) {
	d := newDisk(t)
	k := opened(t, d)
	put(t, k, "a", "1")
	put(t, k, "b", "2")
	put(t, k, "c", "3")
	drop(t, k, "b")
	put(t, k, "a", "4")
	want := vals{"a": "4", "c": "3"}
	for range 2 {
		holds(t, opened(t, d), want)
		for _, p := range []int{0, 1, 2, 5} {
			finds(t, d, []int{p}, want)
		}
	}
	k = opened(t, d)
	put(t, k, "b", "5")
	drop(t, k, "c")
	holds(t, opened(t, d), vals{"a": "4", "b": "5"})
}

// P11.1, and the chapter's example: the last value of a key is its value, there and behind a crash.
func TestPut(t *testing.T) {
	d := newDisk(t)
	k := opened(t, d)
	put(t, k, "a", "1")
	put(t, k, "a", "2")
	is(t, "Sync", k.Sync(), api.OK)
	finds(t, d, nil, vals{"a": "2"})
	want := vals{"a": "2"}
	for i, val := range hardVals() {
		for _, key := range hardKeys()[i%7:] {
			put(t, k, key, val)
			want[key] = val
			if got, e := k.Get(key); got != val || e != api.OK {
				t.Errorf("Get(%q) is %q, %d", key, got[:min(len(got), 20)], e)
			}
		}
		holds(t, k, want)
		holds(t, opened(t, d), want)
	}
	finds(t, d, nil, want)
}

// P11.1: which keys and values there may be, by their lengths.
func TestPutForm(t *testing.T) {
	d := newDisk(t)
	k := opened(t, d)
	want := vals{}
	for _, n := range []int{1, 2, 31, 32} {
		key, val := repeat('k', n), repeat('v', api.MaxRecord-64-n)
		put(t, k, key, val)
		want[key] = val
		is(t, "Put of a byte too many", k.Put(key, val+"v"), api.ErrForm)
		is(t, "Put of far too many", k.Put(key, repeat('v', api.MaxFile)), api.ErrForm)
		is(t, "Put of another key, of a byte too many", k.Put(repeat('x', n), val+"v"), api.ErrForm)
	}
	for _, key := range []string{"", repeat('k', 33), repeat('k', 34), repeat('k', 255), repeat('k', 256), repeat('k', 257), repeat('k', 288), repeat(0, api.MaxRecord), repeat('k', 1<<16+1)} {
		for _, val := range []string{"", "v", repeat('v', api.MaxRecord)} {
			is(t, "Put of no key", k.Put(key, val), api.ErrForm)
		}
	}
	holds(t, k, want)
	holds(t, opened(t, d), want)
}

// filled is a store whose pairs count as much as they may together, with what it holds.
func filled(t *testing.T, d *disk.Disk) (*Keep, vals) {
	t.Helper()
	k := opened(t, d)
	want := vals{}
	for i := range 64 {
		key, val := "k"+strconv.Itoa(100+i), repeat(byte(i), 4028)
		put(t, k, key, val)
		want[key] = val
	}
	return k, want
}

// P11.1: what the pairs may count together, to the byte, and that an overwritten value and a dropped key count nothing.
func TestPutFull(t *testing.T) {
	d := newDisk(t)
	k, want := filled(t, d)
	is(t, "Put of one more", k.Put("x", ""), api.ErrFull)
	is(t, "Put of one more that is too long", k.Put("x", repeat('x', api.MaxRecord)), api.ErrForm)
	is(t, "Put of no key", k.Put("", ""), api.ErrForm)
	is(t, "Put of a byte more", k.Put("k100", repeat('x', 4029)), api.ErrForm)
	holds(t, k, want)
	// None of these was an error of the disk, so that all goes on, there and where it is opened again.
	for range 3 {
		put(t, k, "k107", repeat('w', 4028))
		put(t, k, "k108", repeat('w', 4028-65))
		is(t, "Put of what is a byte too long", k.Put("x", "1"), api.ErrFull)
		is(t, "Put of what is a byte too long", k.Put("xx", ""), api.ErrFull)
		put(t, k, "x", "")
		is(t, "Put of what is a byte too long", k.Put("x", "1"), api.ErrFull)
		is(t, "Put of what is a byte too long", k.Put("k108", repeat('w', 4028-64)), api.ErrFull)
		put(t, k, "k108", repeat('v', 4028-65))
		want["k107"], want["k108"], want["x"] = repeat('w', 4028), repeat('v', 4028-65), ""
		holds(t, k, want)
		is(t, "Sync", k.Sync(), api.OK)
		d = crashed(t, d)
		k = opened(t, d)
		holds(t, k, want)
		is(t, "Put of one more", k.Put("y", ""), api.ErrFull)
		drop(t, k, "x")
		is(t, "Put of what is a byte too long", k.Put("k108", repeat('w', 4029)), api.ErrForm)
		delete(want, "x")
		drop(t, k, "k109")
		put(t, k, "k109", want["k109"])
	}
}

// P11.1: as many keys as there can be: they count so much that they are ahead of MaxKeys of them.
func TestManyKeys(t *testing.T) {
	d := newDisk(t)
	k := opened(t, d)
	want := vals{}
	room := api.MaxFile / 4
	for i := 0; room >= 66; i++ {
		// Falling, so that each comes ahead of the others.
		key := string([]byte{byte(255 - i>>8), byte(255 - i)})
		put(t, k, key, "")
		want[key] = ""
		room -= 66
	}
	is(t, "Put of one more", k.Put("new", ""), api.ErrFull)
	holds(t, k, want)
	is(t, "Sync", k.Sync(), api.OK)
	k = opened(t, crashed(t, d))
	holds(t, k, want)
	is(t, "Put of one more", k.Put("new", ""), api.ErrFull)
	if len(want) > api.MaxKeys {
		t.Errorf("%d keys", len(want))
	}
}

// P11.1: which keys can be dropped, and that such a one is gone, there and where it is opened again.
func TestDrop(t *testing.T) {
	d := newDisk(t)
	k := opened(t, d)
	for _, key := range []string{"", repeat('k', 33), repeat('k', 256), repeat('k', api.MaxFile)} {
		is(t, "Drop of no key", k.Drop(key), api.ErrForm)
	}
	want := vals{}
	for _, key := range hardKeys() {
		is(t, "Drop of what isn't there", k.Drop(key), api.ErrNone)
		put(t, k, key, "-"+key)
		want[key] = "-" + key
	}
	holds(t, k, want)
	for i, key := range hardKeys() {
		drop(t, k, key)
		delete(want, key)
		is(t, "Drop of what was dropped", k.Drop(key), api.ErrNone)
		lacks(t, k, key)
		if i%3 == 0 {
			put(t, k, key, "again")
			want[key] = "again"
		}
		holds(t, k, want)
		holds(t, opened(t, d), want)
	}
	is(t, "Sync", k.Sync(), api.OK)
	finds(t, d, nil, want)
}

// P11.1: keys rise by their bytes.
func TestKeys(t *testing.T) {
	rising := []string{"\x00", "\x00\x00", "\x01", "A", "Z", "a", "a\x00", "aa", "ab", "b", "\x7f", "\x80", "ä", "\xff", "\xff\x00"}
	for _, step := range []int{1, 2, 4, 7, 8, 11, 13, 14} {
		k := opened(t, newDisk(t))
		for i := range rising {
			put(t, k, rising[(i*step+step)%len(rising)], "v")
		}
		if got := k.Keys(); !slices.Equal(got, rising) {
			t.Errorf("the keys are %q", got)
		}
		drop(t, k, "Z")
		drop(t, k, "\x00")
		put(t, k, "Z", "w")
		if got := k.Keys(); !slices.Equal(got, rising[1:]) {
			t.Errorf("the keys are %q", got)
		}
	}
}

// P11.1: what was synced is found behind every crash.
func TestSync(t *testing.T) {
	d := newDisk(t)
	k := opened(t, d)
	want := vals{}
	keys, all := hardKeys(), hardVals()
	for i := range 60 {
		key, val := keys[i*i%len(keys)], all[i%len(all)]
		if i%4 == 3 && k.Drop(key) == api.OK {
			delete(want, key)
		} else {
			put(t, k, key, val)
			want[key] = val
		}
		for range 1 + i%2 {
			is(t, "Sync", k.Sync(), api.OK)
		}
		for _, p := range []int{0, 1, 2, 5} {
			finds(t, d, []int{p}, want)
		}
	}
}

// isDead asks whether all calls answer ErrPower, also those that are wrong in other ways, and what is held is what was.
func isDead(t *testing.T, k *Keep, want vals) {
	t.Helper()
	for range 2 {
		for _, key := range []string{"a", "new", "", repeat('k', 33)} {
			for _, val := range []string{"", "x", repeat('v', api.MaxRecord)} {
				is(t, "Put behind an error", k.Put(key, val), api.ErrPower)
			}
			is(t, "Drop behind an error", k.Drop(key), api.ErrPower)
		}
		is(t, "Sync behind an error", k.Sync(), api.ErrPower)
		holds(t, k, want)
		lacks(t, k, "new", "", repeat('k', 33))
	}
}

// P11.2: behind an error of the disk, at whichever of its calls, nothing goes any more.
func TestPower(t *testing.T) {
	steps := []func(k *Keep) api.Errno{
		func(k *Keep) api.Errno { return k.Put("new", "x") },
		func(k *Keep) api.Errno { return k.Put("a", "x") },
		func(k *Keep) api.Errno { return k.Put("a", "1") },
		func(k *Keep) api.Errno { return k.Drop("a") },
		func(k *Keep) api.Errno { return k.Sync() },
	}
	for _, want := range []vals{{"a": "1"}, {"a": "1", "b": "", "c": "3"}} {
		for i, step := range steps {
			d := newDisk(t)
			k := opened(t, d)
			for key, val := range want {
				put(t, k, key, val)
			}
			is(t, "Sync", k.Sync(), api.OK)
			d.Off(i % 2)
			is(t, "step "+strconv.Itoa(i), step(k), api.ErrPower)
			isDead(t, k, want)
			finds(t, d, []int{1}, want)
		}
	}
	// Without the power, what is wrong is told as long as the disk was not asked.
	d := newDisk(t)
	k, want := filled(t, d)
	d.Off(0)
	is(t, "Put of no key", k.Put("", "x"), api.ErrForm)
	is(t, "Put of one more", k.Put("x", ""), api.ErrFull)
	is(t, "Drop of no key", k.Drop(""), api.ErrForm)
	is(t, "Drop of what isn't there", k.Drop("x"), api.ErrNone)
	is(t, "Sync", k.Sync(), api.ErrPower)
	isDead(t, k, want)
}

// P11.2: an error of the disk that is none of the power: all of its files are there already.
func TestFullDisk(t *testing.T) {
	var others []string
	for c := 'a'; len(others) < 2*api.MaxFiles; c++ {
		others = append(others, string(c), "")
	}
	d := newDisk(t, others...)
	k := opened(t, d)
	is(t, "Sync", k.Sync(), api.OK)
	is(t, "Put", k.Put("x", "1"), api.ErrFull)
	isDead(t, k, vals{})
	// The power is on still, so that it goes on once there is room.
	is(t, "Remove", d.Remove("c"), api.OK)
	is(t, "Remove", d.Remove("d"), api.OK)
	k = opened(t, d)
	put(t, k, "x", "1")
	is(t, "Sync", k.Sync(), api.OK)
	finds(t, d, nil, vals{"x": "1"})
}

// P11.2, P11.3: the same where what is overwritten is to be cleared away: it is the disk's error, and nothing is lost by it.
func TestFullDiskInClear(t *testing.T) {
	d := newDisk(t)
	k, was := crowded(t, d)
	for c := 'a'; d.Append(string(c), nil) == api.OK; c++ {
	}
	long := repeat('w', 3500)
	if e := k.Put("a", long); e != api.OK {
		is(t, "Put", e, api.ErrFull)
		isDead(t, k, was)
		is(t, "Remove", d.Remove("a"), api.OK)
		k = opened(t, d)
		holds(t, k, was)
		put(t, k, "a", long)
	}
	was["a"] = long
	holds(t, k, was)
	is(t, "Sync", k.Sync(), api.OK)
	finds(t, d, nil, was)
}

// P11.1, P11.2: no Sync is OK where somebody took the store away.
func TestTakenAway(t *testing.T) {
	d := newDisk(t)
	k := opened(t, d)
	put(t, k, "x", "1")
	names, _ := d.List()
	for _, s := range names {
		is(t, "Remove "+s, d.Remove(s), api.OK)
	}
	is(t, "Sync", k.Sync(), api.ErrNone)
	isDead(t, k, vals{"x": "1"})
	holds(t, opened(t, d), vals{})
}

// P11.3: however often a key is put, of whatever lengths, or dropped and put, there is space for it.
func TestSpace(t *testing.T) {
	for _, n := range []int{0, 1, 13, 1000, 4031} {
		d := newDisk(t)
		k := opened(t, d)
		for i := range 3 * api.MaxFile / (n + 17) {
			put(t, k, "a", repeat(byte(i), n))
			if i%3 == 1 {
				drop(t, k, "a")
			}
		}
		put(t, k, "a", "last")
		is(t, "Sync", k.Sync(), api.OK)
		finds(t, d, nil, vals{"a": "last"})
	}
}

// P11.3: there is space also where the pairs are as many as there may be, in a store that was opened again too.
func TestSpaceFilled(t *testing.T) {
	d := newDisk(t)
	k, want := filled(t, d)
	for i := range 600 {
		key := "k" + strconv.Itoa(100+i*i%64)
		val := repeat(byte(i), 4028)
		if i%5 == 0 {
			drop(t, k, key)
		}
		put(t, k, key, val)
		want[key] = val
		if i%70 == 0 {
			holds(t, k, want)
			k = opened(t, d)
			holds(t, k, want)
			is(t, "Put of one more", k.Put("x", ""), api.ErrFull)
		}
	}
	is(t, "Sync", k.Sync(), api.OK)
	finds(t, d, nil, want)
}

// P11.3: a store of many small pairs has space for each of them, and for being dropped whole.
func TestSpaceSmall(t *testing.T) {
	d := newDisk(t)
	k := opened(t, d)
	want := vals{}
	for i := range 40000 {
		key := strconv.Itoa(i * 7 % 3000)
		val := strconv.Itoa(i)
		put(t, k, key, val)
		want[key] = val
	}
	holds(t, k, want)
	holds(t, opened(t, d), want)
	for range 5 {
		for key := range want {
			drop(t, k, key)
		}
		holds(t, k, vals{})
		for key, val := range want {
			put(t, k, key, val)
		}
		holds(t, k, want)
	}
	is(t, "Sync", k.Sync(), api.OK)
	finds(t, d, nil, want)
}

// picks lists what is handed to Crash so that a file of so many bytes is found in each way that there is.
func picks(size int) []int {
	l := []int{0, 1}
	for m := range (size+api.Sector-1)/api.Sector + 1 {
		l = append(l, 2+3*m)
	}
	return l
}

// among asks whether what is found behind a crash is one of those that can be.
func among(t *testing.T, d *disk.Disk, picks []int, can []vals) vals {
	t.Helper()
	found := held(t, opened(t, crashed(t, d, picks...)))
	if !slices.ContainsFunc(can, func(v vals) bool { return maps.Equal(v, found) }) {
		t.Fatalf("Crash(%v) leaves %s", picks, short(found))
	}
	return found
}

// P11.3: of calls that weren't synced the first ones are found, each whole or not at all, wherever they are torn.
func TestTorn(t *testing.T) {
	keys, all := hardKeys(), hardVals()
	for i := range 30 {
		d := newDisk(t)
		k := opened(t, d)
		put(t, k, "a", "first")
		put(t, k, "b", "second")
		is(t, "Sync", k.Sync(), api.OK)
		now := vals{"a": "first", "b": "second"}
		can := []vals{maps.Clone(now)}
		for n := range 6 {
			key, val := keys[(i*5+n*3)%len(keys)], all[(i+n*2)%len(all)]
			val = val[:min(len(val), 100)]
			if n == 3 {
				key = "a"
				drop(t, k, key)
				delete(now, key)
			} else {
				put(t, k, key, val)
				now[key] = val
			}
			can = append(can, maps.Clone(now))
		}
		last := false
		for _, p := range picks(1200) {
			last = maps.Equal(among(t, d, []int{p}, can), now) || last
		}
		if !last {
			t.Errorf("%s is never found", short(now))
		}
	}
}

// crowded is a store whose next Put of a long value clears away, with what it holds.
func crowded(t *testing.T, d *disk.Disk) (*Keep, vals) {
	t.Helper()
	k := opened(t, d)
	want := vals{"a": "1", "b": ""}
	put(t, k, "a", "1")
	put(t, k, "b", "")
	long := repeat('v', 4000)
	for i := 0; k.logged+3*len(long) < mostLogged; i++ {
		key := "key" + strconv.Itoa(i%9)
		put(t, k, key, long)
		want[key] = long
	}
	// The last ones are there for what is lost and what isn't.
	for i := range 2 {
		is(t, "Sync", k.Sync(), api.OK)
		key := "last" + strconv.Itoa(i)
		put(t, k, key, long)
		want[key] = long
	}
	return k, want
}

// P11.2, P11.3: the power goes at each call of the disk while what is overwritten is cleared away, and nothing is lost by it.
func TestCrashInClear(t *testing.T) {
	long := repeat('w', 3500)
	steps := []func(k *Keep) (string, api.Errno){
		func(k *Keep) (string, api.Errno) { return "new", k.Put("new", long) },
		func(k *Keep) (string, api.Errno) { return "a", k.Put("a", long) },
	}
	for _, step := range steps {
		cleared := false
		for at := 1; at < 20; at++ {
			d := newDisk(t)
			k, was := crowded(t, d)
			full := k.logged
			before := maps.Clone(was)
			delete(before, "last1")
			d.Off(at)
			key, e := step(k)
			done := maps.Clone(was)
			done[key] = long
			for _, p := range []int{0, 1, 2, 5, 500, 5000, 2 + 3*400} {
				for _, q := range []int{0, 1, 2, 8} {
					among(t, d, []int{p, q}, []vals{before, was, done})
				}
			}
			if e == api.OK {
				cleared = k.logged < full
				holds(t, k, done)
				break
			}
			is(t, "a Put without power", e, api.ErrPower)
			holds(t, k, was)
			is(t, "Sync", k.Sync(), api.ErrPower)
			is(t, "Put of no key", k.Put("", ""), api.ErrPower)
		}
		if !cleared {
			t.Errorf("nothing was cleared away")
		}
	}
}

// row is a row of numbers without a pattern, the same for each start.
type row uint64

// below is the next number, from 0 to n-1.
func (r *row) below(n int) int {
	*r = *r*6364136223846793005 + 1442695040888963407
	return int(*r>>33) % n
}

// life is a store with what may be found of it behind a crash.
type life struct {
	disk *disk.Disk
	keep *Keep
	can  []vals
	keys []string
	vals []string
}

// step makes one call and reports whether the disk goes on.
func (x *life) step(t *testing.T, r *row) bool {
	t.Helper()
	was := held(t, x.keep)
	next := maps.Clone(was)
	key, val := x.keys[r.below(len(x.keys))], x.vals[r.below(len(x.vals))]
	var e api.Errno
	switch c := r.below(10); {
	case c < 6:
		next[key] = val
		e = x.keep.Put(key, val)
	case c < 8:
		if _, ok := was[key]; !ok {
			is(t, "Drop of what isn't there", x.keep.Drop(key), api.ErrNone)
			return true
		}
		delete(next, key)
		e = x.keep.Drop(key)
	default:
		e = x.keep.Sync()
		if e == api.OK {
			x.can = nil
		}
	}
	x.can = append(x.can, next)
	if e == api.OK {
		holds(t, x.keep, next)
		return true
	}
	is(t, "a call without power", e, api.ErrPower)
	holds(t, x.keep, was)
	return false
}

// openAgain crashes and opens until the power lasts for it.
func (x *life) openAgain(t *testing.T, r *row) {
	t.Helper()
	for off := range 20 {
		x.disk = crashed(t, x.disk, r.below(400)-10, r.below(400)-10)
		x.disk.Off(off + r.below(10))
		k, e := Open(x.disk)
		if e == api.OK {
			x.keep = k
			return
		}
		is(t, "Open", e, api.ErrPower)
	}
	t.Fatalf("Open never has its power")
}

// lives runs a store through calls and crashes, with the power going within so many calls of the disk.
func lives(t *testing.T, x *life, r *row, power, rounds int) {
	t.Helper()
	for range rounds {
		x.disk.Off(1 + r.below(power))
		for x.step(t, r) {
		}
		x.openAgain(t, r)
		found := held(t, x.keep)
		if !slices.ContainsFunc(x.can, func(v vals) bool { return maps.Equal(v, found) }) {
			t.Fatalf("%s is found", short(found))
		}
		x.can = []vals{found}
	}
}

// P11.3: long runs, with the power going at any call, some of Open's among them, and several crashes behind each other.
func TestLives(t *testing.T) {
	for seed := range 200 {
		r := row(seed)
		d := newDisk(t, "a", "other", "z", "other")
		x := &life{disk: d, keep: opened(t, d), can: []vals{{}}, keys: hardKeys()[:8], vals: hardVals()[:17]}
		lives(t, x, &r, 25, 12)
	}
}

// P11.3: the same with long values, of which many are cleared away.
func TestLivesLong(t *testing.T) {
	for seed := range 4 {
		r := row(seed)
		d := newDisk(t)
		x := &life{disk: d, keep: opened(t, d), can: []vals{{}}, keys: hardKeys()[:12], vals: []string{repeat('v', 4000), repeat('w', 4000), repeat(0, 4000)}}
		lives(t, x, &r, 300, 8)
	}
}

// logged is a disk with a log of these records.
func logged(t *testing.T, l ...string) *disk.Disk {
	t.Helper()
	d := newDisk(t)
	g, e := log.Open(d)
	is(t, "log.Open", e, api.OK)
	is(t, "Reset", g.Reset(l), api.OK)
	return d
}

// R1: whatever records are in the log, Open ends with a store as there may be one, and goes on with it.
func TestJunk(t *testing.T) {
	all := []string{"", "+", "-", "+\x00", "+\x00v", "+\x01", "+\x02a", "+\xff", "+\x21" + repeat('k', 40), "+\x20" + repeat('k', 32), "+\x01a" + repeat('v', api.MaxRecord-3), "-a", "-none", "-" + repeat('k', 33), "-" + repeat('k', api.MaxRecord-1), "a", "\x00", "\xff", "x\x01ab", repeat('+', 3), repeat('-', 3), repeat('+', api.MaxRecord), setting("a", "1"), setting("b", "2")}
	junk(t, logged(t, all...))
	for i, s := range all {
		junk(t, logged(t, s))
		junk(t, logged(t, s, setting("a", "1"), s, all[(i*5+1)%len(all)]))
	}
	// More pairs than there may be, and as many records as there may be.
	var many, long, short []string
	for i := range 6000 {
		many = append(many, setting("k"+strconv.Itoa(i), ""))
	}
	for i := range 120 {
		long = append(long, setting("k"+strconv.Itoa(i), repeat('v', 4000)))
	}
	for range api.MaxFile / 32 {
		short = append(short, "")
	}
	for _, l := range [][]string{many, long, short} {
		junk(t, logged(t, l...))
	}
	junk(t, newDisk(t, "log", "junk", "log.new", "junk"))
}

// junk opens a store on a disk with any log.
func junk(t *testing.T, d *disk.Disk) {
	t.Helper()
	k := opened(t, d)
	want := held(t, k)
	size := 0
	for key, val := range want {
		size += len(key) + len(val) + 64
		if len(key) < 1 || len(key) > api.MaxName || len(key)+len(val) > api.MaxRecord-64 {
			t.Errorf("%s is there", short(vals{key: val}))
		}
	}
	if size > api.MaxFile/4 || len(want) > api.MaxKeys {
		t.Errorf("%d pairs count %d", len(want), size)
	}
	holds(t, opened(t, d), want)
	for key := range want {
		drop(t, k, key)
	}
	for range 150 {
		put(t, k, "a", repeat('x', 4000))
	}
	put(t, k, "a", "1")
	is(t, "Sync", k.Sync(), api.OK)
	finds(t, d, nil, vals{"a": "1"})
}

// R1: what the log holds beside what a Put and a Drop write there is passed over, and nothing else with it.
func TestJunkBetween(t *testing.T) {
	d := logged(t, "", setting("a", "1"), "+\x05a", setting("b", "2"), "junk", "-c", setting("c", "3"), "-", "-b", setting("d", ""))
	k := opened(t, d)
	holds(t, k, vals{"a": "1", "c": "3", "d": ""})
	put(t, k, "b", "4")
	holds(t, opened(t, d), vals{"a": "1", "b": "4", "c": "3", "d": ""})
}

// R1: a store that Open didn't make has no disk; none of its calls panics.
func TestZeroKeep(t *testing.T) {
	var k Keep
	isDead(t, &k, vals{})
}

// R1: equal calls are answered equally, and stores on two disks have nothing in common.
func TestTwoKeeps(t *testing.T) {
	x, y, z := newDisk(t), newDisk(t), newDisk(t)
	a, b, c := opened(t, x), opened(t, y), opened(t, z)
	for _, k := range []*Keep{a, b} {
		for i := range 300 {
			put(t, k, strconv.Itoa(i%20), repeat(byte(i), 3000))
		}
		is(t, "Sync", k.Sync(), api.OK)
		put(t, k, "0", "unsynced")
		drop(t, k, "1")
	}
	holds(t, c, vals{})
	for _, p := range []int{0, 1, 2, 5, 2 + 3*5000} {
		finds(t, y, []int{p}, held(t, opened(t, crashed(t, x, p))))
	}
	if x.Calls() != y.Calls() {
		t.Errorf("%d and %d calls", x.Calls(), y.Calls())
	}
	x.Off(0)
	want := held(t, a)
	is(t, "Put", a.Put("0", "more"), api.ErrPower)
	is(t, "Put", b.Put("0", "more"), api.OK)
	holds(t, a, want)
	want["0"] = "more"
	holds(t, b, want)
	holds(t, c, vals{})
}

// R2: what Keys answers can be written into, and behind its end, and nothing else changes.
func TestAnswersAreNew(t *testing.T) {
	d := newDisk(t)
	k := opened(t, d)
	want := vals{}
	for i := range 20 {
		key := strconv.Itoa(i)
		put(t, k, key, "v")
		want[key] = "v"
		x, y := k.Keys(), k.Keys()
		z := append(x, "behind")
		for _, a := range [][]string{x[:cap(x)], z} {
			for i := range a {
				a[i] = "spoilt"
			}
		}
		if !slices.Equal(y, slices.Sorted(maps.Keys(want))) {
			t.Errorf("another answer became %q", y)
		}
		holds(t, k, want)
	}
	is(t, "Sync", k.Sync(), api.OK)
	finds(t, d, nil, want)
}
