package net

import (
	"maps"
	"math"
	"slices"
	"strconv"
	"strings"
	"testing"

	"drover/api"
)

// way is a link, by its nodes.
type way struct{ from, to int }

// plain is what a net should hold.
type plain map[way][]string

// notNodes lists numbers that are no nodes.
func notNodes() []int {
	return []int{0, -1, -2, -16, api.MaxNodes + 1, api.MaxNodes + 2, 32, 256, 1 << 31, 1 << 32, 1<<32 + 1, 1 << 40, math.MaxInt, -1 << 32, 1 - 1<<32, math.MinInt, math.MinInt + 1}
}

// notWays lists links that there aren't.
func notWays() []way {
	var l []way
	for _, who := range notNodes() {
		for _, node := range []int{1, 2, api.MaxNodes, who, 0, -1, api.MaxNodes + 1} {
			l = append(l, way{who, node}, way{node, who})
		}
	}
	return l
}

// notAmong lists numbers that no message of a link of count messages has.
func notAmong(count int) []int {
	return []int{count, count + 1, count + api.MaxLink, -1, -2, -count - 1, 1 << 31, 1 << 32, 1 << 40, -1 << 32, math.MaxInt, math.MinInt, math.MinInt + 1}
}

// is asks whether a call answered want.
func is(t *testing.T, what string, e, want api.Errno) {
	t.Helper()
	if e != want {
		t.Errorf("%s is %d, not %d", what, e, want)
	}
}

// short is s, or its beginning, with quotation marks.
func short(s string) string {
	return strconv.Quote(s[:min(len(s), 30)])
}

// put is a Put that must do.
func put(t *testing.T, n *Net, from, to int, l ...string) {
	t.Helper()
	for _, s := range l {
		is(t, "Put "+short(s), n.Put(from, to, []byte(s)), api.OK)
	}
}

// takes is a Take that must return want.
func takes(t *testing.T, n *Net, from, to, k int, want string) {
	t.Helper()
	if b, e := n.Take(from, to, k); string(b) != want || e != api.OK {
		t.Errorf("Take(%d, %d, %d) is %s, %d, not %s", from, to, k, short(string(b)), e, short(want))
	}
}

// counts asks for the number of messages of each link.
func counts(t *testing.T, n *Net, want plain) {
	t.Helper()
	for from := 1; from <= api.MaxNodes; from++ {
		for to := 1; to <= api.MaxNodes; to++ {
			if k := n.Count(from, to); k != len(want[way{from, to}]) {
				t.Errorf("Count(%d, %d) is %d, not %d", from, to, k, len(want[way{from, to}]))
			}
		}
	}
	for _, w := range notWays() {
		if k := n.Count(w.from, w.to); k != 0 {
			t.Errorf("Count(%d, %d) is %d", w.from, w.to, k)
		}
	}
}

// holds asks for all messages of a net, and leaves it without any.
func holds(t *testing.T, n *Net, want plain) {
	t.Helper()
	counts(t, n, want)
	for from := 1; from <= api.MaxNodes; from++ {
		for to := 1; to <= api.MaxNodes; to++ {
			for _, s := range want[way{from, to}] {
				takes(t, n, from, to, 0, s)
			}
			if b, e := n.Take(from, to, 0); len(b) > 0 || e != api.ErrNone {
				t.Errorf("behind the last, Take(%d, %d, 0) is %s, %d", from, to, short(string(b)), e)
			}
		}
	}
	counts(t, n, nil)
}

// filled is a net in which each link has messages of its own, some of them none.
func filled(t *testing.T) (*Net, plain) {
	t.Helper()
	n, all := New(), plain{}
	for from := 1; from <= api.MaxNodes; from++ {
		for to := 1; to <= api.MaxNodes; to++ {
			for k := range (3*from + to) % 4 {
				s := strconv.Itoa(from) + "-" + strconv.Itoa(to) + "-" + strconv.Itoa(k)
				put(t, n, from, to, s)
				all[way{from, to}] = append(all[way{from, to}], s)
			}
		}
	}
	return n, all
}

// P12.1: a new net has no messages.
func TestNew(t *testing.T) {
	n := New()
	if n == nil {
		t.Fatal("New is nil")
	}
	holds(t, n, nil)
}

// P12.1: each link has its own messages, in the order in which they were put.
func TestPut(t *testing.T) {
	n, all := filled(t)
	counts(t, n, all)
	holds(t, n, all)
	n = New()
	put(t, n, 1, 2, "a", "b", "a", "", "a")
	put(t, n, 2, 1, "x")
	put(t, n, 1, 2, "c")
	put(t, n, 1, 1, "y", "z")
	put(t, n, api.MaxNodes, api.MaxNodes, "last")
	holds(t, n, plain{{1, 2}: {"a", "b", "a", "", "a", "c"}, {2, 1}: {"x"}, {1, 1}: {"y", "z"}, {api.MaxNodes, api.MaxNodes}: {"last"}})
}

// P12.1: any bytes are a message, none as well.
func TestPutBytes(t *testing.T) {
	l := []string{"", "\x00", "\x00\x00", "\xff\xfe", "\xc3", "Größe\n", "\x80", strings.Repeat("x", api.MaxFile), strings.Repeat("\x00", 3*api.MaxFile)}
	n := New()
	is(t, "Put nil", n.Put(3, 4, nil), api.OK)
	is(t, "Put empty", n.Put(3, 4, []byte{}), api.OK)
	put(t, n, 3, 4, l...)
	holds(t, n, plain{{3, 4}: append([]string{"", ""}, l...)})
}

// P12.1: from and to must be nodes.
func TestPutErrors(t *testing.T) {
	n, all := filled(t)
	for range 2 {
		for _, w := range notWays() {
			for _, b := range [][]byte{nil, []byte("x")} {
				is(t, "Put from "+strconv.Itoa(w.from)+" to "+strconv.Itoa(w.to), n.Put(w.from, w.to, b), api.ErrForm)
			}
		}
	}
	holds(t, n, all)
}

// full lists as many messages as a link may have, and puts them.
func full(t *testing.T, n *Net, from, to int) []string {
	t.Helper()
	var l []string
	for i := range api.MaxLink {
		l = append(l, strconv.Itoa(i))
	}
	put(t, n, from, to, l...)
	return l
}

// P12.1 and P12.2: as many messages as a link may have, and no more; a message that leaves makes room.
func TestFull(t *testing.T) {
	n := New()
	l := full(t, n, 4, 5)
	for range 2 {
		is(t, "Put beyond", n.Put(4, 5, []byte("x")), api.ErrFull)
		is(t, "Put nothing beyond", n.Put(4, 5, nil), api.ErrFull)
		for _, k := range []int{0, 1, api.MaxLink / 2, api.MaxLink - 1} {
			is(t, "Double beyond", n.Double(4, 5, k), api.ErrFull)
		}
		for _, k := range notAmong(api.MaxLink) {
			is(t, "Double of none", n.Double(4, 5, k), api.ErrNone)
		}
	}
	counts(t, n, plain{{4, 5}: l})
	// It's the link that is full, not the nodes.
	put(t, n, 5, 4, "back")
	put(t, n, 4, 6, "aside")
	is(t, "Double aside", n.Double(4, 6, 0), api.OK)
	put(t, n, 6, 5, "other")
	takes(t, n, 4, 5, 7, "7")
	is(t, "Double", n.Double(4, 5, api.MaxLink-2), api.OK)
	is(t, "Double beyond", n.Double(4, 5, 0), api.ErrFull)
	is(t, "Drop", n.Drop(4, 5, 0), api.OK)
	put(t, n, 4, 5, "new")
	is(t, "Put beyond", n.Put(4, 5, []byte("x")), api.ErrFull)
	l = append(slices.Delete(l, 7, 8)[1:], l[len(l)-1], "new")
	l[len(l)-2] = strconv.Itoa(api.MaxLink - 1)
	holds(t, n, plain{{4, 5}: l, {5, 4}: {"back"}, {4, 6}: {"aside", "aside"}, {6, 5}: {"other"}})
	l = full(t, n, 4, 5)
	n.Clear(5)
	counts(t, n, nil)
	full(t, n, 4, 5)
	holds(t, n, plain{{4, 5}: l})
}

// P12.2: the chapter's example, and each message of a link.
func TestTake(t *testing.T) {
	n := New()
	put(t, n, 1, 2, "a", "b")
	takes(t, n, 1, 2, 1, "b")
	holds(t, n, plain{{1, 2}: {"a"}})
	l := []string{"a", "b", "", "c", "b"}
	for k, s := range l {
		put(t, n, 2, 2, l...)
		takes(t, n, 2, 2, k, s)
		holds(t, n, plain{{2, 2}: slices.Delete(slices.Clone(l), k, k+1)})
	}
	put(t, n, 3, 1, l...)
	for _, k := range []int{4, 1, 2, 1, 0} {
		l = slices.Delete(l, k, k+1)
		n.Take(3, 1, k)
		counts(t, n, plain{{3, 1}: l})
	}
}

// P12.2: a copy becomes the last one, and leaves by itself.
func TestDouble(t *testing.T) {
	l := []string{"a", "b", "", "c", "b"}
	for k, s := range l {
		n := New()
		put(t, n, 16, 1, l...)
		put(t, n, 1, 16, "x")
		is(t, "Double", n.Double(16, 1, k), api.OK)
		holds(t, n, plain{{16, 1}: append(slices.Clone(l), s), {1, 16}: {"x"}})
	}
	n := New()
	put(t, n, 2, 3, "a", "b")
	is(t, "Double", n.Double(2, 3, 0), api.OK)
	is(t, "Double of the copy", n.Double(2, 3, 2), api.OK)
	is(t, "Drop of the first", n.Drop(2, 3, 0), api.OK)
	takes(t, n, 2, 3, 1, "a")
	put(t, n, 2, 3, "c")
	holds(t, n, plain{{2, 3}: {"b", "a", "c"}})
}

// P12.2: what is long is doubled as well, up to a full link.
func TestDoubleLong(t *testing.T) {
	long := strings.Repeat("long", api.MaxFile/4)
	n := New()
	put(t, n, 1, 1, long)
	for k := range api.MaxLink - 1 {
		is(t, "Double", n.Double(1, 1, k), api.OK)
	}
	is(t, "Double", n.Double(1, 1, 0), api.ErrFull)
	for _, k := range []int{api.MaxLink - 1, 0, api.MaxLink / 2} {
		takes(t, n, 1, 1, k, long)
	}
	counts(t, n, plain{{1, 1}: make([]string, api.MaxLink-3)})
}

// P12.2: the message is gone, the others stay.
func TestDrop(t *testing.T) {
	l := []string{"a", "b", "", "c", "b"}
	for k := range l {
		n, all := filled(t)
		put(t, n, 4, 4, l...)
		is(t, "Drop", n.Drop(4, 4, len(all[way{4, 4}])+k), api.OK)
		all[way{4, 4}] = append(all[way{4, 4}], slices.Delete(slices.Clone(l), k, k+1)...)
		holds(t, n, all)
	}
}

// P12.2: what isn't there is neither taken nor doubled nor dropped.
func TestNone(t *testing.T) {
	n, all := filled(t)
	none := func(w way, k int) {
		t.Helper()
		what := " from " + strconv.Itoa(w.from) + " to " + strconv.Itoa(w.to) + " of " + strconv.Itoa(k)
		b, e := n.Take(w.from, w.to, k)
		if len(b) > 0 {
			t.Errorf("Take%s is %s", what, short(string(b)))
		}
		is(t, "Take"+what, e, api.ErrNone)
		is(t, "Double"+what, n.Double(w.from, w.to, k), api.ErrNone)
		is(t, "Drop"+what, n.Drop(w.from, w.to, k), api.ErrNone)
	}
	for range 2 {
		for from := 1; from <= api.MaxNodes; from++ {
			for to := 1; to <= api.MaxNodes; to++ {
				for _, k := range notAmong(len(all[way{from, to}])) {
					none(way{from, to}, k)
				}
			}
		}
		for _, w := range notWays() {
			for _, k := range append(notAmong(0), 1) {
				none(w, k)
			}
		}
	}
	holds(t, n, all)
}

// P12.2: Clear takes all links to a node, its own with itself as well, and no other.
func TestClear(t *testing.T) {
	for to := 1; to <= api.MaxNodes; to++ {
		n, all := filled(t)
		n.Clear(to)
		maps.DeleteFunc(all, func(w way, _ []string) bool { return w.to == to })
		counts(t, n, all)
		// A second time changes nothing, and a link goes on behind it.
		n.Clear(to)
		put(t, n, to, to, "new", "one")
		all[way{to, to}] = []string{"new", "one"}
		holds(t, n, all)
		n.Clear(to)
		counts(t, n, nil)
	}
}

// P12.2: Clear of what is no node changes nothing.
func TestClearNone(t *testing.T) {
	n, all := filled(t)
	for _, who := range notNodes() {
		n.Clear(who)
	}
	holds(t, n, all)
}

// run is a long mixed run of calls on a net, with those on a plain one beside it; it asks for what each call answers.
func run(t *testing.T, n *Net, steps int, seed uint32) (all plain, due map[string]int) {
	t.Helper()
	all, due = plain{}, map[string]int{}
	pick := func(below int) int {
		seed = seed*1664525 + 1013904223
		return int(seed>>8) % below
	}
	nodes := []int{1, 2, 3, api.MaxNodes, 0, api.MaxNodes + 1}
	for i := range steps {
		w := way{nodes[pick(len(nodes))], nodes[pick(len(nodes))]}
		k := pick(12) - 1
		l := all[w]
		is := func(what string, e api.Errno, ok bool, wrong api.Errno) {
			t.Helper()
			if ok {
				wrong = api.OK
			}
			is(t, strconv.Itoa(i)+": "+what, e, wrong)
		}
		there := 0 <= k && k < len(l)
		switch pick(24) {
		case 0, 1, 2, 3, 4, 5, 6, 7, 8, 9:
			s := strconv.Itoa(i % 977)
			ok := slices.Contains(nodes[:4], w.from) && slices.Contains(nodes[:4], w.to)
			is("Put", n.Put(w.from, w.to, []byte(s)), ok, api.ErrForm)
			if ok {
				all[w] = append(l, s)
				due[s]++
			}
		case 10, 11, 12, 13, 14:
			b, e := n.Take(w.from, w.to, k)
			is("Take", e, there, api.ErrNone)
			if there && string(b) != l[k] || !there && len(b) > 0 {
				t.Errorf("%d: Take(%d, %d, %d) is %s of %q", i, w.from, w.to, k, short(string(b)), l)
			}
			if there {
				due[l[k]]--
				all[w] = slices.Delete(l, k, k+1)
			}
		case 15, 16, 17, 18, 19:
			is("Double", n.Double(w.from, w.to, k), there, api.ErrNone)
			if there {
				due[l[k]]++
				all[w] = append(l, l[k])
			}
		case 20, 21, 22:
			is("Drop", n.Drop(w.from, w.to, k), there, api.ErrNone)
			if there {
				due[l[k]]--
				all[w] = slices.Delete(l, k, k+1)
			}
		case 23:
			if pick(8) > 0 {
				continue
			}
			n.Clear(w.to)
			for v, l := range all {
				if v.to == w.to {
					for _, s := range l {
						due[s]--
					}
					all[v] = nil
				}
			}
		}
		if got := n.Count(w.from, w.to); got != len(all[w]) {
			t.Fatalf("%d: Count(%d, %d) is %d, not %d", i, w.from, w.to, got, len(all[w]))
		}
	}
	return all, due
}

// P12.3: in runs of all calls, each message arrives as often as these say, unchanged.
func TestRuns(t *testing.T) {
	most := 0
	for seed := range uint32(40) {
		n := New()
		all, due := run(t, n, 2000, seed)
		for from := 1; from <= api.MaxNodes; from++ {
			for to := 1; to <= api.MaxNodes; to++ {
				l := all[way{from, to}]
				most = max(most, len(l))
				counts := n.Count(from, to)
				if counts != len(l) {
					t.Errorf("Count(%d, %d) is %d, not %d", from, to, counts, len(l))
				}
				for k := counts; k > 0; k-- {
					b, e := n.Take(from, to, k-1)
					is(t, "Take", e, api.OK)
					due[string(b)]--
					if string(b) != l[k-1] {
						t.Errorf("Take(%d, %d, %d) is %s, not %s", from, to, k-1, short(string(b)), short(l[k-1]))
					}
				}
			}
		}
		for s, k := range due {
			if k != 0 {
				t.Errorf("%s arrives %d times less than it should", short(s), k)
			}
		}
		counts(t, n, nil)
	}
	if most < 12 {
		t.Errorf("no link had more than %d messages", most)
	}
}

// R1: what a net answers hangs on its own calls alone, and is the same each time.
func TestTwoNets(t *testing.T) {
	a, b, c := New(), New(), New()
	first, _ := run(t, a, 1500, 5)
	run(t, b, 1500, 6)
	again, _ := run(t, c, 1500, 5)
	b.Clear(1)
	b.Clear(2)
	holds(t, a, first)
	holds(t, c, again)
	if !maps.EqualFunc(first, again, slices.Equal[[]string]) {
		t.Error("two equal runs differ")
	}
}

// R1: a net that New didn't make is one without messages; none of its calls panics.
func TestZeroNet(t *testing.T) {
	n := &Net{}
	holds(t, n, nil)
	is(t, "Drop", n.Drop(1, 2, 0), api.ErrNone)
	is(t, "Double", n.Double(1, 2, 0), api.ErrNone)
	n.Clear(2)
	put(t, n, 1, 2, "a")
	holds(t, n, plain{{1, 2}: {"a"}})
}

// R2: arguments are left as they are and not kept.
func TestArguments(t *testing.T) {
	n := New()
	b := []byte("abcd")
	for k := range 3 {
		is(t, "Put", n.Put(1, 2, b[:2+k]), api.OK)
		if string(b) != "abcd" {
			t.Errorf("the argument became %q", b)
		}
	}
	for i := range b {
		b[i] = '!'
	}
	holds(t, n, plain{{1, 2}: {"ab", "abc", "abcd"}})
}

// R2: results share nothing with the net or with each other, not even spare capacity.
func TestResults(t *testing.T) {
	n := New()
	put(t, n, 1, 2, "ab", "cd", "")
	for range 3 {
		is(t, "Double", n.Double(1, 2, 0), api.OK)
		is(t, "Double", n.Double(1, 2, 2), api.OK)
	}
	x, _ := n.Take(1, 2, 0)
	y, _ := n.Take(1, 2, 2)
	z, _ := n.Take(1, 2, 1)
	for _, b := range [][]byte{x, z} {
		b = b[:cap(b)]
		for i := range b {
			b[i] = '!'
		}
	}
	if string(y) != "ab" {
		t.Errorf("a result became %q", y)
	}
	y = append(y, "more"...)
	put(t, n, 1, 2, "new")
	if string(y) != "abmore" {
		t.Errorf("a result became %q", y)
	}
	holds(t, n, plain{{1, 2}: {"cd", "", "ab", "", "ab", "", "new"}})
}

// What has left isn't kept: the list of a link holds nothing behind its end.
func TestNothingKept(t *testing.T) {
	n := New()
	asks := func() {
		t.Helper()
		l := n.links[0][1]
		for i, s := range l[len(l):cap(l)] {
			if s != "" {
				t.Fatalf("%s is kept, %d behind the end", short(s), i)
			}
		}
	}
	full(t, n, 1, 2)
	for range api.MaxLink / 2 {
		n.Take(1, 2, 3)
		asks()
	}
	for range api.MaxLink / 4 {
		n.Drop(1, 2, 0)
		asks()
	}
	n.Clear(2)
	asks()
}
