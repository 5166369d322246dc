package book

import (
	"math"
	"slices"
	"strings"
	"testing"

	"drover/api"
)

// digest is the digest of s, which must be want.
func digest(t *testing.T, b *Book, s string, want int) {
	t.Helper()
	if d, e := b.Digest([]byte(s)); d != want || e != api.OK {
		t.Fatalf("Digest(%.40q) is %d, %d, not %d", s, d, e, want)
	}
}

// holds asks whether the book is the one in which the bytes l have the digests 1, 2 .. and there are no others.
func holds(t *testing.T, b *Book, l []string) {
	t.Helper()
	if k := b.Count(); k != len(l) {
		t.Errorf("Count is %d, not %d", k, len(l))
	}
	for i, s := range l {
		if d, e := b.Find([]byte(s)); d != i+1 || e != api.OK {
			t.Errorf("Find(%.40q) is %d, %d, not %d", s, d, e, i+1)
		}
		if x, e := b.Bytes(i + 1); string(x) != s || e != api.OK {
			t.Errorf("Bytes(%d) is %.40q, %d, not %.40q", i+1, x, e, s)
		}
	}
	for _, d := range notDigests(len(l)) {
		if x, e := b.Bytes(d); len(x) > 0 || e != api.ErrNone {
			t.Errorf("of %d digests, Bytes(%d) is %.40q, %d", len(l), d, x, e)
		}
	}
}

// notDigests lists numbers that are no digests of a book of count digests.
func notDigests(count int) []int {
	l := []int{count + 1, count + 2, api.MaxBook + 1, 1 << 31, 1 << 32, 1<<32 + 1, 1 << 40, math.MaxInt, 0, -1, -2, -1 << 32, math.MinInt, math.MinInt + 1}
	if count < api.MaxBook {
		l = append(l, api.MaxBook)
	}
	return l
}

// alikes lists different byte strings that are much alike.
func alikes() []string {
	l := []string{"", "a", "b", "ab", "ba", "aa", "abc", "A", "a ", " a", "1", "\x01", "ö", "o\u0308", "\xc3", "\xf6", "\xff", "\xfe", "\ufffd", "batch", "header"}
	for k := 1; k < 9; k++ {
		l = append(l, strings.Repeat("\x00", k), "a"+strings.Repeat("\x00", k), strings.Repeat("\x00", k)+"a", strings.Repeat("\x80", k))
	}
	long := strings.Repeat("x", api.MaxFile)
	return append(l, long, long+"x", long[1:], "y"+long[1:], long[1:]+"y", long[:500]+"y"+long[501:])
}

// P5.1: a new book has nothing in it.
func TestNew(t *testing.T) {
	b := New()
	if b == nil {
		t.Fatal("New is nil")
	}
	holds(t, b, nil)
	for _, s := range []string{"", "a", "\x00"} {
		if d, e := b.Find([]byte(s)); d != 0 || e != api.ErrNone {
			t.Errorf("Find(%q) is %d, %d", s, d, e)
		}
	}
	if d, e := b.Find(nil); d != 0 || e != api.ErrNone {
		t.Errorf("Find(nil) is %d, %d", d, e)
	}
}

// P5.1: the chapter's example, and on.
func TestDigest(t *testing.T) {
	b := New()
	for _, c := range []struct {
		s           string
		want, count int
	}{{"a", 1, 1}, {"b", 2, 2}, {"a", 1, 2}, {"b", 2, 2}, {"", 3, 3}, {"ab", 4, 4}, {"", 3, 4}, {"a\x00", 5, 5}, {"a", 1, 5}, {"\x00", 6, 6}} {
		digest(t, b, c.s, c.want)
		if k := b.Count(); k != c.count {
			t.Errorf("behind Digest(%q), Count is %d, not %d", c.s, k, c.count)
		}
	}
	holds(t, b, []string{"a", "b", "", "ab", "a\x00", "\x00"})
}

// P5.1: no bytes are bytes as well, whether the slice is nil or empty.
func TestDigestNothing(t *testing.T) {
	for _, l := range [][][]byte{{nil, {}}, {{}, nil}} {
		b := New()
		for _, x := range l {
			if d, e := b.Digest(x); d != 1 || e != api.OK {
				t.Errorf("Digest(%#v) is %d, %d", x, d, e)
			}
		}
		for _, x := range l {
			if d, e := b.Find(x); d != 1 || e != api.OK {
				t.Errorf("Find(%#v) is %d, %d", x, d, e)
			}
		}
		holds(t, b, []string{""})
	}
}

// P5.1: Find gives no digest to what has none.
func TestFind(t *testing.T) {
	b := New()
	digest(t, b, "a", 1)
	for range 3 {
		for _, s := range []string{"", "b", "A", "aa", "a\x00", "1"} {
			if d, e := b.Find([]byte(s)); d != 0 || e != api.ErrNone {
				t.Errorf("Find(%q) is %d, %d", s, d, e)
			}
		}
	}
	holds(t, b, []string{"a"})
	digest(t, b, "c", 2)
	digest(t, b, "b", 3)
	holds(t, b, []string{"a", "c", "b"})
}

// P5.1 and P5.3: bytes that are much alike, long ones too, have digests of their own, in whichever order they come.
func TestAlike(t *testing.T) {
	l := alikes()
	for range 2 {
		b := New()
		for i, s := range l {
			if d, e := b.Find([]byte(s)); d != 0 || e != api.ErrNone {
				t.Errorf("ahead of Digest, Find(%.40q) is %d, %d", s, d, e)
			}
			digest(t, b, s, i+1)
			// The first ones keep theirs.
			digest(t, b, l[i/2], i/2+1)
		}
		holds(t, b, l)
		slices.Reverse(l)
	}
}

// P5.1: as many digests as there may be, and no more; what is there goes on.
func TestFull(t *testing.T) {
	b := New()
	l := make([]string, api.MaxBook)
	for i := range l {
		l[i] = string([]byte{byte(i), byte(i >> 8)})
		digest(t, b, l[i], i+1)
	}
	for range 2 {
		for _, s := range []string{"", "a", "abc", strings.Repeat("a", 1000)} {
			if d, e := b.Digest([]byte(s)); d != 0 || e != api.ErrFull {
				t.Errorf("Digest(%.40q) is %d, %d", s, d, e)
			}
			if d, e := b.Find([]byte(s)); d != 0 || e != api.ErrNone {
				t.Errorf("Find(%.40q) is %d, %d", s, d, e)
			}
		}
		for i, s := range l {
			digest(t, b, s, i+1)
		}
	}
	holds(t, b, l)
	for _, d := range []int{1, api.MaxBook / 2, api.MaxBook} {
		if e := b.Sign(9, d); e != api.OK || !b.Signed(9, d) {
			t.Errorf("Sign(9, %d) is %d, Signed then %v", d, e, b.Signed(9, d))
		}
	}
	if e := b.Sign(9, api.MaxBook+1); e != api.ErrNone || b.Signed(9, api.MaxBook+1) {
		t.Errorf("Sign beyond the last is %d", e)
	}
}

// signature is one, of a node for a digest.
type signature struct{ who, d int }

// signs asks whether l are the signatures of the book, and there are no others.
func signs(t *testing.T, b *Book, l []signature) {
	t.Helper()
	nodes := []int{32, 1 << 32, 1<<32 + 1, math.MaxInt, math.MinInt, math.MinInt + 1, -1 << 32, 1<<32 - 1}
	for who := -17; who <= 20; who++ {
		nodes = append(nodes, who)
	}
	digests := notDigests(b.Count())
	for d := range b.Count() {
		digests = append(digests, d+1)
	}
	for _, who := range nodes {
		for _, d := range digests {
			if is, want := b.Signed(who, d), slices.Contains(l, signature{who, d}); is != want {
				t.Errorf("Signed(%d, %d) is %v, not %v", who, d, is, want)
			}
		}
	}
}

// P5.2: each node's signature is its own, for its digest, and stays.
func TestSign(t *testing.T) {
	b := New()
	var l []signature
	for i, s := range []string{"a", "b", "c", "d"} {
		digest(t, b, s, i+1)
	}
	signs(t, b, nil)
	for k := range 4 * api.MaxNodes {
		// 5 and 64 have no common part, so that all pairs come, mixed.
		x := signature{k*5%64/4 + 1, k*5%4 + 1}
		// A second time changes nothing.
		for range 2 {
			if e := b.Sign(x.who, x.d); e != api.OK {
				t.Errorf("Sign(%d, %d) is %d", x.who, x.d, e)
			}
		}
		l = append(l, x)
		signs(t, b, l)
	}
	digest(t, b, "e", 5)
	signs(t, b, l)
	holds(t, b, []string{"a", "b", "c", "d", "e"})
}

// P5.2: who must be a node, then d a digest; a refusal leaves nothing behind.
func TestSignErrors(t *testing.T) {
	b := New()
	if e := b.Sign(1, 1); e != api.ErrNone {
		t.Errorf("in a new book, Sign(1, 1) is %d", e)
	}
	if e := b.Sign(0, 1); e != api.ErrForm {
		t.Errorf("in a new book, Sign(0, 1) is %d", e)
	}
	for i, s := range []string{"a", "b"} {
		digest(t, b, s, i+1)
	}
	for _, d := range notDigests(2) {
		for _, who := range []int{1, 2, api.MaxNodes} {
			if e := b.Sign(who, d); e != api.ErrNone {
				t.Errorf("Sign(%d, %d) is %d", who, d, e)
			}
		}
	}
	for _, who := range []int{0, -1, -16, api.MaxNodes + 1, 32, 1 << 32, 1<<32 + 1, -1 << 32, math.MaxInt, math.MinInt, math.MinInt + 1} {
		for _, d := range append(notDigests(2), 1, 2) {
			if e := b.Sign(who, d); e != api.ErrForm {
				t.Errorf("Sign(%d, %d) is %d", who, d, e)
			}
		}
	}
	signs(t, b, nil)
	// What was refused isn't remembered for a digest that comes later.
	for i, s := range []string{"c", "d"} {
		digest(t, b, s, i+3)
	}
	signs(t, b, nil)
	holds(t, b, []string{"a", "b", "c", "d"})
}

// P5.2: a node that signs again and again is kept once.
func TestSignAgain(t *testing.T) {
	b := New()
	digest(t, b, "a", 1)
	for range 1000 {
		for _, who := range []int{3, 16, 1} {
			if e := b.Sign(who, 1); e != api.OK {
				t.Fatalf("Sign(%d, 1) is %d", who, e)
			}
		}
	}
	if k := len(b.entries[0].signers); k != 3 {
		t.Errorf("%d signers are kept", k)
	}
	signs(t, b, []signature{{3, 1}, {16, 1}, {1, 1}})
}

// P5.3: two byte strings have one digest only where they are the same.
func TestDifferent(t *testing.T) {
	b := New()
	from := map[int]string{}
	for i := range 40000 {
		// Lengths of 0 to 4 from few letters, so that many come again.
		x := make([]byte, i%5)
		for k, n := 0, i*i; k < len(x); k, n = k+1, n/7 {
			x[k] = byte(n % 7)
		}
		d, e := b.Digest(x)
		if s, ok := from[d]; e != api.OK || ok && s != string(x) {
			t.Fatalf("Digest(%x) is %d, %d, which is that of %x", x, d, e, s)
		}
		from[d] = string(x)
	}
	l := make([]string, len(from))
	for d, s := range from {
		l[d-1] = s
	}
	if len(l) < 500 {
		t.Errorf("there are but %d different ones", len(l))
	}
	holds(t, b, l)
}

// R1: what a book answers hangs on its own calls alone, whatever another one is asked.
func TestTwoBooks(t *testing.T) {
	a, b := New(), New()
	digest(t, a, "x", 1)
	digest(t, b, "y", 1)
	digest(t, b, "x", 2)
	digest(t, a, "z", 2)
	a.Sign(1, 1)
	b.Sign(2, 2)
	holds(t, a, []string{"x", "z"})
	holds(t, b, []string{"y", "x"})
	signs(t, a, []signature{{1, 1}})
	signs(t, b, []signature{{2, 2}})
}

// R1: a book that New didn't make is an empty one; none of its calls panics.
func TestZeroBook(t *testing.T) {
	var b Book
	holds(t, &b, nil)
	signs(t, &b, nil)
	if e := b.Sign(1, 1); e != api.ErrNone {
		t.Errorf("Sign(1, 1) is %d", e)
	}
	digest(t, &b, "a", 1)
	digest(t, &b, "", 2)
	if e := b.Sign(1, 2); e != api.OK {
		t.Errorf("Sign(1, 2) is %d", e)
	}
	holds(t, &b, []string{"a", ""})
	signs(t, &b, []signature{{1, 2}})
}

// R2: arguments are left as they are and not kept, and results share nothing with the book or with each other.
func TestNothingShared(t *testing.T) {
	b := New()
	x := []byte("abcd")[:2]
	b.Digest(x)
	b.Find(x)
	if string(x[:4]) != "abcd" {
		t.Errorf("the argument became %q", x[:4])
	}
	copy(x, "xy")
	holds(t, b, []string{"ab"})
	digest(t, b, string(x), 2)
	y, _ := b.Bytes(1)
	z, _ := b.Bytes(1)
	y = y[:cap(y)]
	for i := range y {
		y[i] = '!'
	}
	if string(z) != "ab" {
		t.Errorf("the other result became %q", z)
	}
	holds(t, b, []string{"ab", "xy"})
	if d, e := b.Find([]byte("!!")); d != 0 || e != api.ErrNone {
		t.Errorf("what was written into a result has the digest %d, %d", d, e)
	}
}
