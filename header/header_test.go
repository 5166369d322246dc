package header

import (
	"encoding/binary"
	"encoding/hex"
	"math"
	"reflect"
	"slices"
	"strings"
	"testing"

	"drover/api"
)

// quorums are the numbers of nodes that there may be, each with how many of them are enough.
var quorums = [][2]int{{1, 1}, {4, 3}, {7, 5}, {10, 7}, {13, 9}, {16, 11}}

// notNodes are numbers of nodes that there may not be.
var notNodes = []int{0, 2, 3, 5, 6, 8, 9, 11, 12, 14, 15, 17, 18, 19, 22, 1<<32 + 1, 1<<32 + 4, -1, -2, -3, -5, math.MinInt, math.MaxInt}

// notDigests are numbers that are no digests.
var notDigests = []int{0, -1, -1 << 32, math.MinInt, 1<<16 + 1, 1 << 17, 1<<32 + 1, 1<<62 + 1, math.MaxInt}

// count lists n numbers from first on.
func count(first, n int) []int {
	l := make([]int, n)
	for i := range l {
		l[i] = first + i
	}
	return l
}

// notRising lists lists of three numbers or more that do not rise strictly.
func notRising() [][]int {
	return [][]int{{1, 1, 2}, {1, 2, 2}, {2, 2, 2}, {2, 1, 3}, {1, 3, 2}, {3, 2, 1}, {2, 3, 1}, {3, 1, 2}, {1, 2, 1}, {1, 2, 3, 3}, {1, 2, 4, 3}}
}

// notLists lists lists of three numbers or more that are not rising digests.
func notLists() [][]int {
	l := notRising()
	for _, n := range notDigests {
		// Each in the place where it would be rising too, and in another one.
		l = append(l, []int{n, 2, 3}, []int{2, n, 3}, []int{2, 3, n})
	}
	return l
}

// num is the encoding of a number, made by the library instead.
func num(n int) string {
	return string(binary.AppendUvarint(nil, uint64(n)))
}

// nums is the encoding of a list of numbers, made the plain way.
func nums(l []int) string {
	var s strings.Builder
	s.WriteString(num(len(l)))
	for _, n := range l {
		s.WriteString(num(n))
	}
	return s.String()
}

// list is the encoding of a list of strings, made the plain way.
func list(l []string) string {
	var s strings.Builder
	s.WriteString(num(len(l)))
	for _, x := range l {
		s.WriteString(num(len(x)) + x)
	}
	return s.String()
}

// parts lists the strings of a header's encoding, whether it is valid or not.
func parts(h api.Header) []string {
	return []string{"header", num(h.Author), num(h.Round), nums(h.Batches), nums(h.Parents)}
}

// same reports whether two headers are, a nil list being as good as an empty one.
func same(a, b api.Header) bool {
	return a.Author == b.Author && a.Round == b.Round && slices.Equal(a.Batches, b.Batches) && slices.Equal(a.Parents, b.Parents)
}

// refused reports whether Parse answers with ErrForm and nothing beside.
func refused(s string) bool {
	h, e := Parse([]byte(s))
	return e == api.ErrForm && reflect.DeepEqual(h, api.Header{})
}

func small() api.Header {
	return api.Header{Author: 2, Round: 3, Batches: []int{5}, Parents: []int{1, 300}}
}

// big is a header of which nothing can be more.
func big() api.Header {
	return api.Header{Author: 16, Round: 1 << 40, Batches: count(1<<16-7, 8), Parents: count(1<<16-15, 16)}
}

// four is a header among four nodes.
func four() api.Header {
	return api.Header{Author: 3, Round: 2, Batches: []int{4, 128}, Parents: []int{1, 300, 1 << 16}}
}

// fourCert is a certificate among four nodes.
func fourCert() api.Cert {
	return api.Cert{Header: four(), Digest: 9, Signers: []int{1, 3, 4}}
}

// withBytes lists headers that have bytes, though not all of them are valid among any nodes.
func withBytes() []api.Header {
	l := []api.Header{small(), big(), four(), {Author: 1, Round: 1}}
	for author := 1; author <= 16; author++ {
		l = append(l, api.Header{Author: author, Round: 1}, api.Header{Author: author, Round: 1, Batches: []int{author}})
	}
	for _, round := range []int{1, 2, 3, 127, 128, 1 << 31, 1 << 32, 1<<32 + 1, 1<<40 - 1, 1 << 40} {
		l = append(l, api.Header{Author: 1, Round: round}, api.Header{Author: 1, Round: round, Batches: []int{1}})
	}
	for k := 0; k <= 8; k++ {
		l = append(l, api.Header{Author: 7, Round: 1, Batches: count(124, k)}, api.Header{Author: 7, Round: 2, Batches: count(1<<16-k+1, k)})
	}
	for k := 0; k <= 16; k++ {
		l = append(l, api.Header{Author: 7, Round: 2, Parents: count(120, k)}, api.Header{Author: 1, Round: 9, Batches: []int{3}, Parents: count(1<<16-k+1, k)})
	}
	// What is a batch's digest may be a parent's too, as far as the form goes.
	return append(l, api.Header{Author: 1, Round: 2, Batches: []int{1, 2}, Parents: []int{1, 2}})
}

// withoutBytes lists headers that are each wrong in one thing, and some in more.
func withoutBytes() []api.Header {
	l := []api.Header{{}, {Author: 1}, {Round: 1}, {Round: 2, Parents: []int{1}}, {Author: -1, Round: -1, Batches: []int{-1}, Parents: []int{-1}}}
	for _, n := range []int{0, -1, 17, 18, 32, 1 << 32, 1<<32 + 1, math.MinInt, math.MaxInt} {
		l = append(l, api.Header{Author: n, Round: 1}, api.Header{Author: n, Round: 2, Batches: []int{1}, Parents: count(1, 16)})
	}
	for _, n := range []int{0, -1, -1 << 40, math.MinInt, math.MinInt + 1, 1<<40 + 1, 1 << 41, math.MaxInt} {
		l = append(l, api.Header{Author: 1, Round: n}, api.Header{Author: 1, Round: n, Parents: count(1, 16)})
	}
	for _, k := range []int{9, 10, 16, 256, 264, 1 << 16} {
		l = append(l, api.Header{Author: 1, Round: 1, Batches: count(1, k)}, api.Header{Author: 1, Round: 2, Batches: count(1, k), Parents: count(1, 16)})
	}
	for _, k := range []int{17, 18, 32, 256, 272, 1 << 16} {
		l = append(l, api.Header{Author: 1, Round: 2, Parents: count(1, k)})
	}
	// No parents in the first round, however many.
	for k := 1; k <= 17; k++ {
		l = append(l, api.Header{Author: 1, Round: 1, Parents: count(1, k)}, api.Header{Author: 1, Round: 1, Batches: []int{1}, Parents: count(300, k)})
	}
	for _, x := range notLists() {
		l = append(l, api.Header{Author: 1, Round: 1, Batches: x}, api.Header{Author: 1, Round: 2, Batches: x}, api.Header{Author: 1, Round: 2, Parents: x})
	}
	for _, n := range notDigests {
		l = append(l, api.Header{Author: 1, Round: 1, Batches: []int{n}}, api.Header{Author: 1, Round: 2, Parents: []int{n}})
	}
	return l
}

// P6.1: of each number of nodes, who may be an author, and how many parents a header may have.
func TestCheckNodes(t *testing.T) {
	for _, q := range quorums {
		n, quorum := q[0], q[1]
		for author := -1; author <= 18; author++ {
			isAuthor := author >= 1 && author <= n
			for k := 0; k <= 18; k++ {
				for round := 1; round <= 5; round++ {
					h := api.Header{Author: author, Round: round, Batches: []int{8, 9}, Parents: count(1<<16-k+1, k)}
					want := api.ErrForm
					if isAuthor && (round == 1 && k == 0 || round > 1 && k >= quorum && k <= n) {
						want = api.OK
					}
					if e := Check(h, n); e != want {
						t.Errorf("Check(%v, %d) is %d", h, n, e)
					}
				}
			}
		}
	}
}

// P6.1: rounds, batches and digests at their edges.
func TestCheckEdges(t *testing.T) {
	for _, q := range quorums {
		n, quorum := q[0], q[1]
		for _, round := range []int{2, 3, 1 << 32, 1<<40 - 1, 1 << 40} {
			for k := 0; k <= 8; k++ {
				for _, h := range []api.Header{
					{Author: 1, Round: 1, Batches: count(1, k)},
					{Author: n, Round: round, Batches: count(1, k), Parents: count(1, quorum)},
					{Author: n, Round: round, Batches: count(1<<16-k+1, k), Parents: count(1<<16-n+1, n)},
				} {
					if e := Check(h, n); e != api.OK {
						t.Errorf("Check(%v, %d) is %d", h, n, e)
					}
				}
			}
		}
	}
}

// P6.1: what a header may not be, whatever the number of nodes; of these there are no bytes either.
func TestCheckRefuses(t *testing.T) {
	for i, h := range withoutBytes() {
		for _, q := range quorums {
			if e := Check(h, q[0]); e != api.ErrForm {
				t.Errorf("bad header %d: Check among %d is %d", i, q[0], e)
			}
		}
		if x, e := Bytes(h); len(x) > 0 || e != api.ErrForm {
			t.Errorf("bad header %d: Bytes is %.40x, %d", i, x, e)
		}
	}
}

// P6.1: each thing of a header that is good among four nodes, changed to a wrong one; a certificate of it is not valid either.
func TestCheckChanged(t *testing.T) {
	if e := Check(four(), 4); e != api.OK {
		t.Fatalf("Check of the good one is %d", e)
	}
	var l []api.Header
	change := func(f func(h *api.Header)) {
		h := four()
		f(&h)
		l = append(l, h)
	}
	for _, n := range []int{0, -1, 5, 16, 1<<32 + 1, math.MinInt, math.MaxInt} {
		change(func(h *api.Header) { h.Author = n })
	}
	for _, n := range []int{0, 1, -1, -2, 1<<40 + 1, math.MinInt, math.MaxInt} {
		change(func(h *api.Header) { h.Round = n })
	}
	for _, x := range notLists() {
		change(func(h *api.Header) { h.Batches = x })
		change(func(h *api.Header) { h.Parents = x })
	}
	for _, n := range notDigests {
		change(func(h *api.Header) { h.Batches = []int{n} })
	}
	change(func(h *api.Header) { h.Batches = count(1, 9) })
	for _, k := range []int{0, 1, 2, 5, 6, 16} {
		change(func(h *api.Header) { h.Parents = count(1, k) })
	}
	for _, h := range l {
		if e := Check(h, 4); e != api.ErrForm {
			t.Errorf("Check(%v, 4) is %d", h, e)
		}
		c := fourCert()
		c.Header = h
		if e := Cert(c, 4); e != api.ErrForm {
			t.Errorf("Cert(%v, 4) is %d", c, e)
		}
	}
}

// P6.1: there are no headers and no certificates among a number of nodes that may not be.
func TestNotNodes(t *testing.T) {
	for _, n := range notNodes {
		for _, h := range []api.Header{four(), big(), {Author: 1, Round: 1}, {Author: 1, Round: 2, Parents: []int{1}}, {Author: 1, Round: 2}, {}} {
			if e := Check(h, n); e != api.ErrForm {
				t.Errorf("Check(%v, %d) is %d", h, n, e)
			}
			for _, signers := range [][]int{{1}, {1, 2, 3}, count(1, 16), nil} {
				if e := Cert(api.Cert{Header: h, Digest: 1, Signers: signers}, n); e != api.ErrForm {
					t.Errorf("Cert of %v by %v among %d is %d", h, signers, n, e)
				}
			}
		}
	}
}

// P6.1: of each number of nodes, how many signers are enough, from the first nodes on and up to the last.
func TestCertSigners(t *testing.T) {
	for _, q := range quorums {
		n, quorum := q[0], q[1]
		for k := 0; k <= 18; k++ {
			for _, first := range []int{1, n - k + 1} {
				want := api.ErrForm
				if k >= quorum && k <= n {
					want = api.OK
				}
				signers := count(first, k)
				for _, h := range []api.Header{{Author: n, Round: 1}, {Author: 1, Round: 2, Parents: count(7, quorum)}} {
					if e := Cert(api.Cert{Header: h, Digest: 5, Signers: signers}, n); e != want {
						t.Errorf("Cert of %v by %v among %d is %d", h, signers, n, e)
					}
				}
			}
		}
	}
}

// P6.1: a certificate among four nodes: each three of them, and lists that are wrong.
func TestCertFour(t *testing.T) {
	good := [][]int{{1, 2, 3}, {1, 2, 4}, {1, 3, 4}, {2, 3, 4}, {1, 2, 3, 4}}
	// Numbers that are none of the nodes' are wrong even beside enough that are.
	bad := [][]int{nil, {}, {1}, {3, 4}, {0, 1, 2}, {0, 1, 2, 3}, {2, 3, 5}, {1, 2, 3, 5}, {1, 2, 3, 4, 5}, {-1, 1, 2, 3}, {1, 2, 3, 1 << 32}, {1, 2, 1<<32 + 3}, {math.MinInt, 1, 2, 3}, {1, 2, 3, math.MaxInt}, {1, 2, 3, 4, 4}, {4, 3, 2, 1}, {1, 1, 2, 3}, {1, 2, 3, 3}, {1, 3, 2, 4}}
	for _, signers := range append(bad, notRising()...) {
		c := fourCert()
		c.Signers = signers
		if e := Cert(c, 4); e != api.ErrForm {
			t.Errorf("Cert by %v is %d", signers, e)
		}
	}
	for _, signers := range good {
		c := fourCert()
		c.Signers = signers
		if e := Cert(c, 4); e != api.OK {
			t.Errorf("Cert by %v is %d", signers, e)
		}
	}
	if e := Cert(api.Cert{}, 4); e != api.ErrForm {
		t.Errorf("Cert of nothing is %d", e)
	}
}

// P6.1: a certificate's digest is one; which one doesn't matter to its form.
func TestCertDigest(t *testing.T) {
	for _, n := range []int{1, 2, 300, 1<<16 - 1, 1 << 16} {
		c := fourCert()
		c.Digest = n
		if e := Cert(c, 4); e != api.OK {
			t.Errorf("Cert with digest %d is %d", n, e)
		}
	}
	for _, n := range notDigests {
		c := fourCert()
		c.Digest = n
		if e := Cert(c, 4); e != api.ErrForm {
			t.Errorf("Cert with digest %d is %d", n, e)
		}
	}
}

// P6.1: the bytes of some headers, told one by one.
func TestBytes(t *testing.T) {
	for _, c := range []struct {
		h    api.Header
		want string
	}{
		{small(), "0506686561646572" + "0102" + "0103" + "020105" + "040201ac02"},
		{api.Header{Author: 1, Round: 1}, "0506686561646572" + "0101" + "0101" + "0100" + "0100"},
		{api.Header{Author: 1, Round: 2}, "0506686561646572" + "0101" + "0102" + "0100" + "0100"},
		{api.Header{Author: 16, Round: 1 << 40, Batches: []int{1 << 16}, Parents: []int{127, 128}}, "0506686561646572" + "0110" + "06808080808020" + "0401808004" + "04027f8001"},
	} {
		if x, e := Bytes(c.h); hex.EncodeToString(x) != c.want || e != api.OK {
			t.Errorf("Bytes(%v) is %x, %d", c.h, x, e)
		}
		x, _ := hex.DecodeString(c.want)
		if h, e := Parse(x); !same(h, c.h) || e != api.OK {
			t.Errorf("Parse(%s) is %v, %d", c.want, h, e)
		}
	}
}

// P6.1 and P6.2: there and back, by the definition of the encoding.
func TestBytesParse(t *testing.T) {
	from := map[string]api.Header{}
	for _, h := range withBytes() {
		want := list(parts(h))
		if x, e := Bytes(h); string(x) != want || e != api.OK {
			t.Errorf("Bytes(%v) is %x, %d", h, x, e)
		}
		if p, e := Parse([]byte(want)); !same(p, h) || e != api.OK {
			t.Errorf("Parse(%x) is %v, %d", want, p, e)
		}
		if other, ok := from[want]; ok && !same(other, h) {
			t.Errorf("%v and %v have the same bytes", other, h)
		}
		from[want] = h
	}
}

// P6.1: Parse refuses the encoding that each header would have that has none.
func TestParseNotValid(t *testing.T) {
	for i, h := range withoutBytes() {
		if !refused(list(parts(h))) {
			t.Errorf("Parse takes bad header %d", i)
		}
	}
}

// P6.1: Parse refuses an encoding that is cut short or goes on.
func TestParseLength(t *testing.T) {
	for _, h := range withBytes() {
		s := list(parts(h))
		for k := range s {
			if !refused(s[:k]) || !refused(s[k+1:]) {
				t.Errorf("of %x, %d bytes are taken", s, k)
			}
		}
		for _, behind := range []string{"\x00", "\x01", "\x01k", "\x80", "\xff", s} {
			if !refused(s + behind) {
				t.Errorf("Parse takes %x behind %x", behind, s)
			}
		}
		if !refused("\x00"+s) || !refused("\x01"+s) || !refused(list([]string{s})) {
			t.Errorf("Parse takes bytes ahead of %x", s)
		}
	}
	if h, e := Parse(nil); e != api.ErrForm || !reflect.DeepEqual(h, api.Header{}) {
		t.Errorf("Parse(nil) is %v, %d", h, e)
	}
}

// P6.1: Parse refuses a number or a list that is not written as wire writes it, or not in bounds.
func TestParseStrings(t *testing.T) {
	notNums := []string{
		"", "\x00", "\x80", "\xff\xff", "\x80\x00", "\x81\x00", "\x81\x80\x00", // none, without an end, longer than it must be
		"\x01\x00", "\x01\x01", "\x01a", "\xac\x02\x00", // with bytes behind
		"\xff\xff\xff\xff\xff\xff\xff\xff\xff\x01", "\x81\x80\x80\x80\x80\x80\x80\x80\x80\x02", // 2^64-1, 2^64+1
		"\x80\x80\x80\x80\x80\x80\x80\x80\x80\x01", "\xff\xff\xff\xff\xff\xff\xff\xff\x7f", "\x81\x80\x80\x80\x80\x20", // 2^63, 2^63-1, 2^40+1
		strings.Repeat("\x80", 20) + "\x01", strings.Repeat("\x01", 300),
	}
	notNumLists := []string{
		"", "\x80", "\x01", "\x02\x01", "\x03\x01\x02", // fewer than are told
		"\x00\x00", "\x00\x01", "\x01\x01\x02", "\x01\x01\x00", // more than are told
		"\x80\x00", "\x81\x00\x01", "\x01\x81\x00", "\x01\x80", "\x01\xff\xff", // counts and numbers that are not written so
		"\x01\x00", "\x02\x02\x02", "\x02\x03\x02", "\x01\x81\x80\x04", // 0, not rising, 2^16+1
		"\x01\xff\xff\xff\xff\xff\xff\xff\xff\x7f", "\x01\x80\x80\x80\x80\x80\x80\x80\x80\x80\x01",
		"\xff\xff\xff\xff\xff\xff\xff\xff\x7f", "\xff\xff\xff\xff\xff\xff\xff\xff\x7f\x01", // counts of 2^63-1
	}
	for _, h := range []api.Header{small(), big(), {Author: 1, Round: 2}} {
		for at := 1; at <= 4; at++ {
			wrong := notNums
			if at >= 3 {
				wrong = notNumLists
			}
			for _, s := range wrong {
				l := parts(h)
				l[at] = s
				if !refused(list(l)) {
					t.Errorf("Parse takes %x as string %d of %v", s, at, h)
				}
			}
		}
	}
}

// P6.1: Parse refuses another word in the tag's place, and strings that are too many, too few or changed about.
func TestParseParts(t *testing.T) {
	l := parts(small())
	for _, s := range []string{"", "h", "heade", "header\x00", "headers", "Header", "HEADER", "batch", "\x00header", "headex", strings.Repeat("header", 100)} {
		x := slices.Clone(l)
		x[0] = s
		if !refused(list(x)) {
			t.Errorf("Parse takes the tag %q", s)
		}
	}
	for _, h := range withBytes() {
		l := parts(h)
		for k := range l {
			if !refused(list(l[:k])) || !refused(list(slices.Delete(slices.Clone(l), k, k+1))) {
				t.Errorf("of %q, Parse takes less at %d", l, k)
			}
			for _, s := range []string{"", "\x00", "\x01", l[k]} {
				if !refused(list(slices.Insert(slices.Clone(l), k, s))) {
					t.Errorf("of %q, Parse takes %q more at %d", l, s, k)
				}
			}
		}
		for _, s := range []string{"", "\x00", "\x01"} {
			if !refused(list(append(slices.Clone(l), s))) {
				t.Errorf("Parse takes %q behind %q", s, l)
			}
		}
		if !refused(list(append(slices.Clone(l), l...))) {
			t.Errorf("Parse takes %q twice", l)
		}
	}
	for _, x := range [][]string{nil, {""}, {"header"}, slices.Repeat([]string{"header"}, 5), slices.Repeat([]string{""}, 5)} {
		if !refused(list(x)) {
			t.Errorf("Parse takes %q", x)
		}
	}
	// The same strings, with lengths and a count that are longer than they must be.
	s := list(l)
	for _, x := range []string{"\x85\x00" + s[1:], s[:1] + "\x86\x00" + s[2:], s[:8] + "\x81\x00" + s[9:], s[:12] + "\x82\x00" + s[13:]} {
		if !refused(x) {
			t.Errorf("Parse takes %x", x)
		}
	}
}

// P6.1: Parse ends, with a refusal, for long bytes too.
func TestParseLong(t *testing.T) {
	long := parts(api.Header{Author: 1, Round: 2, Batches: count(1, 1<<16), Parents: count(1, 1<<16)})
	ones := nums(slices.Repeat([]int{1}, 1<<19))
	for _, s := range []string{
		list(long), list([]string{"header", "\x01", "\x02", ones, "\x00"}), list([]string{"header", "\x01", "\x02", "\x00", ones}),
		strings.Repeat("\xff", api.MaxFile), strings.Repeat("\x00", 3*api.MaxFile), list(make([]string, api.MaxFile-3)), list([]string{strings.Repeat("header", 1<<17)}),
	} {
		if !refused(s) {
			t.Errorf("Parse takes %d bytes", len(s))
		}
	}
}

// P6.1 and P6.2: of bytes that are changed at one place Parse takes none but such as Bytes makes.
func TestParseChanged(t *testing.T) {
	for _, h := range []api.Header{small(), big(), four(), {Author: 1, Round: 1}, {Author: 4, Round: 2, Parents: count(100, 5)}} {
		s := list(parts(h))
		for k := range s {
			for c := range 256 {
				x := []byte(s)
				x[k] = byte(c)
				p, e := Parse(x)
				back, f := Bytes(p)
				switch {
				case e == api.OK && (f != api.OK || string(back) != string(x)):
					t.Errorf("Parse(%x) is %v, of which the bytes are %x", x, p, back)
				case e != api.OK && !refused(string(x)):
					t.Errorf("Parse(%x) is %v, %d", x, p, e)
				}
			}
		}
	}
}

// R2: arguments are left as they are, and results share nothing with them or with each other.
func TestNothingShared(t *testing.T) {
	h := big()
	c := api.Cert{Header: h, Digest: 1, Signers: count(1, 11)}
	Check(h, 16)
	Cert(c, 16)
	x, _ := Bytes(h)
	if !reflect.DeepEqual(h, big()) || !reflect.DeepEqual(c, api.Cert{Header: big(), Digest: 1, Signers: count(1, 11)}) {
		t.Errorf("the header became %v, the certificate %v", h, c)
	}
	y, _ := Bytes(h)
	p, _ := Parse(x)
	q, _ := Parse(x)
	if !slices.Equal(x, y) {
		t.Errorf("the bytes became %x", x)
	}
	clear(x[:cap(x)])
	clear(p.Batches[:cap(p.Batches)])
	if !slices.Equal(p.Parents, big().Parents) {
		t.Errorf("the parents became %v", p.Parents)
	}
	clear(p.Parents[:cap(p.Parents)])
	clear(h.Batches)
	clear(h.Parents)
	if want := list(parts(big())); string(y) != want {
		t.Errorf("the other bytes became %x", y)
	}
	if !same(q, big()) {
		t.Errorf("the other header became %v", q)
	}
	if r, e := Parse(y); !same(r, big()) || e != api.OK {
		t.Errorf("a header that is read again is %v, %d", r, e)
	}
}
