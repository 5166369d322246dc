package batch

import (
	"encoding/binary"
	"encoding/hex"
	"math"
	"reflect"
	"slices"
	"strings"
	"testing"

	"drover/api"
)

// num is the encoding of a number, made by the library instead.
func num(n uint64) string {
	return string(binary.AppendUvarint(nil, n))
}

// list is the encoding of a list of strings, made the plain way.
func list(l []string) string {
	var s strings.Builder
	s.WriteString(num(uint64(len(l))))
	for _, x := range l {
		s.WriteString(num(uint64(len(x))) + x)
	}
	return s.String()
}

// parts lists the strings of a batch's encoding, whether it is valid or not.
func parts(b api.Batch) []string {
	l := []string{"batch", num(uint64(b.Author)), num(uint64(b.N))}
	for _, t := range b.Txs {
		l = append(l, num(uint64(t.Sender)), num(uint64(t.Seq)), t.Key, t.Val)
	}
	return l
}

func small() api.Batch {
	return api.Batch{Author: 1, N: 2, Txs: []api.Tx{{Sender: 3, Seq: 4, Key: "k", Val: "vv"}}}
}

// big is a batch of which nothing can be more or longer.
func big() api.Batch {
	t := api.Tx{Sender: 1 << 40, Seq: 1 << 40, Key: strings.Repeat("\xff", api.MaxKey), Val: strings.Repeat("\x80", api.MaxVal)}
	return api.Batch{Author: api.MaxNodes, N: 1 << 40, Txs: slices.Repeat([]api.Tx{t}, api.MaxTxs)}
}

// goodTxs lists valid transactions.
func goodTxs() []api.Tx {
	l := []api.Tx{{Sender: 3, Seq: 4, Key: "k", Val: "vv"}, {Sender: 300, Seq: 1 << 31, Key: "Größe", Val: "\x00\xff\x80"}, {Sender: 1 << 32, Seq: 7, Key: "batch", Val: "batch"}}
	for _, n := range []int{1, 127, 128, 16383, 16384, 1<<31 - 1, 1 << 32, 1<<40 - 1, 1 << 40} {
		l = append(l, api.Tx{Sender: n, Seq: 1, Key: "k"}, api.Tx{Sender: 1, Seq: n, Key: "k"}, api.Tx{Sender: n, Seq: n, Key: "k", Val: "k"})
	}
	for k := 1; k <= api.MaxKey; k++ {
		l = append(l, api.Tx{Sender: 1, Seq: 1, Key: strings.Repeat("\x00", k), Val: "v"})
	}
	for k := 0; k <= api.MaxVal; k++ {
		l = append(l, api.Tx{Sender: 1, Seq: 1, Key: "\xff", Val: strings.Repeat("\x80", k)})
	}
	return l
}

// badTxs lists transactions that are each wrong in one thing, and some in more.
func badTxs() []api.Tx {
	l := []api.Tx{
		{}, {Sender: 1}, {Seq: 1}, {Key: "k"}, {Sender: 1, Seq: 1}, {Sender: 1, Seq: 1, Val: "v"}, {Sender: 1, Key: "k"}, {Seq: 1, Key: "k", Val: "v"},
		{Sender: 1 << 41, Seq: -1, Key: "", Val: strings.Repeat("v", 33)},
	}
	for _, n := range []int{0, -1, -2, -1 << 32, math.MinInt, math.MinInt + 1, 1<<40 + 1, 1 << 41, 1<<62 + 1, math.MaxInt} {
		l = append(l, api.Tx{Sender: n, Seq: 1, Key: "k", Val: "v"}, api.Tx{Sender: 1, Seq: n, Key: "k", Val: "v"}, api.Tx{Sender: n, Seq: n, Key: "k"})
	}
	for _, k := range []int{17, 18, 32, 33, 272, 1 << 16, 1 << 21} {
		l = append(l, api.Tx{Sender: 1, Seq: 1, Key: strings.Repeat("k", k), Val: "v"})
	}
	for _, k := range []int{33, 34, 64, 288, 1 << 16, 1 << 21} {
		l = append(l, api.Tx{Sender: 1, Seq: 1, Key: "k", Val: strings.Repeat("v", k)})
	}
	// The limits are of bytes, not of runes.
	return append(l, api.Tx{Sender: 1, Seq: 1, Key: strings.Repeat("ö", 9)}, api.Tx{Sender: 1, Seq: 1, Key: "k", Val: strings.Repeat("ö", 17)})
}

// goodBatches lists valid batches.
func goodBatches() []api.Batch {
	l := []api.Batch{small(), big()}
	for author := 1; author <= api.MaxNodes; author++ {
		l = append(l, api.Batch{Author: author, N: 1, Txs: small().Txs})
	}
	for _, n := range []int{1, 127, 128, 300, 1<<31 - 1, 1 << 32, 1<<40 - 1, 1 << 40} {
		l = append(l, api.Batch{Author: 5, N: n, Txs: small().Txs})
	}
	txs := goodTxs()
	for k := 1; k <= api.MaxTxs; k++ {
		// The same one several times is as good as different ones.
		l = append(l, api.Batch{Author: 2, N: k, Txs: txs[:k]}, api.Batch{Author: 2, N: k, Txs: slices.Repeat(txs[:1], k)})
	}
	for _, t := range txs {
		l = append(l, api.Batch{Author: 3, N: 9, Txs: []api.Tx{t}}, api.Batch{Author: 3, N: 9, Txs: []api.Tx{txs[0], t, txs[1]}})
	}
	return l
}

// badBatches lists batches that are not valid.
func badBatches() []api.Batch {
	one := small().Txs
	l := []api.Batch{{}, {Author: 1}, {Author: 1, N: 1}, {N: 1, Txs: one}, {Author: 1, Txs: one}, {Txs: one}, {Author: 1, N: 1, Txs: []api.Tx{}}}
	for _, n := range []int{0, -1, 17, 18, 32, 1 << 32, 1<<32 + 1, -1 << 32, math.MinInt, math.MaxInt} {
		l = append(l, api.Batch{Author: n, N: 1, Txs: one})
	}
	for _, n := range []int{0, -1, -1 << 40, math.MinInt, math.MinInt + 1, 1<<40 + 1, 1 << 41, math.MaxInt} {
		l = append(l, api.Batch{Author: 1, N: n, Txs: one})
	}
	for _, k := range []int{9, 10, 16, 256, 257, 1 << 16} {
		l = append(l, api.Batch{Author: 1, N: 1, Txs: slices.Repeat(one, k)})
	}
	for _, t := range badTxs() {
		all := slices.Repeat([]api.Tx{t}, api.MaxTxs)
		l = append(l, api.Batch{Author: 1, N: 1, Txs: []api.Tx{t}}, api.Batch{Author: 1, N: 1, Txs: all})
		for k := range api.MaxTxs {
			txs := slices.Repeat(one, api.MaxTxs)
			txs[k] = t
			l = append(l, api.Batch{Author: 1, N: 1, Txs: txs})
		}
	}
	return l
}

// refused reports whether Parse answers with ErrForm and nothing beside.
func refused(s string) bool {
	b, e := Parse([]byte(s))
	return e == api.ErrForm && reflect.DeepEqual(b, api.Batch{})
}

// P4.1: what a transaction may be, and what not.
func TestTx(t *testing.T) {
	for _, x := range goodTxs() {
		if e := Tx(x); e != api.OK {
			t.Errorf("Tx(%#v) is %d", x, e)
		}
	}
	for _, x := range badTxs() {
		if e := Tx(x); e != api.ErrForm {
			t.Errorf("Tx of %d, %d, %d bytes, %d bytes is %d", x.Sender, x.Seq, len(x.Key), len(x.Val), e)
		}
	}
}

// P4.1: what a batch may be, and what not; of the latter there are no bytes.
func TestCheck(t *testing.T) {
	for _, b := range goodBatches() {
		if e := Check(b); e != api.OK {
			t.Errorf("Check(%#v) is %d", b, e)
		}
	}
	for i, b := range badBatches() {
		if e := Check(b); e != api.ErrForm {
			t.Errorf("bad batch %d: Check is %d", i, e)
		}
		if x, e := Bytes(b); len(x) > 0 || e != api.ErrForm {
			t.Errorf("bad batch %d: Bytes is %.40x, %d", i, x, e)
		}
	}
}

// P4.1: the bytes of some batches, told one by one.
func TestBytes(t *testing.T) {
	big1 := big()
	big1.Txs = big1.Txs[:1]
	for _, c := range []struct {
		b    api.Batch
		want string
	}{
		{small(), "07056261746368010101020103010401" + "6b027676"},
		{api.Batch{Author: 16, N: 300, Txs: []api.Tx{{Sender: 128, Seq: 127, Key: "\x00"}}}, "0705626174636801" + "1002ac02" + "028001" + "017f" + "0100" + "00"},
		{api.Batch{Author: 2, N: 1, Txs: []api.Tx{{Sender: 1, Seq: 2, Key: "a", Val: "b"}, {Sender: 1, Seq: 1, Key: "a"}}},
			"0b056261746368" + "01020101" + "01010102" + "01610162" + "01010101" + "016100"},
		{big1, "07056261746368" + "0110" + "06808080808020" + "06808080808020" + "06808080808020" + "10" + strings.Repeat("ff", 16) + "20" + strings.Repeat("80", 32)},
	} {
		if x, e := Bytes(c.b); hex.EncodeToString(x) != c.want || e != api.OK {
			t.Errorf("Bytes(%#v) is %x, %d", c.b, x, e)
		}
		x, _ := hex.DecodeString(c.want)
		if b, e := Parse(x); !reflect.DeepEqual(b, c.b) || e != api.OK {
			t.Errorf("Parse(%s) is %#v, %d", c.want, b, e)
		}
	}
}

// P4.1 and P4.2: there and back, by the definition of the encoding.
func TestBytesParse(t *testing.T) {
	from := map[string]int{}
	for i, b := range goodBatches() {
		want := list(parts(b))
		if x, e := Bytes(b); string(x) != want || e != api.OK {
			t.Errorf("Bytes(%#v) is %x, %d", b, x, e)
		}
		if p, e := Parse([]byte(want)); !reflect.DeepEqual(p, b) || e != api.OK {
			t.Errorf("Parse(%x) is %#v, %d", want, p, e)
		}
		if k, ok := from[want]; ok && !reflect.DeepEqual(goodBatches()[k], b) {
			t.Errorf("two batches have the bytes %x", want)
		}
		from[want] = i
	}
}

// P4.1: Parse refuses an encoding that is cut short or goes on.
func TestParseLength(t *testing.T) {
	for _, b := range goodBatches() {
		s := list(parts(b))
		for k := range s {
			if !refused(s[:k]) || !refused(s[k+1:]) {
				t.Errorf("of %x, %d bytes are taken", s, k)
			}
		}
		for _, behind := range []string{"\x00", "\x01", "\x01k", "\x80", "\xff", s} {
			if !refused(s + behind) {
				t.Errorf("Parse takes %x behind %x", behind, s)
			}
		}
		if !refused("\x00"+s) || !refused("\x01"+s) || !refused(list([]string{s})) {
			t.Errorf("Parse takes bytes ahead of %x", s)
		}
	}
	if !refused("") {
		t.Error("Parse takes nothing")
	}
	if b, e := Parse(nil); e != api.ErrForm || !reflect.DeepEqual(b, api.Batch{}) {
		t.Errorf("Parse(nil) is %#v, %d", b, e)
	}
}

// P4.1: Parse refuses the encoding that each batch would have that is not valid.
func TestParseNotValid(t *testing.T) {
	for i, b := range badBatches() {
		if !refused(list(parts(b))) {
			t.Errorf("Parse takes bad batch %d", i)
		}
	}
}

// notNums lists strings that are no encoding of a number.
func notNums() []string {
	return []string{
		"", "\x80", "\xff\xff", "\x80\x00", "\x81\x00", "\x81\x80\x00", // none, without an end, longer than it must be
		"\x01\x00", "\x01\x01", "\x01a", "\xac\x02\x00", "1", // with bytes behind; and "1" is 49, but not here
		"\xff\xff\xff\xff\xff\xff\xff\xff\xff\x01", "\x81\x80\x80\x80\x80\x80\x80\x80\x80\x02", // 2^64-1, 2^64+1
		"\x80\x80\x80\x80\x80\x80\x80\x80\x80\x01", "\xff\xff\xff\xff\xff\xff\xff\xff\x7f", "\x81\x80\x80\x80\x80\x20", // 2^63, 2^63-1, 2^40+1
		"\x00", num(math.MaxUint64), strings.Repeat("\x80", 20) + "\x01", strings.Repeat("\x01", 300),
	}
}

// P4.1: Parse refuses each number that is not written as Num writes it, or not in bounds.
func TestParseNumbers(t *testing.T) {
	two := small()
	two.Txs = append(two.Txs, api.Tx{Sender: 1, Seq: 5, Key: "x"})
	for _, at := range []int{1, 2, 3, 4, 7, 8} {
		for _, s := range notNums() {
			l := parts(two)
			l[at] = s
			// A Sender of 49 is as good as another.
			if at > 1 && s == "1" {
				continue
			}
			if !refused(list(l)) {
				t.Errorf("Parse takes %x as string %d", s, at)
			}
		}
	}
}

// P4.1: Parse refuses another word in the tag's place, and strings that are too many, too few or changed about.
func TestParseParts(t *testing.T) {
	l := parts(small())
	for _, s := range []string{"", "b", "batc", "batch\x00", "batches", "Batch", "BATCH", "header", "\x00batch", "batcx", strings.Repeat("batch", 100)} {
		x := slices.Clone(l)
		x[0] = s
		if !refused(list(x)) {
			t.Errorf("Parse takes the tag %q", s)
		}
	}
	for _, b := range []api.Batch{small(), big(), {Author: 4, N: 4, Txs: goodTxs()[:3]}} {
		l := parts(b)
		for k := range l {
			// Ahead of a second transaction or a later one, what there is is a batch too.
			if isBatch := k > 3 && k%4 == 3; !isBatch && !refused(list(l[:k])) {
				t.Errorf("of %q, Parse takes the first %d", l, k)
			}
			if !refused(list(slices.Delete(slices.Clone(l), k, k+1))) || !refused(list(slices.Insert(slices.Clone(l), k, "\x01"))) {
				t.Errorf("of %q, Parse takes one less or one more at %d", l, k)
			}
		}
		if !refused(list(append(slices.Clone(l), "\x01"))) || !refused(list(append(slices.Clone(l), l...))) {
			t.Errorf("of %q, Parse takes more than all", l)
		}
	}
	for _, x := range [][]string{nil, {""}, {"batch"}, {"batch", "\x01"}, {"batch", "\x01", "\x01"}, {"\x01", "\x01", "\x01", "\x01", "k", "v"}, slices.Repeat([]string{"batch"}, 7)} {
		if !refused(list(x)) {
			t.Errorf("Parse takes %q", x)
		}
	}
	// The same strings, with lengths and a count that are longer than they must be.
	s := list(l)
	for _, x := range []string{"\x87\x00" + s[1:], s[:1] + "\x85\x00" + s[2:], s[:7] + "\x81\x00" + s[8:], s[:len(s)-3] + "\x82\x00" + s[len(s)-2:]} {
		if !refused(x) {
			t.Errorf("Parse takes %x", x)
		}
	}
}

// P4.1: Parse ends, with a refusal, for long bytes too.
func TestParseLong(t *testing.T) {
	l := parts(api.Batch{Author: 1, N: 1, Txs: slices.Repeat(small().Txs, 1<<16)})
	for _, s := range []string{list(l), strings.Repeat("\xff", api.MaxFile), strings.Repeat("\x00", 3*api.MaxFile), list(make([]string, api.MaxFile-3)), list([]string{strings.Repeat("batch", 1<<18)})} {
		if !refused(s) {
			t.Errorf("Parse takes %d bytes", len(s))
		}
	}
}

// P4.1 and P4.2: of bytes that are changed at one place Parse takes none but such as Bytes makes.
func TestParseChanged(t *testing.T) {
	for _, b := range []api.Batch{small(), big(), {Author: 7, N: 300, Txs: goodTxs()[:4]}} {
		s := list(parts(b))
		for k := range s {
			for c := range 256 {
				x := []byte(s)
				x[k] = byte(c)
				p, e := Parse(x)
				back, f := Bytes(p)
				switch {
				case e == api.OK && (f != api.OK || string(back) != string(x)):
					t.Errorf("Parse(%x) is %#v, of which the bytes are %x", x, p, back)
				case e != api.OK && !refused(string(x)):
					t.Errorf("Parse(%x) is %#v, %d", x, p, e)
				}
			}
		}
	}
}

// R2: arguments are left as they are, and results share nothing with them or with each other.
func TestNothingShared(t *testing.T) {
	b := big()
	Check(b)
	x, _ := Bytes(b)
	if !reflect.DeepEqual(b, big()) {
		t.Errorf("the batch became %#v", b)
	}
	y, _ := Bytes(b)
	p, _ := Parse(x)
	q, _ := Parse(x)
	if !slices.Equal(x, y) {
		t.Errorf("the bytes became %x", x)
	}
	clear(x[:cap(x)])
	clear(p.Txs[:cap(p.Txs)])
	b.Txs[0].Key = "other"
	if want := list(parts(big())); string(y) != want {
		t.Errorf("the other bytes became %x", y)
	}
	if !reflect.DeepEqual(q, big()) {
		t.Errorf("the other batch became %#v", q)
	}
	if r, e := Parse(y); !reflect.DeepEqual(r, big()) || e != api.OK {
		t.Errorf("a batch that is read again is %#v, %d", r, e)
	}
}
