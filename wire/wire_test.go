package wire

import (
	"bytes"
	"encoding/binary"
	"math"
	"math/bits"
	"slices"
	"strings"
	"testing"

	"drover/api"
)

// edgeNums lists numbers around each edge at which an encoding grows by a byte.
func edgeNums() []int {
	l := []int{0, 1, 2, 5, 64, 300, 1<<31 - 1, 1 << 31, 1<<32 - 1, 1 << 32, 1 << 40, math.MaxInt - 1, math.MaxInt}
	for k := 7; k < 63; k += 7 {
		l = append(l, 1<<k-2, 1<<k-1, 1<<k, 1<<k+1)
	}
	return l
}

// numBytes is the encoding of n, made by the library instead.
func numBytes(n int) []byte {
	return binary.AppendUvarint(nil, uint64(n))
}

// notNums lists bytes that begin with no encoding of a number.
func notNums() []string {
	return []string{
		"", "\x80", "\xff", "\x80\x80", "\xff\xff\xff\xff\xff\xff\xff\xff\xff", // without an end
		"\x80\x00", "\x81\x00", "\xff\x00", "\x80\x80\x00", "\xff\xff\xff\xff\xff\xff\xff\xff\x00", // with a last group too many
		"\x80\x80\x80\x80\x80\x80\x80\x80\x80\x01", "\xff\xff\xff\xff\xff\xff\xff\xff\xff\x01", // 2^63 and 2^64-1
		"\x80\x80\x80\x80\x80\x80\x80\x80\x80\x02", "\x81\x80\x80\x80\x80\x80\x80\x80\x80\x02", // 2^64 and one more
		"\x80\x80\x80\x80\x80\x80\x80\x80\x80\x00", "\xff\xff\xff\xff\xff\xff\xff\xff\xff\x00", // 0 and 2^63-1, too long
		"\x80\x80\x80\x80\x80\x80\x80\x80\x80\x80\x80\x01", strings.Repeat("\x80", 70) + "\x01",
	}
}

// P2.1: the bytes of some numbers, told one by one.
func TestNum(t *testing.T) {
	for _, c := range []struct {
		n    int
		want string
	}{
		{0, "\x00"}, {1, "\x01"}, {127, "\x7f"}, {128, "\x80\x01"}, {129, "\x81\x01"}, {255, "\xff\x01"}, {256, "\x80\x02"}, {300, "\xac\x02"},
		{16383, "\xff\x7f"}, {16384, "\x80\x80\x01"}, {1 << 40, "\x80\x80\x80\x80\x80\x20"},
		{1<<56 - 1, "\xff\xff\xff\xff\xff\xff\xff\x7f"}, {1 << 56, "\x80\x80\x80\x80\x80\x80\x80\x80\x01"},
		{math.MaxInt, "\xff\xff\xff\xff\xff\xff\xff\xff\x7f"},
	} {
		if b, e := Num(c.n); string(b) != c.want || e != api.OK {
			t.Errorf("Num(%d) is %x, %d", c.n, b, e)
		}
	}
}

// P2.1: Num makes what the library makes.
func TestNumAsLibrary(t *testing.T) {
	l := edgeNums()
	for n := range 1 << 16 {
		l = append(l, n)
	}
	for _, n := range l {
		if b, e := Num(n); !bytes.Equal(b, numBytes(n)) || e != api.OK {
			t.Errorf("Num(%d) is %x, %d", n, b, e)
		}
	}
}

// P2.1: Num refuses numbers below 0.
func TestNumForm(t *testing.T) {
	for _, n := range []int{-1, -2, -127, -128, -300, -1 << 32, math.MinInt + 1, math.MinInt} {
		if b, e := Num(n); len(b) > 0 || e != api.ErrForm {
			t.Errorf("Num(%d) is %x, %d", n, b, e)
		}
	}
}

// P2.1: GetNum reads the number at the beginning, whatever stands behind it.
func TestGetNum(t *testing.T) {
	for _, n := range edgeNums() {
		b := numBytes(n)
		for _, behind := range []string{"", "\x00", "\x01", "\x80", "\xff", "\x80\x00", "text"} {
			got, size, e := GetNum(append(slices.Clone(b), behind...))
			if got != n || size != len(b) || e != api.OK {
				t.Errorf("GetNum(%x%x) is %d, %d, %d", b, behind, got, size, e)
			}
		}
	}
}

// P2.1: GetNum refuses all else, with zero values beside the error.
func TestGetNumForm(t *testing.T) {
	l := notNums()
	for _, n := range edgeNums() {
		b := numBytes(n)
		l = append(l, string(b[:len(b)-1])) // cut short
		b[len(b)-1] |= 0x80
		l = append(l, string(b), string(b)+"\x00") // going on into nothing, and into a group of zeros
	}
	for _, s := range l {
		if n, size, e := GetNum([]byte(s)); n != 0 || size != 0 || e != api.ErrForm {
			t.Errorf("GetNum(%x) is %d, %d, %d", s, n, size, e)
		}
	}
	if n, size, e := GetNum(nil); n != 0 || size != 0 || e != api.ErrForm {
		t.Errorf("GetNum(nil) is %d, %d, %d", n, size, e)
	}
}

// P2.1: of all strings of three bytes, GetNum takes those that begin with what Num makes.
func TestGetNumAll(t *testing.T) {
	for x := range 1 << 24 {
		if x&0xff != 0 && x&0x8000 == 0 && x&0xff != 0xff {
			continue // the number ends ahead of the last byte: two values of that are enough
		}
		b := []byte{byte(x >> 16), byte(x >> 8), byte(x)}
		want, k := binary.Uvarint(b)
		ok := k > 0 && len(numBytes(int(want))) == k
		n, size, e := GetNum(b)
		switch {
		case ok && (n != int(want) || size != k || e != api.OK), !ok && (n != 0 || size != 0 || e != api.ErrForm):
			t.Fatalf("GetNum(%x) is %d, %d, %d", b, n, size, e)
		}
	}
}

// someTexts lists lists of strings.
func someTexts() [][]string {
	return [][]string{
		nil, {""}, {"", ""}, {"a"}, {"a", ""}, {"", "a"}, {"batch", "\x01", "\x02"}, {"\x00\xff\x80", "Größe", "\x80\x00"},
		{strings.Repeat("x", 127)}, {strings.Repeat("x", 128), "y"}, {strings.Repeat("x", 16383)}, {strings.Repeat("x", 16384), ""},
		slices.Repeat([]string{"ab"}, 127), slices.Repeat([]string{"ab"}, 128), make([]string, 300), make([]string, 16384),
	}
}

// textBytes is the encoding of l, made the plain way.
func textBytes(l []string) []byte {
	b := numBytes(len(l))
	for _, s := range l {
		b = append(append(b, numBytes(len(s))...), s...)
	}
	return b
}

// P2.2: the bytes of some lists of strings, told one by one.
func TestPut(t *testing.T) {
	for _, c := range []struct {
		l    []string
		want string
	}{
		{nil, "\x00"}, {[]string{}, "\x00"}, {[]string{""}, "\x01\x00"}, {[]string{"a", ""}, "\x02\x01a\x00"}, {[]string{"", "bc"}, "\x02\x00\x02bc"},
		{[]string{strings.Repeat("x", 300)}, "\x01\xac\x02" + strings.Repeat("x", 300)},
		{make([]string, 300), "\xac\x02" + strings.Repeat("\x00", 300)},
	} {
		if b, e := Put(c.l); string(b) != c.want || e != api.OK {
			t.Errorf("Put(%q) is %x, %d", c.l, b, e)
		}
	}
}

// P2.2: Put and Get, by the definition of the encoding.
func TestPutGet(t *testing.T) {
	for _, l := range someTexts() {
		want := textBytes(l)
		if b, e := Put(l); !bytes.Equal(b, want) || e != api.OK {
			t.Errorf("Put(%.60q) is %.60x, %d", l, b, e)
		}
		if got, e := Get(want); !slices.Equal(got, l) || e != api.OK {
			t.Errorf("Get(%.60x) is %.60q, %d", want, got, e)
		}
	}
}

// P2.2: Put reaches up to MaxFile bytes, and no further.
func TestPutLimit(t *testing.T) {
	just := strings.Repeat("x", api.MaxFile-4) // with one byte for the count and three for the length
	for _, l := range [][]string{{just}, {"", just[:len(just)-1]}, {just[:1000], just[:len(just)-1002]}, make([]string, api.MaxFile-3)} {
		b, e := Put(l)
		if len(b) != api.MaxFile || e != api.OK {
			t.Fatalf("%d strings: %d bytes, %d", len(l), len(b), e)
		}
		if got, e := Get(b); !slices.Equal(got, l) || e != api.OK {
			t.Errorf("%d strings: Get: %d, %d", len(l), len(got), e)
		}
	}
	for _, l := range [][]string{
		{just + "x"}, {just, ""}, {"", just}, {just, just}, {just[:1000], just[:len(just)-1001]}, make([]string, api.MaxFile-2),
		{strings.Repeat("x", 16*api.MaxFile)}, slices.Repeat([]string{just}, 5000),
	} {
		if b, e := Put(l); len(b) > 0 || e != api.ErrLimit {
			t.Errorf("%d strings: %d bytes, %d", len(l), len(b), e)
		}
	}
}

// P2.2: Get refuses what is cut short, longer, or wrong within.
func TestGetForm(t *testing.T) {
	l := notNums()
	for _, s := range notNums() {
		l = append(l, "\x01"+s, "\x01"+s+"abc", "\x02\x01a"+s) // as a length
	}
	for _, x := range someTexts()[:10] {
		b := string(textBytes(x))
		for k := range b {
			l = append(l, b[:k])
		}
		l = append(l, b+"\x00", b+"\x01", b+"a", b+b)
	}
	l = append(l,
		"\x00\x00", "\x01", "\x02\x00", "\x01\x02a", "\x01\x00a", "\x03\x01a\x00", "\x80\x00", "\x81\x00\x00", "\x01\x81\x00a",
		"\xff\xff\xff\xff\xff\xff\xff\xff\x7f", "\xff\xff\xff\xff\xff\xff\xff\xff\x7f\x00", // a count that nothing can hold
		"\x80\x80\x80\x80\x80\x20\x00\x00", "\xff\xff\xff\xff\x0f\x00\x00",
		"\x01\xff\xff\xff\xff\xff\xff\xff\xff\x7fa", "\x02\x01a\xff\xff\xff\xff\xff\xff\xff\xff\x7f", "\x02\x01a\xfa\xff\xff\xff\xff\xff\xff\xff\x7fb") // lengths whose sums run over
	for _, s := range l {
		if got, e := Get([]byte(s)); len(got) > 0 || e != api.ErrForm {
			t.Errorf("Get(%.60x) is %.60q, %d", s, got, e)
		}
	}
	for _, s := range []string{strings.Repeat("x", api.MaxFile-3), strings.Repeat("x", 2*api.MaxFile)} {
		if got, e := Get(textBytes([]string{s})); len(got) > 0 || e != api.ErrForm {
			t.Errorf("of a text of %d: %d, %d", len(s), len(got), e)
		}
	}
	if got, e := Get(textBytes(make([]string, api.MaxFile-2))); len(got) > 0 || e != api.ErrForm {
		t.Errorf("of a byte too many: %d, %d", len(got), e)
	}
}

// someLists lists lists of numbers.
func someLists() [][]int {
	return [][]int{
		nil, {0}, {1}, {127}, {128}, {300}, {0, 0}, {1, 300}, {300, 1}, {1, math.MaxInt, 0, 128}, {math.MaxInt}, {math.MaxInt, math.MaxInt},
		edgeNums(), make([]int, 127), make([]int, 128), slices.Repeat([]int{1 << 40}, 300), make([]int, 16384),
	}
}

// listBytes is the encoding of l, made the plain way.
func listBytes(l []int) []byte {
	b := numBytes(len(l))
	for _, n := range l {
		b = append(b, numBytes(n)...)
	}
	return b
}

// P2.3: the bytes of some lists of numbers, told one by one.
func TestNums(t *testing.T) {
	for _, c := range []struct {
		l    []int
		want string
	}{
		{nil, "\x00"}, {[]int{}, "\x00"}, {[]int{0}, "\x01\x00"}, {[]int{300}, "\x01\xac\x02"}, {[]int{5, 1, 300}, "\x03\x05\x01\xac\x02"},
		{[]int{math.MaxInt, 0}, "\x02\xff\xff\xff\xff\xff\xff\xff\xff\x7f\x00"},
		{make([]int, 300), "\xac\x02" + strings.Repeat("\x00", 300)},
	} {
		if b, e := Nums(c.l); string(b) != c.want || e != api.OK {
			t.Errorf("Nums(%d) is %x, %d", c.l, b, e)
		}
	}
}

// P2.3: Nums and GetNums, by the definition of the encoding.
func TestNumsGetNums(t *testing.T) {
	for _, l := range someLists() {
		want := listBytes(l)
		if b, e := Nums(l); !bytes.Equal(b, want) || e != api.OK {
			t.Errorf("Nums(%d) is %.60x, %d", l, b, e)
		}
		if got, e := GetNums(want); !slices.Equal(got, l) || e != api.OK {
			t.Errorf("GetNums(%.60x) is %d, %d", want, got, e)
		}
	}
}

// P2.3: Nums reaches up to MaxFile bytes, and no further.
func TestNumsLimit(t *testing.T) {
	most := make([]int, api.MaxFile-3, api.MaxFile) // with three bytes for the count
	long := slices.Repeat([]int{math.MaxInt}, (api.MaxFile-3)/9)
	rest := (api.MaxFile - 3) % 9
	for _, l := range [][]int{most, append(slices.Clone(most[:len(most)-2]), 128), append(slices.Clone(long), make([]int, rest)...)} {
		b, e := Nums(l)
		if len(b) != api.MaxFile || e != api.OK {
			t.Fatalf("%d numbers: %d bytes, %d", len(l), len(b), e)
		}
		if got, e := GetNums(b); !slices.Equal(got, l) || e != api.OK {
			t.Errorf("%d numbers: GetNums: %d, %d", len(l), len(got), e)
		}
	}
	for _, l := range [][]int{
		append(most, 0), append(slices.Clone(most[:len(most)-1]), 128), append(slices.Clone(long), make([]int, rest+1)...),
		make([]int, 4*api.MaxFile), slices.Repeat([]int{math.MaxInt}, api.MaxFile),
	} {
		if b, e := Nums(l); len(b) > 0 || e != api.ErrLimit {
			t.Errorf("%d numbers: %d bytes, %d", len(l), len(b), e)
		}
	}
}

// P2.3: Nums refuses a number below 0, and tells that ahead of the limit.
func TestNumsForm(t *testing.T) {
	beyond := make([]int, 2*api.MaxFile)
	for _, l := range [][]int{
		{-1}, {math.MinInt}, {1, -1}, {-1, 1}, {1, -1, 1}, {0, -300, math.MaxInt},
		append([]int{-1}, beyond...), append(slices.Clone(beyond), -1), append(append(slices.Clone(beyond), math.MinInt), beyond...),
	} {
		if b, e := Nums(l); len(b) > 0 || e != api.ErrForm {
			t.Errorf("%d numbers: %d bytes, %d", len(l), len(b), e)
		}
	}
}

// P2.3: GetNums refuses what is cut short, longer, or wrong within.
func TestGetNumsForm(t *testing.T) {
	l := notNums()
	for _, s := range notNums() {
		l = append(l, "\x01"+s, "\x02\x01"+s, "\x02"+s+"\x01") // as an element
	}
	for _, x := range someLists()[:13] {
		b := string(listBytes(x))
		for k := range b {
			l = append(l, b[:k])
		}
		l = append(l, b+"\x00", b+"\x01", b+"\x80", b+b)
	}
	l = append(l,
		"\x00\x00", "\x01", "\x02\x00", "\x01\x00\x00", "\x80\x00", "\x81\x00\x00", "\x01\x80\x00", "\x01\xac\x82\x00",
		"\xff\xff\xff\xff\xff\xff\xff\xff\x7f", "\xff\xff\xff\xff\xff\xff\xff\xff\x7f\x00", // a count that nothing can hold
		"\x80\x80\x80\x80\x80\x20\x00\x00", "\xff\xff\xff\xff\x0f\x00\x00")
	for _, s := range l {
		if got, e := GetNums([]byte(s)); len(got) > 0 || e != api.ErrForm {
			t.Errorf("GetNums(%.60x) is %d, %d", s, got, e)
		}
	}
	for _, l := range [][]int{make([]int, api.MaxFile-2), slices.Repeat([]int{math.MaxInt}, api.MaxFile/8), make([]int, 4*api.MaxFile)} {
		if got, e := GetNums(listBytes(l)); len(got) > 0 || e != api.ErrForm {
			t.Errorf("of %d numbers, too long: %d, %d", len(l), len(got), e)
		}
	}
}

// P2.4: GetNum gives back what Num was given, and Num what GetNum was given.
func TestNumBack(t *testing.T) {
	for k := range 63 {
		for _, n := range []int{1 << k, 1<<k - 1, 1<<k + 1<<(k/2), math.MaxInt >> k, int(bits.Reverse64(uint64(k)) >> 1)} {
			b, e := Num(n)
			if e != api.OK {
				t.Fatalf("Num(%d): %d", n, e)
			}
			if got, size, e := GetNum(b); got != n || size != len(b) || e != api.OK {
				t.Errorf("GetNum(Num(%d)) is %d, %d, %d", n, got, size, e)
			}
		}
	}
}

// eachShort calls f for each string of up to five bytes of those that matter most.
func eachShort(f func(b []byte)) {
	var more func(b []byte)
	more = func(b []byte) {
		f(slices.Clone(b))
		if len(b) == 5 {
			return
		}
		for _, c := range []byte{0, 1, 2, 3, 4, 5, 0x7f, 0x80, 0x81, 0xff} {
			more(append(b[:len(b):len(b)], c))
		}
	}
	more(nil)
}

// P2.4: what Get and GetNums take is what Put and Nums make of the result.
func TestBackOfShort(t *testing.T) {
	texts, lists := 0, 0
	eachShort(func(b []byte) {
		if l, e := Get(b); e == api.OK {
			texts++
			if back, e := Put(l); !bytes.Equal(back, b) || e != api.OK {
				t.Errorf("Put(Get(%x)) is %x, %d", b, back, e)
			}
		} else if l != nil || e != api.ErrForm {
			t.Errorf("Get(%x) is %q, %d", b, l, e)
		}
		if l, e := GetNums(b); e == api.OK {
			lists++
			if back, e := Nums(l); !bytes.Equal(back, b) || e != api.OK {
				t.Errorf("Nums(GetNums(%x)) is %x, %d", b, back, e)
			}
		} else if l != nil || e != api.ErrForm {
			t.Errorf("GetNums(%x) is %d, %d", b, l, e)
		}
	})
	// Counted by hand. Texts: 1 of one byte; 1 of two; 10+1 of three; 100+20+1 of
	// four; 1000+300+30+1 of five, by the count of strings. Lists: a last byte of a
	// number is one of 7 here, 6 behind another; one ahead of it one of 3.
	if want := 1 + 1 + 11 + 121 + 1331; texts != want {
		t.Errorf("Get takes %d, not %d", texts, want)
	}
	if want := 1 + countLists(); lists != want {
		t.Errorf("GetNums takes %d, not %d", lists, want)
	}
}

// countLists tells how many strings of eachShort encode a list of one number or more.
func countLists() int {
	of := [5]int{0, 7, 3 * 6, 9 * 6, 27 * 6} // numbers by how many bytes they take
	ways := [5]int{1}                        // lists of the number of elements at hand, by all their bytes
	sum := 0
	for range 4 {
		var next [5]int
		for a, w := range ways {
			for k := 1; a+k < len(next); k++ {
				next[a+k] += w * of[k]
			}
		}
		ways = next
		for _, w := range ways {
			sum += w
		}
	}
	return sum
}

// R2: a result shares nothing with an argument or with another result, and arguments stay as they are.
func TestShareNothing(t *testing.T) {
	b, _ := Put([]string{"ab", "c"})
	other := b[:cap(b)]
	for i := range other {
		other[i] = 0xff
	}
	if b, e := Put([]string{"ab", "c"}); string(b) != "\x02\x02ab\x01c" || e != api.OK {
		t.Errorf("Put is %x, %d", b, e)
	}
	for _, f := range []func(int) ([]byte, api.Errno){Num, func(n int) ([]byte, api.Errno) { return Nums([]int{n}) }} {
		one, _ := f(300)
		two, _ := f(300)
		want := string(two)
		for i := range one[:cap(one)] {
			one[:cap(one)][i] = 0xff
		}
		if three, e := f(300); string(two) != want || string(three) != want || e != api.OK {
			t.Errorf("%x and %x, not %x", two, three, want)
		}
	}
	from := []byte("\x02\x02ab\x01c")
	texts, _ := Get(from)
	if string(from) != "\x02\x02ab\x01c" {
		t.Errorf("Get left %x", from)
	}
	clear(from)
	if !slices.Equal(texts, []string{"ab", "c"}) {
		t.Errorf("Get's result became %q", texts)
	}
	from = []byte("\x02\xac\x02\x05")
	one, _ := GetNums(from)
	two, _ := GetNums(from)
	if string(from) != "\x02\xac\x02\x05" {
		t.Errorf("GetNums left %x", from)
	}
	clear(one[:cap(one)])
	if !slices.Equal(two, []int{300, 5}) {
		t.Errorf("GetNums' result became %d", two)
	}
	list := []int{3, 300, 0}
	if _, e := Nums(list); !slices.Equal(list, []int{3, 300, 0}) || e != api.OK {
		t.Errorf("Nums left %d, %d", list, e)
	}
}
