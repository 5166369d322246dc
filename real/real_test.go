package real

import (
	"math"
	"reflect"
	"slices"
	"strings"
	"testing"

	"drover/api"
	"drover/batch"
	"drover/book"
	"drover/header"
	"drover/message"
)

// The digests of the book that the tests ask.
const (
	ofFirst  = 1
	ofBatch  = 2
	ofHeader = 3
	ofOther  = 4 // another header
	ofNone   = 5 // there is none
)

// theBatch is of node 3.
func theBatch() api.Batch {
	return api.Batch{Author: 3, N: 2, Txs: []api.Tx{{Sender: 1, Seq: 1, Key: "k", Val: "v"}}}
}

// theHeader is of node 1.
func theHeader() api.Header {
	return api.Header{Author: 1, Round: 2, Batches: []int{2}, Parents: []int{1, 4, 5}}
}

func otherHeader() api.Header {
	return api.Header{Author: 1, Round: 2, Batches: []int{1}, Parents: []int{1, 4, 5}}
}

func bytesOf(t *testing.T, x any) []byte {
	t.Helper()
	var b []byte
	var e api.Errno
	switch x := x.(type) {
	case api.Batch:
		b, e = batch.Bytes(x)
	case api.Header:
		b, e = header.Bytes(x)
	}
	if e != api.OK {
		t.Fatalf("%v has no bytes: %v", x, e)
	}
	return b
}

func put(t *testing.T, b *book.Book, x []byte, want int) {
	t.Helper()
	if d, e := b.Digest(x); d != want || e != api.OK {
		t.Fatalf("digest %d, %v instead of %d", d, e, want)
	}
}

// newBook has four digests, which nobody signed.
func newBook(t *testing.T) *book.Book {
	t.Helper()
	b := book.New()
	put(t, b, []byte("first"), ofFirst)
	put(t, b, bytesOf(t, theBatch()), ofBatch)
	put(t, b, bytesOf(t, theHeader()), ofHeader)
	put(t, b, bytesOf(t, otherHeader()), ofOther)
	return b
}

func sign(t *testing.T, b *book.Book, d int, nodes ...int) {
	t.Helper()
	for _, who := range nodes {
		if e := b.Sign(who, d); e != api.OK {
			t.Fatalf("node %d doesn't sign %d: %v", who, d, e)
		}
	}
}

func ask(kind int) api.Message {
	m := api.Message{Kind: kind, From: 1, To: 2}
	switch kind {
	case api.AskBatch, api.GiveBatch:
		m.Digest, m.Batch = ofBatch, theBatch()
	case api.TellBatch:
		m.Digest = ofFirst
	case api.AskHeader:
		m.Digest, m.Header = ofHeader, theHeader()
	case api.TellVote:
		m.Digest = ofHeader
	case api.AskCert:
		m.Cert = api.Cert{Header: theHeader(), Digest: ofHeader, Signers: []int{1, 2, 4}}
	case api.WantBatch, api.WantCert:
		m.Digests = []int{ofFirst, ofHeader, ofOther}
	}
	return m
}

var kinds = []int{api.AskBatch, api.TellBatch, api.GiveBatch, api.AskHeader, api.TellVote, api.AskCert, api.WantBatch, api.WantCert}

// signersOf are the nodes whose signatures ask(kind) needs, and the digest that they are for.
func signersOf(kind int) ([]int, int) {
	switch kind {
	case api.AskBatch, api.GiveBatch:
		return []int{3}, ofBatch
	case api.AskHeader, api.TellVote:
		return []int{1}, ofHeader
	case api.AskCert:
		return []int{1, 2, 4}, ofHeader
	}
	return nil, 0
}

func without(l []int, who int) []int {
	return slices.DeleteFunc(slices.Clone(l), func(x int) bool { return x == who })
}

func check(t *testing.T, b *book.Book, n int, liars []int, m api.Message, want api.Errno) {
	t.Helper()
	if e := Check(b, n, liars, m); e != want {
		t.Errorf("%v instead of %v: n %d, liars %v, %+v", e, want, n, liars, m)
	}
}

// P8.1: a signature counts that the book records, or that is a liar's; and all that are needed must.
func TestSignatures(t *testing.T) {
	for _, kind := range kinds {
		m := ask(kind)
		needed, d := signersOf(kind)
		for _, who := range needed {
			b := newBook(t)
			sign(t, b, d, without(needed, who)...)
			check(t, b, 4, nil, m, api.ErrLack)
			check(t, b, 4, without([]int{1, 2, 3, 4}, who), m, api.ErrLack)
			check(t, b, 4, []int{who}, m, api.OK)
			check(t, b, 4, []int{7, -who, who, who, math.MaxInt}, m, api.OK)
			sign(t, b, d, who)
			check(t, b, 4, nil, m, api.OK)
			check(t, b, 4, []int{}, m, api.OK)
			check(t, b, 4, without([]int{1, 2, 3, 4}, who), m, api.OK)
		}
		check(t, newBook(t), 4, needed, m, api.OK)
		check(t, newBook(t), 4, []int{1, 2, 3, 4}, m, api.OK)
	}
}

// P8.1: nothing else is needed: neither of the nodes between which a batch or a certificate goes, nor for what is told and wanted.
func TestNotNeeded(t *testing.T) {
	b := newBook(t)
	sign(t, b, ofBatch, 3)
	sign(t, b, ofHeader, 1, 2, 4)
	for _, kind := range kinds {
		for from := 1; from <= 4; from++ {
			for to := 1; to <= 4; to++ {
				m := ask(kind)
				m.From, m.To = from, to
				want := api.OK
				switch {
				case from == to || kind == api.AskHeader && from != 1:
					want = api.ErrForm
				case kind == api.TellVote && from == 3:
					want = api.ErrLack
				}
				check(t, b, 4, nil, m, want)
			}
		}
	}
}

// P8.1: a signature is for one digest, whichever others its node signed.
func TestSignedOther(t *testing.T) {
	for _, kind := range kinds {
		needed, d := signersOf(kind)
		if len(needed) == 0 {
			continue
		}
		b := newBook(t)
		for other := 1; other <= b.Count(); other++ {
			if other != d {
				sign(t, b, other, 1, 2, 3, 4)
			}
		}
		check(t, b, 4, nil, ask(kind), api.ErrLack)
		sign(t, b, d, needed...)
		check(t, b, 4, nil, ask(kind), api.OK)
	}
}

// P8.1: whom the book has for others doesn't stand for one who is needed.
func TestSignedByOthers(t *testing.T) {
	for _, kind := range kinds {
		needed, d := signersOf(kind)
		for _, who := range needed {
			b := newBook(t)
			for other := 1; other <= api.MaxNodes; other++ {
				if other != who {
					sign(t, b, d, other)
				}
			}
			check(t, b, 4, nil, ask(kind), api.ErrLack)
		}
	}
}

// P8.1: the digest is the one that the book has for the bytes, whoever signed another one.
func TestOtherDigest(t *testing.T) {
	b := newBook(t)
	for d := 1; d <= b.Count(); d++ {
		sign(t, b, d, 1, 2, 3, 4)
	}
	liars := []int{1, 2, 3, 4}
	for d := 1; d <= api.MaxBook; d += 1 + d/8*d {
		for _, kind := range []int{api.AskBatch, api.GiveBatch, api.AskHeader, api.AskCert} {
			m := ask(kind)
			m.Digest, m.Cert.Digest = 0, 0
			if kind == api.AskCert {
				m.Cert.Digest = d
			} else {
				m.Digest = d
			}
			want := api.ErrLack
			if _, right := signersOf(kind); d == right {
				want = api.OK
			}
			check(t, b, 4, nil, m, want)
			check(t, b, 4, liars, m, want)
		}
	}
}

// P8.1: what the book doesn't have isn't real, whichever digest is told with it; and asking doesn't put it in.
func TestNotInBook(t *testing.T) {
	b := newBook(t)
	for d := 1; d <= b.Count(); d++ {
		sign(t, b, d, 1, 2, 3, 4)
	}
	var all []api.Message
	for _, kind := range []int{api.AskBatch, api.GiveBatch} {
		for k := range 5 {
			m := ask(kind)
			tx := &m.Batch.Txs[0]
			switch k {
			case 0:
				m.Batch.Author = 2
			case 1:
				m.Batch.N++
			case 2:
				tx.Seq++
			case 3:
				tx.Key = "K"
			case 4:
				tx.Val = ""
			}
			all = append(all, m)
		}
	}
	for k := range 3 {
		m, c := ask(api.AskHeader), ask(api.AskCert)
		for _, h := range []*api.Header{&m.Header, &c.Cert.Header} {
			switch k {
			case 0:
				h.Round++
			case 1:
				h.Batches = nil
			case 2:
				h.Parents = []int{1, 2, 3, 4}
			}
		}
		all = append(all, m, c)
	}
	c := ask(api.AskCert)
	c.Cert.Header.Author = 2
	all = append(all, c)
	for _, m := range all {
		for d := 1; d <= ofNone+1; d++ {
			if m.Kind == api.AskCert {
				m.Cert.Digest = d
			} else {
				m.Digest = d
			}
			check(t, b, 4, nil, m, api.ErrLack)
			check(t, b, 4, []int{1, 2, 3, 4}, m, api.ErrLack)
		}
	}
	if b.Count() != 4 {
		t.Errorf("%d digests", b.Count())
	}
}

// P8.1: with another header of its place a header has its own digest and its own signatures.
func TestTwoHeaders(t *testing.T) {
	b := newBook(t)
	sign(t, b, ofOther, 1, 2, 4)
	for _, kind := range []int{api.AskHeader, api.AskCert} {
		m := ask(kind)
		check(t, b, 4, nil, m, api.ErrLack)
		if kind == api.AskCert {
			m.Cert.Header = otherHeader()
		} else {
			m.Header = otherHeader()
		}
		check(t, b, 4, nil, m, api.ErrLack)
		if kind == api.AskCert {
			m.Cert.Digest = ofOther
		} else {
			m.Digest = ofOther
		}
		check(t, b, 4, nil, m, api.OK)
	}
}

// P8.1: TellBatch, TellVote, WantBatch and WantCert tell digests of the book, whatever these are of, and whoever lies.
func TestDigestsOfBook(t *testing.T) {
	liars := []int{1, 2, 3, 4}
	b := newBook(t)
	want := func(d int) api.Errno {
		switch {
		case d < 1 || d > api.MaxBook:
			return api.ErrForm
		case d > b.Count():
			return api.ErrLack
		}
		return api.OK
	}
	for _, d := range []int{math.MinInt, -1, 0, 1, 2, 3, 4, 5, 6, api.MaxBook - 1, api.MaxBook, api.MaxBook + 1, 1<<32 + 1, math.MaxInt} {
		for _, kind := range []int{api.TellBatch, api.TellVote} {
			check(t, b, 4, liars, api.Message{Kind: kind, From: 1, To: 2, Digest: d}, want(d))
		}
		check(t, b, 4, nil, api.Message{Kind: api.TellBatch, From: 1, To: 2, Digest: d}, want(d))
		for _, kind := range []int{api.WantBatch, api.WantCert} {
			for _, l := range [][]int{nil, liars} {
				check(t, b, 4, l, api.Message{Kind: kind, From: 1, To: 2, Digests: []int{d}}, want(d))
				if d > 3 {
					check(t, b, 4, l, api.Message{Kind: kind, From: 1, To: 2, Digests: []int{1, 2, 3, d}}, want(d))
				}
			}
		}
	}
	for _, l := range [][]int{{4, 5}, {1, 2, 3, 4, 5}, {5, 6}, {5, 6, 7}} {
		check(t, b, 4, liars, api.Message{Kind: api.WantCert, From: 1, To: 2, Digests: l}, api.ErrLack)
	}
}

// P8.1: in an empty book nothing is real.
func TestEmptyBook(t *testing.T) {
	for _, b := range []*book.Book{book.New(), new(book.Book)} {
		for _, kind := range kinds {
			check(t, b, 4, nil, ask(kind), api.ErrLack)
			check(t, b, 4, []int{1, 2, 3, 4}, ask(kind), api.ErrLack)
		}
		if b.Count() != 0 {
			t.Errorf("%d digests", b.Count())
		}
	}
}

// P8.1: in a full book all digests are there.
func TestFullBook(t *testing.T) {
	b := book.New()
	for d := 1; d < api.MaxBook; d++ {
		put(t, b, []byte{byte(d >> 16), byte(d >> 8), byte(d), 1}, d)
	}
	m := ask(api.AskBatch)
	m.Digest = api.MaxBook
	tell := api.Message{Kind: api.TellBatch, From: 4, To: 3, Digest: api.MaxBook}
	wish := api.Message{Kind: api.WantBatch, From: 4, To: 3, Digests: []int{1, api.MaxBook}}
	for _, m := range []api.Message{m, tell, wish} {
		check(t, b, 4, []int{3}, m, api.ErrLack)
	}
	put(t, b, bytesOf(t, theBatch()), api.MaxBook)
	for _, m := range []api.Message{m, tell, wish} {
		check(t, b, 4, []int{3}, m, api.OK)
	}
	check(t, b, 4, nil, m, api.ErrLack)
	sign(t, b, api.MaxBook, 3)
	check(t, b, 4, nil, m, api.OK)
}

// P8.1: ErrForm without a book, whatever is asked, and for what is no valid message among n nodes, ahead of what it lacks.
func TestForm(t *testing.T) {
	signed := newBook(t)
	for d := 1; d <= signed.Count(); d++ {
		sign(t, signed, d, 1, 2, 3, 4)
	}
	for _, kind := range kinds {
		m := ask(kind)
		check(t, nil, 4, []int{1, 2, 3, 4}, m, api.ErrForm)
		check(t, nil, 5, nil, m, api.ErrForm)
		check(t, nil, 4, nil, api.Message{}, api.ErrForm)
		for _, b := range []*book.Book{book.New(), signed} {
			for _, n := range []int{math.MinInt, -4, 0, 1, 2, 3, 5, 6, 8, 17, 19, math.MaxInt} {
				check(t, b, n, []int{1, 2, 3, 4}, m, api.ErrForm)
			}
			for _, change := range []func(m *api.Message){
				func(m *api.Message) { m.From = 0 }, func(m *api.Message) { m.From = 5 }, func(m *api.Message) { m.To = 1 }, func(m *api.Message) { m.To = -1 },
				func(m *api.Message) { m.Kind = 0 }, func(m *api.Message) { m.Kind = 9 }, func(m *api.Message) { m.Kind = -1 },
				func(m *api.Message) { m.Digest = api.MaxBook + 1 }, func(m *api.Message) { m.Batch.N = -1 }, func(m *api.Message) { m.Batch.Author = 5 },
				func(m *api.Message) { m.Header.Round = -1 }, func(m *api.Message) { m.Cert.Signers = []int{1, 2} }, func(m *api.Message) { m.Cert.Digest = -1 },
				func(m *api.Message) { m.Digests = []int{4, 1} }, func(m *api.Message) { m.Digests = make([]int, 1) },
			} {
				wrong := ask(kind)
				change(&wrong)
				check(t, b, 4, nil, wrong, api.ErrForm)
				check(t, b, 4, []int{1, 2, 3, 4}, wrong, api.ErrForm)
			}
		}
	}
	check(t, signed, 4, nil, api.Message{}, api.ErrForm)
}

// P8.1: what is not enough among seven nodes is not of the form there, where it is real among four.
func TestAmongMore(t *testing.T) {
	b := newBook(t)
	liars := []int{1, 2, 3, 4, 5, 6, 7}
	check(t, b, 4, liars, ask(api.AskCert), api.OK)
	check(t, b, 7, liars, ask(api.AskCert), api.ErrForm)
	check(t, b, 7, liars, ask(api.AskHeader), api.ErrForm)
	check(t, b, 7, liars, ask(api.AskBatch), api.OK)
	m := api.Message{Kind: api.TellVote, From: 7, To: 6, Digest: ofHeader}
	check(t, b, 4, liars, m, api.ErrForm)
	check(t, b, 7, without(liars, 7), m, api.ErrLack)
	check(t, b, 7, []int{7}, m, api.OK)
	m = ask(api.GiveBatch)
	m.Batch.Author = 7
	put(t, b, bytesOf(t, m.Batch), ofNone)
	m.Digest = ofNone
	check(t, b, 4, liars, m, api.ErrForm)
	check(t, b, 7, nil, m, api.ErrLack)
	sign(t, b, ofNone, 7)
	check(t, b, 7, nil, m, api.OK)
}

// P8.1: what takes the most room that it may.
func TestBiggest(t *testing.T) {
	all := make([]int, api.MaxNodes)
	for i := range all {
		all[i] = i + 1
	}
	tx := api.Tx{Sender: 1 << 40, Seq: 1 << 40, Key: strings.Repeat("\xff", api.MaxKey), Val: strings.Repeat("\x00", api.MaxVal)}
	x := api.Batch{Author: 16, N: 1 << 40, Txs: slices.Repeat([]api.Tx{tx}, api.MaxTxs)}
	h := api.Header{Author: 16, Round: api.MaxRound, Batches: all[:api.MaxRefs], Parents: all}
	b := book.New()
	put(t, b, bytesOf(t, x), 1)
	put(t, b, bytesOf(t, h), 2)
	for d := 3; d <= api.MaxWant; d++ {
		put(t, b, make([]byte, d), d)
	}
	for _, m := range []api.Message{
		{Kind: api.AskBatch, From: 16, To: 15, Digest: 1, Batch: x},
		{Kind: api.GiveBatch, From: 15, To: 16, Digest: 1, Batch: x},
		{Kind: api.AskHeader, From: 16, To: 1, Digest: 2, Header: h},
		{Kind: api.TellVote, From: 16, To: 1, Digest: 2},
		{Kind: api.AskCert, From: 1, To: 16, Cert: api.Cert{Header: h, Digest: 2, Signers: all}},
	} {
		check(t, b, 16, nil, m, api.ErrLack)
		check(t, b, 16, all[:15], m, api.ErrLack)
		check(t, b, 16, all, m, api.OK)
		check(t, b, 16, slices.Repeat(all, 1000), m, api.OK)
	}
	sign(t, b, 2, all[1:]...)
	m := api.Message{Kind: api.AskCert, From: 1, To: 16, Cert: api.Cert{Header: h, Digest: 2, Signers: all}}
	check(t, b, 16, all[1:], m, api.ErrLack)
	check(t, b, 16, all[:1], m, api.OK)
	check(t, b, 16, nil, api.Message{Kind: api.WantCert, From: 1, To: 16, Digests: all}, api.OK)
}

// subsets lists all sets of numbers from 1 to n.
func subsets(n int) [][]int {
	var all [][]int
	for bits := range 1 << n {
		var l []int
		for k := range n {
			if bits>>k&1 == 1 {
				l = append(l, k+1)
			}
		}
		all = append(all, l)
	}
	return all
}

// P8.2: with at most f liars, f + 1 or more nodes that are none signed the header of a certificate that is real.
func TestHonestSigners(t *testing.T) {
	for _, c := range []struct{ n, faults int }{{4, 1}, {7, 2}} {
		h := api.Header{Author: 1, Round: 1}
		sets := subsets(c.n)
		reals := 0
		for _, signed := range sets {
			b := book.New()
			put(t, b, bytesOf(t, h), 1)
			sign(t, b, 1, signed...)
			for _, signers := range sets {
				m := api.Message{Kind: api.AskCert, From: 1, To: 2, Cert: api.Cert{Header: h, Digest: 1, Signers: signers}}
				for _, liars := range sets {
					if len(liars) > c.faults || c.n > 4 && len(liars) < c.faults {
						continue
					}
					if Check(b, c.n, liars, m) != api.OK {
						continue
					}
					reals++
					honest := 0
					for _, who := range signed {
						if !slices.Contains(liars, who) {
							honest++
						}
					}
					if honest < c.faults+1 {
						t.Fatalf("%d nodes: signed by %v, where %v lie, and real with %v", c.n, signed, liars, signers)
					}
				}
			}
		}
		if reals == 0 {
			t.Errorf("%d nodes: nothing was real", c.n)
		}
	}
}

// P8.1, R1: equal calls give equal answers, and the book is as it was.
func TestBookIsKept(t *testing.T) {
	b := newBook(t)
	sign(t, b, ofBatch, 3)
	sign(t, b, ofHeader, 1, 4)
	same := newBook(t)
	sign(t, same, ofBatch, 3)
	sign(t, same, ofHeader, 1, 4)
	for range 2 {
		for _, kind := range kinds {
			want := api.OK
			if kind == api.AskCert {
				want = api.ErrLack
			}
			check(t, b, 4, nil, ask(kind), want)
			check(t, b, 4, []int{1, 2, 3}, ask(kind), api.OK)
			check(t, b, 5, []int{2}, ask(kind), api.ErrForm)
		}
	}
	for d := range ofNone + 2 {
		x, e := b.Bytes(d)
		y, f := same.Bytes(d)
		if !slices.Equal(x, y) || e != f {
			t.Errorf("digest %d is of %v, %v", d, x, e)
		}
		for who := range api.MaxNodes + 2 {
			if b.Signed(who, d) != same.Signed(who, d) {
				t.Errorf("node %d signed %d: %v", who, d, b.Signed(who, d))
			}
		}
	}
	if b.Count() != same.Count() {
		t.Errorf("%d digests", b.Count())
	}
}

// R2: the arguments stay as they are, also where there is room behind a list.
func TestArgumentsStay(t *testing.T) {
	b := newBook(t)
	for _, kind := range kinds {
		for _, room := range []int{0, 4} {
			m, same := ask(kind), ask(kind)
			for _, l := range []*[]int{&m.Digests, &m.Header.Batches, &m.Header.Parents, &m.Cert.Signers, &m.Cert.Header.Batches, &m.Cert.Header.Parents} {
				*l = slices.Grow(*l, room)
			}
			liars := append(make([]int, 0, 8), 4, 1, 9, 3, 1, 2)
			behind := []([]int){liars, m.Digests, m.Header.Batches, m.Header.Parents, m.Cert.Signers, m.Cert.Header.Parents}
			check(t, b, 4, liars, m, api.OK)
			a, _ := message.Encode(m, 4)
			z, _ := message.Encode(same, 4)
			if !slices.Equal(a, z) {
				t.Errorf("the message became %+v", m)
			}
			if !reflect.DeepEqual(liars, []int{4, 1, 9, 3, 1, 2}) {
				t.Errorf("the liars became %v", liars)
			}
			for _, l := range behind {
				for _, x := range l[len(l):cap(l)] {
					if x != 0 {
						t.Errorf("behind %v stands %v", l, l[len(l):cap(l)])
					}
				}
			}
		}
	}
}
