package message

import (
	"math"
	"reflect"
	"slices"
	"strings"
	"testing"

	"drover/api"
)

// quorums are the numbers of nodes among which there are messages, each with how many of them are enough.
var quorums = [][2]int{{4, 3}, {7, 5}, {10, 7}, {13, 9}, {16, 11}}

// notNodes are numbers of nodes that there may not be.
var notNodes = []int{0, 2, 3, 5, 6, 8, 9, 11, 12, 14, 15, 17, 18, 19, 22, 1<<32 + 1, 1<<32 + 4, -1, -2, -3, -5, math.MinInt, math.MaxInt}

// notDigests are numbers that are no digests.
var notDigests = []int{0, -1, -1 << 32, math.MinInt, 1<<16 + 1, 1 << 17, 1<<24 + 1, 1<<32 + 1, 1<<62 + 1, math.MaxInt}

// count lists n numbers from first on.
func count(first, n int) []int {
	l := make([]int, n)
	for i := range l {
		l[i] = first + i
	}
	return l
}

// same reports whether two messages are, a nil list being as good as an empty one.
func same(a, b api.Message) bool {
	return reflect.DeepEqual(plain(a), plain(b))
}

// plain is a message with nil for each empty list.
func plain(m api.Message) api.Message {
	if len(m.Batch.Txs) == 0 {
		m.Batch.Txs = nil
	}
	for _, l := range []*[]int{&m.Digests, &m.Header.Batches, &m.Header.Parents, &m.Cert.Signers, &m.Cert.Header.Batches, &m.Cert.Header.Parents} {
		if len(*l) == 0 {
			*l = nil
		}
	}
	return m
}

// copied is a message that shares no list with the one that it was made of.
func copied(m api.Message) api.Message {
	m.Batch.Txs = slices.Clone(m.Batch.Txs)
	for _, l := range []*[]int{&m.Digests, &m.Header.Batches, &m.Header.Parents, &m.Cert.Signers, &m.Cert.Header.Batches, &m.Cert.Header.Parents} {
		*l = slices.Clone(*l)
	}
	return m
}

// refused reports whether Check and Encode answer with ErrForm and nothing beside.
func refused(m api.Message, n int) bool {
	b, e := Encode(m, n)
	return Check(m, n) == api.ErrForm && e == api.ErrForm && len(b) == 0
}

// unread reports whether Decode answers with ErrForm and nothing beside.
func unread(b []byte, n int) bool {
	m, e := Decode(b, n)
	return e == api.ErrForm && reflect.DeepEqual(m, api.Message{})
}

func smallBatch() api.Batch {
	return api.Batch{Author: 3, N: 2, Txs: []api.Tx{{Sender: 1, Seq: 1, Key: "k", Val: "v"}}}
}

// bigBatch is a batch of node author of which nothing can be more or longer.
func bigBatch(author int) api.Batch {
	tx := api.Tx{Sender: 1 << 40, Seq: 1 << 40, Key: strings.Repeat("\xff", 16), Val: strings.Repeat("\x00", 32)}
	return api.Batch{Author: author, N: 1 << 40, Txs: slices.Repeat([]api.Tx{tx}, 8)}
}

// bigHeader is a header of node author, one of n, of which nothing can be more.
func bigHeader(author, n int) api.Header {
	return api.Header{Author: author, Round: 1 << 40, Batches: count(1<<16-7, 8), Parents: count(1<<16-n+1, n)}
}

// four is a message of each kind among four nodes.
func four() []api.Message {
	h := api.Header{Author: 1, Round: 2, Batches: []int{4, 9}, Parents: []int{1, 2, 300}}
	c := api.Cert{Header: api.Header{Author: 2, Round: 3, Batches: []int{7}, Parents: []int{4, 5, 6, 7}}, Digest: 8, Signers: []int{1, 2, 4}}
	return []api.Message{
		{Kind: api.AskBatch, From: 1, To: 2, Digest: 5, Batch: smallBatch()},
		{Kind: api.TellBatch, From: 4, To: 1, Digest: 1 << 16},
		{Kind: api.GiveBatch, From: 2, To: 3, Digest: 1, Batch: smallBatch()},
		{Kind: api.AskHeader, From: 1, To: 2, Digest: 6, Header: h},
		{Kind: api.TellVote, From: 1, To: 2, Digest: 300},
		{Kind: api.AskCert, From: 1, To: 2, Cert: c},
		{Kind: api.WantBatch, From: 1, To: 2, Digests: []int{3, 300, 1 << 16}},
		{Kind: api.WantCert, From: 3, To: 2, Digests: []int{9}},
	}
}

// some lists valid messages among n nodes, of which quorum are enough.
func some(n, quorum int) []api.Message {
	var l []api.Message
	for _, d := range []int{1, 2, 127, 128, 255, 256, 257, 1<<16 - 1, 1 << 16} {
		for _, kind := range []int{api.TellBatch, api.TellVote} {
			l = append(l, api.Message{Kind: kind, From: 1, To: n, Digest: d}, api.Message{Kind: kind, From: n, To: 1, Digest: d})
		}
		for _, kind := range []int{api.AskBatch, api.GiveBatch} {
			l = append(l, api.Message{Kind: kind, From: n, To: 1, Digest: d, Batch: smallBatch()}, api.Message{Kind: kind, From: 1, To: n, Digest: d, Batch: bigBatch(n)})
		}
		h := api.Header{Author: n, Round: 1}
		l = append(l, api.Message{Kind: api.AskHeader, From: n, To: 2, Digest: d, Header: h}, api.Message{Kind: api.AskHeader, From: 1, To: n, Digest: d, Header: bigHeader(1, n)})
		l = append(l, api.Message{Kind: api.AskCert, From: 1, To: n, Cert: api.Cert{Header: h, Digest: d, Signers: count(1, quorum)}})
	}
	// A certificate may be another node's, and a batch too.
	for author := 1; author <= n; author++ {
		batch := smallBatch()
		batch.Author = author
		l = append(l, api.Message{Kind: api.AskBatch, From: 2, To: 4, Digest: 77, Batch: batch}, api.Message{Kind: api.GiveBatch, From: 2, To: 4, Digest: 77, Batch: batch})
		cert := api.Cert{Header: bigHeader(author, n), Digest: 77, Signers: count(n-quorum+1, quorum)}
		l = append(l, api.Message{Kind: api.AskCert, From: 2, To: 4, Cert: cert})
		cert.Signers = count(1, n)
		l = append(l, api.Message{Kind: api.AskCert, From: 2, To: 4, Cert: cert})
	}
	for k := quorum; k <= n; k++ {
		h := api.Header{Author: 3, Round: 2, Batches: count(300, k%9), Parents: count(1, k)}
		l = append(l, api.Message{Kind: api.AskHeader, From: 3, To: 4, Digest: k, Header: h}, api.Message{Kind: api.AskCert, From: 3, To: 4, Cert: api.Cert{Header: h, Digest: k, Signers: count(1, k)}})
	}
	for k := 1; k <= 16; k++ {
		for _, kind := range []int{api.WantBatch, api.WantCert} {
			l = append(l, api.Message{Kind: kind, From: n, To: 1, Digests: count(1, k)}, api.Message{Kind: kind, From: 1, To: n, Digests: count(1<<16-k+1, k)}, api.Message{Kind: kind, From: 1, To: 2, Digests: count(251, k)})
		}
	}
	return append(l, api.Message{Kind: api.WantCert, From: 1, To: 2, Digests: []int{1, 256, 1 << 16}})
}

// P7.1 and P7.2: messages are valid, and come back from their bytes, which are no other message's.
func TestThereAndBack(t *testing.T) {
	for _, q := range quorums {
		l := some(q[0], q[1])
		if q[0] == 4 {
			l = append(l, four()...)
		}
		from := map[string]api.Message{}
		for _, m := range l {
			if e := Check(m, q[0]); e != api.OK {
				t.Errorf("Check(%v, %d) is %d", m, q[0], e)
			}
			b, e := Encode(m, q[0])
			if e != api.OK {
				t.Errorf("Encode(%v, %d) is %d", m, q[0], e)
			}
			if x, ok := from[string(b)]; ok && !same(x, m) {
				t.Errorf("%v and %v are %x", x, m, b)
			}
			from[string(b)] = m
			if x, e := Decode(b, q[0]); !same(x, m) || e != api.OK {
				t.Errorf("of %v among %d, Decode(%x) is %v, %d", m, q[0], b, x, e)
			}
		}
	}
}

// P7.1: equal messages have equal encodings, also among other nodes, and whether their empty lists are nil or not.
func TestEqual(t *testing.T) {
	empty := func(m api.Message) api.Message {
		m = copied(m)
		if m.Batch.Txs == nil {
			m.Batch.Txs = []api.Tx{}
		}
		for _, l := range []*[]int{&m.Digests, &m.Header.Batches, &m.Header.Parents, &m.Cert.Signers, &m.Cert.Header.Batches, &m.Cert.Header.Parents} {
			if *l == nil {
				*l = []int{}
			}
		}
		return m
	}
	for _, m := range append(four(), some(4, 3)...) {
		want, _ := Encode(m, 4)
		for _, x := range []api.Message{copied(m), empty(m), plain(m)} {
			if e := Check(x, 4); e != api.OK {
				t.Errorf("Check(%#v, 4) is %d", x, e)
			}
			if b, e := Encode(x, 4); string(b) != string(want) || e != api.OK {
				t.Errorf("Encode(%#v, 4) is %x, %d, not %x", x, b, e, want)
			}
		}
		// Where it is valid among more nodes too, what they are does not go into its bytes.
		for _, n := range []int{7, 10, 13, 16} {
			e := Check(m, n)
			b, f := Encode(m, n)
			x, g := Decode(want, n)
			switch {
			case e != f || e != g:
				t.Errorf("%v among %d is %d, %d, %d", m, n, e, f, g)
			case e == api.OK && (string(b) != string(want) || !same(x, m)):
				t.Errorf("%v among %d is %x, not %x, and back %v", m, n, b, want, x)
			case e != api.OK && (!refused(m, n) || !unread(want, n)):
				t.Errorf("%v among %d is not refused", m, n)
			}
		}
	}
}

// P7.1: among which nodes what a message names is valid, told one by one.
func TestOtherNodes(t *testing.T) {
	for _, c := range []struct {
		m     api.Message
		valid []int
	}{
		{api.Message{Kind: api.TellVote, From: 1, To: 2, Digest: 5}, []int{4, 7, 10, 13, 16}},
		{api.Message{Kind: api.TellVote, From: 1, To: 5, Digest: 5}, []int{7, 10, 13, 16}},
		{api.Message{Kind: api.TellBatch, From: 16, To: 1, Digest: 5}, []int{16}},
		{api.Message{Kind: api.AskBatch, From: 1, To: 2, Digest: 5, Batch: bigBatch(4)}, []int{4, 7, 10, 13, 16}},
		{api.Message{Kind: api.AskBatch, From: 1, To: 2, Digest: 5, Batch: bigBatch(5)}, []int{7, 10, 13, 16}},
		{api.Message{Kind: api.GiveBatch, From: 1, To: 2, Digest: 5, Batch: bigBatch(14)}, []int{16}},
		{api.Message{Kind: api.AskHeader, From: 1, To: 2, Digest: 5, Header: api.Header{Author: 1, Round: 1}}, []int{4, 7, 10, 13, 16}},
		{api.Message{Kind: api.AskHeader, From: 1, To: 2, Digest: 5, Header: api.Header{Author: 1, Round: 2, Parents: count(1, 4)}}, []int{4}},
		{api.Message{Kind: api.AskHeader, From: 1, To: 2, Digest: 5, Header: api.Header{Author: 1, Round: 2, Parents: count(1, 7)}}, []int{7, 10}},
		{api.Message{Kind: api.AskHeader, From: 1, To: 2, Digest: 5, Header: api.Header{Author: 1, Round: 2, Parents: count(1, 1)}}, nil},
		{api.Message{Kind: api.AskCert, From: 1, To: 2, Cert: api.Cert{Header: api.Header{Author: 4, Round: 1}, Digest: 5, Signers: count(1, 5)}}, []int{7}},
		{api.Message{Kind: api.AskCert, From: 1, To: 2, Cert: api.Cert{Header: api.Header{Author: 8, Round: 1}, Digest: 5, Signers: count(1, 10)}}, []int{10, 13}},
		{api.Message{Kind: api.WantCert, From: 13, To: 2, Digests: []int{5}}, []int{13, 16}},
	} {
		for n := -3; n <= 24; n++ {
			want := slices.Contains(c.valid, n)
			if e := Check(c.m, n); (e == api.OK) != want || !want && !refused(c.m, n) {
				t.Errorf("%v among %d: %d", c.m, n, e)
			}
		}
	}
}

// P7.1: who sends and who gets a message are two of the nodes.
func TestFromTo(t *testing.T) {
	others := []int{255, 256, 257, 1<<32 + 1, 1<<32 + 2, -256, math.MinInt, math.MaxInt}
	for _, q := range quorums {
		n := q[0]
		for _, m := range []api.Message{
			{Kind: api.AskBatch, Digest: 1, Batch: smallBatch()}, {Kind: api.TellBatch, Digest: 1}, {Kind: api.GiveBatch, Digest: 1, Batch: smallBatch()}, {Kind: api.AskHeader, Digest: 1}, {Kind: api.TellVote, Digest: 1},
			{Kind: api.AskCert, Cert: api.Cert{Header: api.Header{Author: 1, Round: 1}, Digest: 1, Signers: count(1, n)}}, {Kind: api.WantBatch, Digests: []int{1}}, {Kind: api.WantCert, Digests: []int{1}},
		} {
			for _, m.From = range append(count(-2, 22), others...) {
				for _, m.To = range append(count(-2, 22), others...) {
					if m.Kind == api.AskHeader {
						m.Header = api.Header{Author: m.From, Round: 1}
					}
					want := m.From >= 1 && m.From <= n && m.To >= 1 && m.To <= n && m.From != m.To
					b, e := Encode(m, n)
					if want && (e != api.OK || len(b) == 0 || Check(m, n) != api.OK) || !want && !refused(m, n) {
						t.Errorf("kind %d from %d to %d among %d: %x, %d", m.Kind, m.From, m.To, n, b, e)
					}
				}
			}
		}
	}
}

// P7.1: there are no messages among a number of nodes that may not be, and none where there is nobody to send to.
func TestNotNodes(t *testing.T) {
	l := append(four(), some(16, 11)...)
	for _, from := range []int{0, 1, 2} {
		for _, to := range []int{0, 1, 2} {
			l = append(l, api.Message{Kind: api.TellVote, From: from, To: to, Digest: 1}, api.Message{Kind: api.WantCert, From: from, To: to, Digests: []int{1}})
		}
	}
	for _, m := range l {
		b, e := Encode(m, 4)
		if e != api.OK {
			b, _ = Encode(m, 16)
		}
		for _, n := range append([]int{1}, notNodes...) {
			if !refused(m, n) {
				t.Errorf("%v among %d is not refused", m, n)
			}
			if !unread(b, n) {
				t.Errorf("%x among %d is not refused", b, n)
			}
		}
	}
}

// P7.1: a message is of one of the kinds, and of no other by what it has.
func TestKinds(t *testing.T) {
	for _, kind := range append(count(-3, 20), 255, 256, 257, 260, 1<<32+1, 1<<32+5, -255, math.MinInt, math.MaxInt) {
		for _, m := range four() {
			was := m.Kind
			m.Kind = kind
			// Besides its own kind, a message has another one's form where both name the same.
			want := kind == was
			for _, pair := range [][2]int{{api.AskBatch, api.GiveBatch}, {api.TellBatch, api.TellVote}, {api.WantBatch, api.WantCert}} {
				want = want || pair == [2]int{was, kind} || pair == [2]int{kind, was}
			}
			if e := Check(m, 4); (e == api.OK) != want || !want && !refused(m, 4) {
				t.Errorf("%v: %d", m, e)
			}
		}
		if !refused(api.Message{Kind: kind}, 4) || !refused(api.Message{Kind: kind, From: 1, To: 2}, 4) {
			t.Errorf("kind %d, and nothing else, is not refused", kind)
		}
	}
}

// fields are what a message may name, each with ways of having something there.
func fields() [][]func(m *api.Message) {
	return [][]func(m *api.Message){
		{func(m *api.Message) { m.Digest = 1 }, func(m *api.Message) { m.Digest = 8 }, func(m *api.Message) { m.Digest = -1 }, func(m *api.Message) { m.Digest = math.MinInt }},
		{
			func(m *api.Message) { m.Batch = smallBatch() }, func(m *api.Message) { m.Batch.Author = 1 }, func(m *api.Message) { m.Batch.Author = -1 },
			func(m *api.Message) { m.Batch.N = 1 }, func(m *api.Message) { m.Batch.N = -1 }, func(m *api.Message) { m.Batch.Txs = []api.Tx{{}} }, func(m *api.Message) { m.Batch.Txs = smallBatch().Txs },
		},
		{
			func(m *api.Message) { m.Header = bigHeader(m.From, 4) }, func(m *api.Message) { m.Header.Author = m.From }, func(m *api.Message) { m.Header.Author = -1 }, func(m *api.Message) { m.Header.Round = 1 },
			func(m *api.Message) { m.Header.Round = -1 }, func(m *api.Message) { m.Header.Batches = []int{0} }, func(m *api.Message) { m.Header.Parents = []int{0} },
		},
		{
			func(m *api.Message) { m.Cert = four()[5].Cert }, func(m *api.Message) { m.Cert.Digest = 1 }, func(m *api.Message) { m.Cert.Digest = -1 }, func(m *api.Message) { m.Cert.Signers = []int{0} },
			func(m *api.Message) { m.Cert.Signers = []int{1, 2, 3} }, func(m *api.Message) { m.Cert.Header = bigHeader(1, 4) }, func(m *api.Message) { m.Cert.Header.Author = 1 },
			func(m *api.Message) { m.Cert.Header.Round = 1 }, func(m *api.Message) { m.Cert.Header.Batches = []int{0} }, func(m *api.Message) { m.Cert.Header.Parents = []int{0} },
		},
		{func(m *api.Message) { m.Digests = []int{0} }, func(m *api.Message) { m.Digests = []int{1} }, func(m *api.Message) { m.Digests = count(1, 17) }},
	}
}

// clears empty the fields, in the order of fields.
func clears() []func(m *api.Message) {
	return []func(m *api.Message){
		func(m *api.Message) { m.Digest = 0 }, func(m *api.Message) { m.Batch = api.Batch{} }, func(m *api.Message) { m.Header = api.Header{} },
		func(m *api.Message) { m.Cert = api.Cert{} }, func(m *api.Message) { m.Digests = nil },
	}
}

// P7.1: a message has all that its kind names, and nothing beside.
func TestFields(t *testing.T) {
	// By kind less one, which of the fields it names.
	named := [][]int{api.AskBatch - 1: {0, 1}, api.TellBatch - 1: {0}, api.GiveBatch - 1: {0, 1}, api.AskHeader - 1: {0, 2}, api.TellVote - 1: {0}, api.AskCert - 1: {3}, api.WantBatch - 1: {4}, api.WantCert - 1: {4}}
	for _, good := range four() {
		for at := range fields() {
			if slices.Contains(named[good.Kind-1], at) {
				m := copied(good)
				clears()[at](&m)
				if !refused(m, 4) {
					t.Errorf("%v is not refused, without field %d", m, at)
				}
				continue
			}
			for _, set := range fields()[at] {
				m := copied(good)
				set(&m)
				if !refused(m, 4) {
					t.Errorf("%v is not refused, with field %d", m, at)
				}
			}
		}
	}
}

// P7.1: what is no digest is refused wherever a digest may be.
func TestDigests(t *testing.T) {
	var changes []func(m *api.Message, d int)
	for k := range 4 {
		changes = append(changes,
			func(m *api.Message, d int) { m.Digests = count(2, 4); m.Digests[k] = d },
			func(m *api.Message, d int) { m.Header.Parents = count(2, 4); m.Header.Parents[k] = d },
			func(m *api.Message, d int) { m.Header.Batches = count(2, 4); m.Header.Batches[k] = d },
			func(m *api.Message, d int) { m.Cert.Header.Parents = count(2, 4); m.Cert.Header.Parents[k] = d },
			func(m *api.Message, d int) { m.Cert.Header.Batches = count(2, 4); m.Cert.Header.Batches[k] = d })
	}
	changes = append(changes, func(m *api.Message, d int) { m.Digest = d }, func(m *api.Message, d int) { m.Cert.Digest = d }, func(m *api.Message, d int) { m.Digests = []int{d} })
	for _, d := range notDigests {
		for _, good := range four() {
			for i, change := range changes {
				m := copied(good)
				change(&m, d)
				if !same(m, good) && !refused(m, 4) {
					t.Errorf("%v is not refused, by change %d to %d", m, i, d)
				}
			}
		}
	}
}

// P7.1: how many digests may be wanted, and in which order.
func TestWants(t *testing.T) {
	for _, kind := range []int{api.WantBatch, api.WantCert} {
		for _, k := range []int{0, 1, 2, 15, 16, 17, 18, 32, 255, 256, 257, 272, 1 << 16} {
			m := api.Message{Kind: kind, From: 1, To: 2, Digests: count(1, k)}
			if e := Check(m, 4); (e == api.OK) != (k >= 1 && k <= 16) || e != api.OK && !refused(m, 4) {
				t.Errorf("of %d digests: %d", k, e)
			}
		}
		for _, l := range [][]int{
			{1, 1}, {2, 1}, {1 << 16, 1}, {1, 2, 2}, {1, 1, 2}, {1, 3, 2}, {2, 1, 3}, {3, 2, 1}, {1, 2, 1}, slices.Repeat([]int{5}, 16),
			append(count(1, 15), 15), append(count(1, 15), 1), append([]int{2}, count(2, 15)...),
		} {
			if m := (api.Message{Kind: kind, From: 1, To: 2, Digests: l}); !refused(m, 4) {
				t.Errorf("%v is not refused", l)
			}
		}
	}
}

// P7.1: a message whose batch, header or certificate is not valid among the nodes is not valid either.
func TestWrongWithin(t *testing.T) {
	var l []api.Message
	change := func(at int, f func(m *api.Message)) {
		m := copied(four()[at])
		f(&m)
		l = append(l, m)
	}
	for _, at := range []int{0, 2} {
		for _, n := range []int{0, -1, 5, 16, 17, 1<<32 + 1, math.MinInt, math.MaxInt} {
			change(at, func(m *api.Message) { m.Batch.Author = n })
		}
		for _, n := range []int{0, -1, 1<<40 + 1, math.MinInt, math.MaxInt} {
			change(at, func(m *api.Message) { m.Batch.N = n })
			change(at, func(m *api.Message) { m.Batch.Txs[0].Sender = n })
			change(at, func(m *api.Message) { m.Batch.Txs[0].Seq = n })
		}
		change(at, func(m *api.Message) { m.Batch.Txs = nil })
		change(at, func(m *api.Message) { m.Batch.Txs = slices.Repeat(m.Batch.Txs, 9) })
		change(at, func(m *api.Message) { m.Batch.Txs[0].Key = "" })
		change(at, func(m *api.Message) { m.Batch.Txs[0].Key = strings.Repeat("k", 17) })
		change(at, func(m *api.Message) { m.Batch.Txs[0].Val = strings.Repeat("v", 33) })
	}
	heads := func(at int, of func(m *api.Message) *api.Header) {
		for _, n := range []int{0, -1, 5, 16, 1<<32 + 1, math.MinInt, math.MaxInt} {
			change(at, func(m *api.Message) { of(m).Author = n })
		}
		for _, n := range []int{0, 1, -1, 1<<40 + 1, math.MinInt, math.MaxInt} {
			change(at, func(m *api.Message) { of(m).Round = n })
		}
		for _, x := range [][]int{nil, {1, 2}, count(1, 5), {1, 1, 2}, {1, 3, 2}} {
			change(at, func(m *api.Message) { of(m).Parents = x })
		}
		for _, x := range [][]int{count(1, 9), {1, 1}, {2, 1}} {
			change(at, func(m *api.Message) { of(m).Batches = x })
		}
	}
	heads(3, func(m *api.Message) *api.Header { return &m.Header })
	heads(5, func(m *api.Message) *api.Header { return &m.Cert.Header })
	// A header is its sender's own, though there are other nodes.
	for _, n := range []int{2, 3, 4} {
		change(3, func(m *api.Message) { m.Header.Author = n })
	}
	for _, x := range [][]int{nil, {1}, {1, 2}, {1, 1, 2}, {1, 2, 2}, {2, 1, 3}, {0, 1, 2}, {0, 1, 2, 3}, {2, 3, 5}, {1, 2, 3, 4, 5}, {1, 2, 3, 4, 4}, {1, 2, 3, 260}, {1, 2, 259}, count(1, 256), count(1, 300)} {
		change(5, func(m *api.Message) { m.Cert.Signers = x })
	}
	for i, m := range l {
		if !refused(m, 4) {
			t.Errorf("change %d: %v is not refused", i, m)
		}
	}
}

// P7.1: Decode refuses each beginning of an encoding, and whatever has bytes behind or ahead.
func TestDecodeLength(t *testing.T) {
	for _, m := range append(four(), some(4, 3)...) {
		b, _ := Encode(m, 4)
		for k := range b {
			if !unread(b[:k], 4) {
				t.Errorf("of %v, Decode takes %x", m, b[:k])
			}
		}
		for c := range 256 {
			if !unread(append(slices.Clone(b), byte(c)), 4) {
				t.Errorf("Decode takes %x with %d behind", b, c)
			}
		}
		for _, x := range [][]byte{append(slices.Clone(b), b...), append(slices.Clone(b), 0, 0, 0), append(slices.Clone(b), 0, 0, 1), append([]byte{0}, b...), append([]byte{255}, b...)} {
			if !unread(x, 4) {
				t.Errorf("Decode takes %x", x)
			}
		}
	}
}

// P7.1 and P7.2: of bytes that are changed at one place Decode takes none but such as Encode makes.
func TestDecodeChanged(t *testing.T) {
	l := append(four(), api.Message{Kind: api.WantCert, From: 4, To: 1, Digests: count(250, 16)}, api.Message{Kind: api.AskBatch, From: 4, To: 1, Digest: 255, Batch: bigBatch(4)})
	for _, m := range l {
		b, _ := Encode(m, 4)
		for k := range b {
			for c := range 256 {
				x := slices.Clone(b)
				x[k] = byte(c)
				if p, _ := Decode(x, 4); !isOwn(x, 4) || c != int(b[k]) && same(p, m) {
					t.Errorf("Decode(%x) is %v", x, p)
				}
			}
		}
	}
}

// P7.1: Decode refuses what is not the result of Encode: all that is short, and much that is long.
func TestDecodeOther(t *testing.T) {
	if !unread(nil, 4) {
		t.Errorf("Decode takes nothing")
	}
	for a := range 256 {
		for b := range 256 {
			if !unread([]byte{byte(a)}, 4) || !unread([]byte{byte(a), byte(b)}, 4) || !unread([]byte{byte(a), byte(b), 1}, 4) || !unread([]byte{1, byte(a), byte(b)}, 4) {
				t.Errorf("Decode takes bytes of %d and %d", a, b)
			}
		}
	}
	heads := []string{""}
	for kind := range 11 {
		heads = append(heads, string([]byte{byte(kind), 1, 2}))
	}
	for _, head := range heads {
		for _, c := range []string{"\x00", "\x01", "\x10", "\x7f", "\x80", "\xff"} {
			for _, k := range []int{0, 1, 2, 3, 4, 5, 7, 16, 49, 300, 766, 1 << 16, 3 << 20} {
				b := []byte(head + strings.Repeat(c, k))
				if !isOwn(b, 4) {
					t.Errorf("Decode takes %d bytes of %x behind %x", k, c, head)
				}
			}
		}
	}
}

// isOwn reports whether Decode refuses b among n nodes, or takes it for a message of which these are the bytes.
func isOwn(b []byte, n int) bool {
	m, e := Decode(b, n)
	if e != api.OK {
		return unread(b, n)
	}
	x, f := Encode(m, n)
	return string(x) == string(b) && f == api.OK && Check(m, n) == api.OK
}

// P7.2: what Decode takes, among whatever nodes, is a message with these bytes: of pieces of encodings, put together.
func TestPieces(t *testing.T) {
	var l [][]byte
	for _, q := range quorums {
		for i, m := range some(q[0], q[1]) {
			if i%7 == 0 {
				b, _ := Encode(m, q[0])
				l = append(l, b)
			}
		}
	}
	for _, m := range four() {
		b, _ := Encode(m, 4)
		for j := range min(len(b), 40) {
			for _, a := range l {
				for k := range min(len(a), 12) {
					if x := append(slices.Clone(a[:k]), b[j:]...); !isOwn(x, 4) || !isOwn(x, 7) || !isOwn(x, 16) {
						t.Errorf("Decode takes %x", x)
					}
				}
			}
		}
	}
}

// R2: arguments are left as they are, and results share nothing with them or with each other.
func TestNothingShared(t *testing.T) {
	for i, m := range four() {
		Check(m, 4)
		b, _ := Encode(m, 4)
		if !reflect.DeepEqual(m, four()[i]) {
			t.Errorf("the message became %v", m)
		}
		want := string(b)
		c, _ := Encode(m, 4)
		p, _ := Decode(b, 4)
		q, _ := Decode(b, 4)
		if string(b) != want {
			t.Errorf("the bytes became %x, not %x", b, want)
		}
		clear(b[:cap(b)])
		wipe(&m)
		if string(c) != want || !same(p, four()[i]) {
			t.Errorf("the other bytes became %x, the message from them %v", c, p)
		}
		wipe(&p)
		if !same(q, four()[i]) {
			t.Errorf("the other message became %v", q)
		}
		if x, e := Encode(q, 4); string(x) != want || e != api.OK {
			t.Errorf("the bytes are now %x, %d", x, e)
		}
	}
}

// R2: no two lists of one message that is read share any memory, not even by their spare room.
func TestListsApart(t *testing.T) {
	for i, m := range four() {
		b, _ := Encode(m, 4)
		p, _ := Decode(b, 4)
		lists := []*[]int{&p.Digests, &p.Header.Batches, &p.Header.Parents, &p.Cert.Signers, &p.Cert.Header.Batches, &p.Cert.Header.Parents}
		for _, l := range lists {
			was := slices.Clone(*l)
			clear((*l)[:cap(*l)])
			copy(*l, was)
		}
		if !same(p, four()[i]) {
			t.Errorf("the message became %v", p)
		}
	}
}

// wipe writes zeros over all lists of a message, and over the room behind them.
func wipe(m *api.Message) {
	clear(m.Batch.Txs[:cap(m.Batch.Txs)])
	for _, l := range [][]int{m.Digests, m.Header.Batches, m.Header.Parents, m.Cert.Signers, m.Cert.Header.Batches, m.Cert.Header.Parents} {
		clear(l[:cap(l)])
	}
}
