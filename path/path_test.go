package path

import (
	"fmt"
	"math"
	"slices"
	"testing"

	"drover/api"
	"drover/committee"
	"drover/dag"
)

// count lists n numbers from first on.
func count(first, n int) []int {
	l := make([]int, n)
	for i := range l {
		l[i] = first + i
	}
	return l
}

// odd lists numbers that are neither digests nor rounds.
func odd() []int {
	return []int{0, -1, -2, -11, 1<<40 + 1, 1 << 41, 11 + 1<<32, 11 - 1<<32, math.MaxInt, math.MaxInt - 1, math.MinInt, math.MinInt + 1}
}

// cert is one of 4 nodes; its digest is 10 times its round, and its author.
func cert(round, author int, parents ...int) api.Cert {
	return api.Cert{
		Header:  api.Header{Author: author, Round: round, Batches: []int{author, 100 + round%100}, Parents: parents},
		Digest:  10*round + author,
		Signers: []int{1, 2, 3},
	}
}

// good is a DAG from round 1 on, where no certificate of round 3 but 34 is named, and 14 by 24 alone.
func good() api.Dag {
	return api.Dag{Nodes: 4, Certs: []api.Cert{
		cert(1, 1), cert(1, 2), cert(1, 3), cert(1, 4),
		cert(2, 1, 11, 12, 13), cert(2, 2, 11, 12, 13), cert(2, 3, 11, 12, 13), cert(2, 4, 12, 13, 14),
		cert(3, 1, 21, 22, 23), cert(3, 2, 21, 22, 23), cert(3, 3, 21, 22, 23), cert(3, 4, 22, 23, 24),
		cert(4, 1, 31, 32, 33), cert(4, 4, 31, 32, 34),
	}}
}

// trimmed is a DAG above round 1, where what the certificates of round 2 name stands elsewhere in it: in their round, and above it.
func trimmed() api.Dag {
	return api.Dag{Nodes: 4, Low: 1, Certs: []api.Cert{
		cert(2, 1, 22, 31, 41), cert(2, 2, 1, 2, 3), cert(2, 3, 21, 22, 24), cert(2, 4, 21, 22, 23),
		cert(3, 1, 21, 22, 23), cert(3, 2, 22, 23, 24), cert(3, 3, 21, 23, 24),
		cert(4, 1, 31, 32, 33),
	}}
}

// ends is a DAG of the last two rounds, with the first digest and the last one.
func ends() api.Dag {
	l := []api.Cert{
		cert(api.MaxRound-1, 1, 7, 8, 9), cert(api.MaxRound-1, 2, 7, 8, 9), cert(api.MaxRound-1, 4, 1, 2, 3),
		cert(api.MaxRound, 3, 1, 2, api.MaxBook), cert(api.MaxRound, 4, 1, 2, api.MaxBook),
	}
	for i, digest := range []int{2, api.MaxBook, 1, 4, 3} {
		l[i].Digest = digest
	}
	return api.Dag{Nodes: 4, Low: api.MaxRound - 2, Certs: l}
}

// full is a DAG of all the digests that there are: 16 nodes in each of 4096 rounds, the largest digest first.
func full() api.Dag {
	d := api.Dag{Nodes: 16}
	for k := range api.MaxBook {
		c := api.Cert{Header: api.Header{Author: k%16 + 1, Round: k/16 + 1}, Digest: api.MaxBook - k, Signers: count(6, 11)}
		if k >= 16 {
			c.Header.Parents = count(api.MaxBook-k/16*16+1, 16)
		}
		d.Certs = append(d.Certs, c)
	}
	return d
}

// below asks whether Below answers want.
func below(t *testing.T, d api.Dag, a, low int, want []int) {
	t.Helper()
	l, e := Below(d, a, low)
	if e != api.OK || !slices.Equal(l, want) {
		t.Errorf("Below of %d above %d is %d, %v, not %v", a, low, e, l, want)
	}
}

// reach asks whether Reach answers want.
func reach(t *testing.T, d api.Dag, a, b int, want bool) {
	t.Helper()
	yes, e := Reach(d, a, b)
	if e != api.OK || yes != want {
		t.Errorf("Reach of %d and %d is %d, %v", a, b, e, yes)
	}
}

// refused asks whether both calls are refused with want and nothing beside.
func refused(t *testing.T, d api.Dag, a, b, low int, want api.Errno) {
	t.Helper()
	if yes, e := Reach(d, a, b); e != want || yes {
		t.Errorf("Reach of %d and %d is %d, %v", a, b, e, yes)
	}
	if l, e := Below(d, a, low); e != want || len(l) > 0 {
		t.Errorf("Below of %d above %d is %d, %v", a, low, e, l)
	}
}

// P15.1: Below lists what is reached, by its places.
func TestBelow(t *testing.T) {
	for _, c := range []struct {
		a, low int
		want   []int
	}{
		{11, 0, []int{11}},
		{14, 0, []int{14}},
		{21, 0, []int{11, 12, 13, 21}},
		{24, 0, []int{12, 13, 14, 24}},
		{31, 0, []int{11, 12, 13, 21, 22, 23, 31}},
		{34, 0, []int{11, 12, 13, 14, 22, 23, 24, 34}},
		{41, 0, []int{11, 12, 13, 21, 22, 23, 31, 32, 33, 41}},
		{44, 0, []int{11, 12, 13, 14, 21, 22, 23, 24, 31, 32, 34, 44}},
		{44, -1, []int{11, 12, 13, 14, 21, 22, 23, 24, 31, 32, 34, 44}},
		{44, math.MinInt, []int{11, 12, 13, 14, 21, 22, 23, 24, 31, 32, 34, 44}},
		{44, 1, []int{21, 22, 23, 24, 31, 32, 34, 44}},
		{44, 2, []int{31, 32, 34, 44}},
		{44, 3, []int{44}},
		{44, 4, nil},
		{44, 5, nil},
		{44, api.MaxRound, nil},
		{44, math.MaxInt, nil},
		{11, 1, nil},
		{11, math.MinInt, []int{11}},
		{24, 1, []int{24}},
		{24, 2, nil},
	} {
		below(t, good(), c.a, c.low, c.want)
	}
	// Places, not digests, give the order.
	for _, low := range append(odd()[:3], api.MaxRound-2, api.MaxRound-3) {
		below(t, ends(), 3, low, []int{2, api.MaxBook, 1, 3})
	}
	below(t, ends(), 3, api.MaxRound-1, []int{3})
	below(t, ends(), 3, api.MaxRound, nil)
	below(t, ends(), 1, 0, []int{1})
}

// P15.1: the chapter's example, also in the smallest DAG.
func TestItself(t *testing.T) {
	alone := api.Dag{Nodes: 1, Certs: []api.Cert{{Header: api.Header{Author: 1, Round: 1}, Digest: 11, Signers: []int{1}}}}
	below(t, alone, 11, 0, []int{11})
	for _, d := range []api.Dag{alone, good(), trimmed(), ends()} {
		for _, c := range d.Certs {
			reach(t, d, c.Digest, c.Digest, true)
			below(t, d, c.Digest, c.Header.Round-1, []int{c.Digest})
			below(t, d, c.Digest, c.Header.Round, nil)
		}
	}
}

// P15.1: Reach knows what lies below, and nothing beside, above or in the same round.
func TestReach(t *testing.T) {
	d := good()
	for _, c := range []struct {
		a, b int
		want bool
	}{
		{21, 11, true}, {21, 13, true}, {21, 14, false}, {24, 14, true}, {24, 11, false},
		{31, 14, false}, {34, 14, true}, {31, 24, false}, {34, 21, false}, {34, 11, true},
		{41, 34, false}, {41, 14, false}, {41, 24, false}, {41, 33, true}, {41, 11, true},
		{44, 14, true}, {44, 33, false}, {44, 34, true}, {44, 21, true},
		{11, 12, false}, {12, 11, false}, {11, 21, false}, {11, 41, false}, {31, 41, false}, {41, 44, false}, {44, 41, false}, {24, 34, false},
	} {
		reach(t, d, c.a, c.b, c.want)
	}
	d = ends()
	for _, c := range d.Certs {
		reach(t, d, 3, c.Digest, c.Digest != 4)
		reach(t, d, 1, c.Digest, c.Digest == 1)
	}
}

// P15.1: what a certificate of round Low + 1 names doesn't count, wherever it stands.
func TestAboveLow(t *testing.T) {
	d := trimmed()
	for _, low := range []int{math.MinInt, 0, 1} {
		for author := 1; author <= 4; author++ {
			below(t, d, 20+author, low, []int{20 + author})
		}
		below(t, d, 31, low, []int{21, 22, 23, 31})
		below(t, d, 32, low, []int{22, 23, 24, 32})
		below(t, d, 33, low, []int{21, 23, 24, 33})
		below(t, d, 41, low, []int{21, 22, 23, 24, 31, 32, 33, 41})
	}
	below(t, d, 41, 2, []int{31, 32, 33, 41})
	for _, a := range d.Certs {
		for _, b := range d.Certs[:4] {
			c := a.Header.Round == 2 && a.Digest == b.Digest || a.Header.Round == 3 && slices.Contains(a.Header.Parents, b.Digest) || a.Header.Round == 4
			reach(t, d, a.Digest, b.Digest, c)
		}
		for _, b := range d.Certs[4:] {
			reach(t, d, a.Digest, b.Digest, a.Digest == b.Digest || a.Digest == 41)
		}
	}
}

// P15.1: what is no certificate's digest here is ErrNone.
func TestNone(t *testing.T) {
	for _, d := range []api.Dag{good(), trimmed(), ends(), {Nodes: 4}, {Nodes: 4, Low: api.MaxRound}} {
		there := map[int]int{}
		for _, c := range d.Certs {
			there[c.Digest] = 1
		}
		for _, x := range slices.Concat(odd(), count(1, 60), []int{api.MaxBook - 1, api.MaxBook, api.MaxBook + 1}) {
			if there[x] > 0 {
				continue
			}
			refused(t, d, x, x, 0, api.ErrNone)
			for _, c := range d.Certs {
				refused(t, d, x, c.Digest, math.MaxInt, api.ErrNone)
				if yes, e := Reach(d, c.Digest, x); e != api.ErrNone || yes {
					t.Errorf("Reach of %d and %d is %d, %v", c.Digest, x, e, yes)
				}
			}
		}
	}
}

// P15.1: a DAG that is not valid is ErrForm, ahead of what isn't there.
func TestBadDags(t *testing.T) {
	for i, change := range []func(d *api.Dag){
		func(d *api.Dag) { *d = api.Dag{} },
		func(d *api.Dag) { d.Nodes = 0 },
		func(d *api.Dag) { d.Nodes = 5 },
		func(d *api.Dag) { d.Nodes = 7 },
		func(d *api.Dag) { d.Low = -1 },
		func(d *api.Dag) { d.Low = 1 },
		func(d *api.Dag) { d.Low = api.MaxRound + 1 },
		func(d *api.Dag) { d.Certs[0], d.Certs[1] = d.Certs[1], d.Certs[0] },
		func(d *api.Dag) { d.Certs[13] = d.Certs[12] },
		func(d *api.Dag) { d.Certs[13].Digest = 11 },
		func(d *api.Dag) { d.Certs[13].Digest = 0 },
		func(d *api.Dag) { d.Certs[13].Digest = api.MaxBook + 1 },
		func(d *api.Dag) { d.Certs[13].Signers = []int{1, 2} },
		func(d *api.Dag) { d.Certs[13].Header.Author = 5 },
		func(d *api.Dag) { d.Certs[13].Header.Round = 5 },
		func(d *api.Dag) { d.Certs[0].Header.Parents = []int{1, 2, 3} },
		func(d *api.Dag) { d.Certs[4].Header.Parents = nil },
		func(d *api.Dag) { d.Certs[4].Header.Parents = []int{11, 12, 15} },
		func(d *api.Dag) { d.Certs[4].Header.Parents = []int{13, 12, 11} },
		func(d *api.Dag) { d.Certs[12].Header.Parents = []int{11, 12, 13} },
		func(d *api.Dag) { d.Certs[12].Header.Parents = []int{31, 32, 44} },
		func(d *api.Dag) { d.Certs = slices.Delete(d.Certs, 1, 2) },
		func(d *api.Dag) { d.Certs = slices.Delete(d.Certs, 4, 8) },
		func(d *api.Dag) { d.Certs = append(d.Certs, cert(4, 4, 31, 32, 33)) },
	} {
		d := good()
		change(&d)
		if dag.Check(d) != api.ErrForm {
			t.Fatalf("%d is valid", i)
		}
		for _, a := range append(odd(), 11, 31, 44, 99) {
			for _, b := range []int{0, 11, 44, 99} {
				refused(t, d, a, b, 0, api.ErrForm)
			}
		}
	}
	// Too long, whatever else.
	d := full()
	d.Certs = append(d.Certs, d.Certs[api.MaxBook-1])
	d.Certs[api.MaxBook].Header.Round++
	refused(t, d, 1, 1, 0, api.ErrForm)
}

// dice is numbers in a row that looks mixed, the same each time.
type dice uint64

// roll is one below n.
func (s *dice) roll(n int) int {
	*s = *s*6364136223846793005 + 1442695040888963407
	return int(uint64(*s)>>33) % n
}

// some is k of l, in their order, mixed.
func (s *dice) some(l []int, k int) []int {
	l = slices.Clone(l)
	for len(l) > k {
		at := s.roll(len(l))
		l = slices.Delete(l, at, at+1)
	}
	return l
}

// grown is a DAG of some rounds above low among n nodes, mixed. What is of round low + 1 names any of its digests.
func (s *dice) grown(n, low, rounds int) api.Dag {
	quorum, _ := committee.Quorum(n)
	free := count(1, n*rounds+n)
	var previous []int
	d := api.Dag{Nodes: n, Low: low}
	for round := low + 1; round <= low+rounds; round++ {
		var now []int
		for _, author := range s.some(count(1, n), quorum+s.roll(n-quorum+1)) {
			c := api.Cert{Header: api.Header{Author: author, Round: round}, Signers: s.some(count(1, n), quorum)}
			if round > low+1 {
				c.Header.Parents = s.some(previous, quorum+s.roll(len(previous)-quorum+1))
			} else if round > 1 {
				c.Header.Parents = s.some(count(1, n*rounds+n), quorum+s.roll(n-quorum+1))
			}
			at := s.roll(len(free))
			c.Digest = free[at]
			free = slices.Delete(free, at, at+1)
			now = append(now, c.Digest)
			d.Certs = append(d.Certs, c)
		}
		slices.Sort(now)
		previous = now
	}
	return d
}

// closure is, for each two indexes of certificates, whether the first one reaches the second, by the definition's words.
func closure(d api.Dag) [][]bool {
	var l [][]bool
	for i := range d.Certs {
		row := make([]bool, len(d.Certs))
		row[i] = true
		for more := true; more; {
			more = false
			for k, c := range d.Certs {
				if !row[k] || c.Header.Round <= d.Low+1 {
					continue
				}
				for j, p := range d.Certs {
					if !row[j] && slices.Contains(c.Header.Parents, p.Digest) {
						row[j], more = true, true
					}
				}
			}
		}
		l = append(l, row)
	}
	return l
}

// P15.1: in mixed DAGs of all sizes both calls answer what the definition's words give.
func TestMixed(t *testing.T) {
	s := dice(5)
	yes, no := 0, 0
	for _, n := range []int{1, 4, 7, 10, 13, 16} {
		for _, low := range []int{0, 1, 6, api.MaxRound - 4} {
			d := s.grown(n, low, 4)
			if dag.Check(d) != api.OK {
				t.Fatalf("among %d above %d: %+v", n, low, d)
			}
			for i, row := range closure(d) {
				a := d.Certs[i].Digest
				for above := low - 1; above <= low+5; above++ {
					var want []int
					for k, c := range d.Certs {
						if row[k] && c.Header.Round > above {
							want = append(want, c.Digest)
						}
					}
					below(t, d, a, above, want)
				}
				for k, c := range d.Certs {
					reach(t, d, a, c.Digest, row[k])
					if row[k] {
						yes++
					} else if c.Header.Round < d.Certs[i].Header.Round {
						no++
					}
				}
			}
		}
	}
	if yes < 1000 || no < 100 {
		t.Errorf("%d are reached, %d aren't", yes, no)
	}
}

// P15.2: what reaches one that reaches a third reaches the third.
func TestTransitive(t *testing.T) {
	s := dice(6)
	for _, d := range []api.Dag{good(), trimmed(), ends(), s.grown(4, 0, 6), s.grown(4, 3, 6), s.grown(7, 0, 4)} {
		is := map[[2]int]int{}
		for _, a := range d.Certs {
			for _, b := range d.Certs {
				if yes, e := Reach(d, a.Digest, b.Digest); e != api.OK {
					t.Fatalf("Reach is %d", e)
				} else if yes {
					is[[2]int{a.Digest, b.Digest}] = 1
				}
			}
		}
		for ab := range is {
			for bc := range is {
				if ab[1] == bc[0] && is[[2]int{ab[0], bc[1]}] == 0 {
					t.Errorf("%v, %v", ab, bc)
				}
			}
		}
	}
}

// P15.1: the longest DAG and the highest one.
func TestFull(t *testing.T) {
	d := full()
	all := make([]int, 0, api.MaxBook)
	for k := range api.MaxBook - 16 {
		all = append(all, api.MaxBook-k)
	}
	below(t, d, 7, 0, append(slices.Clone(all), 7))
	below(t, d, 7, -5, append(slices.Clone(all), 7))
	below(t, d, 7, 4095, []int{7})
	below(t, d, 7, 4000, append(slices.Clone(all[16*4000:]), 7))
	below(t, d, api.MaxBook, 0, []int{api.MaxBook})
	reach(t, d, 1, api.MaxBook, true)
	reach(t, d, 1, 16, false)
	reach(t, d, 16, 1, false)
	reach(t, d, 16, 17, true)
	reach(t, d, api.MaxBook, 1, false)
	refused(t, d, api.MaxBook+1, 1, 0, api.ErrNone)
	// One node alone has as many rounds as there are digests.
	high := api.Dag{Nodes: 1, Low: 9}
	for k := range api.MaxBook {
		high.Certs = append(high.Certs, api.Cert{Header: api.Header{Author: 1, Round: 10 + k, Parents: []int{max(k, 1)}}, Digest: k + 1, Signers: []int{1}})
	}
	below(t, high, api.MaxBook, 0, count(1, api.MaxBook))
	below(t, high, 1, 0, []int{1})
	reach(t, high, api.MaxBook, 1, true)
	reach(t, high, 1, api.MaxBook, false)
}

// roomy gives all lists of d spare capacity.
func roomy(d api.Dag) api.Dag {
	d.Certs = append(make([]api.Cert, 0, 64), d.Certs...)
	for k := range d.Certs {
		c := &d.Certs[k]
		c.Header.Batches = append(make([]int, 0, 32), c.Header.Batches...)
		c.Header.Parents = append(make([]int, 0, 32), c.Header.Parents...)
		c.Signers = append(make([]int, 0, 32), c.Signers...)
	}
	return d
}

// whole is all that d holds, with its lists' spare capacity.
func whole(d api.Dag) string {
	s := fmt.Sprint(d.Nodes, d.Low, len(d.Certs))
	for _, c := range d.Certs[:cap(d.Certs)] {
		h := c.Header
		s += fmt.Sprint(c, h.Batches[:cap(h.Batches)], h.Parents[:cap(h.Parents)], c.Signers[:cap(c.Signers)])
	}
	return s
}

// R2: no call changes the DAG, and what is written into an answer changes neither the DAG nor another answer.
func TestNothingShared(t *testing.T) {
	for _, d := range []api.Dag{good(), trimmed(), ends()} {
		d = roomy(d)
		was := whole(d)
		for _, c := range d.Certs {
			first, _ := Below(d, c.Digest, 0)
			want := slices.Clone(first)
			second, _ := Below(d, c.Digest, 0)
			Reach(d, c.Digest, d.Certs[0].Digest)
			second = second[:cap(second)]
			for k := range second {
				second[k] = -1
			}
			if !slices.Equal(first, want) {
				t.Errorf("%v, not %v", first, want)
			}
			below(t, d, c.Digest, 0, want)
		}
		if now := whole(d); now != was {
			t.Errorf("changed to %s", now)
		}
	}
}

// R1: equal calls have equal answers, whatever was asked between them.
func TestEqualCalls(t *testing.T) {
	d := good()
	first, _ := Below(d, 44, 0)
	for _, other := range []api.Dag{trimmed(), ends(), {}} {
		Below(other, 41, 0)
		Reach(other, 3, 1)
		Below(other, 0, 0)
		below(t, d, 44, 0, first)
		reach(t, d, 44, 14, true)
		reach(t, d, 41, 14, false)
	}
}
