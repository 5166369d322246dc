package order

import (
	"fmt"
	"math"
	"slices"
	"testing"

	"drover/api"
	"drover/committee"
	"drover/dag"
	"drover/path"
)

// count lists n numbers from first on.
func count(first, n int) []int {
	l := make([]int, n)
	for i := range l {
		l[i] = first + i
	}
	return l
}

// odd lists rising numbers that are no digests.
func odd() []int {
	return []int{math.MinInt, math.MinInt + 1, -1 << 40, -11, -1, 0, api.MaxBook + 1, 11 + 1<<32, 1 << 40, math.MaxInt - 1, math.MaxInt}
}

// cert is one of 4 nodes; its digest is 10 times its round, and its author.
func cert(round, author int, parents ...int) api.Cert {
	return api.Cert{
		Header:  api.Header{Author: author, Round: round, Batches: []int{author, 100 + round%100}, Parents: parents},
		Digest:  10*round + author,
		Signers: []int{1, 2, 3},
	}
}

// good is a DAG from round 1 on, where 14 is named by 24 alone, 24 by 34 alone, and 34 by 44 alone.
func good() api.Dag {
	return api.Dag{Nodes: 4, Certs: []api.Cert{
		cert(1, 1), cert(1, 2), cert(1, 3), cert(1, 4),
		cert(2, 1, 11, 12, 13), cert(2, 2, 11, 12, 13), cert(2, 3, 11, 12, 13), cert(2, 4, 12, 13, 14),
		cert(3, 1, 21, 22, 23), cert(3, 2, 21, 22, 23), cert(3, 3, 21, 22, 23), cert(3, 4, 22, 23, 24),
		cert(4, 1, 31, 32, 33), cert(4, 4, 31, 32, 34),
	}}
}

// ladder is a DAG of some rounds above low, where all name those of the authors 1 to 3.
func ladder(low, rounds int) api.Dag {
	d := api.Dag{Nodes: 4, Low: low}
	for r := low + 1; r <= low+rounds; r++ {
		for author := 1; author <= 4; author++ {
			c := cert(r, author)
			if r > 1 {
				c.Header.Parents = []int{10*r - 9, 10*r - 8, 10*r - 7}
			}
			d.Certs = append(d.Certs, c)
		}
	}
	return d
}

// rungs is what a certificate of the ladder with the digest a reaches in the rounds from first on.
func rungs(first, a int) []int {
	var l []int
	for r := first; r < a/10; r++ {
		l = append(l, 10*r+1, 10*r+2, 10*r+3)
	}
	return append(l, a)
}

// ends is a DAG of the last two rounds, with the first digest and the last one, that can't be ordered, for what lies below is gone.
func ends() api.Dag {
	l := []api.Cert{
		cert(api.MaxRound-1, 1, 7, 8, 9), cert(api.MaxRound-1, 2, 7, 8, 9), cert(api.MaxRound-1, 4, 1, 2, 3),
		cert(api.MaxRound, 3, 1, 2, api.MaxBook), cert(api.MaxRound, 4, 1, 2, api.MaxBook),
	}
	for i, digest := range []int{2, api.MaxBook, 1, 4, 3} {
		l[i].Digest = digest
	}
	return api.Dag{Nodes: 4, Low: api.MaxRound - 2, Certs: l}
}

// dense is a DAG of some rounds above low, where each certificate names all of the previous round, and the largest digest comes first.
func dense(n, low, rounds int) api.Dag {
	d := api.Dag{Nodes: n, Low: low}
	last := n * rounds
	for k := range last {
		c := api.Cert{Header: api.Header{Author: k%n + 1, Round: low + k/n + 1}, Digest: last - k, Signers: count(1, n)}
		switch {
		case k >= n:
			c.Header.Parents = count(last-k/n*n+1, n)
		case low > 0:
			c.Header.Parents = count(1, n)
		}
		d.Certs = append(d.Certs, c)
	}
	return d
}

// falling lists the numbers from first down to last.
func falling(first, last int) []int {
	l := count(last, first-last+1)
	slices.Reverse(l)
	return l
}

// valid asks whether d is a valid DAG.
func valid(t *testing.T, d api.Dag) {
	t.Helper()
	if dag.Check(d) != api.OK {
		t.Fatalf("not valid: %d above %d, %d certificates", d.Nodes, d.Low, len(d.Certs))
	}
}

// ordered asks whether Order answers want.
func ordered(t *testing.T, d api.Dag, a int, done []int, want ...int) {
	t.Helper()
	if l, e := Order(d, a, done); e != api.OK || !slices.Equal(l, want) {
		t.Errorf("Order of %d without %d is %d, %v, not %v", a, done, e, l, want)
	}
}

// refused asks whether Order is refused with want and nothing beside.
func refused(t *testing.T, d api.Dag, a int, done []int, want api.Errno) {
	t.Helper()
	if l, e := Order(d, a, done); e != want || l != nil {
		t.Errorf("Order of %d without %d is %d, %v, not %d", a, done, e, l, want)
	}
}

// P17.1: the chapter's example, also in the smallest DAG.
func TestExample(t *testing.T) {
	alone := api.Dag{Nodes: 1, Certs: []api.Cert{{Header: api.Header{Author: 1, Round: 1}, Digest: 11, Signers: []int{1}}}}
	for _, d := range []api.Dag{alone, good()} {
		ordered(t, d, 11, nil, 11)
		ordered(t, d, 11, []int{}, 11)
		ordered(t, d, 11, []int{11})
	}
}

// P17.1: what is reached, by its places, without what is done.
func TestOrder(t *testing.T) {
	d := good()
	valid(t, d)
	ordered(t, d, 14, nil, 14)
	ordered(t, d, 21, nil, 11, 12, 13, 21)
	ordered(t, d, 24, nil, 12, 13, 14, 24)
	ordered(t, d, 34, nil, 11, 12, 13, 14, 22, 23, 24, 34)
	ordered(t, d, 41, nil, 11, 12, 13, 21, 22, 23, 31, 32, 33, 41)
	ordered(t, d, 44, nil, 11, 12, 13, 14, 21, 22, 23, 24, 31, 32, 34, 44)
	ordered(t, d, 44, []int{11}, 12, 13, 14, 21, 22, 23, 24, 31, 32, 34, 44)
	ordered(t, d, 44, []int{11, 12, 13, 21, 22, 23, 31}, 14, 24, 32, 34, 44)
	// What is below a certificate that is done is not done by that.
	ordered(t, d, 44, []int{31, 32, 34}, 11, 12, 13, 14, 21, 22, 23, 24, 44)
	ordered(t, d, 44, []int{24}, 11, 12, 13, 14, 21, 22, 23, 31, 32, 34, 44)
	// One behind the other.
	ordered(t, d, 44, []int{11, 12, 13, 21, 22, 23, 31, 32, 33, 41}, 14, 24, 34, 44)
	ordered(t, d, 41, []int{11, 12, 13, 14, 21, 22, 23, 24, 31, 32, 34, 44}, 33, 41)
}

// P17.1: done may have a itself, all of what is reached, and any other numbers.
func TestDone(t *testing.T) {
	d := good()
	ordered(t, d, 44, []int{44}, 11, 12, 13, 14, 21, 22, 23, 24, 31, 32, 34)
	ordered(t, d, 44, []int{11, 12, 13, 14, 21, 22, 23, 24, 31, 32, 34, 44})
	ordered(t, d, 44, []int{11, 12, 13, 14, 21, 22, 23, 24, 31, 32, 34}, 44)
	ordered(t, d, 44, count(1, 50))
	ordered(t, d, 44, count(1, 43), 44)
	ordered(t, d, 44, count(12, 50), 11)
	ordered(t, d, 21, odd(), 11, 12, 13, 21)
	ordered(t, d, 21, []int{10, 14, 20, 22, 33, 41, 44, 99}, 11, 12, 13, 21)
	ordered(t, d, 21, []int{math.MinInt, -12, 12, api.MaxBook, math.MaxInt}, 11, 13, 21)
	ordered(t, d, 21, []int{math.MinInt}, 11, 12, 13, 21)
	ordered(t, d, 21, []int{math.MaxInt}, 11, 12, 13, 21)
	ordered(t, d, 21, []int{math.MinInt, math.MaxInt}, 11, 12, 13, 21)
	// Each one alone, at any place in a long list.
	for _, x := range []int{11, 12, 13, 21} {
		want := slices.DeleteFunc([]int{11, 12, 13, 21}, func(y int) bool { return x == y })
		ordered(t, d, 21, []int{x}, want...)
		ordered(t, d, 21, append(count(x-5000, 4980), x), want...)
		ordered(t, d, 21, append([]int{x}, count(x+20, 5000)...), want...)
		ordered(t, d, 21, slices.Concat(count(x-900, 880), []int{x}, count(x+20, 700)), want...)
	}
}

// P17.1: Depth rounds are ordered with a certificate, its own among them, and all where there are fewer.
func TestDepth(t *testing.T) {
	d := ladder(0, 20)
	valid(t, d)
	for r := 1; r <= 20; r++ {
		for author := 1; author <= 4; author++ {
			a := 10*r + author
			want := rungs(max(r-7, 1), a)
			ordered(t, d, a, nil, want...)
			ordered(t, d, a, want)
			ordered(t, d, a, want[:len(want)-1], a)
			ordered(t, d, a, want[len(want)-1:], want[:len(want)-1]...)
			// What is done deeper doesn't matter.
			ordered(t, d, a, count(1, 10*max(r-8, 0)+9), want...)
		}
	}
}

// P17.1: places, not digests, give the order.
func TestPlaces(t *testing.T) {
	d := dense(4, 0, 12)
	valid(t, d)
	ordered(t, d, 4, nil, append(falling(32, 5), 4)...)
	ordered(t, d, 1, nil, append(falling(32, 5), 1)...)
	ordered(t, d, 1, count(6, 20), slices.Concat(falling(32, 26), []int{5, 1})...)
	ordered(t, d, 18, nil, append(falling(48, 21), 18)...)
	ordered(t, d, 47, nil, 47)
	high := dense(4, api.MaxRound-12, 12)
	valid(t, high)
	ordered(t, high, 4, nil, append(falling(32, 5), 4)...)
	ordered(t, high, 1, count(6, 20), slices.Concat(falling(32, 26), []int{5, 1})...)
	ordered(t, high, 16, nil, append(falling(44, 17), 16)...)
}

// P17.1: what lies so low that some of its rounds may be gone is ErrOld; above round 0, all is there.
func TestOld(t *testing.T) {
	for low := range 12 {
		d := ladder(low, 20)
		valid(t, d)
		trimmed, e := dag.Trim(ladder(0, low+20), low)
		if e != api.OK {
			t.Fatal(e)
		}
		for r := low + 1; r <= low+20; r++ {
			for _, x := range []api.Dag{d, trimmed} {
				a := 10*r + r%4 + 1
				if low > 0 && low > r-8 {
					refused(t, x, a, nil, api.ErrOld)
					refused(t, x, a, []int{a}, api.ErrOld)
					refused(t, x, a, count(1, 400), api.ErrOld)
				} else {
					ordered(t, x, a, nil, rungs(max(r-7, 1), a)...)
				}
			}
		}
	}
	for _, c := range ends().Certs {
		refused(t, ends(), c.Digest, nil, api.ErrOld)
	}
	// The highest ones.
	d := dense(4, api.MaxRound-8, 8)
	valid(t, d)
	ordered(t, d, 1, nil, append(falling(32, 5), 1)...)
	refused(t, d, 5, nil, api.ErrOld)
	d, _ = dag.Trim(d, api.MaxRound-7)
	refused(t, d, 1, nil, api.ErrOld)
}

// P17.1: what is no certificate's digest here is ErrNone, ahead of ErrOld.
func TestNone(t *testing.T) {
	for _, d := range []api.Dag{good(), ladder(0, 12), ladder(5, 6), ladder(5, 12), ends(), {Nodes: 4}, {Nodes: 1, Low: 9}, {Nodes: 16, Low: api.MaxRound}} {
		valid(t, d)
		there := map[int]int{}
		for _, c := range d.Certs {
			there[c.Digest] = 1
		}
		for _, a := range slices.Concat(odd(), count(1, 130), []int{api.MaxBook - 1, api.MaxBook}) {
			if there[a] > 0 {
				continue
			}
			refused(t, d, a, nil, api.ErrNone)
			refused(t, d, a, []int{a}, api.ErrNone)
			refused(t, d, a, odd(), api.ErrNone)
		}
	}
}

// P17.1: what doesn't rise strictly is ErrForm, ahead of ErrNone and ErrOld.
func TestBadDone(t *testing.T) {
	for _, done := range [][]int{
		{2, 2}, {3, 2}, {11, 11}, {11, 12, 12}, {12, 11}, {11, 13, 12}, {1, 2, 3, 3}, {1, 2, 1}, {0, 0}, {-1, -1}, {-1, -2},
		{math.MaxInt, math.MinInt}, {math.MinInt, math.MinInt}, {math.MaxInt, math.MaxInt}, {math.MaxInt - 1, math.MaxInt, math.MaxInt},
		falling(50, 1), append(count(1, 100), 100), append(count(1, 100), 1), append([]int{1}, count(1, 100)...),
	} {
		for _, d := range []api.Dag{good(), ladder(0, 9), ladder(5, 6), ends(), {Nodes: 4}} {
			for _, a := range slices.Concat(odd(), []int{1, 11, 44, 61, 74, 99, api.MaxBook}) {
				refused(t, d, a, done, api.ErrForm)
			}
		}
	}
}

// P17.1: a DAG that is not valid is ErrForm, ahead of all else.
func TestBadDags(t *testing.T) {
	for i, change := range []func(d *api.Dag){
		func(d *api.Dag) { *d = api.Dag{} },
		func(d *api.Dag) { d.Nodes = 0 },
		func(d *api.Dag) { d.Nodes = 5 },
		func(d *api.Dag) { d.Nodes = 7 },
		func(d *api.Dag) { d.Low = -1 },
		func(d *api.Dag) { d.Low = 1 },
		func(d *api.Dag) { d.Low = api.MaxRound },
		func(d *api.Dag) { d.Low = api.MaxRound + 1 },
		func(d *api.Dag) { d.Low = math.MaxInt },
		func(d *api.Dag) { d.Low = math.MinInt },
		func(d *api.Dag) { d.Certs[0], d.Certs[1] = d.Certs[1], d.Certs[0] },
		func(d *api.Dag) { d.Certs[13] = d.Certs[12] },
		func(d *api.Dag) { d.Certs[13].Digest = 11 },
		func(d *api.Dag) { d.Certs[13].Digest = 0 },
		func(d *api.Dag) { d.Certs[13].Digest = api.MaxBook + 1 },
		func(d *api.Dag) { d.Certs[13].Signers = []int{1, 2} },
		func(d *api.Dag) { d.Certs[13].Header.Author = 5 },
		func(d *api.Dag) { d.Certs[13].Header.Round = 5 },
		func(d *api.Dag) { d.Certs[13].Header.Round = math.MinInt },
		func(d *api.Dag) { d.Certs[13].Header.Round = math.MaxInt },
		func(d *api.Dag) { d.Certs[0].Header.Parents = []int{1, 2, 3} },
		func(d *api.Dag) { d.Certs[4].Header.Parents = nil },
		func(d *api.Dag) { d.Certs[4].Header.Parents = []int{11, 12, 15} },
		func(d *api.Dag) { d.Certs[4].Header.Parents = []int{13, 12, 11} },
		func(d *api.Dag) { d.Certs = slices.Delete(d.Certs, 1, 2) },
		func(d *api.Dag) { d.Certs = slices.Delete(d.Certs, 4, 8) },
		func(d *api.Dag) { d.Certs = append(d.Certs, cert(4, 4, 31, 32, 33)) },
	} {
		d := good()
		change(&d)
		if dag.Check(d) != api.ErrForm {
			t.Fatalf("%d is valid", i)
		}
		for _, a := range append(odd(), 11, 31, 44, 99) {
			for _, done := range [][]int{nil, {11, 44}, {2, 2}, odd()} {
				refused(t, d, a, done, api.ErrForm)
			}
		}
	}
	// Too long, whatever else.
	d := dense(16, 0, api.MaxBook/16)
	d.Certs = append(d.Certs, d.Certs[api.MaxBook-1])
	d.Certs[api.MaxBook].Header.Round++
	refused(t, d, 1, nil, api.ErrForm)
}

// dice is numbers in a row that looks mixed, the same each time.
type dice uint64

// roll is one below n.
func (s *dice) roll(n int) int {
	*s = *s*6364136223846793005 + 1442695040888963407
	return int(uint64(*s)>>33) % n
}

// some is k of l, in their order, mixed.
func (s *dice) some(l []int, k int) []int {
	l = slices.Clone(l)
	for len(l) > k {
		at := s.roll(len(l))
		l = slices.Delete(l, at, at+1)
	}
	return l
}

// grown is a DAG of some rounds above low among n nodes, mixed. What is of round low + 1 names any of its digests.
func (s *dice) grown(n, low, rounds int) api.Dag {
	quorum, _ := committee.Quorum(n)
	free := count(1, n*rounds+n)
	var previous []int
	d := api.Dag{Nodes: n, Low: low}
	for round := low + 1; round <= low+rounds; round++ {
		var now []int
		for _, author := range s.some(count(1, n), quorum+s.roll(n-quorum+1)) {
			c := api.Cert{Header: api.Header{Author: author, Round: round}, Signers: s.some(count(1, n), quorum)}
			if round > low+1 {
				c.Header.Parents = s.some(previous, quorum+s.roll(len(previous)-quorum+1))
			} else if round > 1 {
				c.Header.Parents = s.some(count(1, n*rounds+n), quorum+s.roll(n-quorum+1))
			}
			at := s.roll(len(free))
			c.Digest = free[at]
			free = slices.Delete(free, at, at+1)
			now = append(now, c.Digest)
			d.Certs = append(d.Certs, c)
		}
		slices.Sort(now)
		previous = now
	}
	return d
}

// orderOf is the order of what the certificate at index i reaches, by the definitions' words, or ErrOld.
func orderOf(d api.Dag, i int, done []int) ([]int, api.Errno) {
	round := d.Certs[i].Header.Round
	if d.Low > 0 && d.Low > round-api.Depth {
		return nil, api.ErrOld
	}
	reached := map[int]int{d.Certs[i].Digest: 1}
	for k := i; k >= 0; k-- {
		if c := d.Certs[k]; reached[c.Digest] > 0 && c.Header.Round > d.Low+1 {
			for _, p := range c.Header.Parents {
				reached[p] = 1
			}
		}
	}
	var l []int
	for _, c := range d.Certs[:i+1] {
		if reached[c.Digest] > 0 && c.Header.Round > round-api.Depth && !slices.Contains(done, c.Digest) {
			l = append(l, c.Digest)
		}
	}
	return l, api.OK
}

// P17.1: in mixed DAGs of all sizes, Order answers what the definitions' words give.
func TestMixed(t *testing.T) {
	s := dice(17)
	old, less, unreached, none := 0, 0, 0, 0
	for k := range 72 {
		n := 3*(k%(api.MaxFaults+1)) + 1
		low := []int{0, 0, 1, 6, 1 << 33, api.MaxRound - 14}[k/6%6]
		d := s.grown(n, low, 14)
		valid(t, d)
		for i, c := range d.Certs {
			for _, size := range []int{0, 1, 3 * n, 10 * n, 15 * n} {
				done := s.some(count(1, 15*n), size)
				want, e := orderOf(d, i, done)
				if e != api.OK {
					refused(t, d, c.Digest, done, e)
					old++
					continue
				}
				ordered(t, d, c.Digest, done, want...)
				if all, _ := orderOf(d, i, nil); len(all) > len(want) && len(want) > 0 {
					less++
				}
				if size == 0 && c.Header.Round > 8 && len(want) < 7*n {
					unreached++
				}
				if len(want) == 0 {
					none++
				}
			}
		}
	}
	if old < 100 || less < 100 || unreached < 100 || none < 100 {
		t.Errorf("%d are old, %d have some done, %d don't reach all, %d have all done", old, less, unreached, none)
	}
}

// behind asks whether l ends with a, unless that is done, and each certificate follows those of its parents that are in l.
func behind(t *testing.T, d api.Dag, a int, done, l []int) {
	t.Helper()
	if slices.Contains(done, a) {
		if slices.Contains(l, a) {
			t.Errorf("%d is done, but in %v", a, l)
		}
	} else if len(l) == 0 || l[len(l)-1] != a {
		t.Errorf("%v doesn't end with %d", l, a)
	}
	at := map[int]int{}
	for k, digest := range l {
		at[digest] = k + 1
	}
	if len(at) != len(l) {
		t.Errorf("%v has one twice", l)
	}
	for _, c := range d.Certs {
		// What a certificate of round Low + 1 names is gone: the digest may be another one's.
		if at[c.Digest] == 0 || c.Header.Round == d.Low+1 {
			continue
		}
		for _, p := range c.Header.Parents {
			if at[p] > at[c.Digest] {
				t.Errorf("%d stands ahead of its parent %d in %v", c.Digest, p, l)
			}
		}
	}
}

// P17.2: the result ends with a, and parents stand ahead of what names them.
func TestBehindParents(t *testing.T) {
	s := dice(18)
	for k := range 24 {
		n := 3*(k%(api.MaxFaults+1)) + 1
		d := s.grown(n, []int{0, 3}[k/6%2], 12)
		for _, c := range d.Certs {
			for _, size := range []int{0, 1, 4 * n, 9 * n, 13 * n} {
				done := s.some(count(1, 13*n), size)
				if l, e := Order(d, c.Digest, done); e == api.OK {
					behind(t, d, c.Digest, done, l)
				} else if e != api.ErrOld || d.Low == 0 || c.Header.Round >= d.Low+api.Depth {
					t.Errorf("Order is %d", e)
				}
			}
		}
	}
}

// P17.2: certificates that are ordered one behind the other, each without what was, come once each, behind their parents.
func TestOneBehindTheOther(t *testing.T) {
	s := dice(19)
	for k := range 24 {
		n := 3*(k%(api.MaxFaults+1)) + 1
		d := s.grown(n, 0, 20)
		var all, done []int
		for r := 2; r <= 20; r += 2 {
			certs, _ := dag.Round(d, r)
			a := certs[s.roll(len(certs))].Digest
			l, e := Order(d, a, done)
			if e != api.OK {
				t.Fatal(e)
			}
			behind(t, d, a, done, l)
			all = append(all, l...)
			done = slices.Clone(all)
			slices.Sort(done)
			if len(slices.Compact(done)) != len(all) {
				t.Fatalf("%v has one twice", all)
			}
			// All that the certificate reaches down to its depth is ordered by then.
			below, _ := path.Below(d, a, r-api.Depth)
			for _, digest := range below {
				if !slices.Contains(all, digest) {
					t.Errorf("%d is below %d, but not ordered", digest, a)
				}
			}
		}
	}
}

// P17.1: the longest DAG, and the longest list of what is done.
func TestFull(t *testing.T) {
	d := dense(16, 0, api.MaxBook/16)
	ordered(t, d, 7, nil, append(falling(128, 17), 7)...)
	ordered(t, d, 7, count(1, api.MaxBook))
	ordered(t, d, 7, append(count(-1<<20, 1<<20), count(8, api.MaxBook)...), 7)
	ordered(t, d, 7, append(count(-1<<20, 1<<20+100), 1<<40), falling(128, 100)...)
	ordered(t, d, api.MaxBook, nil, api.MaxBook)
	ordered(t, d, api.MaxBook-16, nil, append(falling(api.MaxBook, api.MaxBook-15), api.MaxBook-16)...)
	refused(t, d, api.MaxBook+1, nil, api.ErrNone)
	high := dense(1, 9, api.MaxBook)
	ordered(t, high, 1, nil, falling(8, 1)...)
	ordered(t, high, 1, []int{3, 5}, 8, 7, 6, 4, 2, 1)
	ordered(t, high, api.MaxBook-7, nil, falling(api.MaxBook, api.MaxBook-7)...)
	refused(t, high, api.MaxBook-6, nil, api.ErrOld)
	refused(t, high, api.MaxBook, nil, api.ErrOld)
}

// roomy gives all lists of d spare capacity.
func roomy(d api.Dag) api.Dag {
	d.Certs = append(make([]api.Cert, 0, 64), d.Certs...)
	for k := range d.Certs {
		c := &d.Certs[k]
		c.Header.Batches = append(make([]int, 0, 32), c.Header.Batches...)
		c.Header.Parents = append(make([]int, 0, 32), c.Header.Parents...)
		c.Signers = append(make([]int, 0, 32), c.Signers...)
	}
	return d
}

// whole is all that d and done hold, with their lists' spare capacity.
func whole(d api.Dag, done []int) string {
	s := fmt.Sprint(d.Nodes, d.Low, len(d.Certs), len(done), done[:cap(done)])
	for _, c := range d.Certs[:cap(d.Certs)] {
		h := c.Header
		s += fmt.Sprint(c, h.Batches[:cap(h.Batches)], h.Parents[:cap(h.Parents)], c.Signers[:cap(c.Signers)])
	}
	return s
}

// R2: no call changes what it is given, and what is written into an answer changes neither that nor another answer.
func TestNothingShared(t *testing.T) {
	for _, d := range []api.Dag{good(), ladder(0, 12), ladder(3, 12), dense(7, 0, 9)} {
		d = roomy(d)
		for _, done := range [][]int{nil, {11}, {12, 13, 24, 31}, count(1, 40), count(20, 200)} {
			done = append(make([]int, 0, 300), done...)
			was := whole(d, done)
			for _, c := range d.Certs {
				first, _ := Order(d, c.Digest, done)
				want := slices.Clone(first)
				second, _ := Order(d, c.Digest, done)
				second = second[:cap(second)]
				for k := range second {
					second[k] = -1
				}
				if !slices.Equal(first, want) {
					t.Errorf("%v, not %v", first, want)
				}
				if third, _ := Order(d, c.Digest, done); !slices.Equal(third, want) {
					t.Errorf("%v, not %v", third, want)
				}
			}
			if now := whole(d, done); now != was {
				t.Errorf("changed to %s", now)
			}
		}
	}
}

// R1: equal calls have equal answers, whatever was asked between them.
func TestEqualCalls(t *testing.T) {
	d := good()
	for _, other := range []api.Dag{ladder(0, 12), ladder(4, 12), ends(), dense(7, 0, 10), {}} {
		for _, a := range []int{0, 11, 44, 121} {
			Order(other, a, nil)
			Order(other, a, []int{11, 44})
			Order(other, a, []int{2, 1})
		}
		ordered(t, d, 44, []int{11, 12, 13, 21, 22, 23, 31}, 14, 24, 32, 34, 44)
		ordered(t, d, 41, nil, 11, 12, 13, 21, 22, 23, 31, 32, 33, 41)
	}
}
