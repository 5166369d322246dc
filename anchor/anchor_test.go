package anchor

import (
	"fmt"
	"math"
	"slices"
	"testing"

	"drover/api"
	"drover/committee"
	"drover/dag"
	"drover/path"
)

// count lists n numbers from first on.
func count(first, n int) []int {
	l := make([]int, n)
	for i := range l {
		l[i] = first + i
	}
	return l
}

// noRounds lists numbers that have no anchors.
func noRounds() []int {
	return []int{0, 1, 3, 5, 7, -1, -2, -4, api.MaxRound - 1, api.MaxRound + 1, api.MaxRound + 2, 1 << 41, math.MaxInt, math.MaxInt - 1, math.MinInt, math.MinInt + 1}
}

// cert is one of 4 nodes; its digest is 10 times its round, and its author.
func cert(round, author int, parents ...int) api.Cert {
	return api.Cert{
		Header:  api.Header{Author: author, Round: round, Batches: []int{author, 100 + round%100}, Parents: parents},
		Digest:  10*round + author,
		Signers: []int{1, 2, 3},
	}
}

// good is a DAG where the anchors of rounds 2, 4, 6, 8 and 10 are 21, 42, 63, 84 and 101. 63 doesn't reach 42, though 84 does by 54, 64 and 71; 101 doesn't reach 84, for which 91 alone votes; of 12 there is no anchor.
func good() api.Dag {
	return api.Dag{Nodes: 4, Certs: []api.Cert{
		cert(1, 1), cert(1, 2), cert(1, 3), cert(1, 4),
		cert(2, 1, 11, 12, 13), cert(2, 2, 11, 12, 13), cert(2, 3, 12, 13, 14), cert(2, 4, 11, 12, 13, 14),
		cert(3, 1, 21, 22, 23), cert(3, 2, 22, 23, 24), cert(3, 3, 21, 22, 24), cert(3, 4, 21, 22, 23, 24),
		cert(4, 1, 31, 32, 33), cert(4, 2, 31, 33, 34), cert(4, 3, 32, 33, 34), cert(4, 4, 31, 32, 34),
		cert(5, 1, 41, 43, 44), cert(5, 2, 41, 43, 44), cert(5, 3, 41, 43, 44), cert(5, 4, 41, 42, 43),
		cert(6, 1, 51, 52, 53), cert(6, 2, 51, 52, 53), cert(6, 3, 51, 52, 53), cert(6, 4, 52, 53, 54),
		cert(7, 1, 61, 63, 64), cert(7, 2, 62, 63, 64), cert(7, 3, 61, 62, 64),
		cert(8, 1, 71, 72, 73), cert(8, 2, 71, 72, 73), cert(8, 3, 71, 72, 73), cert(8, 4, 71, 72, 73),
		cert(9, 1, 81, 82, 84), cert(9, 2, 81, 82, 83), cert(9, 3, 81, 82, 83), cert(9, 4, 81, 82, 83),
		cert(10, 1, 92, 93, 94), cert(10, 2, 91, 92, 93), cert(10, 3, 92, 93, 94),
		cert(11, 1, 101, 102, 103), cert(11, 3, 101, 102, 103), cert(11, 4, 101, 102, 103),
		cert(12, 1, 111, 113, 114), cert(12, 3, 111, 113, 114), cert(12, 4, 111, 113, 114),
	}}
}

// trimmed is a DAG above round 3, where certificates of round 4 name others of their round, 42 among them, the anchor.
func trimmed() api.Dag {
	return api.Dag{Nodes: 4, Low: 3, Certs: []api.Cert{
		cert(4, 1, 42, 43, 44), cert(4, 2, 1, 2, 3), cert(4, 3, 42, 61, 63), cert(4, 4, 41, 42, 43),
		cert(5, 1, 41, 43, 44), cert(5, 2, 41, 43, 44), cert(5, 3, 41, 42, 44),
		cert(6, 1, 51, 52, 53), cert(6, 2, 51, 52, 53), cert(6, 3, 51, 52, 53),
	}}
}

// ends is a DAG of the last four rounds, with the first digest and the last one; the anchors are 5 and 1.
func ends() api.Dag {
	l := []api.Cert{
		cert(api.MaxRound-3, 1, 7, 8, 9), cert(api.MaxRound-3, 2, 7, 8, 9), cert(api.MaxRound-3, 3, 7, 8, 9),
		cert(api.MaxRound-2, 3, 2, 3, 4), cert(api.MaxRound-2, 1, 2, 3, 4), cert(api.MaxRound-2, 2, 2, 3, 4),
		cert(api.MaxRound-1, 1, 5, 6, api.MaxBook), cert(api.MaxRound-1, 2, 5, 6, api.MaxBook), cert(api.MaxRound-1, 3, 5, 6, api.MaxBook),
		cert(api.MaxRound, 4, 8, 9, 10),
	}
	for i, digest := range []int{2, 3, 4, 5, 6, api.MaxBook, 8, 9, 10, 1} {
		l[i].Digest = digest
	}
	slices.SortFunc(l[3:6], func(a, b api.Cert) int { return a.Header.Author - b.Header.Author })
	return api.Dag{Nodes: 4, Low: api.MaxRound - 4, Certs: l}
}

// voted is a DAG of three rounds of n nodes, where so many vote for the anchor of round 2, the last ones.
func voted(n, votes int) api.Dag {
	d := api.Dag{Nodes: n}
	for round := 1; round <= 3; round++ {
		for author := 1; author <= n; author++ {
			c := api.Cert{Header: api.Header{Author: author, Round: round}, Digest: 100*round + author, Signers: count(1, n)}
			switch {
			case round == 3 && author <= n-votes:
				// The anchor of round 2 is 201.
				c.Header.Parents = count(202, n-1)
			case round > 1:
				c.Header.Parents = count(100*(round-1)+1, n)
			}
			d.Certs = append(d.Certs, c)
		}
	}
	return d
}

// settled asks whether Anchor, Votes and Direct answer as they should of a round that has an anchor.
func settled(t *testing.T, d api.Dag, r, a, votes int, direct bool) {
	t.Helper()
	if x, e := Anchor(d, r); x != a || e != api.OK {
		t.Errorf("Anchor of %d is %d, %d, not %d", r, x, e, a)
	}
	if x, e := Votes(d, r); x != votes || e != api.OK {
		t.Errorf("Votes of %d is %d, %d, not %d", r, x, e, votes)
	}
	if x, e := Direct(d, r); x != direct || e != api.OK {
		t.Errorf("Direct of %d is %v, %d", r, x, e)
	}
}

// without asks whether all calls tell that round r has no anchor.
func without(t *testing.T, d api.Dag, r int) {
	t.Helper()
	if x, e := Anchor(d, r); x != 0 || e != api.ErrNone {
		t.Errorf("Anchor of %d is %d, %d", r, x, e)
	}
	if x, e := Votes(d, r); x != 0 || e != api.OK {
		t.Errorf("Votes of %d is %d, %d", r, x, e)
	}
	if x, e := Direct(d, r); x || e != api.OK {
		t.Errorf("Direct of %d is %v, %d", r, x, e)
	}
	for _, after := range []int{0, r - 2} {
		if l, e := Chain(d, after, r); len(l) > 0 || e != api.ErrNone {
			t.Errorf("Chain from %d to %d is %v, %d", after, r, l, e)
		}
	}
}

// refused asks whether all calls are refused by the DAG or by r.
func refused(t *testing.T, d api.Dag, r int) {
	t.Helper()
	if x, e := Anchor(d, r); x != 0 || e != api.ErrForm {
		t.Errorf("Anchor of %d is %d, %d", r, x, e)
	}
	if x, e := Votes(d, r); x != 0 || e != api.ErrForm {
		t.Errorf("Votes of %d is %d, %d", r, x, e)
	}
	if x, e := Direct(d, r); x || e != api.ErrForm {
		t.Errorf("Direct of %d is %v, %d", r, x, e)
	}
	for _, after := range []int{0, 2, r - 2, math.MinInt} {
		badChain(t, d, after, r)
	}
}

// badChain asks whether Chain is refused.
func badChain(t *testing.T, d api.Dag, after, r int) {
	t.Helper()
	if l, e := Chain(d, after, r); len(l) > 0 || e != api.ErrForm {
		t.Errorf("Chain from %d to %d is %v, %d", after, r, l, e)
	}
}

// chained asks whether Chain answers want.
func chained(t *testing.T, d api.Dag, after, r int, want ...int) {
	t.Helper()
	if l, e := Chain(d, after, r); !slices.Equal(l, want) || e != api.OK {
		t.Errorf("Chain from %d to %d is %v, %d, not %v", after, r, l, e, want)
	}
}

// P16.1: anchors, their votes, and which are direct.
func TestAnchors(t *testing.T) {
	d := good()
	settled(t, d, 2, 21, 3, true)
	settled(t, d, 4, 42, 1, false)
	settled(t, d, 6, 63, 2, true)
	settled(t, d, 8, 84, 1, false)
	settled(t, d, 10, 101, 3, true)
	d.Certs = d.Certs[:8]
	settled(t, d, 2, 21, 0, false)
	settled(t, ends(), api.MaxRound-2, 5, 3, true)
	settled(t, ends(), api.MaxRound, 1, 0, false)
}

// P16.1: what names the digest of an anchor beside it isn't a vote.
func TestNoVotes(t *testing.T) {
	settled(t, trimmed(), 4, 42, 1, false)
	settled(t, trimmed(), 6, 63, 0, false)
	// The batches have digests of their own.
	d := voted(4, 0)
	for k := range d.Certs {
		d.Certs[k].Header.Batches = []int{201}
	}
	settled(t, d, 2, 201, 0, false)
}

// P16.1: Few votes make an anchor direct, one less doesn't, also the chapter's example.
func TestFew(t *testing.T) {
	settled(t, voted(4, 2), 2, 201, 2, true)
	settled(t, voted(4, 1), 2, 201, 1, false)
	for f := 0; f <= api.MaxFaults; f++ {
		n := 3*f + 1
		for votes := range n + 1 {
			if n > 1 {
				settled(t, voted(n, votes), 2, 201, votes, votes >= f+1)
			}
		}
	}
	settled(t, voted(1, 1), 2, 201, 1, true)
	d := voted(1, 1)
	d.Certs = d.Certs[:2]
	settled(t, d, 2, 201, 0, false)
}

// P16.1: the leaders of the rounds take turns.
func TestLeaders(t *testing.T) {
	for _, n := range []int{1, 4, 7, 10, 13, 16} {
		d := dense(n, 0, 50)
		for r := 2; r <= 50; r += 2 {
			votes := n
			if r == 50 {
				votes = 0
			}
			settled(t, d, r, (r-1)*n+(r/2-1)%n+1, votes, votes > 0)
		}
	}
}

// P16.1, P16.2: rounds without an anchor.
func TestNone(t *testing.T) {
	for _, r := range []int{12, 14, 100, api.MaxRound - 2, api.MaxRound} {
		without(t, good(), r)
	}
	for _, d := range []api.Dag{{Nodes: 1}, {Nodes: 4}, {Nodes: 16, Low: 2}, {Nodes: 4, Low: api.MaxRound}} {
		for _, r := range []int{2, 4, 6, 1000, api.MaxRound} {
			without(t, d, r)
		}
	}
	for _, r := range []int{2, 8} {
		without(t, trimmed(), r)
	}
	for _, r := range []int{2, api.MaxRound - 4} {
		without(t, ends(), r)
	}
	// Others of the leader's round are no anchors, whatever is voted for.
	d := good()
	d.Certs = slices.DeleteFunc(d.Certs, func(c api.Cert) bool { return c.Header.Round > 8 || c.Digest == 84 })
	without(t, d, 8)
}

// P16.1, P16.2: numbers that aren't even rounds are ErrForm, whatever the DAG has.
func TestBadRounds(t *testing.T) {
	for _, d := range []api.Dag{good(), trimmed(), ends(), {Nodes: 4}, {Nodes: 1, Low: api.MaxRound}, {}} {
		for _, r := range noRounds() {
			refused(t, d, r)
		}
	}
}

// P16.1, P16.2: a DAG that is not valid is ErrForm, ahead of what isn't there.
func TestBadDags(t *testing.T) {
	for i, change := range []func(d *api.Dag){
		func(d *api.Dag) { *d = api.Dag{} },
		func(d *api.Dag) { d.Nodes = 0 },
		func(d *api.Dag) { d.Nodes = 5 },
		func(d *api.Dag) { d.Nodes = 7 },
		func(d *api.Dag) { d.Nodes = -4 },
		func(d *api.Dag) { d.Low = -1 },
		func(d *api.Dag) { d.Low = 1 },
		func(d *api.Dag) { d.Low = api.MaxRound + 1 },
		func(d *api.Dag) { d.Certs[0], d.Certs[1] = d.Certs[1], d.Certs[0] },
		func(d *api.Dag) { d.Certs[1] = d.Certs[0] },
		func(d *api.Dag) { d.Certs[1].Digest = 101 },
		func(d *api.Dag) { d.Certs[0].Signers = nil },
		func(d *api.Dag) { d.Certs[0].Signers = []int{1, 2} },
		func(d *api.Dag) { d.Certs[0].Header.Parents = []int{1, 2, 3} },
		func(d *api.Dag) { d.Certs[40].Digest = 0 },
		func(d *api.Dag) { d.Certs[40].Digest = api.MaxBook + 1 },
		func(d *api.Dag) { d.Certs[40].Header.Author = 5 },
		func(d *api.Dag) { d.Certs[40].Header.Round = 15 },
		func(d *api.Dag) { d.Certs[40].Header.Parents = nil },
		func(d *api.Dag) { d.Certs[40].Header.Parents = []int{111, 112, 113} },
		func(d *api.Dag) { d.Certs[40].Header.Parents = []int{114, 113, 111} },
		func(d *api.Dag) { d.Certs = slices.Delete(d.Certs, 4, 5) },
		func(d *api.Dag) { d.Certs = append(d.Certs, cert(11, 2, 101, 102, 103)) },
	} {
		d := good()
		change(&d)
		if dag.Check(d) != api.ErrForm {
			t.Fatalf("%d is valid", i)
		}
		for _, r := range append(noRounds(), 2, 4, 8, 10, 12, 20, api.MaxRound) {
			refused(t, d, r)
		}
	}
	d := dense(16, 0, api.MaxBook/16)
	d.Certs = append(d.Certs, d.Certs[api.MaxBook-1])
	d.Certs[api.MaxBook].Header.Round++
	refused(t, d, 2)
}

// P16.2: what the anchor that was included last reaches is included, by rising rounds.
func TestChain(t *testing.T) {
	d := good()
	chained(t, d, 0, 2, 21)
	chained(t, d, 0, 4, 21, 42)
	chained(t, d, 2, 4, 42)
	// 63 reaches 21 past 42.
	chained(t, d, 0, 6, 21, 63)
	chained(t, d, 2, 6, 63)
	chained(t, d, 4, 6, 63)
	// 84 reaches 42, but 63 is between them and doesn't.
	if yes, e := path.Reach(d, 84, 42); !yes || e != api.OK {
		t.Fatalf("%v, %d", yes, e)
	}
	chained(t, d, 0, 8, 21, 63, 84)
	chained(t, d, 2, 8, 63, 84)
	chained(t, d, 4, 8, 63, 84)
	chained(t, d, 6, 8, 84)
	// 101 reaches 63 past 84.
	chained(t, d, 0, 10, 21, 63, 101)
	chained(t, d, 4, 10, 63, 101)
	chained(t, d, 6, 10, 101)
	chained(t, d, 8, 10, 101)
	// What was left out between them may not be there at all.
	d.Certs = slices.DeleteFunc(d.Certs, func(c api.Cert) bool {
		return c.Digest == 84 || c.Header.Round > 10 || c.Digest == 91 || c.Digest == 102
	})
	chained(t, d, 0, 10, 21, 63, 101)
}

// P16.2: without 63, what 84 reaches of round 4 is included.
func TestPastNone(t *testing.T) {
	d := good()
	d.Certs = slices.DeleteFunc(d.Certs, func(c api.Cert) bool { return c.Header.Round > 8 || c.Digest == 63 })
	for k, c := range d.Certs {
		if c.Header.Round == 7 {
			d.Certs[k].Header.Parents = []int{61, 62, 64}
		}
	}
	without(t, d, 6)
	chained(t, d, 0, 8, 21, 42, 84)
	chained(t, d, 2, 8, 42, 84)
	chained(t, d, 4, 8, 84)
}

// P16.2: what is discarded is in no chain, wherever it begins, and what certificates of round Low + 1 name doesn't count.
func TestAboveLow(t *testing.T) {
	for _, after := range []int{0, 2} {
		chained(t, trimmed(), after, 4, 42)
		chained(t, trimmed(), after, 6, 42, 63)
	}
	chained(t, trimmed(), 4, 6, 63)
	for low := range 10 {
		d, e := dag.Trim(good(), low)
		if e != api.OK {
			t.Fatal(e)
		}
		var want []int
		for _, a := range []int{21, 63, 101} {
			if a/10 > low {
				want = append(want, a)
			}
		}
		chained(t, d, 0, 10, want...)
	}
	for _, after := range []int{0, 2, 1 << 20, api.MaxRound - 6, api.MaxRound - 4} {
		chained(t, ends(), after, api.MaxRound-2, 5)
		chained(t, ends(), after, api.MaxRound, 5, 1)
	}
	chained(t, ends(), api.MaxRound-2, api.MaxRound, 1)
}

// P16.2: after must be even, not negative and below r, ahead of what isn't there.
func TestBadAfter(t *testing.T) {
	for _, r := range []int{2, 8, 10, 12, 14, 100, api.MaxRound} {
		for _, after := range []int{-1, -2, -4, 1, 3, r - 1, r, r + 1, r + 2, api.MaxRound, api.MaxRound + 2, math.MaxInt, math.MaxInt - 1, math.MinInt, math.MinInt + 1, math.MinInt + r} {
			badChain(t, good(), after, r)
			badChain(t, api.Dag{Nodes: 4}, after, r)
		}
	}
}

// dense is a DAG of some rounds above low, where each certificate names all of the previous round, and the digests count from 1.
func dense(n, low, rounds int) api.Dag {
	d := api.Dag{Nodes: n, Low: low}
	for k := range n * rounds {
		c := api.Cert{Header: api.Header{Author: k%n + 1, Round: low + k/n + 1}, Digest: k + 1, Signers: count(1, n)}
		if k >= n {
			c.Header.Parents = count(k/n*n-n+1, n)
		}
		d.Certs = append(d.Certs, c)
	}
	return d
}

// P16.2: the longest chains.
func TestFull(t *testing.T) {
	for _, n := range []int{1, 4, 16} {
		rounds := api.MaxBook / n
		d := dense(n, 0, rounds)
		var all []int
		for r := 2; r <= rounds; r += 2 {
			all = append(all, (r-1)*n+(r/2-1)%n+1)
		}
		chained(t, d, 0, rounds, all...)
		chained(t, d, rounds-6, rounds, all[len(all)-3:]...)
		chained(t, d, 0, 2, all[0])
		settled(t, d, rounds-2, all[len(all)-2], n, true)
		settled(t, d, rounds, all[len(all)-1], 0, false)
	}
}

// P16.2: in the longest DAG where nobody names an anchor above round 2, the way down to that one is gone but once.
func TestLongGap(t *testing.T) {
	for _, n := range []int{4, 16} {
		rounds := api.MaxBook / n
		d := dense(n, 0, rounds)
		for k, c := range d.Certs {
			r := c.Header.Round - 1
			if r > 2 && r%2 == 0 {
				anchor := (r-1)*n + (r/2-1)%n + 1
				d.Certs[k].Header.Parents = slices.DeleteFunc(c.Header.Parents, func(p int) bool { return p == anchor })
			}
		}
		last := (rounds-1)*n + (rounds/2-1)%n + 1
		chained(t, d, 0, rounds, n+1, last)
		chained(t, d, 2, rounds, last)
		settled(t, d, rounds-2, (rounds-3)*n+(rounds/2-2)%n+1, 0, false)
	}
}

// dice is numbers in a row that looks mixed, the same each time.
type dice uint64

// roll is one below n.
func (s *dice) roll(n int) int {
	*s = *s*6364136223846793005 + 1442695040888963407
	return int(uint64(*s)>>33) % n
}

// some is k of l, in their order, mixed.
func (s *dice) some(l []int, k int) []int {
	l = slices.Clone(l)
	for len(l) > k {
		at := s.roll(len(l))
		l = slices.Delete(l, at, at+1)
	}
	return l
}

// names is which of the previous round are named: mostly not the one shunned, if there are enough beside it.
func (s *dice) names(previous []int, shunned, quorum int) []int {
	others := slices.DeleteFunc(slices.Clone(previous), func(x int) bool { return x == shunned })
	if len(others) >= quorum && s.roll(6) > 0 {
		previous = others
	}
	return s.some(previous, quorum+s.roll(len(previous)-quorum+1))
}

// grown is a DAG of some rounds above low among n nodes, mixed, where anchors are mostly not named. What is of round low + 1 names any of its digests.
func (s *dice) grown(n, low, rounds int) api.Dag {
	quorum, _ := committee.Quorum(n)
	free := count(1, n*rounds+n)
	var previous []int
	shunned := 0
	d := api.Dag{Nodes: n, Low: low}
	for round := low + 1; round <= low+rounds; round++ {
		leader, _ := committee.Leader(n, round)
		var now []int
		anchor := 0
		for _, author := range s.some(count(1, n), quorum+s.roll(n-quorum+1)) {
			c := api.Cert{Header: api.Header{Author: author, Round: round}, Signers: s.some(count(1, n), quorum)}
			if round > low+1 {
				c.Header.Parents = s.names(previous, shunned, quorum)
			} else if round > 1 {
				c.Header.Parents = s.some(count(1, n*rounds+n), quorum+s.roll(n-quorum+1))
			}
			at := s.roll(len(free))
			c.Digest = free[at]
			free = slices.Delete(free, at, at+1)
			now = append(now, c.Digest)
			d.Certs = append(d.Certs, c)
			if author == leader {
				anchor = c.Digest
			}
		}
		slices.Sort(now)
		previous, shunned = now, anchor
	}
	return d
}

// anchorOf is the anchor of round r, or 0, by the definition's words.
func anchorOf(d api.Dag, r int) int {
	for _, c := range d.Certs {
		if c.Header.Round == r && c.Header.Author == (r/2-1)%d.Nodes+1 {
			return c.Digest
		}
	}
	return 0
}

// votesOf is how many vote for a, which is of round r.
func votesOf(d api.Dag, a, r int) int {
	n := 0
	for _, c := range d.Certs {
		if c.Header.Round == r+1 && slices.Contains(c.Header.Parents, a) {
			n++
		}
	}
	return n
}

// chainOf is the chain up to the anchor a of round r, by the definition's words.
func chainOf(t *testing.T, d api.Dag, after, a, r int) []int {
	l := []int{a}
	for round := r - 2; round >= after+2; round -= 2 {
		b := anchorOf(d, round)
		if b == 0 {
			continue
		}
		if yes, e := path.Reach(d, l[0], b); e != api.OK {
			t.Fatal(e)
		} else if yes {
			l = slices.Insert(l, 0, b)
		}
	}
	return l
}

// P16.1, P16.2: in mixed DAGs of all sizes the calls answer what the definitions' words give.
func TestMixed(t *testing.T) {
	s := dice(7)
	longer, gaps, none, direct := 0, 0, 0, 0
	for k := range 60 {
		n := 3*(k%(api.MaxFaults+1)) + 1
		low := []int{0, 1, 2, 7, api.MaxRound - 13}[k%5]
		const rounds = 13
		d := s.grown(n, low, rounds)
		if dag.Check(d) != api.OK {
			t.Fatalf("among %d above %d: %+v", n, low, d)
		}
		for r := max(low/2*2, 2); r <= min(low+rounds+2, api.MaxRound); r += 2 {
			a := anchorOf(d, r)
			if a == 0 {
				without(t, d, r)
				none++
				continue
			}
			votes := votesOf(d, a, r)
			settled(t, d, r, a, votes, votes >= (n-1)/3+1)
			if votes >= (n-1)/3+1 {
				direct++
			}
			for after := max(r-2*rounds, 0) / 2 * 2; after < r; after += 2 {
				want := chainOf(t, d, after, a, r)
				chained(t, d, after, r, want...)
				if len(want) > 1 {
					longer++
				}
				if after == low/2*2 && len(want) < (r-after)/2 {
					gaps++
				}
			}
		}
	}
	if longer < 100 || gaps < 50 || none < 50 || direct < 50 {
		t.Errorf("%d chains of several, %d with gaps, %d rounds without an anchor, %d direct", longer, gaps, none, direct)
	}
}

// P16.3: later anchors reach what is direct, and so it is in each chain from below it on.
func TestDirectIsReached(t *testing.T) {
	s := dice(8)
	yes, no := 0, 0
	for k := range 60 {
		d := s.grown(3*(k%(api.MaxFaults+1))+1, 0, 14)
		for r := 2; r <= 14; r += 2 {
			a, e := Anchor(d, r)
			direct, f := Direct(d, r)
			if e == api.ErrNone && f == api.OK && !direct {
				continue
			}
			if e != api.OK || f != api.OK {
				t.Fatal(e, f)
			}
			for later := r + 2; later <= 14; later += 2 {
				b, e := Anchor(d, later)
				if e == api.ErrNone {
					continue
				}
				reached, f := path.Reach(d, b, a)
				if e != api.OK || f != api.OK {
					t.Fatal(e, f)
				}
				if !reached {
					no++
				}
				if !direct {
					continue
				}
				yes++
				if l, e := Chain(d, 0, later); !reached || e != api.OK || !slices.Contains(l, a) {
					t.Errorf("%d of round %d is direct, but not below %d of round %d: %v, %d", a, r, b, later, l, e)
				}
			}
		}
	}
	if yes < 100 || no < 20 {
		t.Errorf("%d are direct below another, %d aren't reached", yes, no)
	}
}

// roomy gives all lists of d spare capacity.
func roomy(d api.Dag) api.Dag {
	d.Certs = append(make([]api.Cert, 0, 64), d.Certs...)
	for k := range d.Certs {
		c := &d.Certs[k]
		c.Header.Batches = append(make([]int, 0, 32), c.Header.Batches...)
		c.Header.Parents = append(make([]int, 0, 32), c.Header.Parents...)
		c.Signers = append(make([]int, 0, 32), c.Signers...)
	}
	return d
}

// whole is all that d holds, with its lists' spare capacity.
func whole(d api.Dag) string {
	s := fmt.Sprint(d.Nodes, d.Low, len(d.Certs))
	for _, c := range d.Certs[:cap(d.Certs)] {
		h := c.Header
		s += fmt.Sprint(c, h.Batches[:cap(h.Batches)], h.Parents[:cap(h.Parents)], c.Signers[:cap(c.Signers)])
	}
	return s
}

// R2: no call changes the DAG, and what is written into an answer changes neither the DAG nor another answer.
func TestNothingShared(t *testing.T) {
	for _, d := range []api.Dag{good(), trimmed(), ends()} {
		d = roomy(d)
		was := whole(d)
		for _, r := range []int{2, 4, 6, 8, 10, 12, api.MaxRound} {
			Anchor(d, r)
			Votes(d, r)
			Direct(d, r)
			first, _ := Chain(d, 0, r)
			want := slices.Clone(first)
			second, _ := Chain(d, 0, r)
			second = second[:cap(second)]
			for k := range second {
				second[k] = -1
			}
			if !slices.Equal(first, want) {
				t.Errorf("%v, not %v", first, want)
			}
			if third, _ := Chain(d, 0, r); !slices.Equal(third, want) {
				t.Errorf("%v, not %v", third, want)
			}
		}
		if now := whole(d); now != was {
			t.Errorf("changed to %s", now)
		}
	}
}

// R1: equal calls have equal answers, whatever was asked between them.
func TestEqualCalls(t *testing.T) {
	for _, other := range []api.Dag{trimmed(), ends(), dense(7, 0, 10), {}} {
		for _, r := range []int{4, 6, 7, api.MaxRound} {
			Anchor(other, r)
			Votes(other, r)
			Direct(other, r)
			Chain(other, 0, r)
		}
		settled(t, good(), 6, 63, 2, true)
		chained(t, good(), 0, 10, 21, 63, 101)
	}
}
