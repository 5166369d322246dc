package committee

import (
	"math"
	"math/bits"
	"slices"
	"testing"

	"drover/api"
)

// sizes lists all sizes of a committee, with how many may be faulty, are a quorum, are a few.
var sizes = []struct{ n, faults, quorum, few int }{
	{1, 0, 1, 1}, {4, 1, 3, 2}, {7, 2, 5, 3}, {10, 3, 7, 4}, {13, 4, 9, 5}, {16, 5, 11, 6},
}

// notSizes lists numbers that are the size of no committee.
func notSizes() []int {
	l := []int{19, 22, 1 << 31, 1<<31 + 2, 1<<32 + 1, 1<<32 + 4, 1<<62 + 3, math.MaxInt, math.MaxInt - 1, math.MaxInt - 2,
		-1 << 32, math.MinInt, math.MinInt + 1, math.MinInt + 2, math.MinInt + 3}
	for n := -40; n <= 60; n++ {
		if n < 1 || n > 16 || n%3 != 1 {
			l = append(l, n)
		}
	}
	return l
}

// members lists the numbers of the bits that are set: bit 0 is node 1.
func members(set int) []int {
	var l []int
	for node := 1; set != 0; node++ {
		if set&1 != 0 {
			l = append(l, node)
		}
		set >>= 1
	}
	return l
}

// P3.1: each size of a committee with its numbers.
func TestSizes(t *testing.T) {
	for _, c := range sizes {
		if e := Check(c.n); e != api.OK {
			t.Errorf("Check(%d) is %d", c.n, e)
		}
		if f, e := Faults(c.n); f != c.faults || e != api.OK {
			t.Errorf("Faults(%d) is %d, %d", c.n, f, e)
		}
		if q, e := Quorum(c.n); q != c.quorum || e != api.OK {
			t.Errorf("Quorum(%d) is %d, %d", c.n, q, e)
		}
		if k, e := Few(c.n); k != c.few || e != api.OK {
			t.Errorf("Few(%d) is %d, %d", c.n, k, e)
		}
	}
}

// P3.1 and P3.2: every function refuses other sizes, with zero values beside the error.
func TestSizesForm(t *testing.T) {
	all := members(1<<api.MaxNodes - 1)
	for _, n := range notSizes() {
		if e := Check(n); e != api.ErrForm {
			t.Errorf("Check(%d) is %d", n, e)
		}
		if f, e := Faults(n); f != 0 || e != api.ErrForm {
			t.Errorf("Faults(%d) is %d, %d", n, f, e)
		}
		if q, e := Quorum(n); q != 0 || e != api.ErrForm {
			t.Errorf("Quorum(%d) is %d, %d", n, q, e)
		}
		if k, e := Few(n); k != 0 || e != api.ErrForm {
			t.Errorf("Few(%d) is %d, %d", n, k, e)
		}
		for _, l := range [][]int{nil, {}, {1}, {n}, {0, -1, n + 1}, all} {
			if ok, e := Enough(n, l); ok || e != api.ErrForm {
				t.Errorf("Enough(%d, %v) is %v, %d", n, l, ok, e)
			}
			if ok, e := Some(n, l); ok || e != api.ErrForm {
				t.Errorf("Some(%d, %v) is %v, %d", n, l, ok, e)
			}
		}
		for _, round := range []int{-2, 0, 1, 2, 3, 8, api.MaxRound, api.MaxRound + 2} {
			if k, e := Leader(n, round); k != 0 || e != api.ErrForm {
				t.Errorf("Leader(%d, %d) is %d, %d", n, round, k, e)
			}
		}
	}
}

// P3.1: every set of nodes, by how many it has.
func TestSets(t *testing.T) {
	for _, c := range sizes {
		for set := range 1 << c.n {
			l, k := members(set), bits.OnesCount(uint(set))
			if ok, e := Enough(c.n, l); ok != (k >= c.quorum) || e != api.OK {
				t.Errorf("Enough(%d, %v) is %v, %d", c.n, l, ok, e)
			}
			if ok, e := Some(c.n, l); ok != (k >= c.few) || e != api.OK {
				t.Errorf("Some(%d, %v) is %v, %d", c.n, l, ok, e)
			}
		}
	}
}

// P3.1: numbers count once, in any order, and others not at all.
func TestLists(t *testing.T) {
	for _, c := range []struct {
		n            int
		l            []int
		enough, some bool
	}{
		{1, nil, false, false}, {1, []int{}, false, false}, {1, []int{0}, false, false}, {1, []int{2}, false, false}, {1, []int{-1}, false, false},
		{1, []int{1}, true, true}, {1, []int{1, 1}, true, true}, {1, []int{9, 0, 1}, true, true},
		{4, []int{2, 2, 2, 2}, false, false}, {4, []int{2, 3, 2, 3, 3}, false, true}, {4, []int{4, 1, 4, 3}, true, true},
		{4, []int{5, 6, 7, 8}, false, false}, {4, []int{4, 5, 6, 7}, false, false}, {4, []int{0, 1, 2}, false, true}, {4, []int{0, 1, 2, 5}, false, true},
		{4, []int{-1, -2, -3}, false, false}, {4, []int{1, -2, -3}, false, false}, {4, []int{17, 33, 1 << 32, 1<<32 + 1, 1<<32 + 2}, false, false},
		{4, []int{math.MinInt, math.MaxInt, 1, 2, 3}, true, true}, {4, []int{math.MinInt, math.MaxInt, math.MaxInt - 1, 3}, false, false},
		{7, []int{7, 6, 5, 4}, false, true}, {7, []int{7, 6, 5, 4, 3}, true, true}, {7, []int{8, 6, 5, 4, 3}, false, true}, {7, []int{7, 7, 1, 1}, false, false},
		{16, []int{16, 15, 14, 13, 12, 11, 10, 9, 8, 7}, false, true}, {16, []int{16, 15, 14, 13, 12, 11, 10, 9, 8, 7, 6}, true, true},
		{16, []int{17, 15, 14, 13, 12, 11, 10, 9, 8, 7, 6}, false, true}, {16, []int{16, 16, 15, 15, 14, 14, 13, 13, 12, 12, 0, 17}, false, false},
	} {
		before := slices.Clone(c.l)
		if ok, e := Enough(c.n, c.l); ok != c.enough || e != api.OK {
			t.Errorf("Enough(%d, %v) is %v, %d", c.n, c.l, ok, e)
		}
		if ok, e := Some(c.n, c.l); ok != c.some || e != api.OK {
			t.Errorf("Some(%d, %v) is %v, %d", c.n, c.l, ok, e)
		}
		if !slices.Equal(c.l, before) {
			t.Errorf("%v became %v", before, c.l)
		}
	}
}

// P3.1: a long list, in which the node that makes it enough comes last.
func TestLongList(t *testing.T) {
	l := slices.Repeat([]int{3, 0, 1, 5, -4}, 1<<16)
	if ok, e := Enough(4, l); ok || e != api.OK {
		t.Errorf("Enough is %v, %d", ok, e)
	}
	if ok, e := Enough(4, append(l, 4)); !ok || e != api.OK {
		t.Errorf("Enough is %v, %d behind the last", ok, e)
	}
}

// P3.2: leaders of some rounds, told one by one.
func TestLeader(t *testing.T) {
	for _, c := range []struct{ n, round, want int }{
		{4, 2, 1}, {4, 4, 2}, {4, 6, 3}, {4, 8, 4}, {4, 10, 1}, {4, 16, 4}, {4, 18, 1},
		{1, 2, 1}, {1, 4, 1}, {1, api.MaxRound, 1},
		{7, 14, 7}, {7, 16, 1}, {10, 20, 10}, {10, 22, 1}, {13, 26, 13}, {13, 28, 1}, {16, 32, 16}, {16, 34, 1},
		{4, api.MaxRound, 4}, {4, api.MaxRound - 2, 3}, {16, api.MaxRound, 16}, {16, api.MaxRound - 30, 1},
		{7, api.MaxRound, 1}, {10, api.MaxRound, 8}, {13, api.MaxRound, 8}, {7, 1<<31 + 2, 2},
	} {
		if k, e := Leader(c.n, c.round); k != c.want || e != api.OK {
			t.Errorf("Leader(%d, %d) is %d, %d", c.n, c.round, k, e)
		}
	}
}

// P3.2: the nodes lead by turns, from the first one on.
func TestLeaderTurns(t *testing.T) {
	for _, c := range sizes {
		want := 1
		for round := 2; round < 500; round += 2 {
			if k, e := Leader(c.n, round); k != want || e != api.OK {
				t.Errorf("Leader(%d, %d) is %d, %d", c.n, round, k, e)
			}
			if want++; want > c.n {
				want = 1
			}
		}
	}
}

// P3.2: odd rounds and rounds out of bounds have no leader.
func TestLeaderForm(t *testing.T) {
	rounds := []int{
		0, -2, -4, -1 << 32, math.MinInt, // even, but below the first
		api.MaxRound + 2, api.MaxRound + 8, 1 << 41, 1 << 62, math.MaxInt - 1, // even, but beyond the last
		api.MaxRound - 1, api.MaxRound + 1, math.MaxInt, math.MinInt + 1,
	}
	for round := -99; round < 100; round += 2 {
		rounds = append(rounds, round)
	}
	for _, c := range sizes {
		for _, round := range rounds {
			if k, e := Leader(c.n, round); k != 0 || e != api.ErrForm {
				t.Errorf("Leader(%d, %d) is %d, %d", c.n, round, k, e)
			}
		}
	}
}

// P3.3: what two sets have in common that are both enough is a few.
func TestCommon(t *testing.T) {
	for _, c := range sizes {
		few, _ := Few(c.n)
		var enough []int
		some := make([]bool, 1<<c.n)
		for set := range 1 << c.n {
			l := members(set)
			some[set], _ = Some(c.n, l)
			if ok, _ := Enough(c.n, l); ok {
				enough = append(enough, set)
			}
		}
		if len(enough) == 0 {
			t.Errorf("of %d nodes none are enough", c.n)
		}
		for i, a := range enough {
			for _, b := range enough[:i+1] {
				if bits.OnesCount(uint(a&b)) < few || !some[a&b] {
					t.Fatalf("of %d nodes %v and %v are enough", c.n, members(a), members(b))
				}
			}
		}
	}
}
