package place

import (
	"math"
	"testing"

	"drover/api"
)

const top = float64(api.MaxRound)

var nan, inf = math.NaN(), math.Inf(1)

// notPlaces lists complex numbers that are no place, each for its own reason.
func notPlaces() []complex128 {
	return []complex128{
		0, 1, -1i, 3 - 2i, // no author, or one below the first
		-1 + 1i, complex(-top, 1), // a round below the first
		complex(top+1, 1), complex(2*top, 1), complex(1<<62, 1), complex(1<<63, 1), complex(1<<64, 1), complex(-(1 << 63), 1), complex(math.MaxFloat64, 1), // and beyond the last
		17i, 1 + 17i, complex(1, 1<<63), complex(1, 1<<64+1), complex(1, math.MaxFloat64), // an author beyond the last
		0.5 + 1i, 1 + 1.5i, 1 + 0.999i, 1 + 16.001i, complex(top-0.5, 1), complex(math.SmallestNonzeroFloat64, 1), complex(-0.5, 1), 1 + 0.5i, // not integers
		complex(nan, 1), complex(1, nan), complex(nan, nan),
		complex(inf, 1), complex(-inf, 1), complex(1, inf), complex(1, -inf), complex(inf, -inf),
	}
}

// edgeRounds lists rounds around the edges of what a place may have.
func edgeRounds() []int {
	return []int{0, 1, 2, 3, 17, 1 << 20, 1 << 31, 1<<32 + 1, 1<<39 + 1, api.MaxRound - 2, api.MaxRound - 1, api.MaxRound}
}

// P1.1: At makes the complex number of a round and an author.
func TestAt(t *testing.T) {
	for _, c := range []struct {
		round, author int
		want          complex128
	}{
		{3, 2, 3 + 2i},
		{0, 1, 1i},
		{0, api.MaxNodes, 16i},
		{1, 1, 1 + 1i},
		{api.MaxRound, 1, complex(top, 1)},
		{api.MaxRound, api.MaxNodes, complex(top, 16)},
		{api.MaxRound - 1, 7, complex(top-1, 7)},
	} {
		if p, e := At(c.round, c.author); p != c.want || e != api.OK {
			t.Errorf("At(%d, %d) is %v, %d", c.round, c.author, p, e)
		}
	}
}

// P1.1: At refuses rounds and authors out of bounds.
func TestAtForm(t *testing.T) {
	for _, c := range [][2]int{
		{-1, 1}, {api.MaxRound + 1, 1}, {math.MinInt, 1}, {math.MaxInt, 1},
		{1, 0}, {1, -1}, {1, api.MaxNodes + 1}, {1, math.MinInt}, {1, math.MaxInt},
		{-1, 0}, {api.MaxRound + 1, api.MaxNodes + 1},
		{1 << 32, 1<<32 + 1}, {1<<41 + 3, 2},
	} {
		if p, e := At(c[0], c[1]); p != 0 || e != api.ErrForm {
			t.Errorf("At(%d, %d) is %v, %d", c[0], c[1], p, e)
		}
	}
}

// P1.1: Parts takes a place apart.
func TestParts(t *testing.T) {
	for _, c := range []struct {
		p             complex128
		round, author int
	}{
		{3 + 2i, 3, 2},
		{1i, 0, 1},
		{complex(math.Copysign(0, -1), 4), 0, 4},
		{16i, 0, 16},
		{complex(top, 16), api.MaxRound, 16},
		{complex(top-1, 1), api.MaxRound - 1, 1},
	} {
		if round, author, e := Parts(c.p); round != c.round || author != c.author || e != api.OK {
			t.Errorf("Parts(%v) is %d, %d, %d", c.p, round, author, e)
		}
	}
}

// P1.1: Parts refuses what is no place, with zero values beside the error.
func TestPartsForm(t *testing.T) {
	for _, p := range notPlaces() {
		if round, author, e := Parts(p); round != 0 || author != 0 || e != api.ErrForm {
			t.Errorf("Parts(%v) is %d, %d, %d", p, round, author, e)
		}
	}
}

// P1.1: Before goes by the round first, then by the author, and no place precedes itself.
func TestBefore(t *testing.T) {
	// Each precedes all that stand behind it.
	rising := []complex128{1i, 2i, 16i, 1 + 1i, 1 + 2i, 1 + 16i, 2 + 1i, 2 + 15i, complex(top-1, 16), complex(top, 1), complex(top, 16)}
	for i, a := range rising {
		for j, b := range rising {
			if is, e := Before(a, b); is != (i < j) || e != api.OK {
				t.Errorf("Before(%v, %v) is %v, %d", a, b, is, e)
			}
		}
	}
	minus := complex(math.Copysign(0, -1), 2)
	for _, c := range []struct {
		a, b complex128
		want bool
	}{{minus, 2i, false}, {2i, minus, false}, {minus, 3i, true}, {1i, minus, true}} {
		if is, e := Before(c.a, c.b); is != c.want || e != api.OK {
			t.Errorf("Before(%v, %v) is %v, %d", c.a, c.b, is, e)
		}
	}
}

// P1.1: Before refuses what is no place on either side.
func TestBeforeForm(t *testing.T) {
	for _, p := range notPlaces() {
		for _, c := range [][2]complex128{{p, 1i}, {1i, p}, {p, complex(top, 16)}, {complex(top, 16), p}, {p, p}} {
			if is, e := Before(c[0], c[1]); is || e != api.ErrForm {
				t.Errorf("Before(%v, %v) is %v, %d", c[0], c[1], is, e)
			}
		}
	}
}

// P1.2: Move adds.
func TestMove(t *testing.T) {
	for _, c := range []struct{ p, q, want complex128 }{
		{3 + 2i, -1 + 1i, 2 + 3i},
		{3 + 2i, 0, 3 + 2i},
		{3 + 2i, -3 - 1i, 1i},
		{3 + 2i, 14i, 3 + 16i},
		{1i, complex(top, 15), complex(top, 16)},
		{complex(top, 16), complex(-top, -15), 1i},
		{complex(top-1, 1), 1, complex(top, 1)},
	} {
		if p, e := Move(c.p, c.q); p != c.want || e != api.OK {
			t.Errorf("Move(%v, %v) is %v, %d", c.p, c.q, p, e)
		}
	}
}

// P1.2: a sum of two zeros below zero is the round 0, as At makes it.
func TestMoveZero(t *testing.T) {
	minus := math.Copysign(0, -1)
	p, e := Move(complex(minus, 2), complex(minus, minus))
	if p != 2i || math.Signbit(real(p)) || e != api.OK {
		t.Errorf("%v, %d", p, e)
	}
}

// P1.2: Move refuses where p is no place.
func TestMoveFromForm(t *testing.T) {
	for _, p := range notPlaces() {
		for _, q := range []complex128{0, 1, -1, 1i, -1i} {
			if m, e := Move(p, q); m != 0 || e != api.ErrForm {
				t.Errorf("Move(%v, %v) is %v, %d", p, q, m, e)
			}
		}
	}
}

// P1.2: Move refuses where q is not of its form, or leads to no place.
func TestMoveByForm(t *testing.T) {
	for _, c := range []struct{ p, q complex128 }{
		{3 + 2i, -4}, {3 + 2i, -2i}, {3 + 2i, -3i}, {3 + 2i, 15i}, {1i, -1},
		{complex(top, 1), 1}, {complex(top, 16), 1i}, {complex(top, 1), complex(top, 0)},
		{1i, complex(0, top)}, {1i, complex(0, -top)}, {1i, complex(top, top)},
		{3 + 2i, 0.5}, {3 + 2i, 0.5i}, {3 + 2i, complex(math.SmallestNonzeroFloat64, 0)}, {3 + 2i, 1e-300i},
		{1i, complex(top+1, 0)}, {complex(top, 1), complex(-top-1, 0)}, {1i, complex(0, top+1)}, {1i, complex(0, -top-1)},
		{1i, complex(nan, 0)}, {1i, complex(0, nan)}, {1i, complex(inf, 0)}, {1i, complex(-inf, 0)}, {1i, complex(0, inf)}, {1i, complex(0, -inf)},
		{1i, complex(1<<63, 0)}, {1i, complex(0, -(1 << 64))}, {1i, complex(math.MaxFloat64, 0)},
	} {
		if m, e := Move(c.p, c.q); m != 0 || e != api.ErrForm {
			t.Errorf("Move(%v, %v) is %v, %d", c.p, c.q, m, e)
		}
	}
}

// P1.3: Parts gives back what At was given.
func TestPartsOfAt(t *testing.T) {
	for _, round := range edgeRounds() {
		for author := 1; author <= api.MaxNodes; author++ {
			p, e := At(round, author)
			if e != api.OK {
				t.Fatalf("At(%d, %d): %d", round, author, e)
			}
			if r, a, e := Parts(p); r != round || a != author || e != api.OK {
				t.Errorf("Parts(At(%d, %d)) is %d, %d, %d", round, author, r, a, e)
			}
		}
	}
}

// P1.3: from any place to any other one and back.
func TestMoveBack(t *testing.T) {
	for _, from := range edgeRounds() {
		for _, to := range edgeRounds() {
			for author := 1; author <= api.MaxNodes; author++ {
				p := complex(float64(from), float64(author))
				q := complex(float64(to-from), float64(api.MaxNodes+1-2*author))
				m, e := Move(p, q)
				if m != p+q || e != api.OK {
					t.Fatalf("Move(%v, %v) is %v, %d", p, q, m, e)
				}
				if back, e := Move(m, -q); back != p || e != api.OK {
					t.Errorf("Move(%v, %v) is %v, %d", m, -q, back, e)
				}
			}
		}
	}
}
