package dag

import (
	"fmt"
	"math"
	"reflect"
	"slices"
	"testing"

	"drover/api"
	"drover/committee"
	"drover/place"
)

// sizes are the numbers of nodes that there may be.
var sizes = []int{1, 4, 7, 10, 13, 16}

// count lists n numbers from first on.
func count(first, n int) []int {
	l := make([]int, n)
	for i := range l {
		l[i] = first + i
	}
	return l
}

// odd lists numbers that are neither digests nor nodes nor rounds.
func odd() []int {
	return []int{0, -1, -2, -9, 1<<40 + 1, 1 << 41, -1 << 32, 1 - 1<<32, math.MaxInt, math.MaxInt - 1, math.MinInt, math.MinInt + 1}
}

// tell is what v holds; nil and empty lists are told alike.
func tell(v any) string {
	return fmt.Sprintf("%+v", v)
}

// cert is one of 4 nodes; its digest is 10 times its round, and its author.
func cert(round, author int, parents ...int) api.Cert {
	return api.Cert{
		Header:  api.Header{Author: author, Round: round, Batches: []int{author, 100 + round%100}, Parents: parents},
		Digest:  10*round + author,
		Signers: []int{1, 2, 3},
	}
}

// with is c with another digest.
func with(c api.Cert, digest int) api.Cert {
	c.Digest = digest
	return c
}

// good is a DAG that begins above round 1, with three rounds.
func good() api.Dag {
	return api.Dag{Nodes: 4, Low: 1, Certs: []api.Cert{
		cert(2, 1, 1, 2, 3),
		cert(2, 2, 5, 6, 7, 8),
		cert(2, 4, 1, 2, api.MaxBook),
		cert(3, 1, 21, 22, 24),
		cert(3, 3, 21, 22, 24),
		cert(3, 4, 21, 22, 24),
		cert(4, 2, 31, 33, 34),
	}}
}

// fresh is a DAG of 4 nodes that begins with round 1.
func fresh() api.Dag {
	return api.Dag{Nodes: 4, Certs: []api.Cert{cert(1, 2), cert(1, 3), cert(1, 4), cert(2, 1, 12, 13, 14)}}
}

// full is a DAG of all the digests that there are: 16 nodes in each of 4096 rounds.
func full() api.Dag {
	d := api.Dag{Nodes: 16}
	for k := range api.MaxBook {
		c := api.Cert{Header: api.Header{Author: k%16 + 1, Round: k/16 + 1}, Digest: api.MaxBook - k, Signers: count(6, 11)}
		if k >= 16 {
			c.Header.Parents = count(api.MaxBook-k/16*16+1, 16)
		}
		d.Certs = append(d.Certs, c)
	}
	return d
}

// answer is what a call returned.
type answer struct {
	name string
	v    any
	e    api.Errno
}

// every makes each call that takes a DAG, of arguments that are in order for good.
func every(d api.Dag) []answer {
	var l []answer
	add := func(name string, v any, e api.Errno) {
		l = append(l, answer{name, v, e})
	}
	add("Check", 0, Check(d))
	x, e := Add(d, cert(3, 2, 21, 22, 24))
	add("Add", x, e)
	m, e := Lacks(d, cert(3, 2, 20, 21, 22, 23))
	add("Lacks", m, e)
	c, e := Find(d, 33)
	add("Find", c, e)
	c, e = At(d, 2+2i)
	add("At", c, e)
	cs, e := Round(d, 3)
	add("Round", cs, e)
	top, e := Top(d)
	add("Top", top, e)
	x, e = Trim(d, 2)
	add("Trim", x, e)
	return l
}

// refused asks whether a call was refused with want and nothing beside.
func refused(t *testing.T, what string, v any, e, want api.Errno) {
	t.Helper()
	if e != want || tell(v) != tell(reflect.Zero(reflect.TypeOf(v)).Interface()) {
		t.Errorf("%s is %d, not %d; %s", what, e, want, tell(v))
	}
}

// is asks whether a call answered want.
func is(t *testing.T, what string, v, want any, e api.Errno) {
	t.Helper()
	if e != api.OK || tell(v) != tell(want) {
		t.Errorf("%s is %d,\n%s, not\n%s", what, e, tell(v), tell(want))
	}
}

// P14.1: New has its nodes and nothing else.
func TestNew(t *testing.T) {
	for _, n := range sizes {
		d, e := New(n)
		is(t, fmt.Sprint("New of ", n), d, api.Dag{Nodes: n}, e)
		if Check(d) != api.OK {
			t.Errorf("New(%d) isn't valid", n)
		}
	}
	for _, n := range append(odd(), 2, 3, 5, 6, 8, 9, 15, 17, 19, 22, 1<<32+1, 1<<32+4) {
		d, e := New(n)
		refused(t, fmt.Sprint("New of ", n), d, e, api.ErrForm)
	}
}

// P14.1: what is at an edge of what may be is valid.
func TestCheckOfGood(t *testing.T) {
	end := api.Dag{Nodes: 4, Low: api.MaxRound - 2, Certs: []api.Cert{
		with(cert(api.MaxRound-1, 1, 7, 8, 9), 1), with(cert(api.MaxRound-1, 2, 7, 8, 9), 2), with(cert(api.MaxRound-1, 3, 7, 8, 9), api.MaxBook),
		with(cert(api.MaxRound, 1, 1, 2, api.MaxBook), 3), with(cert(api.MaxRound, 4, 1, 2, api.MaxBook), 4),
	}}
	alone := api.Dag{Nodes: 1, Certs: []api.Cert{
		{Header: api.Header{Author: 1, Round: 1}, Digest: 9, Signers: []int{1}},
		{Header: api.Header{Author: 1, Round: 2, Parents: []int{9}}, Digest: 3, Signers: []int{1}},
	}}
	for i, change := range []func(d *api.Dag){
		func(d *api.Dag) {},
		func(d *api.Dag) { *d = fresh() },
		func(d *api.Dag) { *d = full() },
		func(d *api.Dag) { *d = end },
		func(d *api.Dag) { *d = alone },
		func(d *api.Dag) { d.Certs = nil },
		func(d *api.Dag) { d.Certs = []api.Cert{} },
		func(d *api.Dag) { d.Certs, d.Low = nil, 0 },
		func(d *api.Dag) { d.Certs, d.Low = nil, api.MaxRound },
		func(d *api.Dag) { d.Certs = d.Certs[:1] },
		// What is of round Low + 1 may name as a parent what is something else here.
		func(d *api.Dag) { d.Certs[0].Header.Parents = []int{21, 22, 42} },
		func(d *api.Dag) { d.Certs[0].Signers, d.Certs[6].Signers = []int{1, 2, 3, 4}, []int{2, 3, 4} },
		func(d *api.Dag) { d.Certs[6].Digest = 1 },
		func(d *api.Dag) { d.Certs[6].Header.Batches = count(api.MaxBook-7, api.MaxRefs) },
	} {
		d := good()
		change(&d)
		if e := Check(d); e != api.OK {
			t.Errorf("%d: %d", i, e)
		}
	}
}

// bads is DAGs that are not valid, each for one cause.
func bads() []api.Dag {
	var l []api.Dag
	add := func(change func(d *api.Dag)) {
		d := good()
		change(&d)
		l = append(l, d)
	}
	for _, k := range odd() {
		add(func(d *api.Dag) { d.Nodes = k })
		add(func(d *api.Dag) { d.Nodes, d.Certs = k, nil })
		add(func(d *api.Dag) { d.Low = k })
		add(func(d *api.Dag) { d.Certs[6].Header.Author = k })
		add(func(d *api.Dag) { d.Certs[6].Header.Round = k })
		add(func(d *api.Dag) { d.Certs[6].Digest = k })
		add(func(d *api.Dag) { d.Certs[6].Header.Batches = []int{k} })
		add(func(d *api.Dag) { d.Certs[6].Signers[0] = k })
		add(func(d *api.Dag) { d.Certs[0].Header.Parents[0] = k })
		if k != 0 {
			add(func(d *api.Dag) { d.Low, d.Certs = k, nil })
		}
	}
	for _, n := range []int{1, 3, 5, 7, 16, 17} {
		add(func(d *api.Dag) { d.Nodes = n })
	}
	for _, low := range []int{0, 2, 3, 4, 5} {
		add(func(d *api.Dag) { d.Low = low })
	}
	// Two neighbours change places, or stand in one place: the same certificate, or another one.
	for k := range 6 {
		add(func(d *api.Dag) { d.Certs[k], d.Certs[k+1] = d.Certs[k+1], d.Certs[k] })
		add(func(d *api.Dag) { d.Certs[k+1] = d.Certs[k] })
		add(func(d *api.Dag) { d.Certs = slices.Insert(d.Certs, k, d.Certs[k]) })
		add(func(d *api.Dag) { d.Certs = slices.Insert(d.Certs, k+1, with(d.Certs[k], 99)) })
	}
	add(func(d *api.Dag) { d.Certs[6].Digest = 21 })
	add(func(d *api.Dag) { d.Certs[6].Digest = 34 })
	add(func(d *api.Dag) { d.Certs = d.Certs[:6]; d.Certs[5].Digest = 33 })
	add(func(d *api.Dag) { d.Certs[6].Digest = api.MaxBook + 1 })
	add(func(d *api.Dag) { d.Certs[6].Header.Author = 5 })
	add(func(d *api.Dag) { d.Certs[6].Signers = []int{1, 2} })
	add(func(d *api.Dag) { d.Certs[6].Signers = []int{2, 1, 3} })
	add(func(d *api.Dag) { d.Certs[0].Header.Parents = nil })
	add(func(d *api.Dag) { d.Certs[0].Header.Parents = []int{1, 2} })
	add(func(d *api.Dag) { d.Certs[6].Header.Batches = count(1, api.MaxRefs+1) })
	// The parents are not there, or are of the same round, of one below the previous one, or of one above.
	for _, p := range [][]int{{21, 22, 23}, {20, 21, 22}, {21, 22, 24, 25}, {1, 2, 3}, {21, 22, 31}, {21, 22, 33}, {21, 22, 34}, {21, 22, 42}, {21, 22, 1 << 16}} {
		add(func(d *api.Dag) { d.Certs[4].Header.Parents = p })
	}
	for _, p := range [][]int{{21, 22, 24}, {31, 33, 42}, {24, 31, 33}, {31, 32, 33}, {31, 33, 34, 35}} {
		add(func(d *api.Dag) { d.Certs[6].Header.Parents = p })
	}
	add(func(d *api.Dag) { d.Certs = slices.Delete(d.Certs, 0, 1) })
	add(func(d *api.Dag) { d.Certs = slices.Delete(d.Certs, 4, 5) })
	add(func(d *api.Dag) { d.Certs = slices.Delete(d.Certs, 3, 6) })
	add(func(d *api.Dag) { d.Certs[6].Header.Round = 5 })
	add(func(d *api.Dag) { *d = fresh(); d.Certs[3].Header.Round = 1 })
	add(func(d *api.Dag) { *d = fresh(); d.Certs[2].Header.Parents = []int{1, 2, 3} })
	return append(l, api.Dag{})
}

// P14.1, P14.2: every call refuses a DAG that is not valid, ahead of all that is wrong beside.
func TestBadDags(t *testing.T) {
	for i, d := range bads() {
		for _, a := range every(d) {
			refused(t, fmt.Sprint(i, ": ", a.name), a.v, a.e, api.ErrForm)
		}
		// What would be ErrOld, ErrThere, ErrTwo, ErrLack and ErrNone else.
		for _, c := range []api.Cert{cert(1, 1), cert(2, 1, 1, 2, 3), with(cert(2, 1, 1, 2, 3), 98), cert(3, 2, 97, 98, 99)} {
			x, e := Add(d, c)
			refused(t, fmt.Sprint(i, ": Add"), x, e, api.ErrForm)
			l, e := Lacks(d, c)
			refused(t, fmt.Sprint(i, ": Lacks"), l, e, api.ErrForm)
		}
		c, e := Find(d, 98)
		refused(t, fmt.Sprint(i, ": Find"), c, e, api.ErrForm)
		c, e = At(d, 9+1i)
		refused(t, fmt.Sprint(i, ": At"), c, e, api.ErrForm)
	}
	// Too long, whatever else.
	d := full()
	d.Certs = append(d.Certs, d.Certs[api.MaxBook-1])
	d.Certs[api.MaxBook].Header.Round++
	for _, a := range every(d) {
		refused(t, "too long: "+a.name, a.v, a.e, api.ErrForm)
	}
}

// P14.1: Add puts a certificate where its place is.
func TestAdd(t *testing.T) {
	for i, c := range []api.Cert{
		cert(2, 3, 1, 2, 3), // above Low alone, so that its parents needn't be there
		cert(2, 3, 21, 22, 42),
		with(cert(2, 3, 1, 2, 3), 1), with(cert(2, 3, 1, 2, 3), api.MaxBook),
		cert(3, 2, 21, 22, 24),
		cert(4, 1, 31, 33, 34), cert(4, 3, 31, 33, 34), cert(4, 4, 31, 33, 34),
		// A parent may be another one's batch, or this one's own.
		{Header: api.Header{Author: 4, Round: 4, Batches: []int{31}, Parents: []int{31, 33, 34}}, Digest: 44, Signers: []int{1, 2, 3, 4}},
	} {
		want := good()
		want.Certs = append(want.Certs, c)
		slices.SortFunc(want.Certs, func(a, b api.Cert) int {
			if a.Header.Round != b.Header.Round {
				return a.Header.Round - b.Header.Round
			}
			return a.Header.Author - b.Header.Author
		})
		d, e := Add(good(), c)
		is(t, fmt.Sprint(i, ": Add"), d, want, e)
		if Check(d) != api.OK {
			t.Errorf("%d isn't valid", i)
		}
		_, e = Add(d, c)
		if e != api.ErrThere {
			t.Errorf("%d: Add again is %d", i, e)
		}
	}
	// From nothing on, the last author first.
	d, _ := New(4)
	for author := 4; author >= 1; author-- {
		d, _ = Add(d, cert(1, author))
	}
	is(t, "four", d, api.Dag{Nodes: 4, Certs: []api.Cert{cert(1, 1), cert(1, 2), cert(1, 3), cert(1, 4)}}, api.OK)
}

// P14.1: what Add refuses, the first error that applies.
func TestAddRefuses(t *testing.T) {
	unsigned := cert(1, 1)
	unsigned.Signers = []int{1, 2}
	other := cert(3, 1, 21, 22, 24)
	other.Header.Batches, other.Signers = nil, []int{2, 3, 4}
	for i, c := range []struct {
		c api.Cert
		e api.Errno
	}{
		{api.Cert{}, api.ErrForm},
		{unsigned, api.ErrForm},
		{cert(2, 0, 1, 2, 3), api.ErrForm},
		{cert(2, 5, 1, 2, 3), api.ErrForm},
		{cert(0, 1), api.ErrForm},
		{cert(1, 5), api.ErrForm},
		{cert(1, 1, 1, 2, 3), api.ErrForm},
		{with(cert(1, 1), 0), api.ErrForm},
		{with(cert(2, 3, 1, 2, 3), 0), api.ErrForm},
		{with(cert(2, 3, 1, 2, 3), api.MaxBook+1), api.ErrForm},
		{cert(3, 2, 21, 22), api.ErrForm},
		{cert(3, 2, 22, 21, 24), api.ErrForm},
		{with(cert(api.MaxRound+1, 1, 1, 2, 3), 9), api.ErrForm},
		{cert(1, 1), api.ErrOld},
		{with(cert(1, 1), 21), api.ErrOld},
		{cert(2, 1, 1, 2, 3), api.ErrThere},
		{cert(4, 2, 31, 33, 34), api.ErrThere},
		{other, api.ErrThere},
		{cert(3, 1, 91, 92, 93), api.ErrThere}, // it lacks parents, too
		{with(cert(2, 1, 1, 2, 3), 99), api.ErrTwo},
		{with(cert(3, 1, 21, 22, 24), 99), api.ErrTwo},
		{with(cert(3, 1, 91, 92, 93), 99), api.ErrTwo},
		{with(cert(3, 2, 21, 22, 24), 21), api.ErrTwo},
		{with(cert(3, 2, 21, 22, 24), 31), api.ErrTwo},
		{with(cert(3, 2, 21, 22, 24), 42), api.ErrTwo},
		{with(cert(3, 2, 91, 92, 93), 42), api.ErrTwo},
		{with(cert(2, 3, 1, 2, 3), 21), api.ErrTwo},
		{with(cert(2, 1, 1, 2, 3), 22), api.ErrTwo}, // its place is one's, its digest another one's
		{with(cert(4, 2, 31, 33, 34), 21), api.ErrTwo},
		{cert(3, 2, 21, 22, 23), api.ErrLack},
		{cert(3, 2, 91, 92, 93), api.ErrLack},
		{cert(3, 2, 21, 22, 24, 25), api.ErrLack},
		{cert(3, 2, 21, 22, 31), api.ErrLack},
		{cert(3, 2, 21, 22, 32), api.ErrLack},
		{cert(3, 2, 21, 22, 42), api.ErrLack},
		{cert(4, 1, 21, 22, 24), api.ErrLack},
		{cert(4, 1, 24, 31, 33), api.ErrLack},
		{cert(5, 1, 31, 33, 34), api.ErrLack},
		{with(cert(api.MaxRound, 1, 1, 2, 3), 9), api.ErrLack},
	} {
		d := good()
		x, e := Add(d, c.c)
		refused(t, fmt.Sprint(i, ": Add"), x, e, c.e)
		is(t, fmt.Sprint(i, ": the DAG"), d, good(), api.OK)
	}
	// The chapter's example.
	d, _ := New(4)
	x, e := Add(d, cert(2, 1, 11, 12, 13))
	refused(t, "Add to an empty one", x, e, api.ErrLack)
	// Behind all digests there is none left; of one more round it lacks nothing.
	whole := full()
	c := whole.Certs[api.MaxBook-1]
	c.Header.Round++
	c.Header.Parents = count(1, 16)
	x, e = Add(whole, c)
	refused(t, "Add to a full one", x, e, api.ErrTwo)
}

// P14.1: Lacks lists the parents that are not of the previous round here.
func TestLacks(t *testing.T) {
	for i, c := range []struct {
		c    api.Cert
		want []int
	}{
		{cert(2, 3, 1, 2, 3), nil},
		{cert(2, 3, 91, 92, 93), nil},
		{cert(2, 1, 1, 2, 3), nil},
		{cert(3, 2, 21, 22, 24), nil},
		{cert(3, 1, 21, 22, 24), nil},
		{cert(3, 2, 21, 22, 23), []int{23}},
		{cert(3, 2, 21, 22, 23, 24), []int{23}},
		{cert(3, 2, 1, 21, 22, 1<<16), []int{1, 1 << 16}},
		{cert(3, 2, 23, 25, 26, 27), []int{23, 25, 26, 27}},
		{cert(3, 2, 31, 33, 34), []int{31, 33, 34}},
		{cert(3, 2, 21, 32, 42), []int{32, 42}},
		{cert(4, 1, 21, 31, 33, 42), []int{21, 42}},
		{cert(5, 1, 31, 41, 42, 43), []int{31, 41, 43}},
		{cert(6, 1, 42, 51, 52), []int{42, 51, 52}},
		{with(cert(api.MaxRound, 1, 1, 2, 3), 9), []int{1, 2, 3}},
		// Its digest or its place may be another one's.
		{with(cert(3, 1, 20, 21, 22), 21), []int{20}},
	} {
		l, e := Lacks(good(), c.c)
		is(t, fmt.Sprint(i, ": Lacks"), l, c.want, e)
	}
	for i, c := range []struct {
		c api.Cert
		e api.Errno
	}{
		{api.Cert{}, api.ErrForm},
		{cert(1, 5), api.ErrForm},
		{cert(3, 5, 21, 22, 23), api.ErrForm},
		{cert(3, 2, 21, 22), api.ErrForm},
		{cert(3, 2, 22, 21, 23), api.ErrForm},
		{with(cert(3, 2, 21, 22, 23), 0), api.ErrForm},
		{cert(1, 1), api.ErrOld},
	} {
		l, e := Lacks(good(), c.c)
		refused(t, fmt.Sprint(i, ": Lacks"), l, e, c.e)
	}
	d := api.Dag{Nodes: 4, Low: api.MaxRound}
	_, e := Lacks(d, with(cert(api.MaxRound, 1, 1, 2, 3), 9))
	_, f := Add(d, with(cert(api.MaxRound, 1, 1, 2, 3), 9))
	if e != api.ErrOld || f != api.ErrOld {
		t.Errorf("at the end: %d, %d", e, f)
	}
	d.Low--
	_, e = Lacks(d, with(cert(api.MaxRound, 1, 1, 2, 3), 9))
	d, f = Add(d, with(cert(api.MaxRound, 1, 1, 2, 3), 9))
	if e != api.OK || f != api.OK || len(d.Certs) != 1 {
		t.Errorf("ahead of the end: %d, %d", e, f)
	}
	d, _ = New(4)
	if l, e := Lacks(d, cert(1, 1)); e != api.OK || len(l) > 0 {
		t.Errorf("of round 1: %d, %d", l, e)
	}
}

// P14.2: Find and At know each certificate, and none beside.
func TestFindAndAt(t *testing.T) {
	for _, d := range []api.Dag{good(), fresh(), {Nodes: 4}} {
		digests := map[int]api.Cert{}
		places := map[complex128]api.Cert{}
		for _, c := range d.Certs {
			digests[c.Digest] = c
			p, _ := place.At(c.Header.Round, c.Header.Author)
			places[p] = c
		}
		for _, digest := range append(odd(), append(count(1, 60), api.MaxBook, api.MaxBook+1)...) {
			c, e := Find(d, digest)
			if want, there := digests[digest]; there {
				is(t, fmt.Sprint("Find of ", digest), c, want, e)
			} else {
				refused(t, fmt.Sprint("Find of ", digest), c, e, api.ErrNone)
			}
		}
		for _, round := range append(count(0, 8), api.MaxRound-1, api.MaxRound) {
			for author := 1; author <= api.MaxNodes; author++ {
				p := complex(float64(round), float64(author))
				c, e := At(d, p)
				if want, there := places[p]; there {
					is(t, fmt.Sprint("At ", p), c, want, e)
				} else {
					refused(t, fmt.Sprint("At ", p), c, e, api.ErrNone)
				}
			}
		}
	}
}

// P14.2: At refuses what is no place.
func TestAtRefuses(t *testing.T) {
	nan, inf := math.NaN(), math.Inf(1)
	for _, p := range []complex128{
		0, 2, 2i - 1, 2 + 0.5i, 2.5 + 1i, 2 - 1i, -2 + 1i, 2 + 17i, api.MaxRound + 1 + 1i, 1e300 + 1i, 2 + 1e300i,
		complex(nan, 1), complex(2, nan), complex(nan, nan), complex(inf, 1), complex(-inf, 1), complex(2, inf), complex(2, -inf),
		complex(math.Nextafter(2, 3), 1), complex(2, math.Nextafter(1, 0)), 1 + 2i + 0.25,
	} {
		for _, d := range []api.Dag{good(), {Nodes: 4}} {
			c, e := At(d, p)
			refused(t, fmt.Sprint("At ", p), c, e, api.ErrForm)
		}
	}
	c, e := At(good(), complex(math.Copysign(0, -1), 1))
	refused(t, "At a round of -0", c, e, api.ErrNone)
}

// P14.2: Round lists a round's certificates, whatever the number, and Top is the last one.
func TestRoundAndTop(t *testing.T) {
	for i, d := range []api.Dag{good(), fresh(), {Nodes: 4}, {Nodes: 4, Low: 9}, {Nodes: 4, Low: api.MaxRound}} {
		rounds := map[int][]api.Cert{}
		want := 0
		for _, c := range d.Certs {
			rounds[c.Header.Round] = append(rounds[c.Header.Round], c)
			want = max(want, c.Header.Round)
		}
		for _, r := range append(odd(), append(count(1, 9), api.MaxRound, 1<<32+2, -1<<32+3)...) {
			l, e := Round(d, r)
			is(t, fmt.Sprint(i, ": Round ", r), l, rounds[r], e)
		}
		top, e := Top(d)
		is(t, fmt.Sprint(i, ": Top"), top, want, e)
	}
	whole := full()
	for _, r := range []int{1, 2, 2048, 4096} {
		l, e := Round(whole, r)
		if e != api.OK || len(l) != 16 || l[0].Digest != api.MaxBook-16*(r-1) || l[15].Header.Author != 16 {
			t.Errorf("full: Round %d is %d, %d", r, e, len(l))
		}
	}
	if l, e := Round(whole, 4097); e != api.OK || len(l) != 0 {
		t.Errorf("full: %d, %d", e, len(l))
	}
	if top, e := Top(whole); e != api.OK || top != 4096 {
		t.Errorf("full: %d, %d", e, top)
	}
}

// P14.2: Trim removes the rounds up to low, and no more.
func TestTrim(t *testing.T) {
	for _, low := range append(count(1, 9), api.MaxRound-1, api.MaxRound) {
		want := good()
		want.Low = low
		want.Certs = slices.DeleteFunc(want.Certs, func(c api.Cert) bool { return c.Header.Round <= low })
		d, e := Trim(good(), low)
		is(t, fmt.Sprint("Trim to ", low), d, want, e)
		if Check(d) != api.OK {
			t.Errorf("Trim to %d isn't valid", low)
		}
		again, e := Trim(d, low)
		is(t, "Trim again", again, want, e)
		if low > 1 {
			x, e := Trim(d, low-1)
			refused(t, "Trim back", x, e, api.ErrForm)
		}
	}
	for _, low := range odd() {
		d, e := Trim(good(), low)
		refused(t, fmt.Sprint("Trim to ", low), d, e, api.ErrForm)
	}
	d, e := Trim(fresh(), 0)
	is(t, "Trim to 0", d, fresh(), e)
	d, e = Trim(full(), 4095)
	if e != api.OK || len(d.Certs) != 16 || d.Low != 4095 || d.Certs[0].Digest != 16 {
		t.Errorf("full: %d, %d", e, len(d.Certs))
	}
	// What is discarded is old, and what is behind it lacks nothing any more.
	d, _ = Trim(good(), 2)
	_, e = Add(d, cert(2, 3, 1, 2, 3))
	x, f := Add(d, cert(3, 2, 91, 92, 93))
	if e != api.ErrOld || f != api.OK || len(x.Certs) != 5 {
		t.Errorf("behind Trim: %d, %d", e, f)
	}
	// A digest that is discarded is free again.
	x, e = Add(d, with(cert(3, 2, 91, 92, 93), 21))
	if e != api.OK || x.Certs[1].Digest != 21 {
		t.Errorf("a free digest: %d", e)
	}
}

// dice is numbers in a row that looks mixed, the same each time.
type dice uint64

// roll is one below n.
func (s *dice) roll(n int) int {
	*s = *s*6364136223846793005 + 1442695040888963407
	return int(uint64(*s)>>33) % n
}

// some is k of l, in their order, mixed.
func (s *dice) some(l []int, k int) []int {
	l = slices.Clone(l)
	for len(l) > k {
		at := s.roll(len(l))
		l = slices.Delete(l, at, at+1)
	}
	return l
}

// grown is the certificates of some rounds above low among n nodes, mixed, by their places.
func (s *dice) grown(n, low, rounds int) []api.Cert {
	quorum, _ := committee.Quorum(n)
	var l []api.Cert
	previous := count(200, n)
	used := map[int]bool{}
	for round := low + 1; round <= low+rounds; round++ {
		var now []int
		for _, author := range s.some(count(1, n), quorum+s.roll(n-quorum+1)) {
			c := api.Cert{Header: api.Header{Author: author, Round: round}, Signers: s.some(count(1, n), quorum+s.roll(n-quorum+1))}
			if round > 1 {
				c.Header.Parents = s.some(previous, quorum+s.roll(len(previous)-quorum+1))
			}
			for c.Digest == 0 || used[c.Digest] {
				c.Digest = s.roll(api.MaxBook) + 1
			}
			used[c.Digest] = true
			now = append(now, c.Digest)
			l = append(l, c)
		}
		slices.Sort(now)
		previous = now
	}
	return l
}

// P14.3: certificates that are added, each one after its parents, give the same DAG in every order.
func TestEveryOrder(t *testing.T) {
	s := dice(3)
	for _, n := range sizes {
		for _, low := range []int{0, 1, 6, api.MaxRound - 5} {
			l := s.grown(n, low, 5)
			want := api.Dag{Nodes: n, Low: low, Certs: l}
			if Check(want) != api.OK {
				t.Fatalf("among %d above %d: %s", n, low, tell(want))
			}
			for range 6 {
				inSomeOrder(t, &s, want)
			}
		}
	}
}

// inSomeOrder adds the certificates of want by the dice, again and again what lacks its parents yet.
func inSomeOrder(t *testing.T, s *dice, want api.Dag) {
	d, _ := New(want.Nodes)
	d, _ = Trim(d, want.Low)
	rest := slices.Clone(want.Certs)
	for len(rest) > 0 {
		at := s.roll(len(rest))
		c := rest[at]
		lacks, e := Lacks(d, c)
		if e != api.OK {
			t.Fatalf("Lacks is %d", e)
		}
		x, e := Add(d, c)
		if len(lacks) > 0 {
			refused(t, "Add ahead of a parent", x, e, api.ErrLack)
			continue
		}
		if e != api.OK || Check(x) != api.OK || len(x.Certs) != len(d.Certs)+1 {
			t.Fatalf("Add is %d", e)
		}
		d = x
		rest = slices.Delete(rest, at, at+1)
	}
	if tell(d) != tell(want) {
		t.Errorf("%s, not\n%s", tell(d), tell(want))
	}
}

// plain is what a DAG of 4 nodes should be.
type plain struct {
	low   int
	certs map[[2]int]api.Cert // by round and author
}

// dag is p as a DAG.
func (p *plain) dag() api.Dag {
	d := api.Dag{Nodes: 4, Low: p.low}
	for round := p.low + 1; len(d.Certs) < len(p.certs); round++ {
		for author := 1; author <= 4; author++ {
			if c, there := p.certs[[2]int{round, author}]; there {
				d.Certs = append(d.Certs, c)
			}
		}
	}
	return d
}

// lacks is Lacks, of what is in order.
func (p *plain) lacks(c api.Cert) []int {
	var l []int
	for _, parent := range c.Header.Parents {
		there := c.Header.Round == p.low+1
		for author := 1; author <= 4; author++ {
			there = there || p.certs[[2]int{c.Header.Round - 1, author}].Digest == parent
		}
		if !there {
			l = append(l, parent)
		}
	}
	return l
}

// add is Add, of what is in order.
func (p *plain) add(c api.Cert) api.Errno {
	if c.Header.Round <= p.low {
		return api.ErrOld
	}
	at := [2]int{c.Header.Round, c.Header.Author}
	old, taken := p.certs[at]
	if taken && old.Digest == c.Digest {
		return api.ErrThere
	}
	for _, other := range p.certs {
		taken = taken || other.Digest == c.Digest
	}
	if taken {
		return api.ErrTwo
	}
	if len(p.lacks(c)) > 0 {
		return api.ErrLack
	}
	p.certs[at] = c
	return api.OK
}

// P14.1, P14.2: a long mixed run beside a plain DAG.
func TestLongRun(t *testing.T) {
	s := dice(8)
	got := map[api.Errno]int{}
	for range 30 {
		d, _ := New(4)
		p := &plain{certs: map[[2]int]api.Cert{}}
		for step := range 300 {
			top, e := Top(d)
			if s.roll(40) == 0 {
				low := p.low + s.roll(2)
				d, e = Trim(d, low)
				p.low = low
				for at := range p.certs {
					if at[0] <= low {
						delete(p.certs, at)
					}
				}
			} else {
				c := s.cert(max(top, p.low))
				l, f := Lacks(d, c)
				if c.Header.Round > p.low {
					is(t, "Lacks", l, p.lacks(c), f)
				} else {
					refused(t, "Lacks", l, f, api.ErrOld)
				}
				want := p.add(c)
				got[want]++
				x, f := Add(d, c)
				if want == api.OK {
					d, e = x, f
				} else {
					refused(t, "Add", x, f, want)
				}
			}
			is(t, fmt.Sprint("step ", step), d, p.dag(), e)
			if Check(d) != api.OK || t.Failed() {
				t.Fatalf("step %d: %s", step, tell(d))
			}
		}
	}
	for _, e := range []api.Errno{api.OK, api.ErrThere, api.ErrTwo, api.ErrOld, api.ErrLack} {
		if got[e] < 100 {
			t.Errorf("%d comes %d times", e, got[e])
		}
	}
}

// cert is a valid one near round top, mixed.
func (s *dice) cert(top int) api.Cert {
	round := max(1, top+s.roll(4)-2)
	c := cert(round, s.roll(4)+1)
	if round > 1 {
		c.Header.Parents = s.some(count(10*round-9, 4), 3+s.roll(2))
	}
	if s.roll(8) == 0 {
		c.Digest += 10 * (s.roll(3) - 1)
		c.Digest += s.roll(5) * 100
	}
	return c
}

// area is the memory of one list, with its spare capacity.
type area struct{ from, to uintptr }

// areas appends the memory of all lists in v.
func areas(l []area, v reflect.Value) []area {
	switch v.Kind() {
	case reflect.Struct:
		for k := range v.NumField() {
			l = areas(l, v.Field(k))
		}
	case reflect.Slice:
		if v.Cap() > 0 {
			l = append(l, area{v.Pointer(), v.Pointer() + uintptr(v.Cap())*v.Type().Elem().Size()})
		}
		for k := range v.Len() {
			l = areas(l, v.Index(k))
		}
	}
	return l
}

// apart asks whether no two lists in what is given share memory.
func apart(t *testing.T, what string, values ...any) {
	t.Helper()
	var l []area
	for _, v := range values {
		l = areas(l, reflect.ValueOf(v))
	}
	slices.SortFunc(l, func(a, b area) int {
		if a.from < b.from {
			return -1
		}
		return 1
	})
	for k := 1; k < len(l); k++ {
		if l[k].from < l[k-1].to {
			t.Errorf("%s: two lists share memory", what)
		}
	}
}

// roomy gives all lists of c spare capacity.
func roomy(c api.Cert) api.Cert {
	c.Header.Batches = append(make([]int, 0, 32), c.Header.Batches...)
	c.Header.Parents = append(make([]int, 0, 32), c.Header.Parents...)
	c.Signers = append(make([]int, 0, 32), c.Signers...)
	return c
}

// R2: no list of an answer shares memory with another one or with an argument, and no argument changes.
func TestNothingShared(t *testing.T) {
	d := good()
	d.Certs = append(make([]api.Cert, 0, 64), d.Certs...)
	for k := range d.Certs {
		d.Certs[k] = roomy(d.Certs[k])
	}
	was, spare := tell(d), tell(d.Certs[:cap(d.Certs)])
	all := []any{d}
	for _, a := range every(d) {
		if a.e != api.OK {
			t.Errorf("%s is %d", a.name, a.e)
		}
		all = append(all, a.v)
		apart(t, a.name, all...)
	}
	for _, c := range []api.Cert{cert(2, 3, 1, 2, 3), cert(3, 2, 21, 22, 24), cert(4, 4, 31, 33, 34)} {
		c = roomy(c)
		wasc := tell(c)
		x, e := Add(d, c)
		y, f := Lacks(d, c)
		z, g := Lacks(d, roomy(cert(5, 1, 41, 42, 43)))
		if e != api.OK || f != api.OK || g != api.OK || tell(c) != wasc {
			t.Errorf("%d, %d, %d: %s", e, f, g, tell(c))
		}
		apart(t, "Add", d, c, x, y, z)
	}
	same, _ := Trim(d, 1)
	none, _ := Trim(d, 9)
	apart(t, "Trim", d, same, none)
	if tell(d) != was || tell(d.Certs[:cap(d.Certs)]) != spare {
		t.Errorf("changed to %s", tell(d))
	}
}

// R1: equal calls have equal answers, also of the longest DAG.
func TestEqualCalls(t *testing.T) {
	for _, d := range []api.Dag{good(), fresh(), full()} {
		first, again := every(d), every(d)
		for k := range first {
			if !reflect.DeepEqual(first[k], again[k]) {
				t.Errorf("%s answers otherwise", first[k].name)
			}
		}
	}
}
