package worker

import (
	"fmt"
	"maps"
	"math"
	"reflect"
	"slices"
	"strings"
	"testing"

	"drover/api"
	"drover/committee"
)

// tx is a valid transaction, another one for each k from 1.
func tx(k int) api.Tx {
	return api.Tx{Sender: 1, Seq: k, Key: "k", Val: fmt.Sprint("v", k)}
}

// txs is the transactions from..to.
func txs(from, to int) []api.Tx {
	var l []api.Tx
	for k := from; k <= to; k++ {
		l = append(l, tx(k))
	}
	return l
}

// one is a valid batch of one transaction.
func one(author, n int) api.Batch {
	return api.Batch{Author: author, N: n, Txs: []api.Tx{tx(n)}}
}

// lots is so many kept batches, from the digest first on.
func lots(first, count int) []api.Held {
	var l []api.Held
	for k := range count {
		l = append(l, api.Held{Digest: first + k, Batch: one(1, 1)})
	}
	return l
}

// odd lists numbers that are neither digests nor nodes.
func odd() []int {
	return []int{0, -1, -9, api.MaxBook + 1, 1 << 31, 1 << 32, 1<<32 + 1, -1 << 32, 1 - 1<<32, math.MaxInt, math.MinInt, math.MinInt + 1}
}

// tell is what v holds; nil and empty lists are told alike.
func tell(v any) string {
	return fmt.Sprintf("%+v", v)
}

// good is a worker that has something of everything.
func good() api.Worker {
	return api.Worker{
		ID: 2, Nodes: 4, Next: 3, Open: txs(1, 10), Age: 2, Clock: 1,
		Waits: []api.Wait{{Digest: 3, Acks: []int{1, 2}}, {Digest: 4}, {Digest: 9, Acks: []int{2}}},
		Held:  []api.Held{{Digest: 3, Batch: one(1, 1)}, {Digest: 5, Batch: one(3, 7)}, {Digest: 9, Batch: one(16, 2)}},
		Ready: []int{7, 5, api.MaxBook, 1},
	}
}

// answer is what a call returned.
type answer struct {
	name string
	w    api.Worker
	out  []api.Message
	b    api.Batch
	e    api.Errno
}

// every makes each call that takes a worker, of arguments that are in order.
func every(w api.Worker) []answer {
	var l []answer
	add := func(name string, w api.Worker, out []api.Message, b api.Batch, e api.Errno) {
		l = append(l, answer{name, w, out, b, e})
	}
	add("Check", api.Worker{}, nil, api.Batch{}, Check(w))
	x, e := Add(w, tx(1))
	add("Add", x, nil, api.Batch{}, e)
	b, e := Make(w)
	add("Make", api.Worker{}, nil, b, e)
	x, out, e := Sealed(w, 8)
	add("Sealed", x, out, api.Batch{}, e)
	for _, m := range messages() {
		x, out, e = Take(w, m)
		add(fmt.Sprint("Take of kind ", m.Kind), x, out, api.Batch{}, e)
	}
	x, out, e = Tick(w)
	add("Tick", x, out, api.Batch{}, e)
	x, e = Took(w, []int{5})
	add("Took", x, nil, api.Batch{}, e)
	x, e = Back(w, []int{6, 5})
	add("Back", x, nil, api.Batch{}, e)
	return l
}

// messages is one of each kind that a worker takes, from node 1 to node 2 of 4.
func messages() []api.Message {
	return []api.Message{
		{Kind: api.AskBatch, From: 1, To: 2, Digest: 8, Batch: one(1, 2)},
		{Kind: api.GiveBatch, From: 1, To: 2, Digest: 8, Batch: one(1, 2)},
		{Kind: api.TellBatch, From: 1, To: 2, Digest: 9},
		{Kind: api.WantBatch, From: 1, To: 2, Digests: []int{3, 9}},
	}
}

// refused asks whether a call was refused with want and nothing beside.
func refused(t *testing.T, what string, w api.Worker, out []api.Message, e, want api.Errno) {
	t.Helper()
	if e != want || tell(w) != tell(api.Worker{}) || len(out) > 0 {
		t.Errorf("%s is %d, not %d; %s, %s", what, e, want, tell(w), tell(out))
	}
}

// is asks whether a worker and what it sent are as wanted.
func is(t *testing.T, what string, w, want api.Worker, out, sent []api.Message, e api.Errno) {
	t.Helper()
	if e != api.OK || tell(w) != tell(want) {
		t.Errorf("%s is %d,\n%s, not\n%s", what, e, tell(w), tell(want))
	}
	if tell(out) != tell(sent) {
		t.Errorf("%s sends\n%s, not\n%s", what, tell(out), tell(sent))
	}
}

// asks is AskBatch of a batch to some nodes.
func asks(from, d int, b api.Batch, nodes ...int) []api.Message {
	var l []api.Message
	for _, to := range nodes {
		l = append(l, api.Message{Kind: api.AskBatch, From: from, To: to, Digest: d, Batch: b})
	}
	return l
}

// P13.1: New has its nodes and the first number, and is empty.
func TestNew(t *testing.T) {
	for _, n := range []int{1, 4, 7, 10, 13, 16} {
		for id := 1; id <= n; id++ {
			w, e := New(id, n)
			if e != api.OK || tell(w) != tell(api.Worker{ID: id, Nodes: n, Next: 1}) {
				t.Errorf("New(%d, %d) is %s, %d", id, n, tell(w), e)
			}
		}
		for _, id := range append(odd(), n+1, n+2) {
			w, e := New(id, n)
			refused(t, fmt.Sprint("New of ", id, n), w, nil, e, api.ErrForm)
		}
	}
	for _, n := range append(odd(), 2, 3, 5, 6, 8, 17, 18, 19, 22) {
		w, e := New(1, n)
		refused(t, fmt.Sprint("New among ", n), w, nil, e, api.ErrForm)
	}
}

// P13.1: what is at an edge of what may be is valid.
func TestCheckOfGood(t *testing.T) {
	all := make([]int, api.MaxBook)
	var waits []api.Wait
	for k := range all {
		all[k] = api.MaxBook - k
		waits = append(waits, api.Wait{Digest: k + 1, Acks: []int{1, 2, 3, 4}})
	}
	long := api.Tx{Sender: 1 << 40, Seq: 1 << 40, Key: strings.Repeat("k", api.MaxKey), Val: strings.Repeat("v", api.MaxVal)}
	for i, change := range []func(w *api.Worker){
		func(w *api.Worker) {},
		func(w *api.Worker) { *w = api.Worker{ID: 1, Nodes: 1, Next: 1} },
		func(w *api.Worker) { w.ID = 1 },
		func(w *api.Worker) { w.ID = 4 },
		func(w *api.Worker) { w.Next, w.Age, w.Clock = 1<<40, 1<<40, 1<<40 },
		func(w *api.Worker) { w.Next, w.Age, w.Clock = 1, 0, 0 },
		func(w *api.Worker) { w.Open = slices.Repeat([]api.Tx{long}, api.MaxOpen) },
		func(w *api.Worker) { w.Open = []api.Tx{} },
		func(w *api.Worker) { w.Waits = waits },
		func(w *api.Worker) { w.Waits = []api.Wait{{Digest: 1}, {Digest: api.MaxBook, Acks: []int{1, 4}}} },
		func(w *api.Worker) { w.Held = lots(1, api.MaxHeld) },
		func(w *api.Worker) { w.Held = lots(api.MaxBook+1-api.MaxHeld, api.MaxHeld) },
		func(w *api.Worker) { w.Held[0].Batch = one(api.MaxNodes, 1<<40) },
		func(w *api.Worker) { w.Held[0].Batch.Txs = slices.Repeat([]api.Tx{long}, api.MaxTxs) },
		func(w *api.Worker) { w.Ready = all },
		func(w *api.Worker) { w.Ready = nil },
	} {
		w := good()
		change(&w)
		if e := Check(w); e != api.OK {
			t.Errorf("%d: %d", i, e)
		}
	}
}

// bads is workers that are not valid, each for one cause.
func bads() []api.Worker {
	var l []api.Worker
	add := func(change func(w *api.Worker)) {
		w := good()
		change(&w)
		l = append(l, w)
	}
	l = append(l, api.Worker{})
	for _, k := range append(odd(), 5) {
		add(func(w *api.Worker) { w.ID = k })
		add(func(w *api.Worker) { w.Nodes = k })
		add(func(w *api.Worker) { w.Waits[2].Acks = []int{k} })
		add(func(w *api.Worker) { w.Waits[0].Acks = []int{1, k} })
	}
	for _, k := range odd() {
		add(func(w *api.Worker) { w.Waits[0].Digest = k })
		add(func(w *api.Worker) { w.Waits[2].Digest = k })
		add(func(w *api.Worker) { w.Held[0].Digest = k })
		add(func(w *api.Worker) { w.Held[2].Digest = k })
		add(func(w *api.Worker) { w.Ready[0] = k })
		add(func(w *api.Worker) { w.Ready[3] = k })
		add(func(w *api.Worker) { w.Held[2].Batch.Author = k })
	}
	for _, k := range []int{-1, 1<<40 + 1, 1 << 41, math.MaxInt, math.MinInt} {
		add(func(w *api.Worker) { w.Next = k })
		add(func(w *api.Worker) { w.Age = k })
		add(func(w *api.Worker) { w.Clock = k })
		add(func(w *api.Worker) { w.Open[9].Seq = k })
		add(func(w *api.Worker) { w.Held[0].Batch.N = k })
	}
	for _, acks := range [][]int{{2, 1}, {1, 1}, {1, 3, 3}, {1, 2, 3, 4, 4}} {
		add(func(w *api.Worker) { w.Waits[0].Acks = acks })
		add(func(w *api.Worker) { w.Waits[2].Acks = acks })
	}
	add(func(w *api.Worker) { w.Nodes = 3 })
	add(func(w *api.Worker) { w.Nodes, w.ID, w.Waits = 1, 2, nil })
	add(func(w *api.Worker) { w.Next = 0 })
	add(func(w *api.Worker) { w.Open = slices.Repeat([]api.Tx{tx(1)}, api.MaxOpen+1) })
	add(func(w *api.Worker) { w.Open = append(w.Open, api.Tx{}) })
	add(func(w *api.Worker) { w.Open[0].Key = "" })
	add(func(w *api.Worker) { w.Waits[1].Digest = 3 })
	add(func(w *api.Worker) { w.Waits[1].Digest = 9 })
	add(func(w *api.Worker) { w.Waits[2].Digest = 4 })
	add(func(w *api.Worker) { w.Waits[1].Digest = 10 })
	add(func(w *api.Worker) { w.Held = lots(1, api.MaxHeld+1) })
	add(func(w *api.Worker) { w.Held[1].Digest = 3 })
	add(func(w *api.Worker) { w.Held[1].Digest = 9 })
	add(func(w *api.Worker) { w.Held[1].Digest = 2 })
	add(func(w *api.Worker) { w.Held[1].Batch = api.Batch{} })
	add(func(w *api.Worker) { w.Held[2].Batch.Txs = nil })
	add(func(w *api.Worker) { w.Held[2].Batch.Txs = slices.Repeat([]api.Tx{tx(1)}, api.MaxTxs+1) })
	add(func(w *api.Worker) { w.Ready[1] = 7 })
	add(func(w *api.Worker) { w.Ready[3] = 7 })
	add(func(w *api.Worker) { w.Ready[3] = api.MaxBook })
	return l
}

// P13.1: every call refuses a worker that is not valid, ahead of all that is wrong beside.
func TestBadWorkers(t *testing.T) {
	for i, w := range bads() {
		for _, a := range every(w) {
			refused(t, fmt.Sprint(i, ": ", a.name), a.w, a.out, a.e, api.ErrForm)
			if tell(a.b) != tell(api.Batch{}) {
				t.Errorf("%d: %s has %s", i, a.name, tell(a.b))
			}
		}
		// What would be ErrFull, ErrState and ErrThere else.
		w.Open = append(slices.Clone(w.Open), txs(1, api.MaxOpen)...)
		_, e := Add(w, tx(1))
		_, f := Make(w)
		_, _, g := Sealed(w, 3)
		_, _, h := Take(w, api.Message{Kind: api.TellVote, From: 1, To: 2, Digest: 1})
		if e != api.ErrForm || f != api.ErrForm || g != api.ErrForm || h != api.ErrForm {
			t.Errorf("%d: %d, %d, %d, %d", i, e, f, g, h)
		}
	}
}

// P13.1: Add appends to Open, up to MaxOpen.
func TestAdd(t *testing.T) {
	w := good()
	for k := len(w.Open) + 1; k <= api.MaxOpen; k++ {
		x, e := Add(w, tx(k))
		w.Open = append(w.Open, tx(k))
		is(t, "Add", x, w, nil, nil, e)
		w = x
	}
	x, e := Add(w, tx(1))
	refused(t, "Add to a full one", x, nil, e, api.ErrFull)
	for _, bad := range []api.Tx{{}, {Sender: 1, Seq: 1}, {Sender: 0, Seq: 1, Key: "k"}, {Sender: 1, Seq: 1<<40 + 1, Key: "k"}, {Sender: 1, Seq: 1, Key: strings.Repeat("k", api.MaxKey+1)}, {Sender: 1, Seq: 1, Key: "k", Val: strings.Repeat("v", api.MaxVal+1)}} {
		for _, to := range []api.Worker{w, good()} {
			x, e := Add(to, bad)
			refused(t, "Add of "+tell(bad), x, nil, e, api.ErrForm)
		}
	}
	// The same one may be there twice.
	x, e = Add(good(), tx(1))
	if e != api.OK || len(x.Open) != 11 || x.Open[10] != tx(1) {
		t.Errorf("twice: %d, %s", e, tell(x.Open))
	}
}

// P13.2: a batch is due when MaxTxs are open, or Seal ticks have passed.
func TestMake(t *testing.T) {
	for i, c := range []struct {
		open, age, next, held int
		count                 int
		e                     api.Errno
	}{
		{0, 0, 1, 0, 0, api.ErrState},
		{0, 1 << 40, 1, 0, 0, api.ErrState},
		{1, api.Seal - 1, 1, 0, 0, api.ErrState},
		{1, api.Seal, 1, 0, 1, api.OK},
		{1, 1 << 40, 7, 0, 1, api.OK},
		{api.MaxTxs - 1, 0, 1, 0, 0, api.ErrState},
		{api.MaxTxs - 1, api.Seal - 1, 1, 0, 0, api.ErrState},
		{api.MaxTxs - 1, api.Seal, 1, 0, api.MaxTxs - 1, api.OK},
		{api.MaxTxs, 0, 1, 0, api.MaxTxs, api.OK},
		{api.MaxTxs, api.Seal, 1, 0, api.MaxTxs, api.OK},
		{api.MaxTxs + 1, 0, 1, 0, api.MaxTxs, api.OK},
		{api.MaxOpen, 9, 1<<40 - 1, api.MaxHeld - 1, api.MaxTxs, api.OK},
		{api.MaxTxs, 0, 1 << 40, 0, 0, api.ErrState},
		{1, api.Seal, 1 << 40, 0, 0, api.ErrState},
		{api.MaxTxs, 0, 1, api.MaxHeld, 0, api.ErrFull},
		{1, api.Seal, 1, api.MaxHeld, 0, api.ErrFull},
		{1, 0, 1, api.MaxHeld, 0, api.ErrState},
		{api.MaxTxs, 0, 1 << 40, api.MaxHeld, 0, api.ErrState},
	} {
		w := api.Worker{ID: 3, Nodes: 4, Next: c.next, Open: txs(1, c.open), Age: c.age, Held: lots(1, c.held)}
		var want api.Batch
		if c.e == api.OK {
			want = api.Batch{Author: 3, N: c.next, Txs: txs(1, c.count)}
		}
		b, e := Make(w)
		if e != c.e || tell(b) != tell(want) {
			t.Errorf("%d: %d, %s", i, e, tell(b))
		}
		x, out, e := Sealed(w, 9999)
		if e != c.e {
			t.Errorf("%d: Sealed is %d", i, e)
		}
		if e != api.OK {
			for _, d := range []int{0, 1, 9999} {
				x, out, e = Sealed(w, d)
				refused(t, fmt.Sprint(i, ": Sealed"), x, out, e, c.e)
			}
		}
	}
}

// P13.2: the chapter's example.
func TestSealedExample(t *testing.T) {
	w, _ := New(2, 4)
	for k := range 3 {
		w, _ = Add(w, tx(k+1))
	}
	for k := range api.Seal {
		if _, e := Make(w); e != api.ErrState {
			t.Errorf("Make behind %d ticks is %d", k, e)
		}
		w, _, _ = Tick(w)
	}
	b := api.Batch{Author: 2, N: 1, Txs: txs(1, 3)}
	x, out, e := Sealed(w, 9)
	want := api.Worker{ID: 2, Nodes: 4, Next: 2, Clock: 4, Waits: []api.Wait{{Digest: 9, Acks: []int{2}}}, Held: []api.Held{{Digest: 9, Batch: b}}}
	is(t, "Sealed", x, want, out, asks(2, 9, b, 1, 3, 4), e)
}

// P13.2: Sealed stores the batch wherever its digest belongs, and leaves a wait that is there.
func TestSealed(t *testing.T) {
	for _, d := range []int{1, 4, 6, api.MaxBook} {
		w := good()
		b := api.Batch{Author: 2, N: 3, Txs: txs(1, 8)}
		want := good()
		want.Next, want.Age, want.Open = 4, 0, txs(9, 10)
		want.Held = append(want.Held, api.Held{Digest: d, Batch: b})
		slices.SortFunc(want.Held, func(a, b api.Held) int { return a.Digest - b.Digest })
		if d != 4 {
			want.Waits = append(want.Waits, api.Wait{Digest: d, Acks: []int{2}})
			slices.SortFunc(want.Waits, func(a, b api.Wait) int { return a.Digest - b.Digest })
		}
		x, out, e := Sealed(w, d)
		is(t, fmt.Sprint("Sealed as ", d), x, want, out, asks(2, d, b, 1, 3, 4), e)
	}
	for _, d := range odd() {
		x, out, e := Sealed(good(), d)
		refused(t, fmt.Sprint("Sealed as ", d), x, out, e, api.ErrForm)
	}
	for _, d := range []int{3, 5, 9} {
		x, out, e := Sealed(good(), d)
		refused(t, fmt.Sprint("Sealed as ", d), x, out, e, api.ErrThere)
	}
}

// P13.2: Sealed settles the waits, all of them, in order.
func TestSealedSettles(t *testing.T) {
	alone := api.Worker{ID: 1, Nodes: 1, Next: 5, Open: txs(1, 1), Age: 4, Waits: []api.Wait{{Digest: 2}, {Digest: 8, Acks: []int{1}}}, Ready: []int{6}}
	b := api.Batch{Author: 1, N: 5, Txs: txs(1, 1)}
	want := api.Worker{ID: 1, Nodes: 1, Next: 6, Waits: []api.Wait{{Digest: 2}}, Held: []api.Held{{Digest: 7, Batch: b}}, Ready: []int{6, 7, 8}}
	x, out, e := Sealed(alone, 7)
	is(t, "Sealed alone", x, want, out, nil, e)
	// The wait is there without acks, so that the batch isn't ready.
	want.Held[0].Digest, want.Ready = 2, []int{6, 8}
	x, out, e = Sealed(alone, 2)
	is(t, "Sealed where it is waited for", x, want, out, nil, e)
	// The wait is enough already, and its digest is ready already.
	w := good()
	w.Waits = []api.Wait{{Digest: 1, Acks: []int{1, 2, 3}}, {Digest: 4, Acks: []int{1, 3, 4}}, {Digest: 9, Acks: []int{1, 2}}}
	x, out, e = Sealed(w, 4)
	if e != api.OK || tell(x.Waits) != "[{Digest:9 Acks:[1 2]}]" || tell(x.Ready) != "[7 5 65536 1 4]" || len(out) != 3 {
		t.Errorf("%d, %s, %s", e, tell(x.Waits), tell(x.Ready))
	}
}

// P13.3: a batch that is handed over is kept once, while there is room, and only AskBatch is answered.
func TestTakeOfBatches(t *testing.T) {
	told := []api.Message{{Kind: api.TellBatch, From: 2, To: 4, Digest: 6}}
	for _, d := range []int{1, 6, api.MaxBook} {
		told[0].Digest = d
		m := api.Message{Kind: api.AskBatch, From: 4, To: 2, Digest: d, Batch: one(3, 5)}
		want := good()
		want.Held = append(want.Held, api.Held{Digest: d, Batch: m.Batch})
		slices.SortFunc(want.Held, func(a, b api.Held) int { return a.Digest - b.Digest })
		x, out, e := Take(good(), m)
		is(t, "AskBatch", x, want, out, told, e)
		m.Batch = one(1, 9)
		y, out, e := Take(x, m)
		is(t, "AskBatch again", y, want, out, told, e)
		m.Kind, m.Batch = api.GiveBatch, one(3, 5)
		x, out, e = Take(good(), m)
		is(t, "GiveBatch", x, want, out, nil, e)
		y, out, e = Take(x, m)
		is(t, "GiveBatch again", y, want, out, nil, e)
	}
	for _, kind := range []int{api.AskBatch, api.GiveBatch} {
		full := good()
		full.Held = lots(10, api.MaxHeld)
		m := api.Message{Kind: kind, From: 4, To: 2, Digest: 9, Batch: one(3, 5)}
		x, out, e := Take(full, m)
		is(t, "where there is no room", x, full, out, nil, e)
		m.Digest, told[0].Digest = 10, 10
		x, out, e = Take(full, m)
		if kind == api.GiveBatch {
			is(t, "GiveBatch where it is kept", x, full, out, nil, e)
		} else {
			is(t, "AskBatch where it is kept", x, full, out, told, e)
		}
		full.Held = full.Held[1:]
		x, out, e = Take(full, m)
		if e != api.OK || len(x.Held) != api.MaxHeld || x.Held[0].Digest != 10 || x.Held[0].Batch.N != 5 {
			t.Errorf("the last room: %d, %d", e, len(x.Held))
		}
	}
}

// P13.3: TellBatch is noted where it is waited for, and then the waits are settled.
func TestTakeOfTells(t *testing.T) {
	m := api.Message{Kind: api.TellBatch, From: 1, To: 2, Digest: 9}
	for _, c := range []struct{ from, d int }{{1, 3}, {1, 6}, {3, 5}, {4, api.MaxBook}} {
		m.From, m.Digest = c.from, c.d
		x, out, e := Take(good(), m)
		is(t, fmt.Sprint("TellBatch that tells nothing new ", c), x, good(), out, nil, e)
	}
	m.Digest = 9
	for _, c := range []struct {
		from int
		acks []int
	}{{1, []int{1, 2}}, {3, []int{2, 3}}, {4, []int{2, 4}}} {
		m.From = c.from
		want := good()
		want.Waits[2].Acks = c.acks
		x, out, e := Take(good(), m)
		is(t, "TellBatch", x, want, out, nil, e)
		x, out, e = Take(x, m)
		is(t, "TellBatch again", x, want, out, nil, e)
	}
	m.From, m.Digest = 4, 3
	want := good()
	want.Waits, want.Ready = want.Waits[1:], append(want.Ready, 3)
	x, out, e := Take(good(), m)
	is(t, "the last TellBatch", x, want, out, nil, e)
	x, out, e = Take(x, m)
	is(t, "one behind the last", x, want, out, nil, e)
	// What is ready already isn't there twice.
	w := good()
	w.Ready = []int{3, 7}
	want.Ready = []int{3, 7}
	x, out, e = Take(w, m)
	is(t, "TellBatch of what is ready", x, want, out, nil, e)
	// All that is enough is settled, though nobody waits for this one.
	w = good()
	w.Waits = []api.Wait{{Digest: 2, Acks: []int{1, 2, 3, 4}}, {Digest: 3, Acks: []int{1, 2}}, {Digest: 4, Acks: []int{1, 3, 4}}, {Digest: 5, Acks: []int{2, 3, 4}}}
	m.Digest = 77
	x, out, e = Take(w, m)
	if e != api.OK || len(out) > 0 || tell(x.Waits) != "[{Digest:3 Acks:[1 2]}]" || tell(x.Ready) != "[7 5 65536 1 2 4]" {
		t.Errorf("%d, %s, %s", e, tell(x.Waits), tell(x.Ready))
	}
}

// P13.3: enough is a quorum of the nodes, whatever their number.
func TestQuorums(t *testing.T) {
	for _, n := range []int{4, 7, 10, 13, 16} {
		quorum, _ := committee.Quorum(n)
		w := api.Worker{ID: n, Nodes: n, Next: 1, Open: txs(1, 8)}
		w, _, _ = Sealed(w, 5)
		for from := 1; from < n; from++ {
			w, _, _ = Take(w, api.Message{Kind: api.TellBatch, From: from, To: n, Digest: 5})
			// The node itself is one of them.
			if isReady := from+1 >= quorum; isReady != (len(w.Ready) == 1) || isReady != (len(w.Waits) == 0) {
				t.Errorf("of %d, %d tell: %s, %s", n, from, tell(w.Ready), tell(w.Waits))
			}
		}
	}
}

// P13.3: what is wanted and kept is given, in order.
func TestTakeOfWants(t *testing.T) {
	w := good()
	m := api.Message{Kind: api.WantBatch, From: 3, To: 2, Digests: []int{1, 3, 4, 9, api.MaxBook}}
	sent := []api.Message{{Kind: api.GiveBatch, From: 2, To: 3, Digest: 3, Batch: one(1, 1)}, {Kind: api.GiveBatch, From: 2, To: 3, Digest: 9, Batch: one(16, 2)}}
	x, out, e := Take(w, m)
	is(t, "WantBatch", x, good(), out, sent, e)
	m.Digests = []int{1, 4, 10}
	x, out, e = Take(w, m)
	is(t, "WantBatch of what isn't there", x, good(), out, nil, e)
	w.Held, m.Digests = lots(1, api.MaxHeld), nil
	for d := range api.MaxWant {
		m.Digests = append(m.Digests, d+1)
	}
	if _, out, e := Take(w, m); e != api.OK || len(out) != api.MaxWant || out[15].Digest != 16 {
		t.Errorf("%d, %s", e, tell(out))
	}
}

// P13.3: a message that isn't one, or isn't for this node, or isn't a worker's, is refused in this order.
func TestTakeRefuses(t *testing.T) {
	w := good()
	head := api.Header{Author: 1, Round: 1}
	for i, c := range []struct {
		m api.Message
		e api.Errno
	}{
		{api.Message{}, api.ErrForm},
		{api.Message{Kind: api.TellBatch, From: 1, To: 3, Digest: 9}, api.ErrForm},
		{api.Message{Kind: api.TellBatch, From: 2, To: 1, Digest: 9}, api.ErrForm},
		{api.Message{Kind: api.TellBatch, From: 2, To: 2, Digest: 9}, api.ErrForm},
		{api.Message{Kind: api.TellBatch, From: 5, To: 2, Digest: 9}, api.ErrForm},
		{api.Message{Kind: api.TellBatch, From: 0, To: 2, Digest: 9}, api.ErrForm},
		{api.Message{Kind: api.TellBatch, From: 1, To: 2, Digest: 0}, api.ErrForm},
		{api.Message{Kind: api.TellBatch, From: 1, To: 2, Digest: api.MaxBook + 1}, api.ErrForm},
		{api.Message{Kind: api.TellBatch, From: 1, To: 2, Digest: 9, Digests: []int{9}}, api.ErrForm},
		{api.Message{Kind: api.AskBatch, From: 1, To: 2, Digest: 8}, api.ErrForm},
		{api.Message{Kind: api.AskBatch, From: 1, To: 2, Digest: 8, Batch: one(5, 1)}, api.ErrForm},
		{api.Message{Kind: api.GiveBatch, From: 1, To: 2, Batch: one(1, 1)}, api.ErrForm},
		{api.Message{Kind: api.WantBatch, From: 1, To: 2}, api.ErrForm},
		{api.Message{Kind: api.WantBatch, From: 1, To: 2, Digests: []int{4, 3}}, api.ErrForm},
		{api.Message{Kind: api.WantCert + 1, From: 1, To: 2, Digest: 9}, api.ErrForm},
		{api.Message{Kind: api.TellVote, From: 1, To: 3, Digest: 9}, api.ErrForm},
		{api.Message{Kind: api.TellVote, From: 1, To: 2}, api.ErrForm},
		{api.Message{Kind: api.TellVote, From: 1, To: 2, Digest: 9}, api.ErrState},
		{api.Message{Kind: api.AskHeader, From: 1, To: 2, Digest: 9, Header: head}, api.ErrState},
		{api.Message{Kind: api.AskCert, From: 1, To: 2, Cert: api.Cert{Header: head, Digest: 9, Signers: []int{1, 2, 3}}}, api.ErrState},
		{api.Message{Kind: api.WantCert, From: 1, To: 2, Digests: []int{9}}, api.ErrState},
	} {
		x, out, e := Take(w, c.m)
		refused(t, fmt.Sprint(i, ": Take"), x, out, e, c.e)
	}
	if tell(w) != tell(good()) {
		t.Errorf("%s", tell(w))
	}
}

// P13.4: Clock goes on up to 2^40, Age only where something is open.
func TestTickCounts(t *testing.T) {
	for _, c := range []struct{ clock, age, open, clock2, age2 int }{
		{0, 0, 0, 1, 0},
		{0, 0, 1, 1, 1},
		{7, 5, 0, 8, 5},
		{7, 5, 3, 8, 6},
		{1<<40 - 1, 1<<40 - 1, 1, 1 << 40, 1 << 40},
		{1 << 40, 1 << 40, 1, 1 << 40, 1 << 40},
		{1 << 40, 9, 0, 1 << 40, 9},
	} {
		w := api.Worker{ID: 1, Nodes: 4, Next: 1, Clock: c.clock, Age: c.age, Open: txs(1, c.open)}
		want := w
		want.Clock, want.Age = c.clock2, c.age2
		x, out, e := Tick(w)
		is(t, "Tick", x, want, out, nil, e)
	}
}

// P13.4: at each multiple of Retry what is waited for and kept is asked for again, of those who didn't tell.
func TestTickAsks(t *testing.T) {
	w := good()
	sent := append(asks(2, 3, one(1, 1), 3, 4), asks(2, 9, one(16, 2), 1, 3, 4)...)
	for clock := range 10 {
		w.Clock = clock
		want := good()
		want.Clock, want.Age = clock+1, 3
		var wanted []api.Message
		if (clock+1)%api.Retry == 0 {
			wanted = sent
		}
		x, out, e := Tick(w)
		is(t, fmt.Sprint("Tick behind ", clock), x, want, out, wanted, e)
	}
	// Nothing is sent to the node itself, though it isn't among the acks; nor is what is enough settled.
	w.Clock = 2
	w.Waits = []api.Wait{{Digest: 3}, {Digest: 5, Acks: []int{1, 3, 4}}, {Digest: 9, Acks: []int{1, 2, 3}}}
	x, out, e := Tick(w)
	want := w
	want.Clock, want.Age = 3, 3
	is(t, "Tick without acks", x, want, out, append(asks(2, 3, one(1, 1), 1, 3, 4), asks(2, 9, one(16, 2), 4)...), e)
	w.Clock = 1 << 40
	x, out, e = Tick(w)
	want.Clock = 1 << 40
	is(t, "Tick at the end", x, want, out, nil, e)
	w.Clock = 1<<40 - 2
	want.Clock = 1<<40 - 1
	x, out, e = Tick(w)
	if e != api.OK || len(out) != 4 || x.Clock != 1<<40-1 || x.Clock%api.Retry != 0 {
		t.Errorf("Tick ahead of the end: %d, %d", e, len(out))
	}
}

// P13.4: Took removes from Ready what is in the list.
func TestTook(t *testing.T) {
	for _, c := range []struct{ l, ready []int }{
		{nil, []int{7, 5, api.MaxBook, 1}},
		{[]int{5}, []int{7, api.MaxBook, 1}},
		{[]int{1, 7}, []int{5, api.MaxBook}},
		{[]int{1, 1, 7, 1}, []int{5, api.MaxBook}},
		{[]int{3, 4, 9}, []int{7, 5, api.MaxBook, 1}},
		{odd(), []int{7, 5, api.MaxBook, 1}},
		{append(odd(), api.MaxBook), []int{7, 5, 1}},
		{[]int{1, 5, 7, api.MaxBook}, nil},
	} {
		want := good()
		want.Ready = c.ready
		x, e := Took(good(), c.l)
		is(t, fmt.Sprint("Took of ", c.l), x, want, nil, nil, e)
	}
}

// P13.4: Back puts ahead of Ready what is a digest and not there, each once.
func TestBack(t *testing.T) {
	for _, c := range []struct{ l, ready []int }{
		{nil, []int{7, 5, api.MaxBook, 1}},
		{[]int{8, 6}, []int{8, 6, 7, 5, api.MaxBook, 1}},
		{[]int{6, 8}, []int{6, 8, 7, 5, api.MaxBook, 1}},
		{[]int{9, 5, 3, 9, 1, 3, 2}, []int{9, 3, 2, 7, 5, api.MaxBook, 1}},
		{[]int{1, 5, 7, api.MaxBook}, []int{7, 5, api.MaxBook, 1}},
		{odd(), []int{7, 5, api.MaxBook, 1}},
		{append(odd(), 4, 0, 4), []int{4, 7, 5, api.MaxBook, 1}},
	} {
		want := good()
		want.Ready = c.ready
		x, e := Back(good(), c.l)
		is(t, fmt.Sprint("Back of ", c.l), x, want, nil, nil, e)
	}
	w, _ := New(1, 4)
	w, e := Back(w, []int{api.MaxBook, api.MaxBook, 1})
	if e != api.OK || tell(w.Ready) != "[65536 1]" {
		t.Errorf("%d, %s", e, tell(w.Ready))
	}
}

// R1: lists of great length are gone through once.
func TestLongLists(t *testing.T) {
	w := good()
	w.Ready, w.Waits = nil, nil
	for d := api.MaxBook; d >= 1; d-- {
		w.Ready = append(w.Ready, d)
		w.Waits = append(w.Waits, api.Wait{Digest: api.MaxBook + 1 - d, Acks: []int{1, 2, 3}})
	}
	x, _, e := Take(w, api.Message{Kind: api.TellBatch, From: 1, To: 2, Digest: 9})
	if e != api.OK || len(x.Waits) != 0 || !slices.Equal(x.Ready, w.Ready) {
		t.Errorf("settled: %d, %d, %d", e, len(x.Waits), len(x.Ready))
	}
	w.Ready = nil
	x, _, e = Take(w, api.Message{Kind: api.TellBatch, From: 1, To: 2, Digest: 9})
	if e != api.OK || len(x.Waits) != 0 || len(x.Ready) != api.MaxBook || x.Ready[0] != 1 {
		t.Errorf("settled: %d, %d, %d", e, len(x.Waits), len(x.Ready))
	}
	long := make([]int, 1<<20)
	for k := range long {
		long[k] = k % (api.MaxBook + 10)
	}
	y, e := Took(x, long)
	if e != api.OK || len(y.Ready) != 0 {
		t.Errorf("Took: %d, %d", e, len(y.Ready))
	}
	z, e := Back(y, long)
	if e != api.OK || !slices.Equal(z.Ready, x.Ready) {
		t.Errorf("Back: %d, %d", e, len(z.Ready))
	}
}

// area is the memory of one list, with its spare capacity.
type area struct{ from, to uintptr }

// areas appends the memory of all lists in v.
func areas(l []area, v reflect.Value) []area {
	switch v.Kind() {
	case reflect.Struct:
		for k := range v.NumField() {
			l = areas(l, v.Field(k))
		}
	case reflect.Slice:
		if v.Cap() > 0 {
			l = append(l, area{v.Pointer(), v.Pointer() + uintptr(v.Cap())*v.Type().Elem().Size()})
		}
		for k := range v.Len() {
			l = areas(l, v.Index(k))
		}
	}
	return l
}

// apart asks whether no two lists in what is given share memory.
func apart(t *testing.T, what string, values ...any) {
	t.Helper()
	var l []area
	for _, v := range values {
		l = areas(l, reflect.ValueOf(v))
	}
	slices.SortFunc(l, func(a, b area) int {
		if a.from < b.from {
			return -1
		}
		return 1
	})
	for k := 1; k < len(l); k++ {
		if l[k].from < l[k-1].to {
			t.Errorf("%s: two lists share memory", what)
		}
	}
}

// R2: no list of an answer shares memory with another one or with an argument, and no argument changes.
func TestNothingShared(t *testing.T) {
	w := good()
	w.Clock = 2
	w.Open = append(make([]api.Tx, 0, 64), w.Open...)
	w.Ready = append(make([]int, 0, 64), w.Ready...)
	w.Held = append(make([]api.Held, 0, 64), w.Held...)
	w.Waits = append(make([]api.Wait, 0, 64), w.Waits...)
	w.Waits[2].Acks = append(make([]int, 0, 64), 2)
	was := tell(w)
	for _, a := range every(w) {
		if a.e != api.OK {
			t.Errorf("%s is %d", a.name, a.e)
		}
		apart(t, a.name, w, a.w, a.out, a.b)
	}
	for _, m := range messages() {
		wasm := tell(m)
		x, out, _ := Take(w, m)
		apart(t, fmt.Sprint("Take of kind ", m.Kind), w, m, x, out)
		y, out2, _ := Take(x, m)
		apart(t, fmt.Sprint("Take again of kind ", m.Kind), w, m, x, out, y, out2)
		if tell(m) != wasm {
			t.Errorf("%s is changed to %s", wasm, tell(m))
		}
	}
	l := append(make([]int, 0, 64), 6, 8)
	x, _ := Back(w, l)
	y, _ := Took(w, l)
	apart(t, "Back and Took", w, l, x, y)
	none := api.Worker{ID: 2, Nodes: 4, Next: 1}
	x, _ = Back(none, l)
	apart(t, "Back to none", l, x)
	if tell(w) != was || tell(l[:cap(l)]) != tell(append([]int{6, 8}, make([]int, 62)...)) {
		t.Errorf("changed to %s", tell(w))
	}
}

// plain is what a worker should be.
type plain struct {
	api.Worker // its numbers, Open and Ready
	acks       map[int]map[int]bool
	held       map[int]api.Batch
}

// worker is p as a worker's state.
func (p *plain) worker() api.Worker {
	w := p.Worker
	w.Waits, w.Held = nil, nil
	for _, d := range slices.Sorted(maps.Keys(p.acks)) {
		w.Waits = append(w.Waits, api.Wait{Digest: d, Acks: slices.Sorted(maps.Keys(p.acks[d]))})
	}
	for _, d := range slices.Sorted(maps.Keys(p.held)) {
		w.Held = append(w.Held, api.Held{Digest: d, Batch: p.held[d]})
	}
	return w
}

// settle is to settle the waits, of 4 nodes.
func (p *plain) settle() {
	for _, d := range slices.Sorted(maps.Keys(p.acks)) {
		if len(p.acks[d]) >= 3 {
			delete(p.acks, d)
			if !slices.Contains(p.Ready, d) {
				p.Ready = append(slices.Clone(p.Ready), d)
			}
		}
	}
}

// sealed is Sealed, of what is in order.
func (p *plain) sealed(d int) []api.Message {
	k := min(len(p.Open), 8)
	b := api.Batch{Author: p.ID, N: p.Next, Txs: p.Open[:k]}
	p.Open = p.Open[k:]
	p.Next, p.Age, p.held[d] = p.Next+1, 0, b
	if p.acks[d] == nil {
		p.acks[d] = map[int]bool{p.ID: true}
	}
	var out []api.Message
	for to := 1; to <= 4; to++ {
		if to != p.ID {
			out = append(out, asks(p.ID, d, b, to)...)
		}
	}
	p.settle()
	return out
}

// take is Take, of what is in order.
func (p *plain) take(m api.Message) []api.Message {
	var out []api.Message
	switch m.Kind {
	case api.AskBatch, api.GiveBatch:
		if _, is := p.held[m.Digest]; !is {
			p.held[m.Digest] = m.Batch
		}
		if m.Kind == api.AskBatch {
			out = append(out, api.Message{Kind: api.TellBatch, From: p.ID, To: m.From, Digest: m.Digest})
		}
	case api.TellBatch:
		if p.acks[m.Digest] != nil {
			p.acks[m.Digest][m.From] = true
		}
		p.settle()
	case api.WantBatch:
		for _, d := range m.Digests {
			if b, is := p.held[d]; is {
				out = append(out, api.Message{Kind: api.GiveBatch, From: p.ID, To: m.From, Digest: d, Batch: b})
			}
		}
	}
	return out
}

// tick is Tick.
func (p *plain) tick() []api.Message {
	p.Clock++
	if len(p.Open) > 0 {
		p.Age++
	}
	var out []api.Message
	if p.Clock%3 != 0 {
		return nil
	}
	for _, d := range slices.Sorted(maps.Keys(p.acks)) {
		b, is := p.held[d]
		for to := 1; is && to <= 4; to++ {
			if to != p.ID && !p.acks[d][to] {
				out = append(out, asks(p.ID, d, b, to)...)
			}
		}
	}
	return out
}

// dice is numbers in a row that looks mixed, the same each time.
type dice uint64

// roll is one below n.
func (s *dice) roll(n int) int {
	*s = *s*6364136223846793005 + 1442695040888963407
	return int(uint64(*s)>>33) % n
}

// message is one to node id of 4, mixed.
func (s *dice) message(id int) api.Message {
	m := api.Message{From: s.roll(4) + 1, To: id}
	if m.From == id {
		m.From = id%4 + 1
	}
	switch s.roll(6) {
	case 0:
		m.Kind, m.Digest, m.Batch = api.AskBatch, s.roll(99)+1, one(s.roll(4)+1, s.roll(99)+1)
	case 1:
		m.Kind, m.Digest, m.Batch = api.GiveBatch, s.roll(99)+1, one(s.roll(4)+1, s.roll(99)+1)
	case 2:
		m.Kind, m.Digests = api.WantBatch, []int{s.roll(40) + 1, s.roll(40) + 41}
	default:
		m.Kind, m.Digest = api.TellBatch, s.roll(99)+1
	}
	return m
}

// P13.1 to P13.4: a long mixed run beside a plain worker.
func TestLongRun(t *testing.T) {
	s := dice(5)
	for round := range 12 {
		id := round%4 + 1
		w, _ := New(id, 4)
		p := &plain{Worker: w, acks: map[int]map[int]bool{}, held: map[int]api.Batch{}}
		for step := range 600 {
			var out, sent []api.Message
			x, e := w, api.OK
			switch s.roll(8) {
			case 0, 1:
				x, e = Add(w, tx(step+1))
				if len(p.Open) < 64 {
					p.Open = append(slices.Clone(p.Open), tx(step+1))
				} else {
					is(t, "full", w, p.worker(), nil, nil, e-api.ErrFull)
					x, e = w, api.OK
				}
			case 2:
				d := s.roll(99) + 1
				_, there := p.held[d]
				x, out, e = Sealed(w, d)
				isDue := len(p.Open) >= 8 || len(p.Open) > 0 && p.Age >= 4
				if isDue && !there {
					sent = p.sealed(d)
				} else if isDue {
					x, e = w, e-api.ErrThere
				} else {
					x, e = w, e-api.ErrState
				}
			case 3:
				x, out, e = Tick(w)
				sent = p.tick()
			case 4:
				if l := []int{s.roll(99) + 1, s.roll(99) + 1}; s.roll(2) == 0 {
					x, e = Took(w, l)
					p.Ready = slices.DeleteFunc(slices.Clone(p.Ready), func(d int) bool { return slices.Contains(l, d) })
				} else {
					x, e = Back(w, l)
					for _, d := range []int{l[1], l[0]} {
						if !slices.Contains(p.Ready, d) {
							p.Ready = append([]int{d}, p.Ready...)
						}
					}
				}
			default:
				m := s.message(id)
				x, out, e = Take(w, m)
				sent = p.take(m)
			}
			is(t, fmt.Sprint("step ", step), x, p.worker(), out, sent, e)
			if Check(x) != api.OK || t.Failed() {
				t.Fatalf("round %d, step %d: %s", round, step, tell(x))
			}
			w = x
		}
	}
}

// crew is workers that send to each other.
type crew struct {
	workers []api.Worker
	way     []api.Message
	digest  int
}

// step lets one of them do something by the dice.
func (c *crew) step(t *testing.T, s *dice) {
	k := s.roll(len(c.workers))
	w := c.workers[k]
	var out []api.Message
	e := api.OK
	switch s.roll(5) {
	case 0:
		w, e = Add(w, tx(s.roll(99)+1))
		if e == api.ErrFull {
			return
		}
	case 1:
		if _, due := Make(w); due != api.OK {
			return
		}
		c.digest++
		w, out, e = Sealed(w, c.digest)
	case 2:
		w, out, e = Tick(w)
	default:
		if len(c.way) == 0 {
			return
		}
		at := s.roll(len(c.way))
		m := c.way[at]
		c.way = slices.Delete(c.way, at, at+1)
		k = m.To - 1
		// A third of them is lost.
		if s.roll(3) == 0 {
			return
		}
		w, out, e = Take(c.workers[k], m)
	}
	if e != api.OK {
		t.Fatalf("%d", e)
	}
	c.workers[k] = w
	c.way = append(c.way, out...)
	// Else more and more of them would be on their way.
	if len(c.way) > 500 {
		c.way = c.way[250:]
	}
}

// P13.5: the batches in Ready are stored by a quorum.
func TestReadyIsStored(t *testing.T) {
	s := dice(11)
	for _, n := range []int{1, 4, 7} {
		quorum, _ := committee.Quorum(n)
		c := &crew{}
		for id := 1; id <= n; id++ {
			w, _ := New(id, n)
			c.workers = append(c.workers, w)
		}
		seen := 0
		for range 3000 {
			c.step(t, &s)
			for _, w := range c.workers {
				for _, d := range w.Ready {
					if k := c.keepers(d); k < quorum {
						t.Fatalf("%d of %d keep %d", k, n, d)
					}
					seen++
				}
			}
		}
		if seen == 0 {
			t.Errorf("among %d nothing is ready", n)
		}
	}
}

// keepers is how many keep the batch with the digest d.
func (c *crew) keepers(d int) int {
	count := 0
	for _, w := range c.workers {
		if slices.ContainsFunc(w.Held, func(h api.Held) bool { return h.Digest == d }) {
			count++
		}
	}
	return count
}
