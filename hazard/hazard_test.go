package hazard

import (
	"math"
	"math/rand"
	"slices"
	"testing"

	"magpie/api"
	"magpie/arena"
	"magpie/free"
	"magpie/handle"
	"magpie/slab"
	"magpie/turns"
)

// P12.1: two words of each worker, one behind the other, from where they stand on.
func TestRaw(t *testing.T) {
	for _, work := range []int{1, 2, 3, 7, 64} {
		for _, at := range []int{0, 1, 9, 1000, 65536} {
			table, n := Raw(work, at)
			if n != 2*work || n != api.Slots*work || table != (Table{Work: work, At: at}) {
				t.Errorf("%d workers from %d on: %+v, %d", work, at, table, n)
			}
			next := at
			for w := range work {
				for slot := range api.Slots {
					if got := table.Word(w, slot); got != next {
						t.Errorf("%+v: Word(%d, %d) is %d, want %d", table, w, slot, got, next)
					}
					next++
				}
			}
		}
	}
}

// P12.1: tables that were not told by Raw, and by numbers written out.
func TestWord(t *testing.T) {
	for _, x := range []struct {
		table            Table
		work, slot, want int
	}{
		{Table{1, 0}, 0, 0, 0},
		{Table{1, 0}, 0, 1, 1},
		{Table{5, 100}, 0, 0, 100},
		{Table{5, 100}, 0, 1, 101},
		{Table{5, 100}, 1, 0, 102},
		{Table{5, 100}, 4, 1, 109},
		{Table{64, 7}, 63, 1, 134},
		{Table{}, 3, 1, 7},
	} {
		if got := x.table.Word(x.work, x.slot); got != x.want {
			t.Errorf("%+v: Word(%d, %d) is %d, want %d", x.table, x.work, x.slot, got, x.want)
		}
	}
}

// R5: fewer workers than none have no words; a table may stand anywhere.
func TestRawOfNone(t *testing.T) {
	for _, work := range []int{0, -1, -7, math.MinInt} {
		if table, n := Raw(work, 5); n != 0 || table != (Table{At: 5}) {
			t.Errorf("%d workers: %+v, %d", work, table, n)
		}
	}
	if table, n := Raw(2, -3); n != 4 || table != (Table{2, -3}) || table.Word(1, 1) != 0 {
		t.Errorf("%+v, %d", table, n)
	}
}

// P12.2: each step of a scan, on words written out: one handle is looked at, two are freed on the list of the worker that was named.
func TestStepsByWords(t *testing.T) {
	a := arena.New(50, 64, false)
	p := free.Place{Work: 2, Heads: 3, Links: 12, Gens: 20, Carved: 31}
	table := Table{Work: 2, At: 40}
	var l []int
	for _, class := range []int{0, 2, 0} {
		x := slab.NewAlloc(p, 0, class)
		for !x.Step(a) {
		}
		h, _ := x.Handle()
		a.Retire(h)
		l = append(l, h)
	}
	a.SetRaw(42, l[1])
	x := NewScan(table, p, 1, l)
	step := func(ended bool, left []int, words map[int]int) {
		t.Helper()
		was := a.Uses()
		if done := x.Step(a); done != ended || a.Uses() != was+1 || !slices.Equal(x.Left(), left) {
			t.Errorf("%v with %d uses, Left %x", done, a.Uses()-was, x.Left())
		}
		for i := range 20 {
			if v := a.Raw(i); v != words[i] {
				t.Errorf("word %d is %d, want %d", i, v, words[i])
			}
		}
	}
	states := func(want ...int) {
		t.Helper()
		for i, h := range l {
			if a.State(h) != want[i] {
				t.Errorf("State of %d is %d, want %d", i, a.State(h), want[i])
			}
		}
	}
	for range 4 { // the words
		step(false, nil, nil)
	}
	step(false, nil, nil) // the head
	a.SetRaw(12, 9)
	step(false, nil, nil) // the base's link: there is none behind it
	states(arena.Retired, arena.Retired, arena.Retired)
	step(false, nil, map[int]int{7: tag + 1})
	states(arena.Dead, arena.Retired, arena.Retired)
	step(false, nil, map[int]int{7: tag + 1})
	step(false, nil, map[int]int{7: tag + 1, 17: 1})
	states(arena.Dead, arena.Retired, arena.Retired)
	step(true, []int{l[1]}, map[int]int{7: 2*tag + 6, 17: 1})
	states(arena.Dead, arena.Retired, arena.Dead)
	if a.Fault() {
		t.Error("a fault")
	}
}

// P12.2: a scan of nothing has as many steps as there are words, whatever they are.
func TestNothing(t *testing.T) {
	for work := 1; work <= 6; work++ {
		for _, l := range [][]int{nil, {}} {
			m, _ := modelOf(t, work)
			for i := range 2 * work {
				m.put(i/2, i%2, 1000+i)
			}
			if steps := m.scan(0, l).run(); steps != 2*work {
				t.Errorf("%d workers: %d steps", work, steps)
			}
		}
	}
}

// P12.2: one handle and one word that tells it: each word of each worker keeps it, whoever looks; a word that tells another handle does not.
func TestEachWord(t *testing.T) {
	for _, work := range []int{1, 2, 3, 5} {
		for by := range work {
			for i := range 2 * work {
				m, l := modelOf(t, work, 0, 1)
				m.put(i/2, i%2, l[0])
				v := m.scan(by, l[:1])
				if steps := v.run(); steps != 2*work || !slices.Equal(v.x.Left(), l[:1]) {
					t.Errorf("%d workers, word %d: %d steps, Left %x", work, i, steps, v.x.Left())
				}
				v = m.scan(by, l[1:])
				if steps := v.run(); steps != 2*work+3 || len(v.x.Left()) != 0 {
					t.Errorf("%d workers, word %d: %d steps, Left %x", work, i, steps, v.x.Left())
				}
				m.put(i/2, i%2, 0)
				v = m.scan(by, l[:1])
				if steps := v.run(); steps != 2*work+3 || len(v.x.Left()) != 0 || m.a.State(l[0]) != arena.Dead {
					t.Errorf("%d workers, word %d: %d steps, Left %x", work, i, steps, v.x.Left())
				}
			}
		}
	}
}

// P12.2: all rows of up to four handles of which each is looked at, or not, or twice: what is left comes in order, what is freed too.
func TestEachPart(t *testing.T) {
	for n := range 5 {
		rows := 1
		for range n {
			rows *= 3
		}
		for row := range rows {
			m, l := modelOf(t, 4, []int{0, 0, 2, 0}[:n]...)
			at, rest := 0, row
			var left []int
			for _, h := range l {
				for range rest % 3 {
					m.put(3-at%4, at/4, h)
					at++
				}
				if rest%3 != 0 {
					left = append(left, h)
				}
				rest /= 3
			}
			v := m.scan(1, l)
			if steps := v.run(); steps != 8+3*(n-len(left)) || !slices.Equal(v.x.Left(), left) {
				t.Errorf("row %d of %d: %d steps, Left %x, want %x", row, n, steps, v.x.Left(), left)
			}
		}
	}
}

// P12.2: the order is that of the list, not that of the bases, nor that of the words; the last one that is freed is the first of its list.
func TestOrder(t *testing.T) {
	m, l := modelOf(t, 2, 0, 0, 0, 0, 0, 0)
	m.put(0, 0, l[2])
	m.put(1, 1, l[5])
	v := m.scan(1, []int{l[4], l[5], l[0], l[3], l[2], l[1]})
	v.run()
	if !slices.Equal(v.x.Left(), []int{l[5], l[2]}) {
		t.Errorf("Left %x", v.x.Left())
	}
	var want []int
	for _, i := range []int{1, 3, 0, 4} {
		base, _, _, _ := handle.Open(l[i])
		want = append(want, base)
	}
	if got := free.List(m.a, m.p, 1, 0); !slices.Equal(got, want) {
		t.Errorf("list %d, want %d", got, want)
	}
	if got := free.List(m.a, m.p, 0, 0); len(got) != 0 {
		t.Errorf("list %d of another worker", got)
	}
}

// P12.2: a word tells a handle alone: its base, a slot of another gen or class there, one that was freed and born again is another.
func TestOtherNames(t *testing.T) {
	m, l := modelOf(t, 2, 1)
	base, gen, class, _ := handle.Open(l[0])
	for i, v := range []int{base, handle.Pack(base, gen+2, class), handle.Pack(base, gen, class+1), -l[0]} {
		m.put(i/2, i%2, v)
	}
	v := m.scan(0, l)
	if steps := v.run(); steps != 7 || len(v.x.Left()) != 0 {
		t.Errorf("%d steps, Left %x", steps, v.x.Left())
	}
	x := slab.NewAlloc(m.p, 0, class)
	for !x.Step(m.a) {
	}
	h, _ := x.Handle()
	m.a.Retire(h)
	m.a.SetRaw(m.table.Word(0, 0), l[0])
	y := NewScan(m.table, m.p, 0, []int{h})
	for !y.Step(m.a) {
	}
	if len(y.Left()) != 0 || m.a.State(h) != arena.Dead || m.a.Fault() {
		t.Errorf("Left %x, State %d", y.Left(), m.a.State(h))
	}
}

// P12.2: what is published behind the look at its word is not seen, what is cleared behind it was.
func TestBehindTheLook(t *testing.T) {
	for at := range 4 {
		for ahead := range 5 {
			m, l := modelOf(t, 2, 0, 1)
			m.put(at/2, at%2, l[1])
			v := m.scan(0, l)
			for range ahead {
				v.step()
			}
			m.put(at/2, at%2, l[0])
			v.run()
			want := l[:1]
			if ahead > at {
				want = l[1:]
			}
			if !slices.Equal(v.x.Left(), want) {
				t.Errorf("word %d behind %d steps: Left %x, want %x", at, ahead, v.x.Left(), want)
			}
		}
	}
}

// P12.2: steps behind the end: true, no use, no word turned; what is left stays, whatever the words are then.
func TestStepsBehindTheEnd(t *testing.T) {
	m, l := modelOf(t, 2, 0, 1, 2)
	m.put(1, 0, l[1])
	v := m.scan(1, l)
	v.run()
	for i := range 4 {
		m.put(1, 0, l[i%3])
		v.step()
	}
	w := m.scan(0, l[1:2])
	w.run()
	for range 3 {
		v.step()
		w.step()
	}
	if !slices.Equal(v.x.Left(), l[1:2]) {
		t.Errorf("Left %x", v.x.Left())
	}
}

// R3: the list that was handed in is neither changed nor kept, at whatever step it is turned; what is answered is new each time.
func TestLists(t *testing.T) {
	for at := range 12 {
		m, l := modelOf(t, 2, 0, 0, 0)
		m.put(0, 1, l[0])
		m.put(1, 1, l[2])
		own := append(slices.Clone(l), 77)[:3]
		x := NewScan(m.table, m.p, 0, own)
		for i := 0; ; i++ {
			if i == at {
				if !slices.Equal(own, l) || own[:4][3] != 77 {
					t.Errorf("it is %x by step %d", own[:4], at)
				}
				own[0], own[1], own[2] = 0, l[0], l[1]
			}
			if x.Step(m.a) {
				break
			}
		}
		got := x.Left()
		if !slices.Equal(got, []int{l[0], l[2]}) || m.a.State(l[1]) != arena.Dead {
			t.Errorf("turned by step %d: Left %x", at, got)
		}
		got[0] = 5
		_ = append(got, 6)
		if again := x.Left(); !slices.Equal(again, []int{l[0], l[2]}) {
			t.Errorf("Left %x", again)
		}
	}
	// spare room of two answers is not the same
	m, l := modelOf(t, 4, 0, 0, 0)
	for i, h := range l {
		m.put(i, 0, h)
	}
	v := m.scan(0, l)
	v.run()
	one, two := v.x.Left(), v.x.Left()
	_, other := append(one, 1), append(two, 2)
	if !slices.Equal(append(slices.Clone(other[:3]), 2), other) || !slices.Equal(one, two) {
		t.Errorf("%x, %x", one, other)
	}
	one, two = one[:cap(one)], two[:cap(two)]
	one[len(one)-1], two[len(two)-1] = 1, 2
	if one[len(one)-1] != 1 {
		t.Error("they share memory")
	}
}

// R4: scans of two arenas have nothing in common, though their numbers are the same; nor do two scans of one but for its words.
func TestTwoArenas(t *testing.T) {
	m, l := modelOf(t, 2, 0, 1)
	o, k := modelOf(t, 2, 0, 1)
	m.put(0, 0, l[0])
	o.put(1, 1, k[1])
	v, w := m.scan(0, l), o.scan(0, k)
	for !v.ended() || !w.ended() {
		v.step()
		w.step()
	}
	if !slices.Equal(v.x.Left(), l[:1]) || !slices.Equal(w.x.Left(), k[1:]) {
		t.Errorf("Left %x, %x", v.x.Left(), w.x.Left())
	}
}

// P12.1, P12.2: all workers and a full list: each worker's words are looked at, and it ends with the last free.
func TestMost(t *testing.T) {
	classes := make([]int, 200)
	m, l := modelOf(t, 64, classes...)
	var left []int
	for i := range 128 {
		m.put(i/2, i%2, l[i])
		left = append(left, l[i])
	}
	v := m.scan(63, l)
	m.known = true
	if steps := v.run(); steps != 128+3*72 || !slices.Equal(v.x.Left(), left) {
		t.Errorf("%d steps, %d left", steps, len(v.x.Left()))
	}
	m.known = false
	m.check()
	if got := free.List(m.a, m.p, 63, 0); len(got) != 72 {
		t.Errorf("a list of %d", len(got))
	}
}

// R5: a table without workers has no words: what is to be freed is freed at once; with nothing to do there it ends without a use.
func TestNoWorkers(t *testing.T) {
	for _, work := range []int{0, -1, math.MinInt} {
		m, l := modelOf(t, 1, 0, 0)
		m.put(0, 0, l[0])
		table := m.table
		table.Work = work
		x := NewScan(table, m.p, 0, l)
		was := m.a.Uses()
		for i := range 6 {
			if len(x.Left()) != 0 || x.Step(m.a) != (i == 5) {
				t.Errorf("%d workers, step %d", work, i)
			}
		}
		if m.a.Uses() != was+6 || len(x.Left()) != 0 || m.a.State(l[0]) != arena.Dead || m.a.State(l[1]) != arena.Dead {
			t.Errorf("%d workers: %d uses", work, m.a.Uses()-was)
		}
		x = NewScan(table, m.p, 0, nil)
		was = m.a.Uses()
		if !x.Step(m.a) || m.a.Uses() != was || len(x.Left()) != 0 {
			t.Errorf("%d workers: %d uses", work, m.a.Uses()-was)
		}
	}
}

// R1: what is no name is left, or has a step without a use; those behind it are freed all the same.
func TestNoNames(t *testing.T) {
	for _, no := range []int{1, -1, 5, 1 << 50, math.MaxInt, math.MinInt} {
		m, l := modelOf(t, 1, 0, 0)
		m.put(0, 1, no)
		x := NewScan(m.table, m.p, 0, []int{no, l[0], no, l[1]})
		for !x.Step(m.a) {
		}
		if !slices.Equal(x.Left(), []int{no, no}) || m.a.State(l[0]) != arena.Dead || m.a.State(l[1]) != arena.Dead {
			t.Errorf("Left %x", x.Left())
		}
		m, l = modelOf(t, 1, 0, 0)
		x = NewScan(m.table, m.p, 0, []int{no, l[0], no, l[1], no})
		was := m.a.Uses()
		for range 20 {
			before := m.a.Uses()
			if x.Step(m.a); m.a.Uses() > before+1 {
				t.Errorf("%d uses", m.a.Uses()-before)
			}
		}
		if m.a.Uses() != was+8 || len(x.Left()) != 0 || m.a.State(l[0]) != arena.Dead || m.a.State(l[1]) != arena.Dead {
			t.Errorf("%d uses, Left %x", m.a.Uses()-was, x.Left())
		}
	}
}

// R1, R5: numbers that are no worker, no place, no table: each step ends, with one use at most, and so it stays when it has ended.
func TestAnyNumbers(t *testing.T) {
	far := []int{math.MinInt, -1 << 50, -64, -2, -1, 0, 1, 2, 3, 64, 1000, 1 << 40, 1 << 62, math.MaxInt}
	p, n := free.Raw(2, 64)
	for _, x := range far {
		for _, y := range far {
			for _, place := range []free.Place{p, {Work: x, Heads: y, Links: x, Gens: y, Carved: x}} {
				Raw(x, y)
				a := arena.New(n, 64, false)
				s := NewScan(Table{x, y}, place, y, []int{0, handle.Pack(0, 1, 0), handle.Pack(8, 1, 3), x})
				ended := false
				for range 20 {
					was := a.Uses()
					done := s.Step(a)
					if a.Uses() > was+1 || ended && (!done || a.Uses() != was) || !done && len(s.Left()) != 0 {
						t.Errorf("%d, %d: %v with %d uses", x, y, done, a.Uses()-was)
					}
					ended = done
				}
				if ended && x >= 64 {
					t.Errorf("%d, %d: ended ahead of the last word", x, y)
				}
			}
		}
	}
}

// P12.2: scans and those who set words, their steps in every order that there is: each step is held against the model.
func TestEveryOrder(t *testing.T) {
	rows := []func() (*model, []mover){
		func() (*model, []mover) { // a word comes, and goes
			m, l := modelOf(t, 1, 0, 0)
			return m, []mover{m.scan(0, l), &sets{m, 0, 0, []int{l[0], l[1], 0}}}
		},
		func() (*model, []mover) { // both words, each by its own
			m, l := modelOf(t, 1, 0)
			return m, []mover{m.scan(0, l), &sets{m, 0, 0, []int{l[0], 0}}, &sets{m, 0, 1, []int{l[0]}}}
		},
		func() (*model, []mover) { // a handle goes from one word to the other
			m, l := modelOf(t, 2, 1, 1)
			m.put(0, 1, l[1])
			return m, []mover{m.scan(1, l), &sets{m, 1, 0, []int{l[1]}}, &sets{m, 0, 1, []int{0}}}
		},
		func() (*model, []mover) { // two scans of two workers, each on its own list
			m, l := modelOf(t, 2, 0, 0)
			m.put(0, 1, l[1])
			return m, []mover{m.scan(0, l[:1]), m.scan(1, l[1:])}
		},
		func() (*model, []mover) { // two scans of one list: the swaps do not all go
			m, l := modelOf(t, 1, 0, 0, 0)
			return m, []mover{m.scan(0, l[:1]), m.scan(0, l[1:2])}
		},
		func() (*model, []mover) { // more than one of each
			m, l := modelOf(t, 1, 0, 0, 0)
			m.put(0, 0, l[0])
			return m, []mover{m.scan(0, l[:2]), m.scan(0, l[2:])}
		},
	}
	for i, made := range rows {
		if n := turns.Each(func(o *turns.Order) { order(t, made, o) }); n < 20 {
			t.Errorf("row %d: only %d orders", i, n)
		}
	}
}

// P12.2: many scans of several workers, drawn words, drawn steps.
func TestDrawnOrders(t *testing.T) {
	r := rand.New(rand.NewSource(12))
	for range 150 {
		work := 1 + r.Intn(4)
		classes := make([]int, 1+r.Intn(12))
		for i := range classes {
			classes[i] = r.Intn(3)
		}
		m, l := modelOf(t, work, classes...)
		r.Shuffle(len(l), func(i, k int) { l[i], l[k] = l[k], l[i] })
		todo := slices.Clone(l)
		scans := make([]*scanning, work)
		for range 200 {
			w := r.Intn(work)
			if r.Intn(4) == 0 {
				m.put(r.Intn(work), r.Intn(2), append(l, 0, 0)[r.Intn(len(l)+2)])
			} else if scans[w] == nil {
				n := r.Intn(len(todo) + 1)
				scans[w], todo = m.scan(w, todo[:n]), todo[n:]
			} else if scans[w].step(); scans[w].ended() {
				todo = append(todo, scans[w].left...)
				scans[w] = nil
			}
			if t.Failed() {
				t.Fatalf("%d workers, %d handles", work, len(l))
			}
		}
	}
}

// look is one who takes what a raw word tells, publishes it, and looks at it for some steps if the word tells it still.
type look struct {
	a          *arena.Arena
	word       int // the raw word that tells it
	own        int // the word in which it is published
	h, step, n int
}

// holds tells whether it may look at the handle.
func (x *look) holds() bool { return x.step >= 3 && x.step < 3+x.n }

func (x *look) ended() bool { return x.step == 4+x.n }

func (x *look) do() {
	switch {
	case x.holds():
		x.a.Load(x.h, 0)
	case x.step == 0:
		x.h = x.a.Raw(x.word)
	case x.step == 1:
		x.a.SetRaw(x.own, x.h)
	case x.step == 2 && x.a.Raw(x.word) != x.h:
		x.step = 2 + x.n // not reachable any more: it is cleared
	case x.step == 3+x.n:
		x.a.SetRaw(x.own, 0)
	}
	x.step++
	if x.h == 0 {
		x.step = 4 + x.n
	}
}

// remove is one who takes it from that raw word, retires it, and looks whether it may go, some times.
type remove struct {
	a    *arena.Arena
	p    free.Place
	t    Table
	word int
	work int
	h    int
	l    []int
	scan *Scan
	left int // how many scans are to come
	gone bool
}

func (x *remove) ended() bool { return x.gone && x.scan == nil && x.left == 0 }

func (x *remove) do() {
	if !x.gone {
		x.a.SetRaw(x.word, 0)
		x.a.Retire(x.h)
		x.gone, x.l = true, []int{x.h}
		return
	}
	if x.scan == nil {
		x.scan = NewScan(x.t, x.p, x.work, x.l)
		x.left--
	}
	if x.scan.Step(x.a) {
		x.l, x.scan = x.scan.Left(), nil
	}
}

// doer is a look, or a remove.
type doer interface {
	do()
	ended() bool
}

// shared is a handle that a raw word tells, one who removes it, and some who look at it.
func shared(t *testing.T, lookers, work, scans, n int) (*arena.Arena, *remove, []*look) {
	p, at := free.Raw(work, 64)
	table, more := Raw(work, at)
	a := arena.New(at+more+1, 64, false)
	y := slab.NewAlloc(p, 0, 0)
	for !y.Step(a) {
	}
	h, _ := y.Handle()
	a.SetRaw(at+more, h)
	r := &remove{a: a, p: p, t: table, word: at + more, work: work - 1, h: h, left: scans}
	var l []*look
	for i := range lookers {
		l = append(l, &look{a: a, word: at + more, own: table.Word(i/2, i%2), n: n})
	}
	return a, r, l
}

// held goes the steps that pick tells, and holds after each that nothing is dead that somebody holds.
func held(t *testing.T, a *arena.Arena, r *remove, l []*look, pick func(of int) int) {
	t.Helper()
	var did []int
	for {
		var left []doer
		if !r.ended() {
			left = append(left, r)
		}
		for _, x := range l {
			if !x.ended() {
				left = append(left, x)
			}
		}
		if len(left) == 0 {
			return
		}
		i := pick(len(left))
		did = append(did, i)
		left[i].do()
		for _, x := range l {
			if x.holds() && a.State(r.h) == arena.Dead || a.Fault() {
				t.Fatalf("freed while it is held, in the order %d", did)
			}
		}
	}
}

// last holds that with nobody looking the next scan frees it.
func last(t *testing.T, a *arena.Arena, r *remove) {
	t.Helper()
	r.left = 1
	for !r.ended() {
		r.do()
	}
	if a.State(r.h) != arena.Dead || len(r.l) != 0 {
		t.Errorf("State %d, %x are left", a.State(r.h), r.l)
	}
}

// P12.3: who has published a handle and found it still reachable may look at it until it is cleared, in every order that there is.
func TestHeld(t *testing.T) {
	for _, x := range []struct{ work, scans, n int }{{1, 1, 2}, {1, 2, 1}, {2, 1, 1}} {
		kept, freed := 0, 0
		turns.Each(func(o *turns.Order) {
			a, r, l := shared(t, 1, x.work, x.scans, x.n)
			held(t, a, r, l, o.Pick)
			if len(r.l) != 0 {
				kept++
			} else {
				freed++
			}
			last(t, a, r)
		})
		if kept == 0 || freed == 0 {
			t.Errorf("%+v: %d orders kept it, %d freed it", x, kept, freed)
		}
	}
}

// P12.3: the same of many who look, in drawn orders.
func TestHeldByMany(t *testing.T) {
	draw := rand.New(rand.NewSource(3))
	for range 1500 {
		work := 1 + draw.Intn(4)
		a, r, l := shared(t, 1+draw.Intn(2*work), work, 1+draw.Intn(3), 1+draw.Intn(4))
		held(t, a, r, l, draw.Intn)
		last(t, a, r)
	}
}
