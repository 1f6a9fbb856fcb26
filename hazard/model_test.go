package hazard

import (
	"slices"
	"testing"

	"magpie/arena"
	"magpie/free"
	"magpie/handle"
	"magpie/slab"
	"magpie/turns"
)

// tag is what a head grows by with each swap.
const tag = 1 << 17

// model is an arena beside what the document says of its raw words and of its slots.
type model struct {
	t      *testing.T
	a      *arena.Arena
	p      free.Place
	table  Table
	work   int
	raw    []int       // as they must be
	states map[int]int // by handle
	known  bool        // nothing new is done: check may be left out
}

// modelOf is an arena for so many workers, and retired handles of those classes.
func modelOf(t *testing.T, work int, classes ...int) (*model, []int) {
	t.Helper()
	words := 64 * len(classes)
	p, at := free.Raw(work, words)
	table, more := Raw(work, at)
	m := &model{t: t, a: arena.New(at+more, words, false), p: p, table: table, work: work, states: map[int]int{}}
	var l []int
	for i, class := range classes {
		x := slab.NewAlloc(p, i%work, class)
		for !x.Step(m.a) {
		}
		h, ok := x.Handle()
		if !ok || !m.a.Retire(h) {
			t.Fatalf("slot %d of %d is not made", i, classes)
		}
		l = append(l, h)
		m.states[h] = arena.Retired
	}
	for i := range at + more {
		m.raw = append(m.raw, m.a.Raw(i))
	}
	return m, l
}

// put sets a worker's word, in the arena and in the model.
func (m *model) put(work, slot, v int) {
	at := len(m.raw) - 2*m.work + 2*work + slot
	m.raw[at] = v
	m.a.SetRaw(at, v)
}

// Places of a scan: which use comes next.
const (
	theWord = iota
	theHead
	theLink
	theSwap
	theEnd
)

// scanning is a scan beside what the document says of it.
type scanning struct {
	m     *model
	x     *Scan
	work  int
	l     []int
	words int // how many were looked at
	was   []int
	left  []int
	lone  []int // that are still to be freed
	at    int
	head  int
}

func (m *model) scan(work int, l []int) *scanning {
	own := slices.Clone(l)
	v := &scanning{m: m, x: NewScan(m.table, m.p, work, own), work: work, l: slices.Clone(l)}
	// What becomes of the list that was handed in is nothing to it.
	clear(own)
	return v
}

func (v *scanning) list() (at, base int) {
	base, _, class, _ := handle.Open(v.lone[0])
	return 4*v.work + class, base
}

func (v *scanning) expect() {
	raw := v.m.raw
	switch v.at {
	case theWord:
		v.was = append(v.was, raw[len(raw)-2*v.m.work+v.words])
		if v.words++; v.words == 2*v.m.work {
			v.look()
		}
	case theHead:
		at, _ := v.list()
		v.head, v.at = raw[at], theLink
	case theLink:
		_, base := v.list()
		raw[4*v.m.work+base/8] = v.head % tag
		v.at = theSwap
	case theSwap:
		at, base := v.list()
		v.at = theHead
		if raw[at] == v.head {
			raw[at] = (v.head/tag+1)*tag + base/8 + 1
			v.m.states[v.lone[0]] = arena.Dead
			v.lone = v.lone[1:]
			v.next()
		}
	}
}

// look tells what is left and what is to be freed.
func (v *scanning) look() {
	for _, h := range v.l {
		if slices.Contains(v.was, h) {
			v.left = append(v.left, h)
		} else {
			v.lone = append(v.lone, h)
		}
	}
	v.at = theHead
	v.next()
}

func (v *scanning) next() {
	if len(v.lone) == 0 {
		v.at = theEnd
	}
}

func (v *scanning) ended() bool { return v.at == theEnd }

// step is one step, and what comes of it held against the document: whether it has ended, how many uses, what is left, all words and slots.
func (v *scanning) step() {
	v.m.t.Helper()
	uses := 0
	if !v.ended() {
		v.expect()
		uses = 1
	}
	was := v.m.a.Uses()
	if done := v.x.Step(v.m.a); done != v.ended() || v.m.a.Uses() != was+uses {
		v.m.t.Errorf("%+v: %v with %d uses, want %v with %d", v, done, v.m.a.Uses()-was, v.ended(), uses)
	}
	var left []int
	if v.ended() {
		left = v.left
	}
	if v.at != theWord && len(v.x.seen) != 0 {
		v.m.t.Errorf("%+v: words are kept that nobody needs", v)
	}
	if got := v.x.Left(); !slices.Equal(got, left) {
		v.m.t.Errorf("%+v: Left %x, want %x", v, got, left)
	}
	v.m.check()
}

// check holds all raw words and slots against the model.
func (m *model) check() {
	m.t.Helper()
	if m.known {
		return
	}
	for i, want := range m.raw {
		if got := m.a.Raw(i); got != want {
			m.t.Errorf("raw word %d is %x, want %x", i, got, want)
		}
	}
	for h, state := range m.states {
		if got := m.a.State(h); got != state {
			m.t.Errorf("State(%x) is %d, want %d", h, got, state)
		}
	}
	if m.a.Fault() {
		m.t.Error("a fault")
	}
}

// run is a scan to its end; how many steps that took.
func (v *scanning) run() int {
	v.m.t.Helper()
	for steps := 1; ; steps++ {
		if v.step(); v.ended() {
			return steps
		}
		if v.m.t.Failed() || steps > 1000 {
			v.m.t.Fatalf("no end: %+v", v)
		}
	}
}

// mover is one whose steps fall between those of others.
type mover interface {
	step()
	ended() bool
}

// sets turns a worker's word to one value after the other.
type sets struct {
	m          *model
	work, slot int
	todo       []int
}

func (x *sets) step() {
	x.m.put(x.work, x.slot, x.todo[0])
	x.todo = x.todo[1:]
}

func (x *sets) ended() bool { return len(x.todo) == 0 }

// order runs movers to their ends in that order.
func order(t *testing.T, made func() (*model, []mover), o *turns.Order) {
	m, all := made()
	for {
		left := slices.DeleteFunc(slices.Clone(all), mover.ended)
		if len(left) == 0 || t.Failed() {
			break
		}
		x := left[o.Pick(len(left))]
		m.known = o.Known()
		x.step()
	}
	if t.Failed() {
		t.Fatalf("in the order %d", o.Picks())
	}
}
