package slab

import (
	"slices"
	"testing"

	"magpie/api"
	"magpie/arena"
	"magpie/free"
	"magpie/handle"
)

// sizes are the classes' words by the document, apart from the layers below.
var sizes = []int{8, 16, 32, 64}

// tag is what a head grows by with each swap.
const tag = 1 << 17

// firstOf is what a head tells of its first one.
func firstOf(head int) int { return head % tag }

// name is a handle by the document's sum.
func name(base, gen, class int) int { return class + 4*gen + base<<32 + 1<<50 }

// model is an arena beside what the document says of its raw words and of its slots.
type model struct {
	t      *testing.T
	a      *arena.Arena
	p      free.Place
	work   int
	words  int
	raw    []int       // as they must be
	slots  map[int]int // by handle: its state
	movers []mover     // those that began; who has ended may be left out
	known  bool        // nothing new is done: check may be left out
}

func modelOf(t *testing.T, work, words int) *model {
	t.Helper()
	p, n := free.Raw(work, words)
	return &model{t: t, a: arena.New(n, words, false), p: p, work: work, words: words, raw: make([]int, n), slots: map[int]int{}}
}

// mover is an alloc or a free beside what the document says of it.
type mover interface {
	// expect does in the model what the next step must do.
	expect()
	// ended tells whether it must have ended.
	ended() bool
	// step is a step of the thing itself.
	step() bool
	// check holds what the thing tells against the model.
	check()
	// hand is what it has carved or popped, and not named yet: a base and a class.
	hand() (base, class int, ok bool)
}

// Places of an alloc and of a free: which use comes next.
const (
	theHead = iota
	theLink
	theTurn
	theCarved
	theSwap
	theGen
	theEnd
)

// turn is the swap of a list's head, if that is what it was; it went?
func (m *model) turn(at, was, first int) bool {
	if m.raw[at] != was {
		return false
	}
	m.raw[at] = (was/tag+1)*tag + first
	return true
}

// making is an alloc beside what the document says of it.
type making struct {
	m           *model
	x           *Alloc
	work, class int
	asked       int // how many lists had none
	at          int
	head, link  int
	base        int
	handle      int
}

func (m *model) alloc(work, class int) *making {
	v := &making{m: m, x: NewAlloc(m.p, work, class), work: work, class: class}
	m.movers = append(m.movers, v)
	return v
}

func (v *making) list() int { return 4*((v.work+v.asked)%v.m.work) + v.class }

func (v *making) expect() {
	raw, size := v.m.raw, sizes[v.class]
	switch v.at {
	case theHead:
		v.head = raw[v.list()]
		v.at = theLink
		if firstOf(v.head) == 0 {
			v.at = theHead
			if v.asked++; v.asked == v.m.work {
				v.at = theCarved
			}
		}
	case theLink:
		v.link = raw[4*v.m.work+firstOf(v.head)-1]
		v.at = theTurn
	case theTurn:
		v.at = theHead
		if v.m.turn(v.list(), v.head, v.link) {
			v.base, v.at = 8*(firstOf(v.head)-1), theGen
		}
	case theCarved:
		v.base = raw[len(raw)-1]
		v.at = theSwap
		if v.base+size > v.m.words {
			v.at = theEnd
		}
	case theSwap:
		v.at = theCarved
		if raw[len(raw)-1] == v.base {
			raw[len(raw)-1] += size
			v.at = theGen
		}
	case theGen:
		gens := raw[v.m.p.Gens:]
		gens[v.base/8]++
		v.handle, v.at = name(v.base, gens[v.base/8], v.class), theEnd
		v.m.slots[v.handle] = arena.Live
	}
}

func (v *making) ended() bool { return v.at == theEnd }

func (v *making) step() bool { return v.x.Step(v.m.a) }

func (v *making) check() {
	if h, ok := v.x.Handle(); h != v.handle || ok != (v.handle != 0) {
		v.m.t.Errorf("Handle %x, %v, want %x", h, ok, v.handle)
	}
}

func (v *making) hand() (base, class int, ok bool) { return v.base, v.class, v.at == theGen }

// freeing is a free beside what the document says of it.
type freeing struct {
	m      *model
	x      *Free
	at     int
	list   int
	head   int
	base   int
	handle int
}

// free is that a slot is given back that was retired just now.
func (m *model) free(work, h int) *freeing {
	base, _, class, ok := handle.Open(h)
	if !m.a.Retire(h) || !ok {
		m.t.Errorf("Retire(%x) is false", h)
	}
	m.slots[h] = arena.Retired
	v := &freeing{m: m, x: NewFree(m.p, work, h), list: 4*work + class, base: base, handle: h}
	m.movers = append(m.movers, v)
	return v
}

func (v *freeing) expect() {
	raw := v.m.raw
	switch v.at {
	case theHead:
		v.head = raw[v.list]
		v.at = theLink
	case theLink:
		raw[4*v.m.work+v.base/8] = firstOf(v.head)
		v.at = theTurn
	case theTurn:
		v.at = theHead
		if v.m.turn(v.list, v.head, v.base/8+1) {
			v.at = theEnd
			v.m.slots[v.handle] = arena.Dead
		}
	}
}

func (v *freeing) ended() bool { return v.at == theEnd }

func (v *freeing) step() bool { return v.x.Step(v.m.a) }

func (v *freeing) check() {}

func (v *freeing) hand() (base, class int, ok bool) { return 0, 0, false }

// do is one step, and what comes of it held against the document: whether it has ended, how many uses, what is told, all words and slots.
func (m *model) do(v mover) bool {
	m.t.Helper()
	uses := 0
	if !v.ended() {
		v.expect()
		uses = 1
	}
	was := m.a.Uses()
	if done := v.step(); done != v.ended() || m.a.Uses() != was+uses {
		m.t.Errorf("%+v: %v with %d uses, want %v with %d", v, done, m.a.Uses()-was, v.ended(), uses)
	}
	v.check()
	return m.check()
}

// check holds all raw words and slots against the model, and against what P11.2 says of them.
func (m *model) check() bool {
	m.t.Helper()
	if m.known {
		return !m.t.Failed()
	}
	got := make([]int, len(m.raw))
	for i := range got {
		got[i] = m.a.Raw(i)
	}
	if !slices.Equal(got, m.raw) {
		m.t.Errorf("raw words %d, want %d", got, m.raw)
	}
	for h, state := range m.slots {
		if m.a.State(h) != state {
			m.t.Errorf("State(%x) is %d, want %d", h, m.a.State(h), state)
		}
	}
	if c, want := m.a.Count(), m.account(); c.Live != want.Live || c.Retired != want.Retired {
		m.t.Errorf("%+v, want %+v", c, want)
	}
	if carved := m.a.Raw(m.p.Carved); m.a.Fault() || carved > m.words {
		m.t.Errorf("a fault %v, or %d words carved", m.a.Fault(), carved)
	}
	return !m.t.Failed()
}

// account goes through all words: each that is carved has one owner, a slot or a list or a machine that has it in hand; no other has any. It answers how many are Live and Retired.
func (m *model) account() (c api.Count) {
	m.t.Helper()
	owners := make([]int, m.words)
	own := func(base, size int) {
		for i := base; i < base+size; i++ {
			owners[i]++
		}
	}
	for h := range m.slots {
		base, _, class, _ := handle.Open(h)
		switch m.a.State(h) {
		case arena.Live:
			c.Live += sizes[class]
			own(base, sizes[class])
		case arena.Retired:
			c.Retired += sizes[class]
			own(base, sizes[class])
		}
	}
	for i := range 4 * m.work {
		for _, base := range free.List(m.a, m.p, i/4, i%4) {
			own(base, sizes[i%4])
		}
	}
	for _, v := range m.movers {
		if base, class, ok := v.hand(); ok {
			own(base, sizes[class])
		}
	}
	carved := m.a.Raw(m.p.Carved)
	for i, n := range owners {
		if i < carved && n != 1 || i >= carved && n != 0 {
			m.t.Errorf("word %d of %d that are carved: %d owners", i, carved, n)
			break
		}
	}
	return c
}

// run is a mover to its end; how many steps that took.
func (m *model) run(v mover) int {
	m.t.Helper()
	v.check()
	for steps := 1; ; steps++ {
		if !m.do(v) || v.ended() {
			return steps
		}
		if steps > 1000 {
			m.t.Fatalf("no end: %+v", v)
		}
	}
}

// make is an alloc to its end: the handle, or 0.
func (m *model) make(work, class int) int {
	m.t.Helper()
	v := m.alloc(work, class)
	m.run(v)
	m.forget()
	return v.handle
}

// give is a free to its end.
func (m *model) give(work, h int) {
	m.t.Helper()
	m.run(m.free(work, h))
	m.forget()
}

// forget leaves out those that have ended.
func (m *model) forget() {
	m.movers = slices.DeleteFunc(m.movers, mover.ended)
}

// spot is a worker and a class: a list's place.
type spot struct{ work, class int }

// fill makes slots, and puts each on the list of its spot; the last one is the first of its list.
func (m *model) fill(spots ...spot) []int {
	m.t.Helper()
	var l []int
	for _, s := range spots {
		h := m.make(s.work, s.class)
		if h == 0 {
			m.t.Fatalf("%d words are too few for %+v", m.words, spots)
		}
		l = append(l, h)
	}
	for i, s := range spots {
		m.give(s.work, l[i])
	}
	return l
}
