package arena

import (
	"testing"

	"magpie/api"
)

// name is the document's sum of a slot's name, written out apart from package handle; parts that may not be give a number that is no name, or another's.
func name(base, gen, class int) int { return class + 4*gen + 1<<32*base + 1<<50 }

func sizeOf(class int) int { return 8 << class }

// birth is a slot that was born, and what it is now.
type birth struct{ h, base, gen, class, state int }

func (b birth) has(place int) bool { return b.base <= place && place < b.base+sizeOf(b.class) }

// parts reads a name over by division alone; false if it is none.
func parts(h int) (birth, bool) {
	rest := h - 1<<50
	if rest < 0 {
		return birth{}, false
	}
	b := birth{h: h, base: rest / (1 << 32), gen: rest % (1 << 32) / 4, class: rest % 4}
	return b, b.base < 1<<16 && b.gen > 0
}

// model is an arena as the document tells it: every birth that ever was, in order, and all else asked of these.
type model struct {
	raw, vals []int
	fresh     bool
	births    []birth
	fault     bool
	uses      int
}

func modelOf(raw, words int, fresh bool) *model {
	return &model{raw: make([]int, raw), vals: make([]int, words), fresh: fresh}
}

// last is the last slot of a base; nil if it never had one.
func (m *model) last(base int) *birth {
	for i := len(m.births) - 1; i >= 0; i-- {
		if m.births[i].base == base {
			return &m.births[i]
		}
	}
	return nil
}

func (m *model) State(h int) int {
	b, ok := parts(h)
	if l := m.last(b.base); ok && l != nil && l.h == h {
		return l.state
	}
	return 0
}

// holder is the slot that is not dead and has that word; false if there is none.
func (m *model) holder(place int) (birth, bool) {
	for _, b := range m.births {
		if b.has(place) && m.State(b.h) != 0 {
			return b, true
		}
	}
	return birth{}, false
}

func (m *model) Born(h int) bool {
	b, ok := parts(h)
	if !ok || b.base+sizeOf(b.class) > len(m.vals) {
		return false
	}
	for place := b.base; place < b.base+sizeOf(b.class); place++ {
		if _, held := m.holder(place); held {
			return false
		}
	}
	for _, old := range m.births {
		if old.base == b.base && b.gen <= old.gen {
			return false
		}
	}
	if m.fresh {
		for place := b.base; place < b.base+sizeOf(b.class); place++ {
			m.vals[place] = 0
		}
	}
	b.state = 1
	m.births = append(m.births, b)
	return true
}

// turn makes a slot of one state one of another.
func (m *model) turn(h, from, to int) bool {
	if m.State(h) != from {
		return false
	}
	b, _ := parts(h)
	m.last(b.base).state = to
	return true
}

func (m *model) Retire(h int) bool { return m.turn(h, 1, 2) }

func (m *model) Died(h int) bool { return m.turn(h, 2, 0) }

func (m *model) Count() (c api.Count) {
	for place := range m.vals {
		for _, b := range m.births {
			if b.has(place) {
				c.Carved++
				break
			}
		}
		if b, held := m.holder(place); !held {
			continue
		} else if b.state == 1 {
			c.Live++
		} else {
			c.Retired++
		}
	}
	c.Free = c.Carved - c.Live - c.Retired
	return c
}

// at is a slot's word; nil, and a fault, if there is none.
func (m *model) at(h, off int) *int {
	m.uses++
	b, _ := parts(h)
	if m.State(h) == 0 || off < 0 || off >= sizeOf(b.class) {
		m.fault = true
		return nil
	}
	return &m.vals[b.base+off]
}

func (m *model) rawAt(i int) *int {
	m.uses++
	if i < 0 || i >= len(m.raw) {
		m.fault = true
		return nil
	}
	return &m.raw[i]
}

// Kinds of calls: of a slot's word, of a raw word, of a slot.
const (
	doLoad = iota
	doStore
	doSwap
	doAdd
	doRaw
	doSetRaw
	doSwapRaw
	doAddRaw
	doBorn
	doRetire
	doDied
	doState
	kinds
)

// call is one call: h is a name, off a word of it or a raw word, x and y are numbers.
type call struct{ kind, h, off, x, y int }

// answer is what came of a call: a number, a yes.
type answer struct {
	n  int
	ok bool
}

// of is the call on an arena.
func (c call) of(a *Arena) (r answer) {
	switch c.kind {
	case doLoad:
		r.n = a.Load(c.h, c.off)
	case doStore:
		a.Store(c.h, c.off, c.x)
	case doSwap:
		r.ok = a.Swap(c.h, c.off, c.x, c.y)
	case doAdd:
		r.n = a.Add(c.h, c.off, c.x)
	case doRaw:
		r.n = a.Raw(c.off)
	case doSetRaw:
		a.SetRaw(c.off, c.x)
	case doSwapRaw:
		r.ok = a.SwapRaw(c.off, c.x, c.y)
	case doAddRaw:
		r.n = a.AddRaw(c.off, c.x)
	case doBorn:
		r.ok = a.Born(c.h)
	case doRetire:
		r.ok = a.Retire(c.h)
	case doDied:
		r.ok = a.Died(c.h)
	case doState:
		r.n = a.State(c.h)
	}
	return r
}

// word is a use of a word that is there, or of none.
func (c call) word(w *int) answer {
	if w == nil {
		return answer{}
	}
	was := *w
	switch c.kind {
	case doStore, doSetRaw:
		*w = c.x
		return answer{}
	case doSwap, doSwapRaw:
		if was == c.x {
			*w = c.y
		}
		return answer{ok: was == c.x}
	case doAdd, doAddRaw:
		*w = int(uint64(was) + uint64(c.x))
	}
	return answer{n: was}
}

// ofModel is the call on a model.
func (c call) ofModel(m *model) answer {
	switch c.kind {
	case doLoad, doStore, doSwap, doAdd:
		return c.word(m.at(c.h, c.off))
	case doRaw, doSetRaw, doSwapRaw, doAddRaw:
		return c.word(m.rawAt(c.off))
	case doBorn:
		return answer{ok: m.Born(c.h)}
	case doRetire:
		return answer{ok: m.Retire(c.h)}
	case doDied:
		return answer{ok: m.Died(c.h)}
	}
	return answer{n: m.State(c.h)}
}

// pair is an arena and its model, asked the same.
type pair struct {
	t *testing.T
	a *Arena
	m *model
}

func pairOf(t *testing.T, raw, words int, fresh bool) *pair {
	return &pair{t, New(raw, words, fresh), modelOf(raw, words, fresh)}
}

// do holds what comes of a call, and how all stands behind it, against the model.
func (p *pair) do(c call) bool {
	p.t.Helper()
	got, want := c.of(p.a), c.ofModel(p.m)
	if got != want {
		p.t.Errorf("%+v: %+v, want %+v", c, got, want)
	}
	if p.a.Uses() != p.m.uses || p.a.Fault() != p.m.fault || p.a.Words() != len(p.m.vals) {
		p.t.Errorf("%+v: Uses %d, Fault %v, Words %d, want %d, %v, %d", c, p.a.Uses(), p.a.Fault(), p.a.Words(), p.m.uses, p.m.fault, len(p.m.vals))
	}
	return got == want
}

// doAll holds a slot's call, then the account of words and what each of those names is, against the model.
func (p *pair) doAll(c call, names []int) {
	p.t.Helper()
	p.do(c)
	if got, want := p.a.Count(), p.m.Count(); got != want {
		p.t.Errorf("%+v: Count %+v, want %+v", c, got, want)
	}
	for _, h := range names {
		p.do(call{kind: doState, h: h})
	}
}

// loadAll holds every word that can be asked for against the model: raw ones, those of slots, and the ones next to them.
func (p *pair) loadAll(names []int) {
	p.t.Helper()
	for i := -1; i <= len(p.m.raw); i++ {
		p.do(call{kind: doRaw, off: i})
	}
	for _, h := range names {
		for off := -1; off <= sizeOf(3); off++ {
			p.do(call{kind: doLoad, h: h, off: off})
		}
	}
}
