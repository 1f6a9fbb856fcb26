package free

import (
	"slices"
	"testing"

	"magpie/arena"
)

// spot is a worker and a class: a list's place.
type spot struct{ work, class int }

// pile is a list as the document tells it: its bases, the first one first, and how often a swap of its head went.
type pile struct {
	bases []int
	turns int
}

// tell is a base as heads and links tell it: 0 of none.
func tell(bases []int) int {
	if len(bases) == 0 {
		return 0
	}
	return bases[0]/8 + 1
}

// model is all lists of some workers as piles; a machine's swap goes just if nobody's went since it looked.
type model struct {
	t     *testing.T
	a     *arena.Arena
	p     Place
	raws  int
	piles []pile // by worker and class
	links []int  // by grain: what was put there last
	known bool   // nothing new is done: check may be left out
}

func modelOf(t *testing.T, work, words int) *model {
	p, n := Raw(work, words)
	if n != 4*work+(words+7)/8*2+1 {
		t.Fatalf("Raw(%d, %d): %d words", work, words, n)
	}
	return &model{t, arena.New(n, words, false), p, n, make([]pile, 4*work), make([]int, (words+7)/8), false}
}

func (m *model) at(s spot) *pile { return &m.piles[4*s.work+s.class] }

// words are all raw words as they must be: heads, links, then gens and what is carved, which no machine of these lists touches.
func (m *model) words() []int {
	l := make([]int, 0, m.raws)
	for _, p := range m.piles {
		l = append(l, p.turns<<17+tell(p.bases))
	}
	l = append(l, m.links...)
	return append(l, make([]int, m.raws-len(l))...)
}

// check holds all raw words, and what List tells of each list, against the model.
func (m *model) check() bool {
	if m.known {
		return !m.t.Failed()
	}
	var got []int
	for i := range m.raws {
		got = append(got, m.a.Raw(i))
	}
	if want := m.words(); !slices.Equal(got, want) {
		m.t.Errorf("raw words %d, want %d", got, want)
	}
	for i, p := range m.piles {
		uses := m.a.Uses()
		if l := List(m.a, m.p, i/4, i%4); !slices.Equal(l, p.bases) || m.a.Uses() != uses+1+len(p.bases) {
			m.t.Errorf("worker %d, class %d: list %d with %d uses, want %d", i/4, i%4, l, m.a.Uses()-uses, p.bases)
		}
	}
	if m.a.Fault() {
		m.t.Error("a fault")
	}
	return !m.t.Failed()
}

// stepper is what a push and a pop have in common.
type stepper interface{ Step(a *arena.Arena) bool }

// finish is a machine to its end, which must come.
func finish(t *testing.T, a *arena.Arena, x stepper) {
	t.Helper()
	for range 30 {
		if x.Step(a) {
			return
		}
	}
	t.Fatalf("no end: %+v", x)
}

// mover is a push or a pop beside what the document says of it.
type mover struct {
	m    *model
	s    spot
	push *Push
	pop  *Pop
	base int // what is pushed, or was popped
	went int // uses since it last began
	saw  pile
	done bool
	got  bool // whether a base was popped
}

func (m *model) newPush(s spot, base int) *mover {
	return &mover{m: m, s: s, push: NewPush(m.p, s.work, s.class, base), base: base}
}

func (m *model) newPop(s spot) *mover {
	return &mover{m: m, s: s, pop: NewPop(m.p, s.work, s.class)}
}

// expect does in the model what the next step must do.
func (v *mover) expect() {
	at := v.m.at(v.s)
	v.went++
	switch {
	case v.went == 1:
		v.saw = pile{slices.Clone(at.bases), at.turns}
		v.done = v.pop != nil && len(at.bases) == 0
	case v.went == 2:
		if v.push != nil {
			v.m.links[v.base/8] = tell(v.saw.bases)
		}
	case at.turns != v.saw.turns:
		v.went = 0
	case v.push != nil:
		v.done = true
		*at = pile{append([]int{v.base - v.base%8}, at.bases...), at.turns + 1}
	default:
		v.done, v.got, v.base = true, true, at.bases[0]
		*at = pile{slices.Clone(at.bases[1:]), at.turns + 1}
	}
}

// step is one step, and what comes of it held against the document: whether it has ended, how many uses, what was popped, all words.
func (v *mover) step() bool {
	uses := 0
	if !v.done {
		v.expect()
		uses = 1
	}
	var x stepper = v.push
	if v.pop != nil {
		x = v.pop
	}
	was := v.m.a.Uses()
	if done := x.Step(v.m.a); done != v.done || v.m.a.Uses() != was+uses {
		v.m.t.Errorf("step %d of %+v: %v with %d uses, want %v with %d", v.went, v.s, done, v.m.a.Uses()-was, v.done, uses)
	}
	v.checkBase()
	return v.m.check()
}

// checkBase holds what Base tells against the model: nothing, until a base was popped.
func (v *mover) checkBase() {
	if v.pop == nil {
		return
	}
	want := 0
	if v.got {
		want = v.base
	}
	was := v.m.a.Uses()
	if base, ok := v.pop.Base(); base != want || ok != v.got || v.m.a.Uses() != was {
		v.m.t.Errorf("Base %d, %v behind step %d of %+v, want %d, %v", base, ok, v.went, v.s, want, v.got)
	}
}

// run is a mover to its end; how many steps that took.
func (v *mover) run() int {
	v.checkBase()
	for steps := 1; ; steps++ {
		if !v.step() || v.done {
			return steps
		}
		if steps > 1000 {
			v.m.t.Fatalf("no end: %+v", v.s)
		}
	}
}

// fill pushes bases one at a time.
func (m *model) fill(s spot, bases ...int) {
	for _, base := range bases {
		m.newPush(s, base).run()
	}
}
