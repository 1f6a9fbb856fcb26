package slab

import (
	"math"
	"math/rand"
	"slices"
	"testing"

	"magpie/api"
	"magpie/arena"
	"magpie/free"
	"magpie/handle"
	"magpie/turns"
)

// stepper is what an alloc and a free have in common.
type stepper interface{ Step(a *arena.Arena) bool }

// finish is a machine to its end, which must come: how many uses it had, one in each step.
func finish(t *testing.T, a *arena.Arena, x stepper) int {
	t.Helper()
	for uses := 1; uses < 200; uses++ {
		was := a.Uses()
		done := x.Step(a)
		if a.Uses() != was+1 {
			t.Fatalf("step %d: %d uses", uses, a.Uses()-was)
		}
		if done {
			return uses
		}
	}
	t.Fatalf("no end: %+v", x)
	return 0
}

// P11.1: each step of an alloc that carves, and of one that pops, on words written out.
func TestStepsByWords(t *testing.T) {
	a := arena.New(40, 64, false)
	p := free.Place{Work: 2, Heads: 3, Links: 12, Gens: 20, Carved: 31}
	a.SetRaw(31, 16)
	a.SetRaw(20+2, 6)
	words := func(want map[int]int) {
		t.Helper()
		for i := range 40 {
			if v := a.Raw(i); v != want[i] {
				t.Errorf("word %d is %d, want %d", i, v, want[i])
			}
		}
	}
	steps := func(x *Alloc, n int) {
		t.Helper()
		for range n {
			was := a.Uses()
			if x.Step(a) || a.Uses() != was+1 {
				t.Errorf("ended, or %d uses", a.Uses()-was)
			}
			if h, ok := x.Handle(); h != 0 || ok {
				t.Errorf("Handle %x, %v ahead of the end", h, ok)
			}
		}
	}
	last := func(x *Alloc, want int) {
		t.Helper()
		was := a.Uses()
		if !x.Step(a) || a.Uses() != was+1 {
			t.Errorf("not ended, or %d uses", a.Uses()-was)
		}
		if h, ok := x.Handle(); h != want || !ok || a.State(h) != arena.Live {
			t.Errorf("Handle %x, %v, want %x", h, ok, want)
		}
	}
	x := NewAlloc(p, 1, 2)
	steps(x, 3) // both lists, the word Carved
	words(map[int]int{31: 16, 22: 6})
	steps(x, 1)
	words(map[int]int{31: 48, 22: 6})
	if a.Count() != (api.Count{}) {
		t.Errorf("born ahead of its gen: %+v", a.Count())
	}
	last(x, name(16, 7, 2))
	words(map[int]int{31: 48, 22: 7})

	a.Retire(name(16, 7, 2))
	y := NewFree(p, 0, name(16, 7, 2))
	for i := range 2 {
		was := a.Uses()
		if y.Step(a) || a.Uses() != was+1 || a.State(name(16, 7, 2)) != arena.Retired {
			t.Errorf("step %d: ended, or %d uses, or State %d", i+1, a.Uses()-was, a.State(name(16, 7, 2)))
		}
		words(map[int]int{31: 48, 22: 7})
	}
	if !y.Step(a) || a.State(name(16, 7, 2)) != arena.Dead {
		t.Error("Free has not ended, or its slot is not dead")
	}
	words(map[int]int{31: 48, 22: 7, 3 + 2: tag + 3})

	a.SetRaw(12+2, 2) // the list goes on
	x = NewAlloc(p, 1, 2)
	steps(x, 3) // worker 1's head, worker 0's, its first one's link
	words(map[int]int{31: 48, 22: 7, 3 + 2: tag + 3, 14: 2})
	steps(x, 1)
	words(map[int]int{31: 48, 22: 7, 3 + 2: 2*tag + 2, 14: 2})
	if a.State(name(16, 8, 2)) != arena.Dead {
		t.Error("born ahead of its gen")
	}
	last(x, name(16, 8, 2))
	words(map[int]int{31: 48, 22: 8, 3 + 2: 2*tag + 2, 14: 2})
	if a.Fault() {
		t.Error("a fault")
	}
}

// P11.1: slots of each class one behind the other, by each worker: bases, gens, what is carved, uses.
func TestCarve(t *testing.T) {
	for work := 1; work <= 5; work++ {
		m := modelOf(t, work, 368*work)
		base := 0
		for _, class := range []int{0, 1, 0, 2, 3, 3, 2, 1, 0, 0, 3, 1, 2} {
			for w := range work {
				v := m.alloc(w, class)
				if steps := m.run(v); v.handle != name(base, 1, class) || steps != work+3 {
					t.Errorf("%d workers: %x with %d steps, want %x", work, v.handle, steps, name(base, 1, class))
				}
				base += sizes[class]
			}
		}
		if m.a.Raw(m.p.Carved) != m.words {
			t.Errorf("%d workers: %d words carved", work, m.a.Raw(m.p.Carved))
		}
	}
}

// P11.1: what is freed is found, worker by worker, from its own list on and round, in that class alone; the last one freed comes first.
func TestOrderOfLists(t *testing.T) {
	for _, work := range []int{1, 2, 3, 4, 7} {
		for w := range work {
			for at := range work {
				for class := range 4 {
					m := modelOf(t, work, 400)
					l := m.fill(spot{at, class}, spot{at, class}, spot{at, (class + 1) % 4}, spot{(w + work - 1) % work, (class + 3) % 4})
					asked := (at-w+work)%work + 1
					for _, h := range []int{l[1], l[0]} {
						v := m.alloc(w, class)
						steps := m.run(v)
						if base, _, _, _ := handle.Open(h); v.handle != name(base, 2, class) || steps != asked+3 {
							t.Errorf("worker %d of %d, list of %d: %x with %d steps", w, work, at, v.handle, steps)
						}
					}
					v := m.alloc(w, class)
					if steps := m.run(v); steps != work+3 {
						t.Errorf("worker %d of %d: %d steps behind the last of the lists", w, work, steps)
					}
				}
			}
		}
	}
}

// P11.1: its own list comes first, then the next worker's, though all have one.
func TestAllListsHaveOne(t *testing.T) {
	const work = 4
	for w := range work {
		m := modelOf(t, work, 200)
		l := m.fill(spot{0, 1}, spot{1, 1}, spot{2, 1}, spot{3, 1})
		for i := range work {
			want, _, _, _ := handle.Open(l[(w+i)%work])
			v := m.alloc(w, 1)
			if steps := m.run(v); v.handle != name(want, 2, 1) || steps != i+4 {
				t.Errorf("worker %d, alloc %d: %x with %d steps", w, i, v.handle, steps)
			}
		}
	}
}

// P11.1: refused is what has no room by a word, and nothing is turned by that; what has just room goes.
func TestRefused(t *testing.T) {
	for _, work := range []int{1, 2, 5} {
		for class, size := range sizes {
			for carved := 0; carved <= 72; carved += 8 {
				for words := max(carved, carved+size-9); words <= carved+size+9; words++ {
					checkRoom(t, work, class, carved, words)
				}
			}
		}
	}
}

func checkRoom(t *testing.T, work, class, carved, words int) {
	t.Helper()
	m := modelOf(t, work, words)
	for range carved / 8 {
		m.make(0, 0)
	}
	v, was := m.alloc(work-1, class), m.a.Count()
	steps, want := m.run(v), name(carved, 1, class)
	if carved+sizes[class] > words {
		if v.handle != 0 || steps != work+1 || m.a.Count() != was {
			t.Errorf("%d words, %d carved, class %d: %x with %d steps", words, carved, class, v.handle, steps)
		}
	} else if v.handle != want || steps != work+3 {
		t.Errorf("%d words, %d carved, class %d: %x with %d steps, want %x", words, carved, class, v.handle, steps, want)
	}
}

// P11.1: a class that is refused for want of words is found on a list all the same, and another one may have room.
func TestRefusedThenFound(t *testing.T) {
	m := modelOf(t, 2, 48)
	h, g := m.make(0, 2), m.make(1, 0)
	for class, want := range []int{name(40, 1, 0), 0, 0, 0} {
		if got := m.make(0, class); got != want {
			t.Errorf("class %d: %x, want %x", class, got, want)
		}
	}
	for class := range 4 {
		if got := m.make(1, class); got != 0 {
			t.Errorf("class %d: %x of no words", class, got)
		}
	}
	m.give(1, h)
	m.give(0, g)
	for class, want := range []int{name(32, 2, 0), 0, name(0, 2, 2), 0} {
		if got := m.make(0, class); got != want {
			t.Errorf("class %d: %x, want %x", class, got, want)
		}
	}
}

// P11.1: the arena's words say what there is, whatever the place was made for.
func TestWordsOfTheArena(t *testing.T) {
	for _, x := range []struct{ place, words, want int }{{64, 8, 1}, {64, 15, 1}, {64, 24, 3}, {64, 0, 0}, {64, 64, 8}} {
		p, n := free.Raw(1, x.place)
		a, got := arena.New(n, x.words, false), 0
		for range 9 {
			y := NewAlloc(p, 0, 0)
			finish(t, a, y)
			if _, ok := y.Handle(); ok {
				got++
			}
		}
		if got != x.want || a.Raw(p.Carved) != 8*x.want || a.Fault() {
			t.Errorf("a place of %d words, %d in all: %d slots", x.place, x.words, got)
		}
	}
}

// P11.1: a class that is none is refused with the first step, without a use; nothing is turned, not even where words lie as if it were one.
func TestNoClass(t *testing.T) {
	for _, class := range []int{-1, 4, 5, 7, -4, 8, 64, 1 << 32, 1 << 62, math.MaxInt, math.MinInt} {
		m := modelOf(t, 2, 128)
		m.fill(spot{0, 0}, spot{0, 3}, spot{1, 0})
		x := NewAlloc(m.p, 0, class)
		was := m.a.Uses()
		for range 4 {
			if h, ok := x.Handle(); h != 0 || ok {
				t.Errorf("class %d: %x, %v", class, h, ok)
			}
			if !x.Step(m.a) || m.a.Uses() != was {
				t.Errorf("class %d: not ended, or %d uses", class, m.a.Uses()-was)
			}
		}
		m.check()
	}
}

// P11.1: each base has a gen of its own, 1 more each time, whatever class is born there.
func TestGens(t *testing.T) {
	m := modelOf(t, 1, 48)
	l := []int{m.make(0, 0), m.make(0, 1), m.make(0, 0)}
	for gen := 2; gen < 9; gen++ {
		for i, base := range []int{0, 8, 24} {
			m.give(0, l[i])
			if l[i] = m.make(0, i%2); l[i] != name(base, gen, i%2) {
				t.Errorf("%x, want base %d, gen %d", l[i], base, gen)
			}
		}
	}
	if h := m.make(0, 1); h != name(32, 1, 1) {
		t.Errorf("%x", h)
	}
}

// P11.1: the gen is what the word was, and 1, also where that was not set by an alloc; behind the last gen there is no name, and nothing is told.
func TestGensThatWereSet(t *testing.T) {
	for _, x := range []struct{ was, gen int }{{5, 6}, {1 << 20, 1<<20 + 1}, {1<<30 - 2, 1<<30 - 1}, {1<<30 - 1, 0}, {-1, 0}, {1 << 40, 0}, {math.MaxInt, 0}} {
		p, n := free.Raw(1, 64)
		a := arena.New(n, 64, false)
		a.SetRaw(p.Gens, x.was)
		y := NewAlloc(p, 0, 3)
		uses := finish(t, a, y)
		want := 0
		if x.gen > 0 {
			want = name(0, x.gen, 3)
		}
		if h, ok := y.Handle(); h != want || ok != (want != 0) || uses != 4 || a.Raw(p.Gens) != x.was+1 {
			t.Errorf("gen behind %d: %x, %v, want %x", x.was, h, ok, want)
		}
	}
}

// T1: what could not be born, since somebody else has its words, is not told.
func TestNotBorn(t *testing.T) {
	p, n := free.Raw(1, 64)
	a := arena.New(n, 64, false)
	a.Born(name(8, 1, 0))
	for i, want := range []int{0, name(16, 1, 1)} {
		x := NewAlloc(p, 0, 1)
		if i == 1 {
			a.SetRaw(p.Carved, 16)
		}
		uses := finish(t, a, x)
		if h, ok := x.Handle(); h != want || ok != (want != 0) || uses != 4 {
			t.Errorf("%x, %v, want %x", h, ok, want)
		}
	}
}

// P11.1: a freed slot of each class goes on the list that it is told, of its own class; its words die with the third step.
func TestFree(t *testing.T) {
	for class := range 4 {
		for w := range 3 {
			m := modelOf(t, 3, 300)
			m.fill(spot{w, class}, spot{(w + 1) % 3, class}, spot{w, (class + 1) % 4})
			h := m.make((w+2)%3, (class+2)%4)
			g := m.make((w+2)%3, class)
			v := m.free(w, g)
			if steps := m.run(v); steps != 3 || m.a.State(g) != arena.Dead || m.a.State(h) != arena.Live {
				t.Errorf("worker %d, class %d: %d steps", w, class, steps)
			}
			base, _, _, _ := handle.Open(g)
			if l := free.List(m.a, m.p, w, class); len(l) == 0 || l[0] != base {
				t.Errorf("worker %d, class %d: list %d without %d", w, class, l, base)
			}
		}
	}
}

// P11.1: a swap that does not go leaves the slot retired; it is dead with the one that goes.
func TestFreeBetweenOthers(t *testing.T) {
	m := modelOf(t, 1, 64)
	l := []int{m.make(0, 0), m.make(0, 0), m.make(0, 0)}
	x, y, z := m.free(0, l[0]), m.free(0, l[1]), m.free(0, l[2])
	for range 2 {
		m.do(x)
		m.do(y)
	}
	m.run(z)
	m.do(x)
	if x.ended() || m.a.State(l[0]) != arena.Retired {
		t.Error("dead though its swap did not go")
	}
	if steps := m.run(x); steps != 3 {
		t.Errorf("%d steps", steps)
	}
	m.do(y)
	if steps := m.run(y); steps != 3 || !slices.Equal(free.List(m.a, m.p, 0, 0), []int{8, 0, 16}) {
		t.Errorf("%d steps, list %d", steps, free.List(m.a, m.p, 0, 0))
	}
}

// R1: what is no name is given back without a use, and no list has more for that.
func TestFreeOfNone(t *testing.T) {
	for _, h := range []int{0, 1, -1, 5, 1 << 50, 1<<50 + 3, 1<<51 + 4, -1 << 50, math.MaxInt, math.MinInt, name(0, 1, 0) - 1<<50, name(65536, 1, 0)} {
		m := modelOf(t, 2, 128)
		g := m.make(0, 0)
		m.fill(spot{0, 0}, spot{1, 3})
		x := NewFree(m.p, 0, h)
		was := m.a.Uses()
		for range 3 {
			if !x.Step(m.a) || m.a.Uses() != was {
				t.Errorf("Free of %x: not ended, or %d uses", h, m.a.Uses()-was)
			}
		}
		m.check()
		if k := m.make(0, 0); k == g || m.a.State(g) != arena.Live {
			t.Errorf("Free of %x: %x is made twice", h, g)
		}
	}
}

// P11.1: the handle dies with the step that swaps alone: one that is retired behind the end stays so.
func TestFreeHasEnded(t *testing.T) {
	m := modelOf(t, 1, 64)
	h := m.make(0, 1)
	x := NewFree(m.p, 0, h)
	if uses := finish(t, m.a, x); uses != 3 || m.a.State(h) != arena.Live {
		t.Errorf("%d uses, State %d", uses, m.a.State(h))
	}
	m.a.Retire(h)
	was := m.a.Uses()
	for range 4 {
		if !x.Step(m.a) || m.a.Uses() != was || m.a.State(h) != arena.Retired {
			t.Errorf("%d uses, State %d", m.a.Uses()-was, m.a.State(h))
		}
	}
}

// P11.1: steps behind the end: true, no use, no word turned, the handle stays told, whatever others do.
func TestStepsBehindTheEnd(t *testing.T) {
	m := modelOf(t, 2, 48)
	m.fill(spot{1, 0})
	carved, popped, refused := m.alloc(0, 1), m.alloc(0, 0), m.alloc(1, 3)
	l := []mover{carved, popped, refused}
	for _, v := range l {
		m.run(v)
	}
	given := m.free(1, popped.handle)
	l = append(l, given)
	again := func() {
		t.Helper()
		m.run(given)
		for range 4 {
			for _, v := range l {
				m.do(v)
			}
		}
	}
	again()
	m.fill(spot{0, 0}, spot{0, 0}, spot{1, 0})
	again()
	m.give(0, carved.handle)
	again()
}

// P11.1: a swap of the word Carved that does not go: that word again, and no list, though one has a slot by now.
func TestCarvedMeanwhile(t *testing.T) {
	m := modelOf(t, 2, 64)
	given := m.make(0, 0)
	x, y := m.alloc(0, 0), m.alloc(1, 1)
	for range 3 {
		m.do(x)
		m.do(y)
	}
	m.do(y)
	m.give(0, given)
	m.do(x)
	if x.ended() {
		t.Fatal("it went")
	}
	if steps := m.run(x); x.handle != name(24, 1, 0) || steps != 3 {
		t.Errorf("%x with %d steps", x.handle, steps)
	}
	m.run(y)
	// the last room goes meanwhile
	x, y = m.alloc(0, 2), m.alloc(1, 2)
	for range 3 {
		m.do(x)
		m.do(y)
	}
	m.run(y)
	if steps := m.run(x); x.handle != 0 || y.handle != name(32, 1, 2) || steps != 2 {
		t.Errorf("%x, %x with %d steps", x.handle, y.handle, steps)
	}
}

// P11.1: a list that is emptied meanwhile is passed over; one that was passed over is not asked again.
func TestListsMeanwhile(t *testing.T) {
	m := modelOf(t, 3, 64)
	m.fill(spot{0, 0}, spot{1, 0})
	x, y := m.alloc(0, 0), m.alloc(0, 0)
	m.do(x)
	m.do(x)
	m.run(y)
	m.do(x) // its swap does not go
	m.do(x) // none there any more
	m.give(0, y.handle)
	if steps := m.run(x); x.handle != name(8, 2, 0) || steps != 4 {
		t.Errorf("%x with %d steps", x.handle, steps)
	}
	if l := free.List(m.a, m.p, 0, 0); !slices.Equal(l, []int{0}) {
		t.Errorf("list %d", l)
	}
	// two pops of one list, the second goes on with what is left
	m = modelOf(t, 1, 64)
	m.fill(spot{0, 2}, spot{0, 2})
	x, y = m.alloc(0, 2), m.alloc(0, 2)
	for range 2 {
		m.do(x)
		m.do(y)
	}
	m.run(y)
	if steps := m.run(x); steps != 5 || x.handle != name(0, 2, 2) || y.handle != name(32, 2, 2) {
		t.Errorf("%x, %x with %d steps", x.handle, y.handle, steps)
	}
}

// P11.1: two who have popped and carved name their bases in whatever order.
func TestNamesMeanwhile(t *testing.T) {
	m := modelOf(t, 1, 64)
	m.fill(spot{0, 1})
	x, y, z := m.alloc(0, 1), m.alloc(0, 1), m.alloc(0, 1)
	for range 3 {
		m.do(x)
		m.do(y)
	}
	m.do(y)
	for range 3 {
		m.do(z)
	}
	for _, v := range []*making{z, x} {
		if steps := m.run(v); steps != 1 {
			t.Errorf("%d steps", steps)
		}
	}
	m.run(y)
	if x.handle != name(0, 2, 1) || z.handle != name(16, 1, 1) || y.handle != name(32, 1, 1) {
		t.Errorf("%x, %x, %x", x.handle, z.handle, y.handle)
	}
}

// P11.1: fewer workers than 1 are one.
func TestNoWorkers(t *testing.T) {
	for _, work := range []int{0, -1, -7, math.MinInt} {
		p, n := free.Raw(1, 64)
		p.Work = work
		a := arena.New(n, 64, false)
		x := NewAlloc(p, 0, 0)
		uses := finish(t, a, x)
		h, ok := x.Handle()
		if h != name(0, 1, 0) || !ok || uses != 4 {
			t.Errorf("%d workers: %x, %v with %d uses", work, h, ok, uses)
		}
		a.Retire(h)
		finish(t, a, NewFree(p, 0, h))
		x = NewAlloc(p, 0, 0)
		uses = finish(t, a, x)
		if h, ok := x.Handle(); h != name(0, 2, 0) || !ok || uses != 4 || a.Fault() {
			t.Errorf("%d workers: %x, %v with %d uses", work, h, ok, uses)
		}
	}
}

// R5: a worker that is none has the list that free's sum tells, and asks as many as there are workers: behind its own come those from the first worker on.
func TestNoSuchWorker(t *testing.T) {
	p := free.Place{Work: 3, Heads: 40, Links: 0, Gens: 10, Carved: 20}
	for _, work := range []int{-10, -3, -2, -1, 3, 4, 5, 9, math.MaxInt, math.MaxInt - 1} {
		a := arena.New(100, 64, false)
		put := func(work, base int) {
			t.Helper()
			finish(t, a, free.NewPush(p, work, 0, base))
		}
		put(0, 0)
		put(1, 8)
		put(2, 16)
		put(work, 24)
		for i, want := range []int{name(24, 1, 0), name(0, 1, 0), name(8, 1, 0), name(32, 1, 0)} {
			a.SetRaw(p.Carved, 32)
			x := NewAlloc(p, work, 0)
			uses := finish(t, a, x)
			if h, ok := x.Handle(); h != want || !ok || uses != min(i+4, 6) {
				t.Errorf("worker %d: %x, %v with %d uses, want %x", work, h, ok, uses, want)
			}
		}
		h := name(8, 1, 0)
		a.Retire(h)
		finish(t, a, NewFree(p, work, h))
		if l := free.List(a, p, work, 0); !slices.Equal(l, []int{8}) || a.State(h) != arena.Dead || a.Fault() {
			t.Errorf("worker %d: list %d", work, l)
		}
	}
}

// P11.1: all workers, all words: the last base, and each worker's own list.
func TestMost(t *testing.T) {
	p, n := free.Raw(64, 65536)
	a := arena.New(n, 65536, false)
	var l []int
	for i := range 1024 {
		x := NewAlloc(p, i%64, 3)
		uses := finish(t, a, x)
		h, ok := x.Handle()
		if h != name(64*i, 1, 3) || !ok || uses != 67 {
			t.Fatalf("alloc %d: %x, %v with %d uses", i, h, ok, uses)
		}
		l = append(l, h)
	}
	for class := range 4 {
		x := NewAlloc(p, 63, class)
		uses := finish(t, a, x)
		if h, ok := x.Handle(); h != 0 || ok || uses != 65 {
			t.Errorf("class %d: %x, %v with %d uses", class, h, ok, uses)
		}
	}
	if a.Raw(p.Carved) != 65536 || a.Count() != (api.Count{Carved: 65536, Live: 65536}) {
		t.Errorf("%+v", a.Count())
	}
	for i, h := range l {
		a.Retire(h)
		finish(t, a, NewFree(p, i%64, h))
	}
	for i := range 1024 {
		x := NewAlloc(p, i%64, 3)
		uses := finish(t, a, x)
		if h, ok := x.Handle(); h != name(64*(1023-(63-i%64)-i/64*64), 2, 3) || !ok || uses != 4 {
			t.Fatalf("alloc %d: %x, %v with %d uses", i, h, ok, uses)
		}
	}
	if a.Fault() || a.Count() != (api.Count{Carved: 65536, Live: 65536}) {
		t.Errorf("Fault %v, %+v", a.Fault(), a.Count())
	}
}

// P11.1: in a fresh arena, too, what was freed is born again, with words of 0; in another one the words are what they were.
func TestWordsOfSlots(t *testing.T) {
	for _, fresh := range []bool{false, true} {
		p, n := free.Raw(1, 64)
		a := arena.New(n, 64, fresh)
		x := NewAlloc(p, 0, 1)
		finish(t, a, x)
		h, _ := x.Handle()
		a.Store(h, 15, 7)
		a.Retire(h)
		y := NewFree(p, 0, h)
		if y.Step(a) || y.Step(a) || a.Load(h, 15) != 7 || !y.Step(a) {
			t.Error("dead too soon, or too late")
		}
		x = NewAlloc(p, 0, 1)
		finish(t, a, x)
		g, _ := x.Handle()
		if v := a.Load(g, 15); g != name(0, 2, 1) || v == 7 == fresh || a.Fault() {
			t.Errorf("fresh %v: %x has %d", fresh, g, v)
		}
		if a.Load(h, 15); !a.Fault() {
			t.Errorf("fresh %v: %x is not dead", fresh, h)
		}
	}
}

// R4: machines on two arenas have nothing in common, though their numbers are the same and their steps fall between one another.
func TestTwoArenas(t *testing.T) {
	m, o := modelOf(t, 2, 64), modelOf(t, 2, 64)
	o.fill(spot{1, 0}, spot{1, 0})
	for range 2 {
		x, y := m.alloc(0, 0), o.alloc(0, 0)
		for !x.ended() || !y.ended() {
			m.do(x)
			o.do(y)
		}
		u, v := m.free(1, x.handle), o.free(0, y.handle)
		for range 3 {
			o.do(v)
			m.do(u)
		}
	}
}

// R1, R5: numbers that are no worker, no class, no name, a place that is none: each step ends, with one use at most.
func TestAnyNumbers(t *testing.T) {
	far := []int{math.MinInt, -1 << 50, -64, -9, -8, -1, 0, 1, 3, 4, 7, 64, 1000, 1 << 40, 1 << 62, math.MaxInt}
	p, n := free.Raw(2, 64)
	places := []free.Place{p, {}}
	for _, x := range far {
		for _, y := range far {
			places = append(places, free.Place{Work: x, Heads: y, Links: x, Gens: y, Carved: x}, free.Place{Work: y, Heads: 0, Links: 8, Gens: x, Carved: y})
		}
	}
	for _, p := range places {
		for _, work := range far {
			a := arena.New(n, 64, false)
			for _, class := range []int{math.MinInt, -1, 0, 3, 4, math.MaxInt} {
				checkSteps(t, a, NewAlloc(p, work, class))
			}
			for _, h := range []int{name(0, 1, 0), name(56, 9, 0), name(65535, 1<<30-1, 3), 0, work} {
				checkSteps(t, a, NewFree(p, work, h))
			}
		}
	}
}

// checkSteps does some steps: one use each at most, none from its end on.
func checkSteps(t *testing.T, a *arena.Arena, x stepper) {
	t.Helper()
	ended := false
	for range 12 {
		was := a.Uses()
		done := x.Step(a)
		if a.Uses() > was+1 || ended && (!done || a.Uses() != was) {
			t.Errorf("%+v: %v with %d uses, ended %v", x, done, a.Uses()-was, ended)
		}
		ended = done
		if y, ok := x.(*Alloc); ok {
			h, told := y.Handle()
			if told != (h != 0) || told && (!done || a.State(h) != arena.Live) {
				t.Errorf("%+v: Handle %x, %v", x, h, told)
			}
		}
	}
}

// P11.1: a word Carved that lies far above or below: above it there is no room, and no sum wraps round.
func TestCarvedThatWasSet(t *testing.T) {
	p, n := free.Raw(1, 64)
	for class, size := range sizes {
		for _, x := range []struct {
			carved int
			ok     bool
		}{{64 - size, true}, {64 - size + 1, false}, {64, false}, {65, false}, {1 << 40, false}, {math.MaxInt, false}, {math.MaxInt - 7, false}, {math.MaxInt - 63, false}} {
			a := arena.New(n, 64, false)
			a.SetRaw(p.Carved, x.carved)
			y := NewAlloc(p, 0, class)
			uses := finish(t, a, y)
			want, wantUses, wantCarved := 0, 2, x.carved
			if x.ok {
				want, wantUses, wantCarved = name(x.carved, 1, class), 4, 64
			}
			if h, ok := y.Handle(); h != want || ok != x.ok || uses != wantUses || a.Raw(p.Carved) != wantCarved || a.Fault() {
				t.Errorf("class %d, %d carved: %x, %v with %d uses", class, x.carved, h, ok, uses)
			}
		}
	}
}

// actor does what its script says, one after the other: a digit is an alloc of that class, `f` that the slot that it has had longest is given back; both on its worker.
type actor struct {
	m    *model
	work int
	todo string
	has  []int
	now  mover
}

// begin is the next machine; false if there is none to come.
func (x *actor) begin() bool {
	for x.now == nil && x.todo != "" {
		what := x.todo[0]
		x.todo = x.todo[1:]
		if what != 'f' {
			x.now = x.m.alloc(x.work, int(what-'0'))
		} else if len(x.has) > 0 {
			x.now = x.m.free(x.work, x.has[0])
			x.has = x.has[1:]
		}
	}
	return x.now != nil
}

// step is a step of the machine that is under way.
func (x *actor) step() {
	x.m.do(x.now)
	if !x.now.ended() {
		return
	}
	if v, ok := x.now.(*making); ok && v.handle != 0 {
		x.has = append(x.has, v.handle)
	}
	x.now = nil
	x.m.forget()
}

// row is workers and words, what lies on the lists at first, and a script for each actor; the workers take the actors in turn.
type row struct {
	work, words int
	spots       []spot
	scripts     []string
}

// order runs actors to their ends in that order.
func order(t *testing.T, r row, o *turns.Order) {
	m := modelOf(t, r.work, r.words)
	m.known = o.Known()
	m.fill(r.spots...)
	var actors []*actor
	for i, todo := range r.scripts {
		actors = append(actors, &actor{m: m, work: i % r.work, todo: todo})
	}
	for {
		var left []*actor
		for _, x := range actors {
			if x.begin() {
				left = append(left, x)
			}
		}
		if len(left) == 0 || t.Failed() {
			break
		}
		x := left[o.Pick(len(left))]
		m.known = o.Known()
		x.step()
	}
	if t.Failed() {
		t.Fatalf("%+v, in the order %d", r, o.Picks())
	}
}

// P11.1, P11.2: some machines, their steps in every order that there is: each step is held against the model, and each word has one owner at most, all the time. Among them are those where both want the last room, or the last one of a list.
func TestEveryOrder(t *testing.T) {
	rows := []row{
		{1, 8, nil, []string{"0", "0"}},
		{2, 16, nil, []string{"0", "0"}},
		{1, 16, nil, []string{"0", "1"}},
		{2, 24, nil, []string{"1", "0"}},
		{1, 8, nil, []string{"0f", "0"}},
		{1, 16, nil, []string{"0f0", "0"}},
		{1, 8, []spot{{0, 0}}, []string{"0", "0"}},
		{2, 8, []spot{{0, 0}}, []string{"0", "0"}},
		{2, 8, []spot{{1, 0}}, []string{"0f", "0"}},
		{1, 16, []spot{{0, 0}}, []string{"0", "0"}},
		{1, 16, []spot{{0, 0}, {0, 0}}, []string{"0f", "0"}},
		{1, 16, []spot{{0, 0}, {0, 0}}, []string{"00f", "0"}},
		{2, 16, []spot{{0, 0}, {1, 0}}, []string{"0", "0"}},
		{2, 24, []spot{{1, 1}}, []string{"1f", "1"}},
		{1, 8, nil, []string{"0f", "0f"}},
		{1, 16, nil, []string{"0f", "0f"}},
		{1, 8, []spot{{0, 0}}, []string{"0f", "0f"}},
		{2, 8, []spot{{0, 0}}, []string{"0f", "0f"}},
		{1, 8, nil, []string{"0", "0", "0"}},
	}
	for _, r := range rows {
		if n := turns.Each(func(o *turns.Order) { order(t, r, o) }); n < 20 {
			t.Errorf("%+v: only %d orders", r, n)
		}
	}
}

// P11.2: many machines of several workers and classes, drawn steps, machines left standing where they are, on many and on few words.
func TestDrawnOrders(t *testing.T) {
	r := rand.New(rand.NewSource(11))
	for range 200 {
		work := 1 + r.Intn(4)
		m := modelOf(t, work, 8*(1+r.Intn(24)))
		var actors []*actor
		for range 2 + r.Intn(7) {
			actors = append(actors, &actor{m: m, work: r.Intn(work)})
		}
		classes := 1 + r.Intn(4)
		for i := range 500 {
			x := actors[r.Intn(len(actors))]
			if !x.begin() {
				x.todo = []string{string(rune('0' + r.Intn(classes))), "f", "ff"}[r.Intn(3)]
				continue
			}
			if x.step(); t.Failed() {
				t.Fatalf("step %d of %d actors of %d workers, %d words", i, len(actors), work, m.words)
			}
		}
	}
}
