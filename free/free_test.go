package free

import (
	"math"
	"math/rand"
	"slices"
	"testing"

	"magpie/arena"
	"magpie/turns"
)

// P10.1: workers and words, none, few and all, words that eight divides and not: heads, links, gens and what is carved stand one behind the other, each word of its own.
func TestRaw(t *testing.T) {
	for _, work := range []int{0, 1, 2, 3, 7, 63, 64} {
		grains := 0
		for words := 0; words <= 600; words++ {
			if 8*grains < words {
				grains++
			}
			checkRaw(t, work, words, grains)
		}
		for _, x := range [][2]int{{65527, 8191}, {65528, 8191}, {65529, 8192}, {65535, 8192}, {65536, 8192}, {65537, 8193}, {1 << 20, 1 << 17}} {
			checkRaw(t, work, x[0], x[1])
		}
	}
}

func checkRaw(t *testing.T, work, words, grains int) {
	t.Helper()
	want := Place{Work: work, Heads: 0, Links: 4 * work, Gens: 4*work + grains, Carved: 4*work + 2*grains}
	if p, n := Raw(work, words); p != want || n != want.Carved+1 {
		t.Errorf("Raw(%d, %d) = %+v, %d, want %+v", work, words, p, n, want)
	}
}

// P10.1: what is below 0 is cut to 0, each by itself; nothing else is cut.
func TestRawIsCut(t *testing.T) {
	below := []int{-1, -7, -8, -9, -64, -65536, -1 << 32, math.MinInt, math.MinInt + 1}
	for _, x := range below {
		for _, y := range below {
			checkRaw0(t, x, y, Place{}, 1)
		}
		checkRaw0(t, x, 17, Place{Gens: 3, Carved: 6}, 7)
		checkRaw0(t, 5, x, Place{Work: 5, Links: 20, Gens: 20, Carved: 20}, 21)
	}
	checkRaw0(t, 65, 65537, Place{Work: 65, Links: 260, Gens: 8453, Carved: 16646}, 16647)
	checkRaw0(t, 1<<40, 9, Place{Work: 1 << 40, Links: 1 << 42, Gens: 1<<42 + 2, Carved: 1<<42 + 4}, 1<<42+5)
	checkRaw0(t, 0, math.MaxInt, Place{Gens: 1 << 60, Carved: 1 << 61}, 1<<61+1)
	checkRaw0(t, 0, math.MaxInt-7, Place{Gens: 1<<60 - 1, Carved: 1<<61 - 2}, 1<<61-1)
	Raw(math.MaxInt, math.MaxInt)
}

func checkRaw0(t *testing.T, work, words int, want Place, wantN int) {
	t.Helper()
	if p, n := Raw(work, words); p != want || n != wantN {
		t.Errorf("Raw(%d, %d) = %+v, %d, want %+v, %d", work, words, p, n, want, wantN)
	}
}

// P10.2: pushes and pops one at a time, on one list and on several: three uses each, one of an empty list; the last one pushed is popped first; each changes its own list alone.
func TestOneAtATime(t *testing.T) {
	m := modelOf(t, 3, 128)
	l := []spot{{0, 0}, {0, 3}, {1, 0}, {2, 1}, {2, 3}}
	m.check()
	for _, s := range l {
		if steps := m.newPop(s).run(); steps != 1 {
			t.Errorf("a pop of an empty list: %d steps", steps)
		}
	}
	for i := range 3 {
		for j, s := range l {
			if steps := m.newPush(s, 8*(3*j+i)).run(); steps != 3 {
				t.Errorf("a push: %d steps", steps)
			}
		}
	}
	for i := 2; i >= 0; i-- {
		for j, s := range l {
			v := m.newPop(s)
			if steps := v.run(); steps != 3 || v.base != 8*(3*j+i) || !v.got {
				t.Errorf("a pop of %+v: %d steps, %d, %v", s, steps, v.base, v.got)
			}
		}
	}
	for _, s := range l {
		if steps := m.newPop(s).run(); steps != 1 {
			t.Errorf("a pop of an emptied list: %d steps", steps)
		}
	}
}

// P10.2: each of a machine's steps does what the document says, on words written out; Links are what Place says they are, and so are Heads.
func TestStepsByWords(t *testing.T) {
	a := arena.New(40, 0, false)
	p := Place{Heads: 3, Links: 20}
	const head, tag = 3 + 4 + 2, 1 << 17
	put := func(base, wantLink, wantHead int) {
		t.Helper()
		x := NewPush(p, 1, 2, base)
		was := a.Raw(head)
		if x.Step(a) || a.Raw(head) != was || x.Step(a) || a.Raw(head) != was || a.Raw(20+base/8) != wantLink || !x.Step(a) || a.Raw(head) != wantHead {
			t.Errorf("push of %d: head %d, link %d", base, a.Raw(head), a.Raw(20+base/8))
		}
	}
	take := func(want, wantHead int) {
		t.Helper()
		x := NewPop(p, 1, 2)
		was := a.Raw(head)
		if x.Step(a) || x.Step(a) || a.Raw(head) != was || !x.Step(a) || a.Raw(head) != wantHead {
			t.Errorf("pop: head %d, want %d", a.Raw(head), wantHead)
		}
		if base, ok := x.Base(); base != want || !ok {
			t.Errorf("Base %d, %v, want %d", base, ok, want)
		}
	}
	put(24, 0, 1*tag+4)
	put(0, 4, 2*tag+1)
	put(152, 1, 3*tag+20)
	if l := List(a, p, 1, 2); !slices.Equal(l, []int{152, 0, 24}) {
		t.Errorf("list %d", l)
	}
	take(152, 4*tag+1)
	take(0, 5*tag+4)
	take(24, 6*tag)
	put(8, 0, 7*tag+2)
	a.SetRaw(head, 1<<45+2) // a tag that is great already
	take(8, 1<<45+tag)
	put(16, 0, 1<<45+2*tag+3)
	for i := range 40 {
		if v, kept := a.Raw(i), map[int]int{head: 1<<45 + 2*tag + 3, 20: 4, 39: 1}; v != kept[i] {
			t.Errorf("word %d is %d", i, v)
		}
	}
}

// P10.2: which word each step uses: the one that is not there is a fault just with the step that asks for it.
func TestWordsThatAreNotThere(t *testing.T) {
	faults := func(a *arena.Arena, x stepper, want ...bool) {
		t.Helper()
		for i, w := range want {
			was := a.Uses()
			if x.Step(a); a.Fault() != w || a.Uses() != was+1 {
				t.Errorf("step %d: Fault %v, %d uses", i+1, a.Fault(), a.Uses()-was)
			}
		}
	}
	noLinks, noHeads := Place{Links: 4}, Place{Heads: 4}
	a := arena.New(4, 0, false)
	faults(a, NewPush(noLinks, 0, 3, 0), false, true)
	a = arena.New(4, 0, false)
	a.SetRaw(3, 5<<17+1)
	x := NewPop(noLinks, 0, 3)
	faults(a, x, false, true, true)
	if base, ok := x.Base(); base != 0 || !ok || a.Raw(3) != 6<<17 {
		t.Errorf("Base %d, %v, head %d", base, ok, a.Raw(3))
	}
	a = arena.New(4, 0, false)
	faults(a, NewPush(noHeads, 0, 0, 0), true, true, true)
	a = arena.New(4, 0, false)
	x = NewPop(noHeads, 0, 0)
	faults(a, x, true)
	if base, ok := x.Base(); base != 0 || ok || !x.Step(a) || a.Uses() != 1 {
		t.Errorf("Base %d, %v, %d uses", base, ok, a.Uses())
	}
}

// P10.2: a pop that finds none has ended with its first step, with whatever tag, and stays ended when there is one.
func TestPopOfNone(t *testing.T) {
	p, n := Raw(1, 64)
	for _, tag := range []int{0, 1, 2, 1 << 20, 1 << 45, -1} {
		a := arena.New(n, 64, false)
		a.SetRaw(0, tag<<17)
		x := NewPop(p, 0, 0)
		if base, ok := x.Base(); base != 0 || ok {
			t.Errorf("Base %d, %v ahead of all", base, ok)
		}
		if !x.Step(a) || a.Uses() != 2 || a.Raw(0) != tag<<17 {
			t.Errorf("tag %d: not ended, or more than a use", tag)
		}
		for _, base := range []int{0, 8} {
			y := NewPush(p, 0, 0, base)
			finish(t, a, y)
		}
		was := a.Uses()
		for range 5 {
			if !x.Step(a) {
				t.Errorf("tag %d: it goes on", tag)
			}
		}
		if base, ok := x.Base(); base != 0 || ok || a.Uses() != was || a.Fault() {
			t.Errorf("tag %d: Base %d, %v, %d uses", tag, base, ok, a.Uses()-was)
		}
	}
}

// P10.2: steps behind the end: true, no use, no word turned, and what was popped stays told, whatever others do.
func TestStepsBehindTheEnd(t *testing.T) {
	m, s := modelOf(t, 1, 64), spot{0, 2}
	m.fill(s, 8, 16)
	push, pop, none := m.newPush(s, 24), m.newPop(s), m.newPop(spot{0, 1})
	for _, v := range []*mover{push, pop, none} {
		v.run()
	}
	again := func() {
		t.Helper()
		for range 4 {
			for _, v := range []*mover{push, pop, none} {
				v.step()
			}
		}
	}
	again()
	m.newPop(s).run()
	again()
	m.fill(s, 24, 32)
	m.fill(spot{0, 1}, 48)
	again()
	if pop.base != 24 || !slices.Equal(List(m.a, m.p, 0, 2), []int{32, 24, 8}) {
		t.Errorf("popped %d, list %d", pop.base, List(m.a, m.p, 0, 2))
	}
}

// P10.2: the first and the last base, worker and class, each head and link its own, and no word of another's.
func TestFirstAndLast(t *testing.T) {
	p, n := Raw(64, 65536)
	a := arena.New(n, 65536, false)
	at := 0
	for work := range 64 {
		for class := range 4 {
			for _, base := range []int{at, 65528 - at} {
				x := NewPush(p, work, class, base)
				finish(t, a, x)
			}
			at += 8
		}
	}
	at = 0
	for work := range 64 {
		for class := range 4 {
			if l := List(a, p, work, class); !slices.Equal(l, []int{65528 - at, at}) {
				t.Errorf("worker %d, class %d: %d", work, class, l)
			}
			if head := a.Raw(4*work + class); head != 2<<17+(65528-at)/8+1 {
				t.Errorf("worker %d, class %d: head %d", work, class, head)
			}
			at += 8
		}
	}
	if a.Raw(256) != 0 || a.Raw(256+8191) != 1 {
		t.Errorf("links %d, %d", a.Raw(256), a.Raw(256+8191))
	}
	for i := p.Gens; i < n; i++ {
		if a.Raw(i) != 0 {
			t.Errorf("word %d is %d", i, a.Raw(i))
		}
	}
	for _, s := range []spot{{0, 0}, {0, 3}, {63, 0}, {63, 3}} {
		at := 8 * (4*s.work + s.class)
		for _, want := range []int{65528 - at, at} {
			x := NewPop(p, s.work, s.class)
			finish(t, a, x)
			if base, ok := x.Base(); base != want || !ok {
				t.Errorf("%+v: %d, %v, want %d", s, base, ok, want)
			}
		}
	}
	if a.Fault() {
		t.Error("a fault")
	}
}

// P10.1, P10.2: words that eight does not divide: the last few have a link, too; a base is told by 8, whatever is left.
func TestWordsByEight(t *testing.T) {
	for _, words := range []int{1, 7, 8, 9, 15, 16, 17, 63, 65} {
		m := modelOf(t, 1, words)
		for base := 0; base < words; base += 8 {
			m.fill(spot{0, 0}, base)
		}
		last := (words - 1) / 8 * 8
		v := m.newPop(spot{0, 0})
		if v.run(); v.base != last || !v.got {
			t.Errorf("%d words: %d, want %d", words, v.base, last)
		}
	}
	for rest := range 8 {
		m, s := modelOf(t, 1, 64), spot{0, 1}
		m.fill(s, 40, 16+rest, rest)
		if l := List(m.a, m.p, 0, 1); !slices.Equal(l, []int{0, 16, 40}) {
			t.Errorf("rest %d: %d", rest, l)
		}
	}
}

// P10.1, P10.2: no workers, no words: what words there are.
func TestNoWorkersNoWords(t *testing.T) {
	p, n := Raw(0, 0)
	a := arena.New(n, 0, false)
	x := NewPop(p, 0, 0)
	if !x.Step(a) || a.Uses() != 1 || a.Fault() || len(List(a, p, 0, 0)) != 0 || a.Uses() != 2 || a.Fault() {
		t.Errorf("%d uses, Fault %v", a.Uses(), a.Fault())
	}
	p, n = Raw(2, 0)
	a = arena.New(n, 0, false)
	for i := range 8 {
		x := NewPop(p, i/4, i%4)
		if !x.Step(a) || len(List(a, p, i/4, i%4)) != 0 || a.Fault() {
			t.Errorf("list %d of no words", i)
		}
	}
	m := modelOf(t, 0, 64)
	m.check()
}

// R1, R5: numbers that are no worker, no class, no base are taken: each step ends, has one use, and goes by the document's sums.
func TestAnyNumbers(t *testing.T) {
	far := []int{math.MinInt, -1 << 50, -17, -8, -5, -1, 0, 3, 4, 7, 64, 1000, 1 << 20, 1 << 40, 1 << 62, math.MaxInt}
	p, n := Raw(2, 64)
	for _, work := range far {
		for _, class := range far {
			a := arena.New(n, 64, false)
			for _, base := range far {
				checkSteps(t, a, NewPush(p, work, class, base))
			}
			checkSteps(t, a, NewPop(p, work, class))
			List(a, p, work, class)
			checkSteps(t, a, NewPush(Place{work, class, work, class, work}, class, work, class))
			checkSteps(t, a, NewPop(Place{class, work, class, work, class}, work, class))
			List(a, Place{work, class, work, class, work}, work, class)
		}
	}
	a := arena.New(n, 64, false)
	for _, x := range []stepper{NewPush(p, 0, 4, 8), NewPush(p, 1, -4, 16), NewPush(p, -1, 7, 24), NewPush(p, 3, -5, 32)} {
		finish(t, a, x)
	}
	if !slices.Equal(List(a, p, 1, 0), []int{8}) || !slices.Equal(List(a, p, 0, 0), []int{16}) || !slices.Equal(List(a, p, 0, 3), []int{24}) || !slices.Equal(List(a, p, 1, 3), []int{32}) || a.Fault() {
		t.Error("a worker and a class that are none, but whose sum is another's")
	}
}

// checkSteps does some steps: one use each, until it has ended, none from then on.
func checkSteps(t *testing.T, a *arena.Arena, x stepper) {
	t.Helper()
	ended := false
	for range 7 {
		was := a.Uses()
		done := x.Step(a)
		if ended && (!done || a.Uses() != was) || !ended && a.Uses() != was+1 {
			t.Errorf("%+v: %v with %d uses, ended %v", x, done, a.Uses()-was, ended)
		}
		ended = done
	}
}

// P10.2: a push that goes on where its head can't be turned: from the head on again, three uses each time.
func TestPushWithoutAnEnd(t *testing.T) {
	a := arena.New(0, 0, false)
	x := NewPush(Place{}, 0, 0, 0)
	for i := range 300 {
		if x.Step(a) || a.Uses() != i+1 || !a.Fault() {
			t.Fatalf("step %d: %d uses, Fault %v", i, a.Uses(), a.Fault())
		}
	}
}

// P10.2: List tells 10000 bases at most, the first ones; a pop has all.
func TestLongLists(t *testing.T) {
	for _, many := range []int{9998, 9999, 10000, 10001, 12000} {
		p, n := Raw(1, 8*many)
		a := arena.New(n, 0, false)
		var want []int
		for i := range many {
			x := NewPush(p, 0, 1, 8*i)
			finish(t, a, x)
			want = append(want, 8*(many-1-i))
		}
		was := a.Uses()
		if l := List(a, p, 0, 1); !slices.Equal(l, want[:min(many, 10000)]) {
			t.Errorf("%d bases: List tells %d", many, len(l))
		}
		if uses := a.Uses() - was; many < 10000 && uses != many+1 || uses < 10000 && many >= 10000 || uses > 10001 {
			t.Errorf("%d bases: List has %d uses", many, uses)
		}
		for _, w := range want {
			x := NewPop(p, 0, 1)
			finish(t, a, x)
			if base, ok := x.Base(); base != w || !ok {
				t.Fatalf("%d bases: %d, %v, want %d", many, base, ok, w)
			}
		}
		if len(List(a, p, 0, 1)) != 0 || a.Fault() {
			t.Errorf("%d bases: not emptied, or a fault", many)
		}
	}
}

// R1: List ends though the list does not: a base that was put twice.
func TestListOfARing(t *testing.T) {
	p, n := Raw(1, 64)
	a := arena.New(n, 64, false)
	for _, base := range []int{0, 8, 16, 0} {
		x := NewPush(p, 0, 0, base)
		finish(t, a, x)
	}
	l := List(a, p, 0, 0)
	if len(l) != 10000 {
		t.Fatalf("%d bases", len(l))
	}
	for i, base := range l {
		if base != []int{0, 16, 8}[i%3] {
			t.Fatalf("%d: %d", i, base)
		}
	}
}

// R3: what List answers is new memory, spare room too.
func TestListsShareNothing(t *testing.T) {
	m, s := modelOf(t, 1, 128), spot{0, 0}
	m.fill(s, 0, 8, 16, 24, 32)
	k, l := List(m.a, m.p, 0, 0), List(m.a, m.p, 0, 0)
	for i := range k {
		k[i] = -1
	}
	k = append(k, 1, 2, 3)
	l = append(l, 7)
	if !slices.Equal(l, []int{32, 24, 16, 8, 0, 7}) || !slices.Equal(k[5:], []int{1, 2, 3}) {
		t.Errorf("%d, %d", k, l)
	}
	m.check()
}

// R4: machines on two arenas have nothing in common, though their numbers are the same and their steps fall between one another.
func TestTwoArenas(t *testing.T) {
	m, o, s := modelOf(t, 1, 64), modelOf(t, 1, 64), spot{0, 0}
	o.fill(s, 8, 16)
	u, v := m.newPush(s, 24), o.newPush(s, 24)
	for range 3 {
		u.step()
		v.step()
	}
	x, y := m.newPop(s), o.newPop(s)
	for range 3 {
		y.step()
		x.step()
	}
	if !slices.Equal(List(m.a, m.p, 0, 0), nil) || !slices.Equal(List(o.a, o.p, 0, 0), []int{16, 8}) {
		t.Error("they meet")
	}
}

// What an actor does, one after the other: a pop, a push of a base that it has (of the one that it has had longest).
const (
	pop  = 'o'
	push = 'u'
)

// actor does pushes and pops of one list, one after the other, with the bases that it has.
type actor struct {
	m    *model
	s    spot
	todo string
	has  []int
	now  *mover
}

// begin is the next machine; false if there is none to come.
func (x *actor) begin() bool {
	for x.now == nil && x.todo != "" {
		what := x.todo[0]
		x.todo = x.todo[1:]
		if what == pop {
			x.now = x.m.newPop(x.s)
		} else if len(x.has) > 0 {
			x.now = x.m.newPush(x.s, x.has[0])
			x.has = x.has[1:]
		}
	}
	return x.now != nil
}

// step is a step of the machine that is under way.
func (x *actor) step() {
	x.now.step()
	if !x.now.done {
		return
	}
	if x.now.got {
		x.has = append(x.has, x.now.base)
	}
	x.now = nil
}

// have are all bases that lie on a list, or that somebody has: sorted.
func have(m *model, actors []*actor) []int {
	var l []int
	for i := range m.piles {
		l = append(l, List(m.a, m.p, i/4, i%4)...)
	}
	for _, x := range actors {
		l = append(l, x.has...)
		if x.now != nil && x.now.push != nil {
			l = append(l, x.now.base)
		}
	}
	slices.Sort(l)
	return l
}

// order runs actors to their ends in that order.
func order(t *testing.T, scripts []string, full int, o *turns.Order) {
	m := modelOf(t, 1, 64)
	m.known = o.Known()
	for i := range full {
		m.fill(spot{0, 0}, 8*i)
	}
	var actors []*actor
	var want []int
	for i, todo := range scripts {
		actors = append(actors, &actor{m: m, todo: todo, has: []int{8 * (full + i)}})
	}
	for i := range full + len(scripts) {
		want = append(want, 8*i)
	}
	for {
		var left []*actor
		for _, x := range actors {
			if x.begin() {
				left = append(left, x)
			}
		}
		if len(left) == 0 || t.Failed() {
			break
		}
		x := left[o.Pick(len(left))]
		m.known = o.Known()
		x.step()
	}
	if got := have(m, actors); !slices.Equal(got, want) {
		t.Errorf("bases %d, want %d", got, want)
	}
	if t.Failed() {
		t.Fatalf("%q on a list of %d, in the order %d", scripts, full, o.Picks())
	}
}

// P10.2, P10.3: machines on one list, their steps in every order that there is: each step is held against the model, and in the end each base is there once. Among them are those where a first one goes and comes again while a pop has read it.
func TestEveryOrder(t *testing.T) {
	rows := []struct {
		scripts []string
		full    []int
	}{
		{[]string{"u", "u"}, []int{0, 1, 2, 3}}, {[]string{"u", "o"}, []int{0, 1, 2, 3}}, {[]string{"o", "o"}, []int{0, 1, 2, 3}},
		{[]string{"uo", "u"}, []int{0, 1, 2}}, {[]string{"uo", "o"}, []int{0, 1, 2}}, {[]string{"ou", "o"}, []int{0, 1, 2}}, {[]string{"ou", "uo"}, []int{0, 1, 2}},
		{[]string{"oou", "o"}, []int{1, 2, 3}}, {[]string{"oou", "u"}, []int{1, 2}}, {[]string{"uou", "o"}, []int{0}}, {[]string{"uou", "u"}, []int{0}},
		{[]string{"u", "u", "o"}, []int{0}}, {[]string{"u", "o", "o"}, []int{1}}, {[]string{"o", "o", "o"}, []int{1}},
	}
	for _, row := range rows {
		for _, full := range row.full {
			if n := turns.Each(func(o *turns.Order) { order(t, row.scripts, full, o) }); n < 2*len(row.scripts)-2 {
				t.Errorf("%q on a list of %d: only %d orders", row.scripts, full, n)
			}
		}
	}
}

// P10.2: the swap of a pop must not go when its first one went and came again with another one behind it, nor that of a push.
func TestFirstOneComesAgain(t *testing.T) {
	m, s := modelOf(t, 1, 128), spot{0, 0}
	m.fill(s, 0, 8, 16)
	x, y := m.newPop(s), m.newPush(s, 24)
	x.step()
	x.step()
	y.step()
	y.step()
	m.newPop(s).run()
	m.newPop(s).run()
	m.fill(s, 16)
	x.step()
	y.step()
	if x.done || y.done || !slices.Equal(List(m.a, m.p, 0, 0), []int{16, 0}) {
		t.Errorf("a swap went: list %d", List(m.a, m.p, 0, 0))
	}
	x.run()
	y.run()
	if x.base != 16 || !slices.Equal(List(m.a, m.p, 0, 0), []int{24, 0}) {
		t.Errorf("popped %d, list %d", x.base, List(m.a, m.p, 0, 0))
	}
}

// P10.2: a pop that comes to a list that was emptied meanwhile ends with none.
func TestEmptiedMeanwhile(t *testing.T) {
	m, s := modelOf(t, 1, 64), spot{0, 3}
	m.fill(s, 56)
	x, y := m.newPop(s), m.newPop(s)
	x.step()
	x.step()
	y.run()
	x.step()
	x.step()
	if !x.done || x.got || !y.got || y.base != 56 {
		t.Errorf("ended %v, popped %v, %v", x.done, x.got, y.got)
	}
	x.step()
}

// P10.3: many machines on the lists of several workers and classes, drawn steps, machines left standing where they are: what was pushed is popped once, or is there still.
func TestDrawnOrders(t *testing.T) {
	r := rand.New(rand.NewSource(10))
	for range 60 {
		work := 1 + r.Intn(3)
		m := modelOf(t, work, 8*16)
		var actors []*actor
		var want []int
		for i := range 16 {
			want = append(want, 8*i)
		}
		for i := range 2 + r.Intn(7) {
			actors = append(actors, &actor{m: m, has: []int{8 * i}})
		}
		for i := len(actors); i < 16; i++ {
			m.fill(spot{r.Intn(work), r.Intn(4)}, 8*i)
		}
		lists := 1 + r.Intn(4*work)
		for range 400 {
			x := actors[r.Intn(len(actors))]
			if !x.begin() {
				at := r.Intn(lists)
				x.s, x.todo = spot{at / 4, at % 4}, []string{"o", "u"}[r.Intn(2)]
				continue
			}
			x.step()
			if got := have(m, actors); t.Failed() || !slices.Equal(got, want) {
				t.Fatalf("bases %d, want %d", got, want)
			}
		}
	}
}
