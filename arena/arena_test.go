package arena

import (
	"math"
	"math/rand"
	"testing"

	"magpie/api"
)

// far are numbers that are no word of anything and no name.
func far() []int {
	return []int{-1, -2, -8, -64, -65536, 1 << 20, 1 << 31, 1 << 32, -1 << 32, 1 << 50, math.MinInt, math.MinInt + 1, math.MaxInt, math.MaxInt - 1}
}

// noNames are numbers that are no name, names cut or bent among them.
func noNames() []int {
	return append(far(), 0, 1, 4, 8, name(0, 0, 0), name(8, 0, 3), name(0, 1, 0)-1<<50, -name(0, 1, 0), name(0, 1, 0)+1<<48, name(0, 1, 0)+1<<49, name(0, 1, 0)+1<<51, name(0, 1, 0)+math.MinInt, name(1<<16, 1, 0))
}

// sums are numbers about which a sum goes over.
func sums() []int {
	return []int{0, 1, -1, 2, 7, -3, 1 << 31, 1<<32 + 1, -1 << 33, math.MaxInt, math.MaxInt - 1, math.MinInt, math.MinInt + 1, math.MaxInt / 2, math.MinInt / 2}
}

// bear makes slots alive that must come alive.
func bear(t *testing.T, a *Arena, l ...int) {
	t.Helper()
	for _, h := range l {
		if !a.Born(h) {
			t.Fatalf("%+v is not born", h)
		}
	}
}

// finish makes slots dead that are alive.
func finish(t *testing.T, a *Arena, l ...int) {
	t.Helper()
	for _, h := range l {
		if !a.Retire(h) || !a.Died(h) {
			t.Fatalf("%+v does not die", h)
		}
	}
}

func states(t *testing.T, a *Arena, want int, l ...int) {
	t.Helper()
	for _, h := range l {
		if got := a.State(h); got != want {
			t.Errorf("State(%d) = %d, want %d", h, got, want)
		}
	}
}

func count(t *testing.T, a *Arena, want api.Count) {
	t.Helper()
	if got := a.Count(); got != want {
		t.Errorf("Count %+v, want %+v", got, want)
	}
}

// refused tells of a use that is answered though it is wrong, or that is no fault, or no use; all is asked of a new arena, since a fault never goes.
func refused(t *testing.T, build func() *Arena, c call) {
	t.Helper()
	a := build()
	uses := a.Uses()
	if a.Fault() {
		t.Fatalf("%+v: a fault ahead of it", c)
	}
	if got := c.of(a); got != (answer{}) || !a.Fault() || a.Uses() != uses+1 {
		t.Errorf("%+v: %+v, Fault %v, %d uses", c, got, a.Fault(), a.Uses()-uses)
	}
}

// P9.2: what the states are called.
func TestStatesByNumber(t *testing.T) {
	if Dead != 0 || Live != 1 || Retired != 2 {
		t.Error(Dead, Live, Retired)
	}
}

// P9.1: raw words and words are cut to what there may be; all raw words are 0; a new arena has nothing else.
func TestNewIsCut(t *testing.T) {
	cuts := map[int]int{
		math.MinInt: 0, -1 << 40: 0, -65536: 0, -1: 0, 0: 0, 1: 1, 2: 2, 7: 7, 8: 8, 9: 9, 64: 64, 1000: 1000,
		65534: 65534, 65535: 65535, 65536: 65536, 65537: 65536, 1 << 17: 65536, 1 << 32: 65536, 1<<32 + 5: 65536, math.MaxInt: 65536,
	}
	for n, want := range cuts {
		raw, words := New(n, 40, false), New(3, n, true)
		if raw.Words() != 40 || words.Words() != want {
			t.Errorf("New of %d: Words %d, %d", n, raw.Words(), words.Words())
		}
		for i := range want {
			if raw.Raw(i) != 0 {
				t.Fatalf("New of %d: raw word %d is %d", n, i, raw.Raw(i))
			}
		}
		if raw.Fault() || words.Fault() || words.Uses() != 0 || raw.Uses() != want || raw.Raw(want) != 0 || !raw.Fault() {
			t.Errorf("New of %d: Fault %v, %v, Uses %d, %d", n, raw.Fault(), words.Fault(), raw.Uses(), words.Uses())
		}
		count(t, words, api.Count{})
		if words.AddRaw(2, 5); words.Fault() || words.Raw(3) != 0 || !words.Fault() {
			t.Errorf("New of 3, %d: not 3 raw words", n)
		}
	}
}

// P9.1: what the four calls of a raw word do, one use each.
func TestRawWords(t *testing.T) {
	a := New(5, 0, false)
	steps := []struct {
		c    call
		want answer
	}{
		{call{kind: doRaw, off: 4}, answer{}},
		{call{kind: doSetRaw, off: 4, x: 7}, answer{}},
		{call{kind: doRaw, off: 4}, answer{n: 7}},
		{call{kind: doSwapRaw, off: 4, x: 6, y: 9}, answer{}},
		{call{kind: doRaw, off: 4}, answer{n: 7}},
		{call{kind: doSwapRaw, off: 4, x: 7, y: 9}, answer{ok: true}},
		{call{kind: doSwapRaw, off: 4, x: 9, y: 9}, answer{ok: true}},
		{call{kind: doAddRaw, off: 4, x: 3}, answer{n: 9}},
		{call{kind: doAddRaw, off: 4, x: -20}, answer{n: 12}},
		{call{kind: doRaw, off: 4}, answer{n: -8}},
		{call{kind: doSwapRaw, off: 0, x: 0, y: -1}, answer{ok: true}},
		{call{kind: doRaw, off: 0}, answer{n: -1}},
		{call{kind: doAddRaw, off: 0, x: 0}, answer{n: -1}},
		{call{kind: doRaw, off: 1}, answer{}},
		{call{kind: doRaw, off: 3}, answer{}},
	}
	for i, s := range steps {
		if got := s.c.of(a); got != s.want || a.Fault() || a.Uses() != i+1 {
			t.Errorf("%d: %+v, want %+v; Fault %v, Uses %d", i, got, s.want, a.Fault(), a.Uses())
		}
	}
}

// P9.1: raw words that are none, by each of the four calls: 0, false, a fault, a use; the others stay as they are.
func TestRawWordsThatAreNone(t *testing.T) {
	for _, raw := range []int{0, 1, 2, 100, 65535, 65536} {
		build := func() *Arena {
			a := New(raw, 64, false)
			for i := range min(raw, 3) {
				a.SetRaw(i, i+1)
			}
			return a
		}
		for kind := doRaw; kind <= doAddRaw; kind++ {
			for _, i := range append(far(), raw, raw+1) {
				refused(t, build, call{kind: kind, off: i, x: 0, y: 1})
				refused(t, build, call{kind: kind, off: i, x: 1, y: 2})
			}
			refused(t, build, call{kind: kind, off: name(0, 1, 0), x: 0, y: 1})
		}
	}
	a := New(3, 64, false)
	for _, i := range append(far(), 3, 4) {
		a.SetRaw(i, 9)
		a.AddRaw(i, 9)
		a.SwapRaw(i, 0, 9)
	}
	if a.Raw(0) != 0 || a.Raw(1) != 0 || a.Raw(2) != 0 {
		t.Error(a.Raw(0), a.Raw(1), a.Raw(2))
	}
}

// P9.1: sums by wrap of 64 bits, of raw words and of a slot's.
func TestSumsWrap(t *testing.T) {
	h := name(8, 1, 1)
	for _, x := range sums() {
		for _, by := range sums() {
			a := New(2, 64, false)
			bear(t, a, h)
			a.SetRaw(1, x)
			a.Store(h, 15, x)
			want := int(uint64(x) + uint64(by))
			if got := a.AddRaw(1, by); got != x || a.Raw(1) != want {
				t.Errorf("AddRaw of %d to %d: %d, %d", by, x, got, a.Raw(1))
			}
			if got := a.Add(h, 15, by); got != x || a.Load(h, 15) != want {
				t.Errorf("Add of %d to %d: %d, %d", by, x, got, a.Load(h, 15))
			}
		}
	}
}

// P9.1: what the four calls of a slot's word do, alive and retired, at each word of a slot of each class: there are as many as the class has, and each is one by itself.
func TestWordsOfASlot(t *testing.T) {
	for class := range 4 {
		a, h, size := New(0, 200, false), name(77, 5, class), sizeOf(class)
		bear(t, a, h)
		for off := range size {
			if a.Load(h, off) != 0 || !a.Swap(h, off, 0, 5) || a.Swap(h, off, 0, 6) || a.Add(h, off, off) != 5 {
				t.Errorf("class %d, word %d: %d", class, off, a.Load(h, off))
			}
		}
		if !a.Retire(h) {
			t.Fatal(class)
		}
		for off := range size {
			if a.Load(h, off) != 5+off || a.Swap(h, off, off, 1) || !a.Swap(h, off, 5+off, -1) || a.Add(h, off, 3) != -1 {
				t.Errorf("class %d, word %d, retired: %d", class, off, a.Load(h, off))
			}
			a.Store(h, off, 1000-off)
		}
		for off := range size {
			if a.Load(h, off) != 1000-off {
				t.Errorf("class %d, word %d: %d", class, off, a.Load(h, off))
			}
		}
		if a.Fault() || a.Uses() != 10*size {
			t.Errorf("class %d: Fault %v, Uses %d", class, a.Fault(), a.Uses())
		}
	}
}

// Inside: a slot's words have no spare room, which would be another's.
func TestNoSpareRoom(t *testing.T) {
	for class := range 4 {
		a, h := New(0, 200, false), name(8, 1, class)
		bear(t, a, h)
		if words := a.slots[h].words; len(words) != sizeOf(class) || cap(words) != sizeOf(class) {
			t.Errorf("class %d: %d words, room for %d", class, len(words), cap(words))
		}
	}
}

// P9.1: words that a slot has not, by each of the four calls, though other slots stand on both sides of it.
func TestWordsThatASlotHasNot(t *testing.T) {
	for class := range 4 {
		size := sizeOf(class)
		left, h, right := name(0, 1, 3), name(64, 9, class), name(64+size, 1, 3)
		for _, retired := range []bool{false, true} {
			build := func() *Arena {
				a := New(9, 64+size+64, false)
				bear(t, a, left, h, right)
				if retired {
					a.Retire(h)
				}
				return a
			}
			for kind := doLoad; kind <= doAdd; kind++ {
				for _, off := range append(far(), size, size+1, size+63, 64+size, 128) {
					refused(t, build, call{kind: kind, h: h, off: off, x: 0, y: 1})
				}
			}
			a := build()
			for _, off := range append(far(), size, size+1, size+63, 128) {
				a.Store(h, off, 9)
				a.Add(h, off, 9)
				a.Swap(h, off, 0, 9)
			}
			for _, other := range []int{left, right} {
				for off := range 64 {
					if v := a.Load(other, off); v != 0 {
						t.Errorf("class %d: word %d of a neighbour is %d", class, off, v)
					}
				}
			}
		}
	}
}

// P9.1: names that are none, slots that never were, dead ones, elder and younger names of a base, and those of its base with another class: by each of the four calls.
func TestNamesWithoutWords(t *testing.T) {
	elder, live, gone, retired, again := name(0, 1, 0), name(0, 5, 0), name(8, 2, 1), name(24, 1, 0), name(100, 7, 2)
	build := func() *Arena {
		a := New(0, 300, false)
		bear(t, a, elder, gone, retired, again)
		finish(t, a, elder, gone, again)
		a.Retire(retired)
		bear(t, a, live)
		a.Store(live, 0, 77)
		a.Store(retired, 7, 78)
		return a
	}
	l := append(noNames(), elder, gone, again, name(0, 2, 0), name(0, 4, 0), name(0, 6, 0), name(0, 5, 1), name(0, 5, 3), name(0, 1<<30-1, 0), name(8, 1, 1), name(8, 3, 1), name(8, 2, 0), name(24, 2, 0), name(24, 1, 1),
		name(1, 5, 0), name(7, 1, 0), name(100, 7, 1), name(200, 1, 0), name(292, 1, 0), name(293, 1, 0), name(65535, 1<<30-1, 3), name(65535, 1, 0))
	for kind := doLoad; kind <= doAdd; kind++ {
		for _, h := range l {
			for _, off := range []int{0, 7, 8, -1, 64} {
				refused(t, build, call{kind: kind, h: h, off: off, x: 0, y: 1})
			}
		}
	}
	a := build()
	states(t, a, Dead, l...)
	states(t, a, Live, live)
	states(t, a, Retired, retired)
	for _, h := range l {
		for off := range 8 {
			a.Store(h, off, 9)
			a.Add(h, off, 9)
			a.Swap(h, off, 0, 9)
			a.Swap(h, off, 77, 9)
		}
	}
	younger := name(8, 3, 1)
	bear(t, a, younger)
	if a.Load(live, 0) != 77 || a.Load(live, 1) != 0 || a.Load(retired, 7) != 78 || a.Load(retired, 0) != 0 || a.Load(younger, 0) != 0 || a.Load(younger, 15) != 0 {
		t.Error("a word was turned by a name without words")
	}
}

// P9.2: a fault stays; a call that is none of the eight is neither a use nor a fault, whatever it is given.
func TestFaultsAndUses(t *testing.T) {
	a := New(2, 64, false)
	bear(t, a, name(0, 1, 0))
	for _, h := range append(noNames(), name(0, 1, 0), name(0, 2, 0), name(8, 1, 0), name(60, 1, 0)) {
		a.State(h)
		a.Born(h)
		a.Retire(h)
		a.Died(h)
		a.Died(h)
		a.Count()
		a.Words()
		a.Fault()
		a.Uses()
	}
	if a.Fault() || a.Uses() != 0 {
		t.Errorf("Fault %v, Uses %d", a.Fault(), a.Uses())
	}
	a.Raw(2)
	for i := range 100 {
		a.AddRaw(0, 1)
		a.Born(name(16, 1+i, 0))
		a.Load(name(16, 1+i, 0), 0)
	}
	if !a.Fault() || a.Uses() != 201 {
		t.Errorf("Fault %v, Uses %d", a.Fault(), a.Uses())
	}
}

// P9.2: what goes beyond words is not born: each class, at the ends of arenas of every size about its own.
func TestBornAtTheEnd(t *testing.T) {
	for _, words := range []int{-1, 0, 1, 7, 8, 9, 15, 16, 17, 31, 32, 33, 63, 64, 65, 127, 1000, 65535, 65536} {
		for class := range 4 {
			for by := -2; by <= sizeOf(class); by++ {
				base := max(words, 0) - sizeOf(class) + by
				if base < 0 || base > 65535 {
					continue
				}
				a, h := New(0, words, by%2 == 0), name(base, 1, class)
				if got := a.Born(h); got != (by <= 0) {
					t.Errorf("%d words: Born at %d, class %d: %v", words, base, class, got)
				}
				if by > 0 {
					count(t, a, api.Count{})
					states(t, a, Dead, h)
				} else if a.Store(h, sizeOf(class)-1, 4); a.Load(h, sizeOf(class)-1) != 4 || a.Fault() {
					t.Errorf("%d words: no last word of %d, class %d", words, base, class)
				}
			}
		}
	}
}

// P9.2: numbers that are no name are not born, not retired, do not die, and are dead.
func TestWhatIsNoNameIsNothing(t *testing.T) {
	a := New(4, 65536, false)
	bear(t, a, name(8, 3, 0))
	for _, h := range noNames() {
		if a.Born(h) || a.Retire(h) || a.Died(h) || a.State(h) != Dead {
			t.Errorf("%d is something", h)
		}
	}
	count(t, a, api.Count{Carved: 8, Live: 8})
}

// P9.2, P9.3: a slot of each class beside one of each class, at every distance, alive, retired, dead: born where they have no word in common, or the first is dead.
func TestNoWordInCommon(t *testing.T) {
	for first := range 4 {
		for second := range 4 {
			for base := 100 - sizeOf(second) - 2; base <= 100+sizeOf(first)+2; base++ {
				for state := range 3 {
					a, h, g := New(0, 300, true), name(100, 4, first), name(base, 9, second)
					bear(t, a, h)
					if state != Live {
						a.Retire(h)
					}
					if state == Dead {
						a.Died(h)
					}
					apart := base+sizeOf(second) <= 100 || base >= 100+sizeOf(first)
					if got := a.Born(g); got != (apart || state == Dead) {
						t.Errorf("class %d at 100, state %d: class %d at %d: %v", first, state, second, base, got)
					}
				}
			}
		}
	}
}

// P9.2: gens of a base: above all that it had, of whatever class, whatever stands at other bases.
func TestGens(t *testing.T) {
	const last = 1<<30 - 1
	a := New(0, 200, false)
	steps := []struct {
		base, gen, class int
		want             bool
	}{
		{64, 5, 2, true}, {64, 5, 2, false}, {64, 4, 2, false}, {64, 1, 0, false}, {64, 5, 0, false}, {64, 6, 0, true}, {64, 6, 1, false}, {64, 8, 3, true}, {64, 7, 0, false},
		{72, 1, 1, true}, {63, 1, 3, true}, {65, 1, 0, true}, {65, 1, 0, false}, {65, 2, 0, true},
		{64, 8, 0, false}, {64, 9, 1, true}, {64, last - 1, 0, true}, {64, last - 1, 0, false}, {64, last, 3, true}, {64, last, 3, false}, {64, last, 0, false}, {64, 1, 0, false}, {64, last - 1, 1, false},
		{0, last, 0, true}, {0, 1, 0, false}, {8, 1, 0, true}, {1, 1, 0, true}, {192, 1, 0, true}, {192, 3, 0, true}, {192, 2, 0, false},
	}
	for i, s := range steps {
		h := name(s.base, s.gen, s.class)
		if got := a.Born(h); got != s.want {
			t.Errorf("%d: %+v: %v", i, s, got)
		} else if got {
			finish(t, a, h)
		}
	}
}

// P9.2: a gen that was refused is not had; nor is the base of one that was.
func TestRefusedIsNotHad(t *testing.T) {
	a := New(0, 64, false)
	bear(t, a, name(8, 1, 0))
	for _, h := range []int{name(0, 50, 1), name(8, 50, 0), name(40, 50, 2), name(60, 50, 0), name(1, 50, 0)} {
		if a.Born(h) {
			t.Errorf("%d is born", h)
		}
	}
	count(t, a, api.Count{Carved: 8, Live: 8})
	states(t, a, Live, name(8, 1, 0))
	finish(t, a, name(8, 1, 0))
	bear(t, a, name(0, 1, 0), name(8, 2, 0), name(40, 1, 1))
	finish(t, a, name(0, 1, 0), name(8, 2, 0))
	bear(t, a, name(1, 1, 0))
}

// P9.2: live, retired, dead, and no other way.
func TestWaysOfASlot(t *testing.T) {
	h, elder, younger, wide := name(16, 4, 0), name(16, 3, 0), name(16, 5, 0), name(16, 4, 1)
	a := New(0, 64, false)
	none := func(l ...int) {
		t.Helper()
		for _, x := range l {
			if a.Retire(x) || a.Died(x) || a.State(x) != Dead {
				t.Errorf("%d: State %d", x, a.State(x))
			}
		}
	}
	none(h, elder, younger, wide)
	bear(t, a, h)
	none(elder, younger, wide)
	if a.Died(h) || a.State(h) != Live || a.Born(h) || a.Born(younger) || a.State(h) != Live || !a.Retire(h) || a.State(h) != Retired {
		t.Errorf("State %d", a.State(h))
	}
	none(elder, younger, wide)
	if a.Retire(h) || a.State(h) != Retired || a.Born(h) || a.Born(younger) || a.State(h) != Retired || !a.Died(h) || a.State(h) != Dead {
		t.Errorf("State %d", a.State(h))
	}
	none(h, elder, younger, wide)
	if a.Born(h) || a.Born(elder) || a.Born(wide) || !a.Born(younger) || a.State(younger) != Live {
		t.Errorf("State %d", a.State(younger))
	}
	none(h, elder, wide)
}

// P9.2: the words of a slot that is born are what they were last in that place, of whatever slot; 0 if the arena is fresh.
func TestWordsOfABirth(t *testing.T) {
	for _, fresh := range []bool{false, true} {
		a := New(0, 128, fresh)
		old := name(0, 1, 3)
		bear(t, a, old)
		for off := range 64 {
			a.Store(old, off, 100+off)
		}
		a.Retire(old)
		a.Store(old, 20, 7)
		a.Died(old)
		a.Store(old, 21, 8)
		left, low, high := name(4, 1, 0), name(20, 1, 1), name(40, 1, 3)
		bear(t, a, left, low, high)
		want := func(h, off, v int) {
			t.Helper()
			if fresh {
				v = 0
			}
			if got := a.Load(h, off); got != v {
				t.Errorf("fresh %v: word %d of %d is %d, want %d", fresh, off, h, got, v)
			}
		}
		want(left, 0, 104)
		want(left, 7, 111)
		want(low, 0, 7)
		for off := 1; off < 16; off++ {
			want(low, off, 120+off)
		}
		for off := range 24 {
			want(high, off, 140+off)
			want(high, 24+off, 0)
		}
		a.Store(left, 3, 5)
		a.Store(low, 15, 6)
		a.Store(high, 0, 9)
		a.Store(high, 63, 10)
		finish(t, a, left, low, high)
		bear(t, a, name(0, 2, 3), name(64, 1, 3))
		want(name(0, 2, 3), 3, 103)
		want(name(0, 2, 3), 7, 5)
		want(name(0, 2, 3), 12, 112)
		want(name(0, 2, 3), 35, 6)
		want(name(0, 2, 3), 40, 9)
		want(name(64, 1, 3), 39, 10)
	}
}

// P9.2: a slot that is born turns no word of another, fresh or not, nor does one that is retired, dies, or is refused.
func TestBirthsLeaveOthersAlone(t *testing.T) {
	for _, fresh := range []bool{false, true} {
		a := New(3, 192, fresh)
		left, mid, right := name(56, 1, 0), name(64, 1, 3), name(128, 1, 0)
		bear(t, a, left, right)
		for off := range 8 {
			a.Store(left, off, 1+off)
			a.Store(right, off, 11+off)
		}
		a.SetRaw(0, 21)
		a.SetRaw(2, 22)
		bear(t, a, mid)
		a.Born(name(60, 1, 1))
		a.Born(name(120, 1, 1))
		finish(t, a, mid)
		for off := range 8 {
			if a.Load(left, off) != 1+off || a.Load(right, off) != 11+off {
				t.Errorf("fresh %v: %d, %d", fresh, a.Load(left, off), a.Load(right, off))
			}
		}
		if a.Raw(0) != 21 || a.Raw(1) != 0 || a.Raw(2) != 22 {
			t.Errorf("fresh %v: raw words turned", fresh)
		}
	}
}

// P9.2: the account: words that were ever part of a slot count once, however often and by whichever slots.
func TestAccount(t *testing.T) {
	a := New(0, 65536, false)
	h, g := name(0, 1, 3), name(100, 1, 1)
	bear(t, a, h)
	count(t, a, api.Count{Carved: 64, Live: 64})
	bear(t, a, g)
	count(t, a, api.Count{Carved: 80, Live: 80})
	a.Retire(h)
	count(t, a, api.Count{Carved: 80, Live: 16, Retired: 64})
	a.Retire(g)
	count(t, a, api.Count{Carved: 80, Retired: 80})
	a.Died(h)
	count(t, a, api.Count{Carved: 80, Retired: 16, Free: 64})
	bear(t, a, name(60, 1, 2))
	count(t, a, api.Count{Carved: 108, Live: 32, Retired: 16, Free: 60})
	bear(t, a, name(0, 2, 0))
	count(t, a, api.Count{Carved: 108, Live: 40, Retired: 16, Free: 52})
	a.Died(g)
	finish(t, a, name(60, 1, 2), name(0, 2, 0))
	count(t, a, api.Count{Carved: 108, Free: 108})
	bear(t, a, name(65472, 1, 3))
	count(t, a, api.Count{Carved: 172, Live: 64, Free: 108})
	for base := 0; base < 65472; base += 8 {
		bear(t, a, name(base, 3, 0))
	}
	count(t, a, api.Count{Carved: 65536, Live: 65536})
}

// R4: two arenas have nothing in common, and one does the same as often as it is asked the same.
func TestArenasShareNothing(t *testing.T) {
	h := name(8, 1, 0)
	a, b, c := New(2, 64, false), New(2, 64, false), New(2, 64, true)
	bear(t, a, h)
	a.Store(h, 0, 5)
	a.SetRaw(0, 6)
	a.Raw(9)
	for _, x := range []*Arena{b, c} {
		if x.State(h) != Dead || x.Raw(0) != 0 || x.Fault() || x.Uses() != 1 || x.Count() != (api.Count{}) || x.Retire(h) || !x.Born(h) || x.Load(h, 0) != 0 || !x.Retire(h) || !x.Died(h) {
			t.Errorf("State %d, Uses %d, Count %+v", x.State(h), x.Uses(), x.Count())
		}
	}
	if a.State(h) != Live || a.Load(h, 0) != 5 || a.Raw(0) != 6 || a.Uses() != 5 {
		t.Errorf("State %d, Uses %d", a.State(h), a.Uses())
	}
}

// P9.1, P9.2: all short rows of births, retirings and deaths of slots that lie across one another, with a number left in each word that is had.
func TestAllShortRows(t *testing.T) {
	names := []int{name(0, 1, 0), name(0, 2, 1), name(8, 1, 0), name(8, 2, 0), name(4, 1, 0), name(9, 1, 0)}
	var calls []call
	for kind := doBorn; kind <= doDied; kind++ {
		for _, h := range names {
			calls = append(calls, call{kind: kind, h: h})
		}
	}
	var rows func(row []call)
	rows = func(row []call) {
		for fresh := range 2 {
			p := pairOf(t, 1, 16, fresh == 1)
			for i, c := range row {
				p.doAll(c, names)
				p.do(call{kind: doStore, h: c.h, off: 7, x: i + 1})
				p.do(call{kind: doStore, h: c.h, off: 3, x: i + 1})
			}
			for _, h := range names {
				p.do(call{kind: doLoad, h: h, off: 3})
				p.do(call{kind: doLoad, h: h, off: 7})
			}
		}
		if len(row) == 4 || t.Failed() {
			return
		}
		for _, c := range calls {
			// A row begins with a birth: what stands ahead of one is refused, and told by the rows of one call.
			if len(row) != 1 || row[0].kind == doBorn {
				rows(append(row[:len(row):len(row)], c))
			}
		}
	}
	rows(nil)
}

// drawn is a call of any kind: mostly of what there is, at times of what is none.
func drawn(r *rand.Rand, names []int, words int) call {
	c := call{kind: r.Intn(kinds), off: r.Intn(10), x: r.Intn(3), y: r.Intn(3)}
	c.h = names[r.Intn(len(names))]
	switch r.Intn(12) {
	case 0:
		c.off = r.Intn(80) - 3
	case 1:
		c.x = sums()[r.Intn(len(sums()))]
	case 2:
		c.h = noNames()[r.Intn(len(noNames()))]
	case 3:
		c.off = far()[r.Intn(len(far()))]
	case 4, 5, 6:
		c.kind = doBorn
	}
	if c.kind == doBorn && r.Intn(2) == 0 {
		c.h = name(r.Intn(words+2), 1+r.Intn(60), r.Intn(4))
	}
	return c
}

// P9.1, P9.2: drawn calls of all kinds, one behind the other, in arenas of all kinds.
func TestAny(t *testing.T) {
	r := rand.New(rand.NewSource(9))
	for range 120 {
		raw, words := r.Intn(12), r.Intn(200)
		p := pairOf(t, raw, words, r.Intn(2) == 0)
		names := []int{0, name(0, 1, 0)}
		for range 250 {
			c := drawn(r, names, words)
			p.doAll(c, names[max(len(names)-6, 0):])
			if c.kind == doBorn && p.m.State(c.h) == 1 {
				names = append(names, c.h)
			}
		}
		p.loadAll(names)
		if t.Failed() {
			return
		}
	}
}

// P9.3: whatever was born, retired and died: each word of each slot that is not dead keeps what was stored there, when all others are turned, too.
func TestWhatFollows(t *testing.T) {
	r := rand.New(rand.NewSource(93))
	for range 60 {
		a := New(0, 300, r.Intn(2) == 0)
		var born []int
		for range 200 {
			h := name(r.Intn(300), 1+r.Intn(1000), r.Intn(4))
			if a.Born(h) {
				born = append(born, h)
			}
			if len(born) > 0 && r.Intn(3) > 0 {
				a.Retire(born[r.Intn(len(born))])
				a.Died(born[r.Intn(len(born))])
			}
		}
		each := func(do func(h, off, v int)) (words int) {
			for i, h := range born {
				for off := 0; a.State(h) != Dead && off < sizeOf(h%4); off++ {
					do(h, off, 1000*i+off+1)
					words++
				}
			}
			return words
		}
		words := each(func(h, off, v int) { a.Store(h, off, v) })
		each(func(h, off, v int) {
			if got := a.Load(h, off); got != v {
				t.Errorf("word %d of %d is %d, want %d", off, h, got, v)
			}
		})
		if c := a.Count(); c.Live+c.Retired != words || words > 300 || a.Fault() {
			t.Errorf("%d words, Count %+v", words, c)
		}
	}
}
