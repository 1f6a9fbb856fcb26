package handle

import (
	"math"
	"math/rand"
	"testing"
)

// The document's numbers, written out apart from the package's.
const (
	above     = 1125899906842624 // 2^50
	basePlace = 4294967296       // 2^32
	genPlace  = 4
	lastBase  = 65535
	lastGen   = 1073741823 // 2^30 - 1
	lastClass = 3
)

// parts is what a name is made of, whether there is such a name or not.
type parts struct{ base, gen, class int }

func (p parts) are() bool {
	return 0 <= p.base && p.base <= lastBase && 1 <= p.gen && p.gen <= lastGen && 0 <= p.class && p.class <= lastClass
}

// name is the document's sum; 0 if there is none.
func (p parts) name() int {
	if !p.are() {
		return 0
	}
	return p.class + genPlace*p.gen + basePlace*p.base + above
}

// partsOf reads a number over by division alone; false if it is no name.
func partsOf(h int) (parts, bool) {
	if h < above {
		return parts{}, false
	}
	rest := h - above
	p := parts{rest / basePlace, rest % basePlace / genPlace, rest % genPlace}
	if !p.are() {
		return parts{}, false
	}
	return p, true
}

// checkPack holds Pack against the sum, and what is packed against what is opened.
func checkPack(t *testing.T, p parts) {
	t.Helper()
	h := Pack(p.base, p.gen, p.class)
	if h != p.name() {
		t.Errorf("Pack of %v = %d, want %d", p, h, p.name())
	}
	want := p
	if !p.are() {
		want = parts{}
	}
	base, gen, class, ok := Open(h)
	if (parts{base, gen, class}) != want || ok != p.are() {
		t.Errorf("Open of Pack of %v = %d, %d, %d, %v", p, base, gen, class, ok)
	}
}

// checkOpen holds Open against the division, and what is opened against what is packed.
func checkOpen(t *testing.T, h int) {
	t.Helper()
	want, is := partsOf(h)
	base, gen, class, ok := Open(h)
	if (parts{base, gen, class}) != want || ok != is {
		t.Errorf("Open(%d) = %d, %d, %d, %v, want %v, %v", h, base, gen, class, ok, want, is)
	}
	if back := Pack(base, gen, class); ok && back != h {
		t.Errorf("Pack of Open of %d = %d", h, back)
	}
}

// checkNone tells of a number that is opened though it is no name.
func checkNone(t *testing.T, h int) {
	t.Helper()
	if base, gen, class, ok := Open(h); base != 0 || gen != 0 || class != 0 || ok {
		t.Errorf("Open(%d) = %d, %d, %d, %v", h, base, gen, class, ok)
	}
}

// P8.1: the size of each class, and of numbers that are none.
func TestSizes(t *testing.T) {
	if Classes != 4 {
		t.Fatalf("Classes is %d", Classes)
	}
	want := map[int]int{0: 8, 1: 16, 2: 32, 3: 64}
	for class := -300; class <= 300; class++ {
		if got := Size(class); got != want[class] {
			t.Errorf("Size(%d) = %d, want %d", class, got, want[class])
		}
	}
	for k := range 64 {
		for _, by := range []int{-4, -3, -1, 0, 1, 3, 4} {
			class := 1<<k + by
			if got := Size(class); got != want[class] {
				t.Errorf("Size(%d) = %d, want %d", class, got, want[class])
			}
		}
	}
	for _, class := range []int{math.MinInt, math.MinInt + 1, math.MaxInt, math.MaxInt - 1} {
		if got := Size(class); got != 0 {
			t.Errorf("Size(%d) = %d", class, got)
		}
	}
}

// P8.1: names number by number: the first and the last one, and the step that each part makes.
func TestNamesWrittenOut(t *testing.T) {
	rows := []struct {
		base, gen, class, h int
	}{
		{0, 1, 0, 1125899906842628},
		{0, 1, 1, 1125899906842629},
		{0, 1, 3, 1125899906842631},
		{0, 2, 0, 1125899906842632},
		{0, 1073741823, 3, 1125904201809919},
		{1, 1, 0, 1125904201809924},
		{8, 1, 0, 1125934266580996},
		{65535, 1, 0, 1407370588585988},
		{65535, 1073741823, 0, 1407374883553276},
		{65535, 1073741823, 3, 1407374883553279},
	}
	for _, r := range rows {
		if h := Pack(r.base, r.gen, r.class); h != r.h {
			t.Errorf("Pack(%d, %d, %d) = %d, want %d", r.base, r.gen, r.class, h, r.h)
		}
		if base, gen, class, ok := Open(r.h); base != r.base || gen != r.gen || class != r.class || !ok {
			t.Errorf("Open(%d) = %d, %d, %d, %v, want %d, %d, %d", r.h, base, gen, class, ok, r.base, r.gen, r.class)
		}
	}
}

// P8.1: one part that is just beyond its edge is enough to have no name, whatever the others are.
func TestOneBeyondEachEdge(t *testing.T) {
	for _, base := range []int{-1, 0, lastBase, lastBase + 1} {
		for _, gen := range []int{-1, 0, 1, lastGen, lastGen + 1} {
			for _, class := range []int{-1, 0, lastClass, lastClass + 1} {
				p := parts{base, gen, class}
				if h := Pack(base, gen, class); (h != 0) != p.are() {
					t.Errorf("Pack of %v = %d", p, h)
				}
			}
		}
	}
}

// edges are the numbers around a part's first and last ones, and those that lose bits where a part is moved to its place.
func edges() []int {
	l := []int{math.MinInt, math.MinInt + 1, math.MaxInt, math.MaxInt - 1}
	for _, near := range []int{0, lastClass, lastBase, lastGen} {
		for by := -3; by <= 3; by++ {
			l = append(l, near+by)
		}
	}
	for _, k := range []int{8, 15, 17, 29, 31, 32, 33, 48, 50, 61, 62} {
		l = append(l, 1<<k, 1<<k-1, 1<<k+1, 1<<k+8, -1<<k, -1<<k+1, -1<<k-1)
	}
	return l
}

// P8.1, P8.2: every mix of the edges of the parts: the sum or 0, and back.
func TestEveryMixOfEdges(t *testing.T) {
	l := edges()
	for _, base := range l {
		for _, gen := range l {
			for _, class := range l {
				checkPack(t, parts{base, gen, class})
			}
		}
		if t.Failed() {
			return
		}
	}
}

// P8.2: no two have one name, none is 0: each base with each class and some gens, so that a bit that two parts shared would show.
func TestNoTwoHaveOneName(t *testing.T) {
	gens := []int{1, 2, 3, 4, 1 << 14, 1<<15 + 1, 1 << 28, 1 << 29, lastGen - 1, lastGen}
	seen := make(map[int]parts, (lastBase+1)*Classes*len(gens))
	for base := range lastBase + 1 {
		for _, gen := range gens {
			for class := range Classes {
				p := parts{base, gen, class}
				h := Pack(base, gen, class)
				if other, twice := seen[h]; twice || h == 0 {
					t.Fatalf("%v and %v are both %d", p, other, h)
				}
				seen[h] = p
			}
		}
	}
	for h, p := range seen {
		if base, gen, class, ok := Open(h); (parts{base, gen, class}) != p || !ok {
			t.Fatalf("Open of Pack of %v = %d, %d, %d, %v", p, base, gen, class, ok)
		}
	}
}

// P8.1, P8.2: gens from the first on, to the last one, and all that have one or two bits, with the edges of the other parts.
func TestManyGens(t *testing.T) {
	var gens []int
	for by := range 2000 {
		gens = append(gens, by, lastGen+1000-by)
	}
	for i := range 31 {
		for j := range 31 {
			gens = append(gens, 1<<i|1<<j)
		}
	}
	for _, gen := range gens {
		for _, base := range []int{0, 1, 32768, lastBase} {
			for class := range Classes {
				checkPack(t, parts{base, gen, class})
			}
		}
		if t.Failed() {
			return
		}
	}
}

// P8.1: numbers of every kind that is no name.
func TestWhatIsNoName(t *testing.T) {
	l := []int{
		0, 1, -1, 2, 3, 4, 5, 8, 64, -4, math.MinInt, math.MinInt + 1, math.MinInt + 4, math.MaxInt, math.MaxInt - 3,
		above - 1, above - 4, -above, -above - 4, -above + 4, -above + 8*basePlace + 4,
		4 + 8*basePlace, lastBase*basePlace + 4, above/2 + 4, above/4 + 4,
		2*above + 4, 3*above + 4, 3*above + 8*basePlace + 7, 4*above + 4, 5*above + 4, math.MinInt + above + 4, math.MinInt + above + 8*basePlace + 4,
		// the places between base and mark
		above + 1<<48 + 4, above + 1<<49 + 4, above + 3<<48 + 4, above + 1<<48, above + 1<<48 + 8*basePlace + 4, above + above - 1, above + above - basePlace + 4, 2 * above,
	}
	for _, base := range []int{0, 1, 8, 32768, lastBase} {
		for class := range Classes {
			l = append(l, above+base*basePlace+class)          // a gen of nought
			l = append(l, -above-base*basePlace-4-class)       // below 0
			l = append(l, above-4-base*basePlace-class)        // below all names
			l = append(l, above+4+(lastBase+1+base)<<32+class) // above all names
		}
	}
	for _, h := range l {
		if _, is := partsOf(h); is {
			t.Fatalf("%d is a name", h)
		}
		checkNone(t, h)
	}
}

// P8.1: a name with another bit in a place that no part has is none, each such place by itself and each two.
func TestBitsWithoutAPlace(t *testing.T) {
	for _, p := range []parts{{0, 1, 0}, {8, 1, 2}, {40, 77, 1}, {lastBase, lastGen, lastClass}} {
		for i := 48; i < 64; i++ {
			for j := 48; j < 64; j++ {
				h := p.name() ^ 1<<i
				if i != j {
					h ^= 1 << j
				}
				checkNone(t, h)
			}
		}
	}
}

// P8.1: what is one or two bits away from a name, or a power of two.
func TestBitsAway(t *testing.T) {
	for _, p := range []parts{{0, 1, 0}, {0, 1, 3}, {1, 2, 1}, {8, 1, 2}, {32768, 1 << 29, 0}, {lastBase, 1, 0}, {lastBase, lastGen, lastClass}} {
		h := p.name()
		for i := range 64 {
			for j := range 64 {
				checkOpen(t, h^1<<i^1<<j)
			}
			checkOpen(t, h^1<<i)
			checkOpen(t, h+1<<i)
			checkOpen(t, h-1<<i)
		}
	}
}

// P8.1, P8.2: numbers in a row around the first name, the last one, and where the base goes on: each is opened as the division tells.
func TestNumbersInARow(t *testing.T) {
	for _, near := range []int{0, above, above + basePlace, above + 8*basePlace, above + lastBase*basePlace, above + (lastBase+1)*basePlace, 2 * above, math.MinInt + above} {
		for by := -5000; by <= 5000; by++ {
			checkOpen(t, near+by)
		}
		if t.Failed() {
			return
		}
	}
}

// P8.1, P8.2: any parts, and any numbers, near names and not.
func TestAny(t *testing.T) {
	r := rand.New(rand.NewSource(8))
	for range 200000 {
		checkPack(t, parts{r.Intn(lastBase + 1), 1 + r.Intn(lastGen), r.Intn(Classes)})
		checkPack(t, parts{int(r.Uint64()) >> r.Intn(64), int(r.Uint64()) >> r.Intn(64), int(r.Uint64()) >> (56 + r.Intn(8))})
		checkOpen(t, int(r.Uint64())>>r.Intn(64))
		checkOpen(t, above+int(r.Uint64()>>(12+r.Intn(52))))
		if t.Failed() {
			return
		}
	}
}

// R4: what is answered hangs on the arguments alone, whatever was asked in between.
func TestAnswersShareNothing(t *testing.T) {
	type answers struct {
		size, h, base, gen, class int
		ok                        bool
	}
	ask := func(p parts) (x answers) {
		x.size, x.h = Size(p.class), Pack(p.base, p.gen, p.class)
		x.base, x.gen, x.class, x.ok = Open(p.class + genPlace*p.gen + basePlace*p.base + above)
		return x
	}
	l := []parts{{0, 1, 0}, {0, 0, 0}, {8, 5, 2}, {-1, 1, 1}, {lastBase, lastGen, lastClass}, {lastBase + 1, 1, 0}, {0, lastGen + 1, 0}, {0, 1, lastClass + 1}}
	var first []answers
	for _, p := range l {
		first = append(first, ask(p))
	}
	for i := len(l) - 1; i >= 0; i-- {
		if ask(l[i]) != first[i] {
			t.Errorf("%v: another answer", l[i])
		}
	}
}
