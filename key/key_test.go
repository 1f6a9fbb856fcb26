package key

import (
	"math"
	"math/rand"
	"slices"
	"testing"
)

// The document's numbers, written out apart from the package's.
const (
	root     = 1125899906842624 // 2^50
	maxForks = 1000
	maxDepth = 5
)

// places are what a fork's number is taken times, from the first fork down: 2^40, 2^30, 2^20, 2^10, 1.
var places = [maxDepth]int{1099511627776, 1073741824, 1048576, 1024, 1}

// number is Root and each fork's number times its place, whether that is a key or not.
func number(way ...int) int {
	sum := root
	for i, n := range way {
		sum += n * places[i]
	}
	return sum
}

// wayOf reads a number over by division alone: the forks on the way down; false if it is no key.
func wayOf(k int) ([]int, bool) {
	if k < root || k >= 2*root {
		return nil, false
	}
	rest := k - root
	var way []int
	for _, place := range places {
		n := rest / place
		rest -= n * place
		if n == 0 {
			return way, rest == 0
		}
		if n > maxForks {
			return nil, false
		}
		way = append(way, n)
	}
	return way, true
}

// belowWay tells whether way a goes on where way b ends.
func belowWay(a, b []int) bool {
	return len(a) > len(b) && slices.Equal(a[:len(b)], b)
}

// isNone are numbers of every kind that is no key.
func isNone() []int {
	l := []int{
		0, 1, -1, 2, 5, 1000, math.MinInt, math.MinInt + 1, math.MaxInt, math.MaxInt - 1, math.MinInt + root, math.MinInt + root + places[0],
		root - 1, root / 2, root/2 + places[0], places[0], -root, -root + places[0], -root - places[0],
		2 * root, 2*root - 1, 2*root + 1, 2*root + places[0], 3 * root, 3*root + places[0], 4 * root, 5 * root, 5*root + 7*places[0], root << 10, root<<12 | root, math.MinInt | root,
		// gaps: in each place that has another below it
		number(0, 1), number(0, 0, 1), number(0, 0, 0, 1), number(0, 0, 0, 0, 1), number(0, 1, 1, 1, 1), number(0, 1000),
		number(1, 0, 1), number(1, 0, 0, 1), number(1, 0, 0, 0, 1), number(1, 0, 1, 1, 1),
		number(1, 2, 0, 1), number(1, 2, 0, 0, 1), number(1, 2, 0, 1, 1), number(1, 2, 3, 0, 1), number(1000, 1000, 1000, 0, 1000), number(1, 0, 3, 0, 5),
		number(-1), number(1, -1), number(1, 1, -1), number(1, 1, 1, 1, -1),
	}
	for depth := range maxDepth {
		for _, n := range []int{maxForks + 1, maxForks + 2, 1022, 1023} {
			way := []int{1, 2, 3, 4, 5}[:depth+1]
			way[depth] = n
			l = append(l, number(way...))
			if depth > 0 {
				l = append(l, number(slices.Repeat([]int{n}, depth+1)...))
			}
			l = append(l, number(append(way, slices.Repeat([]int{1}, maxDepth-depth-1)...)...))
		}
	}
	return l
}

// ways are some of every depth, with the edges of a fork's number in each place.
func ways() [][]int {
	l := [][]int{{}}
	for i := 0; i < len(l); i++ {
		if len(l[i]) == maxDepth {
			continue
		}
		for _, n := range []int{1, 2, 999, 1000} {
			l = append(l, append(slices.Clone(l[i]), n))
		}
	}
	return l
}

// checkOne holds all that is asked of one number against its way read over by division.
func checkOne(t *testing.T, k int) {
	t.Helper()
	way, ok := wayOf(k)
	if Check(k) != ok {
		t.Errorf("Check(%d) = %v, want %v", k, Check(k), ok)
	}
	if Depth(k) != len(way) && ok || Depth(k) != 0 && !ok {
		t.Errorf("Depth(%d) = %d, want %d, %v", k, Depth(k), len(way), ok)
	}
	parent, n := 0, 0
	has := ok && len(way) > 0
	if has {
		parent, n = number(way[:len(way)-1]...), way[len(way)-1]
	}
	if p, m, is := Parent(k); p != parent || m != n || is != has {
		t.Errorf("Parent(%d) = %d, %d, %v, want %d, %d, %v", k, p, m, is, parent, n, has)
	}
	for _, n := range []int{math.MinInt, -1 << 40, -1001, -1000, -1, 0, 1, 2, 512, 999, 1000, 1001, 1023, 1024, 1025, 1 << 20, 1<<40 + 1, 1 << 62, 1<<62 + 1, math.MaxInt} {
		may := ok && len(way) < maxDepth && 1 <= n && n <= maxForks
		want := 0
		if may {
			want = number(append(slices.Clone(way), n)...)
		}
		if c, is := Child(k, n); c != want || is != may {
			t.Errorf("Child(%d, %d) = %d, %v, want %d, %v", k, n, c, is, want, may)
		}
	}
}

// checkPair holds Under and Ahead of two numbers against their ways: of two ways that part, the one with the lesser fork there is less.
func checkPair(t *testing.T, a, b int) {
	t.Helper()
	wayA, okA := wayOf(a)
	wayB, okB := wayOf(b)
	both := okA && okB
	under := both && belowWay(wayA, wayB)
	ahead := under || both && !belowWay(wayB, wayA) && slices.Compare(wayA, wayB) < 0
	if Under(a, b) != under {
		t.Errorf("Under(%d, %d) = %v, want %v (%v, %v)", a, b, Under(a, b), under, wayA, wayB)
	}
	if Ahead(a, b) != ahead {
		t.Errorf("Ahead(%d, %d) = %v, want %v (%v, %v)", a, b, Ahead(a, b), ahead, wayA, wayB)
	}
}

// P6.1: Root and each fork's number times its place, told number by number.
func TestKeysWrittenOut(t *testing.T) {
	if Root != root {
		t.Fatalf("Root is %d", Root)
	}
	rows := []struct {
		key, parent, n, depth int
	}{
		{root + 1099511627776, root, 1, 1},
		{root + 1000*1099511627776, root, 1000, 1},
		{root + 1099511627776 + 1073741824, root + 1099511627776, 1, 2},
		{root + 3*1099511627776 + 7*1073741824, root + 3*1099511627776, 7, 2},
		{root + 1000*1099511627776 + 2*1073741824 + 3*1048576, root + 1000*1099511627776 + 2*1073741824, 3, 3},
		{root + 1099511627776 + 2*1073741824 + 3*1048576 + 4*1024, root + 1099511627776 + 2*1073741824 + 3*1048576, 4, 4},
		{root + 1099511627776 + 2*1073741824 + 3*1048576 + 4*1024 + 1000, root + 1099511627776 + 2*1073741824 + 3*1048576 + 4*1024, 1000, 5},
	}
	for _, r := range rows {
		if c, ok := Child(r.parent, r.n); c != r.key || !ok {
			t.Errorf("Child(%d, %d) = %d, %v, want %d", r.parent, r.n, c, ok, r.key)
		}
		if p, n, ok := Parent(r.key); p != r.parent || n != r.n || !ok {
			t.Errorf("Parent(%d) = %d, %d, %v, want %d, %d", r.key, p, n, ok, r.parent, r.n)
		}
		if !Check(r.key) || Depth(r.key) != r.depth {
			t.Errorf("%d: %v, depth %d, want %d", r.key, Check(r.key), Depth(r.key), r.depth)
		}
	}
}

// P6.1, P6.2: Root is a key of depth 0 without a parent; all other keys are under it and ahead of it.
func TestRootByItself(t *testing.T) {
	if !Check(Root) || Depth(Root) != 0 {
		t.Errorf("Root: %v, depth %d", Check(Root), Depth(Root))
	}
	if p, n, ok := Parent(Root); p != 0 || n != 0 || ok {
		t.Errorf("Parent(Root) = %d, %d, %v", p, n, ok)
	}
	if Under(Root, Root) || Ahead(Root, Root) {
		t.Error("Root is under itself, or ahead of itself")
	}
	for _, way := range ways()[1:] {
		k := number(way...)
		if !Under(k, Root) || !Ahead(k, Root) || Under(Root, k) || Ahead(Root, k) {
			t.Errorf("%v and Root", way)
		}
	}
}

// P6.1: each fork of a key of each depth, from one below the first to one beyond the last; a key of MaxDepth has none.
func TestEachForkOfEachDepth(t *testing.T) {
	for depth := range maxDepth + 1 {
		for _, n := range []int{1, 2, 999, 1000} {
			way := slices.Repeat([]int{n}, depth)
			k := number(way...)
			for fork := -1; fork <= maxForks+30; fork++ {
				want, may := 0, depth < maxDepth && 1 <= fork && fork <= maxForks
				if may {
					want = number(append(slices.Clone(way), fork)...)
				}
				got, ok := Child(k, fork)
				if got != want || ok != may {
					t.Fatalf("Child of %v, %d: %d, %v, want %d, %v", way, fork, got, ok, want, may)
				}
				if p, m, has := Parent(got); may && (p != k || m != fork || !has || Depth(got) != depth+1) {
					t.Fatalf("Parent of Child of %v, %d: %d, %d, %v", way, fork, p, m, has)
				}
			}
		}
	}
}

// P6.1: every number made of the edges of a fork's number in all places, gaps and too great ones among them, beneath tops that are Root and that are not.
func TestEveryMixOfPlaces(t *testing.T) {
	edges := []int{0, 1, 2, 999, 1000, 1001, 1023}
	keys := 0
	for _, top := range []int{math.MinInt, -2 * root, -root, 0, root, 2 * root, 3 * root, math.MinInt + root} {
		for i := range 16807 { // 7^5
			k := top
			for _, place := range places {
				k += edges[i%7] * place
				i /= 7
			}
			checkOne(t, k)
			if Check(k) {
				keys++
			}
		}
	}
	if want := 1 + 4 + 16 + 64 + 256 + 1024; keys != want {
		t.Errorf("%d keys, want %d", keys, want)
	}
}

// P6.1: what is one or two bits away from a key.
func TestBitsAway(t *testing.T) {
	for _, way := range [][]int{{}, {1}, {1000}, {512, 1}, {1, 2, 3}, {1000, 1000, 1000, 1000}, {1, 1, 1, 1, 1}, {1000, 1000, 1000, 1000, 1000}} {
		k := number(way...)
		for i := range 64 {
			for j := range 64 {
				checkOne(t, k^1<<i^1<<j)
			}
			checkOne(t, k^1<<i)
			checkOne(t, k+1<<i)
			checkOne(t, k-1<<i)
		}
	}
}

// P6.1: what is no key is refused by each call, with nothing beside the false.
func TestWhatIsNoKey(t *testing.T) {
	for _, k := range isNone() {
		if _, ok := wayOf(k); ok {
			t.Fatalf("%d is a key", k)
		}
		if Check(k) || Depth(k) != 0 {
			t.Errorf("%d: %v, depth %d", k, Check(k), Depth(k))
		}
		if p, n, ok := Parent(k); p != 0 || n != 0 || ok {
			t.Errorf("Parent(%d) = %d, %d, %v", k, p, n, ok)
		}
		for _, n := range []int{math.MinInt, -1, 0, 1, 2, 1000, 1001, math.MaxInt} {
			if c, ok := Child(k, n); c != 0 || ok {
				t.Errorf("Child(%d, %d) = %d, %v", k, n, c, ok)
			}
		}
	}
}

// P6.2: with a number that is no key in either place, or in both, neither holds.
func TestNoOrderWithoutKeys(t *testing.T) {
	none := isNone()
	keys := []int{root, number(1), number(2), number(1000), number(1, 2), number(1, 2, 3), number(1, 2, 3, 4), number(1, 2, 3, 4, 5), number(1000, 1000, 1000, 1000, 1000)}
	for _, a := range none {
		for _, b := range append(slices.Clone(keys), none...) {
			if Under(a, b) || Under(b, a) || Ahead(a, b) || Ahead(b, a) {
				t.Errorf("%d and %d: under %v, %v; ahead %v, %v", a, b, Under(a, b), Under(b, a), Ahead(a, b), Ahead(b, a))
			}
		}
	}
}

// P6.2: Under goes down any number of forks, never up, never aside, never to itself.
func TestUnderWrittenOut(t *testing.T) {
	rows := []struct {
		a, b []int
		want bool
	}{
		{[]int{1}, nil, true}, {[]int{1000}, nil, true}, {[]int{1, 2, 3, 4, 5}, nil, true},
		{nil, []int{1}, false}, {nil, nil, false}, {[]int{1}, []int{1}, false}, {[]int{1, 2, 3, 4, 5}, []int{1, 2, 3, 4, 5}, false},
		{[]int{1, 1}, []int{1}, true}, {[]int{1, 1000}, []int{1}, true}, {[]int{1}, []int{1, 1}, false},
		{[]int{2, 1}, []int{1}, false}, {[]int{1, 1}, []int{2}, false}, {[]int{11, 1}, []int{1}, false}, {[]int{513}, []int{1}, false},
		{[]int{1, 2, 3}, []int{1, 2}, true}, {[]int{1, 2, 3}, []int{1, 3}, false}, {[]int{1, 2, 3}, []int{1, 1}, false}, {[]int{1, 2, 3}, []int{2, 2}, false},
		{[]int{1, 2, 3, 4, 5}, []int{1, 2, 3, 4}, true}, {[]int{1, 2, 3, 4, 5}, []int{1, 2, 3, 5}, false}, {[]int{1, 2, 3, 4, 5}, []int{1, 2, 3, 4, 4}, false},
		{[]int{1000, 1000, 1000, 1000, 1000}, []int{1000, 1000, 1000, 1000}, true}, {[]int{1000, 1000, 1000, 1000, 1000}, []int{1000, 1000, 1000, 999}, false},
	}
	for _, r := range rows {
		if got := Under(number(r.a...), number(r.b...)); got != r.want {
			t.Errorf("Under of %v, %v: %v", r.a, r.b, got)
		}
	}
}

// P6.2: Under is Child, or Child of one that is: asked of Parent again and again.
func TestUnderIsParentOfParents(t *testing.T) {
	l := ways()
	for i := 0; i < len(l); i += 3 {
		k := number(l[i]...)
		above := map[int]bool{}
		p, _, ok := Parent(k)
		for up := 0; ok && up <= maxDepth; up++ {
			above[p] = true
			p, _, ok = Parent(p)
		}
		if len(above) != len(l[i]) {
			t.Fatalf("%v has %d above it", l[i], len(above))
		}
		for _, way := range l {
			b := number(way...)
			if Under(k, b) != above[b] {
				t.Fatalf("Under of %v, %v: %v", l[i], way, Under(k, b))
			}
		}
	}
}

// ended are a tree's tasks in the order in which they end, one task after the other: a task runs each fork to its end at once.
func ended(way []int, numbers []int) [][]int {
	var l [][]int
	if len(way) < maxDepth {
		for _, n := range numbers {
			l = append(l, ended(append(slices.Clone(way), n), numbers)...)
		}
	}
	return append(l, way)
}

// P6.2, P6.3: Ahead is the order in which tasks end, one after the other: of each two, one is ahead, the other is not, none of itself.
func TestAheadIsTheOrderOfEnds(t *testing.T) {
	for _, numbers := range [][]int{{1, 2}, {1, 1000}, {1, 2, 1000}, {511, 512, 513}} {
		l := ended(nil, numbers)
		keys := make([]int, len(l))
		for i, way := range l {
			keys[i] = number(way...)
		}
		for i, a := range keys {
			for j, b := range keys {
				if Ahead(a, b) != (i < j) {
					t.Fatalf("Ahead of %v, %v: %v", l[i], l[j], Ahead(a, b))
				}
			}
		}
	}
}

// P6.2: a key that is less is ahead only where neither is under the other: a task's forks are greater than it and ahead of it.
func TestAheadWrittenOut(t *testing.T) {
	rows := []struct {
		a, b []int
		want bool
	}{
		{[]int{1}, nil, true}, {nil, []int{1}, false}, {[]int{1, 2}, []int{1}, true}, {[]int{1}, []int{1, 2}, false},
		{[]int{1}, []int{2}, true}, {[]int{2}, []int{1}, false}, {[]int{1}, []int{1}, false}, {nil, nil, false},
		{[]int{1, 1000}, []int{2}, true}, {[]int{2}, []int{1, 1000}, false}, {[]int{1}, []int{2, 1}, true}, {[]int{2, 1}, []int{1}, false},
		{[]int{1, 2, 3}, []int{1, 3}, true}, {[]int{1, 3}, []int{1, 2, 3}, false}, {[]int{1, 2}, []int{1, 3, 1}, true}, {[]int{1, 3, 1}, []int{1, 2}, false},
		{[]int{1, 2, 3, 4, 5}, []int{1, 2, 3, 4, 6}, true}, {[]int{1, 2, 3, 4, 6}, []int{1, 2, 3, 4, 5}, false},
		{[]int{999, 1000, 1000, 1000, 1000}, []int{1000, 1, 1, 1, 1}, true}, {[]int{1000, 1, 1, 1, 1}, []int{999, 1000, 1000, 1000, 1000}, false},
	}
	for _, r := range rows {
		if got := Ahead(number(r.a...), number(r.b...)); got != r.want {
			t.Errorf("Ahead of %v, %v: %v", r.a, r.b, got)
		}
	}
}

// P6.2, P6.3: each pair of some of every depth with the edges in each place.
func TestEachPairOfEdges(t *testing.T) {
	l := ways()
	for i, way := range l {
		a := number(way...)
		for j := i % 5; j < len(l); j += 5 {
			b := number(l[j]...)
			checkPair(t, a, b)
			checkPair(t, b, a)
			if Ahead(a, b) == Ahead(b, a) && a != b {
				t.Fatalf("%v and %v: ahead both ways, or neither", way, l[j])
			}
		}
		if checkPair(t, a, a); t.Failed() {
			return
		}
	}
}

// randomWay is a way of any depth whose forks are few, so that ways meet, or any.
func randomWay(r *rand.Rand) []int {
	way := make([]int, r.Intn(maxDepth+1))
	for i := range way {
		way[i] = 1 + r.Intn([]int{2, 3, maxForks}[r.Intn(3)])
	}
	return way
}

// P6.1 to P6.3: any ways; one Ahead of another, and that of a third, is Ahead of the third.
func TestAnyKeys(t *testing.T) {
	r := rand.New(rand.NewSource(6))
	for range 20000 {
		a, b, c := number(randomWay(r)...), number(randomWay(r)...), number(randomWay(r)...)
		checkOne(t, a)
		checkPair(t, a, b)
		if a != b && Ahead(a, b) == Ahead(b, a) {
			t.Fatalf("%d and %d: ahead both ways, or neither", a, b)
		}
		if Ahead(a, b) && Ahead(b, c) && !Ahead(a, c) {
			t.Fatalf("%d, %d, %d: no order", a, b, c)
		}
		if t.Failed() {
			return
		}
	}
}

// P6.1, P6.2: any numbers, most of them no keys.
func TestAnyNumbers(t *testing.T) {
	r := rand.New(rand.NewSource(7))
	for range 20000 {
		k := int(r.Uint64()) >> r.Intn(64)
		near := root + int(r.Uint64()>>14)
		checkOne(t, k)
		checkOne(t, near)
		checkPair(t, k, near)
		checkPair(t, near, k)
		checkPair(t, near, number(randomWay(r)...))
		if t.Failed() {
			return
		}
	}
}

// R4: what is answered hangs on the arguments alone, whatever was asked in between.
func TestAnswersShareNothing(t *testing.T) {
	type answers struct {
		check, has, may, under, ahead bool
		depth, parent, n, child       int
	}
	ask := func(a, b int) (x answers) {
		x.check, x.depth = Check(a), Depth(a)
		x.parent, x.n, x.has = Parent(a)
		x.child, x.may = Child(a, 7)
		x.under, x.ahead = Under(a, b), Ahead(a, b)
		return x
	}
	l := append(isNone(), root, number(1), number(1, 2, 3), number(1000, 1000, 1000, 1000, 1000))
	var first []answers
	for i, a := range l {
		first = append(first, ask(a, l[len(l)-1-i]))
	}
	for i := len(l) - 1; i >= 0; i-- {
		if ask(l[i], l[len(l)-1-i]) != first[i] {
			t.Errorf("%d: another answer", l[i])
		}
	}
}
