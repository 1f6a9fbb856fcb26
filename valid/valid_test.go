package valid

import (
	"math"
	"math/rand"
	"slices"
	"testing"

	"magpie/api"
	"magpie/code"
)

// The document's numbers, written out apart from the package's.
const (
	maxFuncs = 12
	maxCode  = 40
	maxFuts  = 16
)

var (
	ret   = api.Ins{Op: api.Ret}
	yield = api.Ins{Op: api.Yield}
)

func jump(place int) api.Ins { return api.Ins{Op: api.Jump, A: place} }

func zero(place int) api.Ins { return api.Ins{Op: api.Zero, A: 7, B: place} }

func fork(function int) api.Ins { return api.Ins{Op: api.Fork, A: 3, B: function, C: 7} }

func set(future int) api.Ins { return api.Ins{Op: api.Set, A: future, B: 7} }

func get(future int) api.Ins { return api.Ins{Op: api.Get, A: 7, B: future} }

// of is a program with two futures, right but for what its functions are.
func of(funcs ...[]api.Ins) api.Prog { return withFutures(2, funcs...) }

func withFutures(n int, funcs ...[]api.Ins) api.Prog {
	return api.Prog{Futs: n, Fuel: 9, Depth: 2, Funcs: funcs}
}

func one(l ...api.Ins) api.Prog { return of(l) }

// padded is a function of that many instructions: the first ones are given, the last one is a Ret, between them nothing is done.
func padded(n int, first ...api.Ins) []api.Ins {
	f := slices.Repeat([]api.Ins{yield}, n)
	copy(f, first)
	f[n-1] = ret
	return f
}

// several are n functions: the first one is given, the others do nothing.
func several(n int, first []api.Ins) [][]api.Ins {
	l := slices.Repeat([][]api.Ins{{ret}}, n)
	l[0] = first
	return l
}

// eachOnce is a function with an instruction of each Op that may run with two futures, in a program of any size.
func eachOnce() []api.Ins {
	return []api.Ins{
		{Op: 1, A: 7, B: -1 << 31}, {Op: 2, A: 7, B: 7, C: 7}, {Op: 3, A: 6, B: 7, C: 1}, {Op: 4, A: 7, B: 7, C: 7}, {Op: 5, A: 7, B: 7, C: 7},
		{Op: 6, A: 7, B: 7, C: 7}, {Op: 7, A: 14}, {Op: 8, A: 7, B: 14}, {Op: 9, A: 3, B: 0, C: 7}, {Op: 10, A: 7, B: 3},
		{Op: 11, A: 1, B: 7}, {Op: 12, A: 7, B: 1}, {Op: 13, A: 3}, {Op: 14}, {Op: 15, A: 7},
	}
}

type row struct {
	p    api.Prog
	want api.Errno
}

func checkRows(t *testing.T, rows []row) {
	t.Helper()
	for k, r := range rows {
		if got := Check(r.p); got != r.want {
			t.Errorf("%d: Check(%v) = %d, want %d", k, r.p, got, r.want)
		}
	}
}

// P5.1: each instruction that may run, alone and together with all others.
func TestCheckTakesEachInstruction(t *testing.T) {
	for k, i := range eachOnce() {
		if i.Op != k+1 {
			t.Fatalf("row %d has Op %d", k, i.Op)
		}
		checkRows(t, []row{{of(padded(15, i)), api.OK}, {of([]api.Ins{ret}, padded(15, yield, i)), api.OK}})
	}
	checkRows(t, []row{
		{one(ret), api.OK},
		{of(eachOnce()), api.OK},
		{of(eachOnce(), eachOnce(), []api.Ins{ret}), api.OK},
		{withFutures(0, []api.Ins{ret}), api.OK},
		{withFutures(maxFuts, padded(maxCode)), api.OK},
		{of(several(maxFuncs, padded(maxCode))...), api.OK},
	})
}

// P5.1: no function; a function with no instruction, wherever it stands.
func TestCheckOfNothing(t *testing.T) {
	checkRows(t, []row{
		{of(), api.ErrCode},
		{api.Prog{Fuel: 1, Funcs: [][]api.Ins{}}, api.ErrCode},
		{one(), api.ErrCode},
		{of([]api.Ins{}), api.ErrCode},
		{of(nil, []api.Ins{ret}), api.ErrCode},
		{of([]api.Ins{ret}, nil), api.ErrCode},
		{of([]api.Ins{ret}, nil, []api.Ins{ret}), api.ErrCode},
		{of([]api.Ins{fork(1), ret}, nil), api.ErrCode},
		{of(make([][]api.Ins, maxFuncs)...), api.ErrCode},
	})
}

// P5.1: a last instruction of each kind, in a function of one, of many, and in a later function.
func TestCheckOfEachLastInstruction(t *testing.T) {
	for _, i := range eachOnce() {
		if i.Op == api.Jump || i.Op == api.Zero {
			continue
		}
		want := api.ErrCode
		if i.Op == api.Ret {
			want = api.OK
		}
		checkRows(t, []row{{one(i), want}, {one(ret, i), want}, {one(jump(0), i), want}, {of([]api.Ins{ret}, []api.Ins{yield, i}), want}, {of([]api.Ins{ret, i}, []api.Ins{ret}), want}})
	}
	checkRows(t, []row{
		{one(jump(0)), api.OK},
		{one(ret, jump(0)), api.OK},
		{one(ret, jump(1)), api.OK},
		{of([]api.Ins{ret}, []api.Ins{yield, jump(1)}), api.OK},
		{one(zero(0)), api.ErrCode},
		{one(ret, zero(0)), api.ErrCode},
		{of([]api.Ins{ret}, []api.Ins{yield, zero(1)}), api.ErrCode},
	})
}

// P5.1: a place at the function's last one and one beyond; the function is the one that the place stands in.
func TestCheckOfPlaces(t *testing.T) {
	for _, n := range []int{2, 3, 20, maxCode - 1, maxCode} {
		for _, to := range []func(int) api.Ins{jump, zero} {
			checkRows(t, []row{{of(padded(n, to(0))), api.OK}, {of(padded(n, to(n-1))), api.OK}})
			if n == maxCode {
				continue
			}
			checkRows(t, []row{
				{of(padded(n, to(n))), api.ErrCode},
				{of(padded(n, to(maxCode-1))), api.ErrCode},
				{of(padded(n), padded(n, to(n))), api.ErrCode},
				{of(padded(n, to(n)), padded(n+1)), api.ErrCode},
				{of(padded(n+1), padded(n, to(n))), api.ErrCode},
				{of(padded(n+1, to(n)), padded(n)), api.OK},
				{of(padded(n), padded(n+1, to(n))), api.OK},
			})
		}
	}
	checkRows(t, []row{{one(jump(1)), api.ErrCode}, {one(ret, jump(2)), api.ErrCode}, {one(zero(2), jump(2)), api.ErrCode}})
}

// P5.1: a function at the program's last one and one beyond.
func TestCheckOfFunctions(t *testing.T) {
	for _, n := range []int{1, 2, 7, maxFuncs - 1, maxFuncs} {
		checkRows(t, []row{{of(several(n, []api.Ins{fork(0), ret})...), api.OK}, {of(several(n, []api.Ins{fork(n - 1), ret})...), api.OK}})
		if n == maxFuncs {
			continue
		}
		wrong := several(n, padded(maxCode, fork(n)))
		checkRows(t, []row{{of(wrong...), api.ErrCode}, {of(several(n, []api.Ins{fork(maxFuncs - 1), ret})...), api.ErrCode}})
		slices.Reverse(wrong)
		checkRows(t, []row{{of(wrong...), api.ErrCode}})
	}
}

// P5.1: a future one below Futs and at Futs.
func TestCheckOfFutures(t *testing.T) {
	for n := 0; n <= maxFuts; n++ {
		for _, use := range []func(int) api.Ins{set, get} {
			for f := range maxFuts {
				want := api.OK
				if f >= n {
					want = api.ErrCode
				}
				checkRows(t, []row{{withFutures(n, []api.Ins{use(f), ret}), want}, {withFutures(n, padded(maxCode), []api.Ins{ret, use(f), ret}), want}})
			}
		}
	}
}

// P5.1: an operand that is no place, no function and no future is held against none of them.
func TestCheckOfOtherOperands(t *testing.T) {
	for _, i := range eachOnce() {
		switch i.Op {
		case api.Jump, api.Zero, api.Set, api.Get:
		default:
			checkRows(t, []row{{withFutures(0, []api.Ins{i, ret}), api.OK}})
		}
	}
	checkRows(t, []row{
		{one(zero(1), ret), api.OK},
		{withFutures(1, []api.Ins{set(0), ret}), api.OK},
		{withFutures(1, []api.Ins{get(0), ret}), api.OK},
		{one(fork(0), ret), api.OK},
	})
}

// refused are programs that code's Put refuses, with its error.
func refused() []row {
	l := []row{
		{api.Prog{Funcs: [][]api.Ins{{ret}}}, api.ErrArg},
		{api.Prog{Fuel: -1, Funcs: [][]api.Ins{{ret}}}, api.ErrArg},
		{api.Prog{Fuel: 501, Funcs: [][]api.Ins{{ret}}}, api.ErrArg},
		{api.Prog{Fuel: math.MinInt, Funcs: [][]api.Ins{{ret}}}, api.ErrArg},
		{api.Prog{Fuel: 1, Depth: -1, Funcs: [][]api.Ins{{ret}}}, api.ErrArg},
		{api.Prog{Fuel: 1, Depth: 6, Funcs: [][]api.Ins{{ret}}}, api.ErrArg},
		{withFutures(-1, []api.Ins{ret}), api.ErrArg},
		{withFutures(17, []api.Ins{ret}), api.ErrArg},
		{withFutures(math.MaxInt, []api.Ins{set(15), ret}), api.ErrArg},
		{of(several(maxFuncs+1, []api.Ins{ret})...), api.ErrBig},
		{of(padded(maxCode + 1)), api.ErrBig},
		{of([]api.Ins{ret}, padded(maxCode+1)), api.ErrBig},
		{of(padded(maxCode+1, ret, api.Ins{})), api.ErrBig},
	}
	for _, i := range []api.Ins{
		{}, {Op: -1}, {Op: 16}, {Op: math.MaxInt}, {Op: math.MinInt}, {Op: api.Yield, C: 1}, {Op: api.Ret, A: 8}, {Op: api.Ret, B: 1}, {Op: api.Const, B: 1 << 31},
		jump(-1), jump(maxCode), jump(math.MinInt), zero(-1), zero(maxCode), fork(-1), fork(maxFuncs), fork(math.MaxInt), set(-1), set(maxFuts), get(-1), get(maxFuts), {Op: api.Cancel, A: 4},
	} {
		l = append(l, row{one(i, ret), api.ErrArg}, row{one(ret, i), api.ErrArg}, row{of([]api.Ins{ret}, []api.Ins{i, ret}), api.ErrArg})
	}
	return l
}

func TestCheckTellsPutsError(t *testing.T) {
	checkRows(t, refused())
}

// P5.1: Put's error comes first, where something of this layer is wrong besides, ahead of it or behind it.
func TestCheckTellsPutsErrorFirst(t *testing.T) {
	wrongs := [][]api.Ins{nil, {yield}, {jump(1)}, {zero(2), ret}, {fork(11), ret}, {set(15), ret}, {get(15), ret}}
	for _, w := range wrongs {
		checkRows(t, []row{{withFutures(0, w), api.ErrCode}})
		for _, r := range refused() {
			front, back := r.p, r.p
			front.Funcs = append([][]api.Ins{w}, r.p.Funcs...)
			back.Funcs = append(slices.Clone(r.p.Funcs), w)
			checkRows(t, []row{{front, r.want}, {back, r.want}})
		}
	}
	checkRows(t, []row{
		{api.Prog{}, api.ErrArg},
		{api.Prog{Futs: 17, Fuel: 1}, api.ErrArg},
		{api.Prog{Fuel: 1, Funcs: make([][]api.Ins, maxFuncs+1)}, api.ErrBig},
		{api.Prog{Funcs: [][]api.Ins{nil}}, api.ErrArg},
		{one(jump(1), api.Ins{Op: 16}), api.ErrArg},
		{of(slices.Repeat([]api.Ins{yield}, maxCode+1)), api.ErrBig},
	})
}

// mayRun is the document's list, read over once more without the package's help; Put is asked, as the document asks it.
func mayRun(p api.Prog) api.Errno {
	if _, e := code.Put(p); e != api.OK {
		return e
	}
	wrong := len(p.Funcs) == 0
	for _, f := range p.Funcs {
		wrong = wrong || len(f) == 0 || f[len(f)-1].Op != 7 && f[len(f)-1].Op != 15
		for _, i := range f {
			switch i.Op {
			case 7:
				wrong = wrong || i.A > len(f)-1
			case 8:
				wrong = wrong || i.B > len(f)-1
			case 9:
				wrong = wrong || i.B > len(p.Funcs)-1
			case 11:
				wrong = wrong || i.A > p.Futs-1
			case 12:
				wrong = wrong || i.B > p.Futs-1
			}
		}
	}
	if wrong {
		return api.ErrCode
	}
	return api.OK
}

// leaves tells whether a walk from some function's front on comes where no instruction is, or asks for a function or a future that is none; it goes both ways at a Zero, and into all that is forked.
func leaves(p api.Prog) bool {
	type spot struct{ function, place int }
	seen := map[spot]bool{}
	work := []spot{{0, 0}}
	for k := range p.Funcs {
		work = append(work, spot{k, 0})
	}
	for len(work) > 0 {
		s := work[0]
		work = work[1:]
		if seen[s] {
			continue
		}
		seen[s] = true
		if s.function < 0 || s.function >= len(p.Funcs) || s.place < 0 || s.place >= len(p.Funcs[s.function]) {
			return true
		}
		i := p.Funcs[s.function][s.place]
		next := spot{s.function, s.place + 1}
		switch i.Op {
		case api.Ret:
		case api.Jump:
			work = append(work, spot{s.function, i.A})
		case api.Zero:
			work = append(work, next, spot{s.function, i.B})
		case api.Fork:
			work = append(work, next, spot{i.B, 0})
		case api.Set, api.Get:
			future := i.A
			if i.Op == api.Get {
				future = i.B
			}
			if future < 0 || future >= p.Futs {
				return true
			}
			work = append(work, next)
		default:
			work = append(work, next)
		}
	}
	return false
}

// letters are instructions of all kinds that Check asks about, with numbers at the edges of small programs, and one that Put refuses.
func letters() []api.Ins {
	l := []api.Ins{yield, ret, {Op: api.Ret, A: 8}}
	for n := range 4 {
		l = append(l, jump(n), zero(n))
	}
	for n := range 3 {
		l = append(l, fork(n), set(n))
	}
	return append(l, get(0), get(1))
}

// bodies are all functions of at most n of the letters.
func bodies(n int) [][]api.Ins {
	all := [][]api.Ins{nil}
	last := all
	for range n {
		var longer [][]api.Ins
		for _, f := range last {
			for _, i := range letters() {
				longer = append(longer, append(slices.Clone(f), i))
			}
		}
		all, last = append(all, longer...), longer
	}
	return all
}

// tellsRight holds Check against the document's list and, of what it lets through, against a walk.
func tellsRight(t *testing.T, p api.Prog) {
	t.Helper()
	got := Check(p)
	if want := mayRun(p); got != want {
		t.Fatalf("Check(%v) = %d, want %d", p, got, want)
	}
	if got == api.OK && leaves(p) {
		t.Fatalf("Check lets %v through, which leaves its code", p)
	}
}

// P5.1, P5.2: all small programs.
func TestCheckOfAllSmallPrograms(t *testing.T) {
	for futs := range 3 {
		tellsRight(t, withFutures(futs))
		for _, f := range bodies(3) {
			tellsRight(t, withFutures(futs, f))
		}
	}
	for _, f := range bodies(2) {
		for _, g := range bodies(2) {
			tellsRight(t, withFutures(1, f, g))
		}
	}
}

// someProgram is a program that may run, but for one number that it may have been given anew.
func someProgram(r *rand.Rand) api.Prog {
	p := withFutures(1+r.Intn(maxFuts), make([][]api.Ins, 1+r.Intn(maxFuncs))...)
	for k := range p.Funcs {
		n := 1 + r.Intn(maxCode)
		f := padded(n)
		for j := range n - 1 {
			f[j] = []api.Ins{yield, ret, jump(r.Intn(n)), zero(r.Intn(n)), fork(r.Intn(len(p.Funcs))), set(r.Intn(p.Futs)), get(r.Intn(p.Futs))}[r.Intn(7)]
		}
		p.Funcs[k] = f
	}
	f := p.Funcs[r.Intn(len(p.Funcs))]
	j := r.Intn(len(f))
	switch r.Intn(3) {
	case 0:
		f[j] = []api.Ins{jump(len(f) - r.Intn(2)), zero(len(f) - r.Intn(2)), fork(len(p.Funcs) - r.Intn(2)), set(p.Futs - r.Intn(2)), get(p.Futs - r.Intn(2))}[r.Intn(5)]
	case 1:
		f[len(f)-1] = yield
	}
	return p
}

// P5.1, P5.2: programs of all sizes.
func TestCheckOfSomePrograms(t *testing.T) {
	r := rand.New(rand.NewSource(5))
	told := map[api.Errno]int{}
	for range 20000 {
		p := someProgram(r)
		tellsRight(t, p)
		told[Check(p)]++
	}
	if told[api.OK] < 1000 || told[api.ErrCode] < 1000 {
		t.Errorf("the programs are too much of one kind: %v", told)
	}
}

// P5.2: what leaves its code is refused: behind the last instruction, by a jump on either way of a Zero, in what is forked.
func TestCheckRefusesWhatLeaves(t *testing.T) {
	for _, p := range []api.Prog{
		of(),
		one(),
		one(yield),
		one(zero(0)),
		one(jump(1)),
		one(zero(2), ret),
		one(zero(1), yield),
		one(jump(2), ret),
		one(fork(1), ret),
		one(set(2), ret),
		one(get(2), ret),
		of([]api.Ins{fork(1), ret}, nil),
		of([]api.Ins{fork(1), ret}, []api.Ins{yield}),
		of([]api.Ins{fork(1), jump(0)}, []api.Ins{fork(2), ret}),
	} {
		if !leaves(p) {
			t.Errorf("the walk does not leave %v", p)
		}
		if got := Check(p); got != api.ErrCode {
			t.Errorf("Check(%v) = %d, want ErrCode", p, got)
		}
	}
}

// P5.1: Forks, of programs that may run and of such as may not.
func TestForks(t *testing.T) {
	for k, x := range []struct {
		p    api.Prog
		want []int
	}{
		{api.Prog{}, nil},
		{of(), nil},
		{one(), []int{0}},
		{one(ret), []int{0}},
		{one(fork(0), ret), []int{1}},
		{one(ret, fork(0)), []int{1}},
		{one(fork(0), yield, fork(0), fork(11), ret), []int{3}},
		{one(fork(99), api.Ins{Op: api.Fork, A: -1}), []int{2}},
		{of(eachOnce()), []int{1}},
		{of(nil, []api.Ins{fork(0), fork(1), ret}, []api.Ins{ret}, []api.Ins{fork(3), ret}), []int{0, 2, 0, 1}},
		{of([]api.Ins{fork(1), fork(1), ret}, nil), []int{2, 0}},
		{of(slices.Repeat([]api.Ins{fork(0)}, maxCode)), []int{maxCode}},
		{of(slices.Repeat([]api.Ins{fork(0)}, 1000), []api.Ins{ret}), []int{1000, 0}},
		{api.Prog{Fuel: -1, Futs: -1, Depth: 99, Funcs: several(100, []api.Ins{fork(0)})}, append([]int{1}, make([]int, 99)...)},
	} {
		if got := Forks(x.p); !slices.Equal(got, x.want) {
			t.Errorf("%d: Forks = %v, want %v", k, got, x.want)
		}
	}
}

// P5.1: Cancels, of programs that may run and of such as may not.
func TestCancels(t *testing.T) {
	cancel := api.Ins{Op: api.Cancel, A: 1}
	for k, x := range []struct {
		p    api.Prog
		want bool
	}{
		{api.Prog{}, false},
		{of(), false},
		{one(), false},
		{one(ret), false},
		{of(padded(maxCode), nil, padded(3, fork(0))), false},
		{one(cancel), true},
		{one(cancel, ret), true},
		{one(ret, cancel), true},
		{of(padded(maxCode), nil, []api.Ins{ret, cancel, ret}, []api.Ins{ret}), true},
		{of([]api.Ins{cancel, ret}, []api.Ins{ret}), true},
		{of([]api.Ins{ret}, []api.Ins{yield, cancel}), true},
		{one(api.Ins{Op: api.Cancel, A: 99}), true},
		{one(append(slices.Repeat([]api.Ins{yield}, 1000), cancel)...), true},
		{one(slices.Repeat([]api.Ins{yield}, 1000)...), false},
		{api.Prog{Fuel: -1, Funcs: append(make([][]api.Ins, 99), []api.Ins{cancel})}, true},
	} {
		if got := Cancels(x.p); got != x.want {
			t.Errorf("%d: Cancels = %t, want %t", k, got, x.want)
		}
	}
}

// P5.1: no instruction but Fork is counted, none but Cancel cancels.
func TestForksAndCancelsByOp(t *testing.T) {
	for op := -1; op <= 17; op++ {
		p := one(api.Ins{Op: op})
		count := 0
		if op == 9 {
			count = 1
		}
		if got := Forks(p); !slices.Equal(got, []int{count}) {
			t.Errorf("Forks of Op %d = %v", op, got)
		}
		if got := Cancels(p); got != (op == 13) {
			t.Errorf("Cancels of Op %d = %t", op, got)
		}
	}
}

// R3, R4: what is handed in is not changed, lists are new memory, and the answer is the same each time.
func TestAnswersShareNothing(t *testing.T) {
	p := of(eachOnce(), []api.Ins{fork(0), fork(1), ret}, nil)
	q := of(eachOnce(), []api.Ins{fork(0), fork(1), ret}, nil)
	a, b := Forks(p), Forks(p)
	for spare, k := a[:cap(a)], 0; k < len(spare); k++ {
		spare[k] = 99
	}
	if want := []int{1, 2, 0}; !slices.Equal(b, want) || !slices.Equal(Forks(p), want) {
		t.Error("an answer hangs on another")
	}
	for range 2 {
		if Check(p) != api.ErrCode || !Cancels(p) {
			t.Error("an answer hangs on what was asked before")
		}
	}
	if !slices.EqualFunc(p.Funcs, q.Funcs, slices.Equal[[]api.Ins]) || p.Futs != q.Futs || p.Depth != q.Depth || p.Fuel != q.Fuel {
		t.Error("the argument was changed")
	}
}
