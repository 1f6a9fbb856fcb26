package eval

import (
	"math"
	"math/rand"
	"slices"
	"testing"

	"magpie/api"
)

func con(reg, n int) api.Ins          { return api.Ins{Op: 1, A: reg, B: n} }
func add(reg, a, b int) api.Ins       { return api.Ins{Op: 2, A: reg, B: a, C: b} }
func sub(reg, a, b int) api.Ins       { return api.Ins{Op: 3, A: reg, B: a, C: b} }
func mul(reg, a, b int) api.Ins       { return api.Ins{Op: 4, A: reg, B: a, C: b} }
func div(reg, a, b int) api.Ins       { return api.Ins{Op: 5, A: reg, B: a, C: b} }
func less(reg, a, b int) api.Ins      { return api.Ins{Op: 6, A: reg, B: a, C: b} }
func jump(place int) api.Ins          { return api.Ins{Op: 7, A: place} }
func zero(reg, place int) api.Ins     { return api.Ins{Op: 8, A: reg, B: place} }
func fork(hand, fn, reg int) api.Ins  { return api.Ins{Op: 9, A: hand, B: fn, C: reg} }
func join(reg, hand int) api.Ins      { return api.Ins{Op: 10, A: reg, B: hand} }
func set(fut, reg int) api.Ins        { return api.Ins{Op: 11, A: fut, B: reg} }
func get(reg, fut int) api.Ins        { return api.Ins{Op: 12, A: reg, B: fut} }
func cancel(hand int) api.Ins         { return api.Ins{Op: 13, A: hand} }
func yield() api.Ins                  { return api.Ins{Op: 14} }
func ret(reg int) api.Ins             { return api.Ins{Op: 15, A: reg} }
func function(l ...api.Ins) []api.Ins { return l }
func gives(v int) api.End             { return api.End{How: endValue, Val: v} }
func fails(how int) api.End           { return api.End{How: how} }
func ran(way path, fn, arg int, e api.End) api.Ran {
	return api.Ran{Key: way.key(), Fn: fn, Arg: arg, End: e}
}

// of is a program with three futures, forks of forks, and fuel for thirty.
func of(funcs ...[]api.Ins) api.Prog {
	return api.Prog{Futs: 3, Depth: 2, Fuel: 30, Funcs: funcs}
}

func withFuel(n int, p api.Prog) api.Prog {
	p.Fuel = n
	return p
}

func withDepth(n int, p api.Prog) api.Prog {
	p.Depth = n
	return p
}

func withFuts(n int, p api.Prog) api.Prog {
	p.Futs = n
	return p
}

// same holds two results against each other; nil and an empty list are one.
func same(a, b Result) bool {
	return a.End == b.End && slices.Equal(a.Ran, b.Ran) && slices.Equal(a.Futs, b.Futs) && slices.Equal(a.Was, b.Was) &&
		a.Steps == b.Steps && a.Forks == b.Forks && a.Over == b.Over
}

// must is what a program that may run comes to, when nothing is left off; it holds against the reference, too.
func must(t *testing.T, p api.Prog, arg int) Result {
	t.Helper()
	r, e := Run(p, arg, maxTotal)
	if want := meant(p, arg, maxTotal); e != api.OK || !same(r, want) {
		t.Errorf("Run(%v, %d) = %v, %d, want %v, 0", p, arg, r, e, want)
	}
	return r
}

type row struct {
	p    api.Prog
	arg  int
	want Result
}

func checkRows(t *testing.T, rows []row) {
	t.Helper()
	for k, x := range rows {
		if r, e := Run(x.p, x.arg, maxTotal); e != api.OK || !same(r, x.want) {
			t.Errorf("%d: Run(%v, %d) = %v, %d, want %v, 0", k, x.p, x.arg, r, e, x.want)
		}
		must(t, x.p, x.arg)
	}
}

// alone is what a root without forks comes to, in a program that sets no future.
func alone(arg int, end api.End, steps int) Result {
	return Result{End: end, Ran: []api.Ran{ran(nil, 0, arg, end)}, Futs: make([]int, 3), Was: make([]bool, 3), Steps: steps}
}

// soloRow is a root of its own, and what it comes to.
type soloRow struct {
	f     []api.Ins
	arg   int
	end   api.End
	steps int
}

func checkSolo(t *testing.T, rows []soloRow) {
	t.Helper()
	for _, x := range rows {
		checkRows(t, []row{{of(x.f), x.arg, alone(x.arg, x.end, x.steps)}})
	}
}

// P7.1: each instruction by itself, of those that neither fork nor ask for a hand or a future.
func TestEachInstruction(t *testing.T) {
	const least, most = -1 << 31, 1<<31 - 1
	checkSolo(t, []soloRow{
		{function(ret(0)), 7, gives(7), 1},
		{function(ret(1)), 7, gives(0), 1},
		{function(ret(7)), 7, gives(0), 1},
		{function(con(0, 5), ret(0)), 7, gives(5), 2},
		{function(con(7, least), ret(7)), 7, gives(least), 2},
		{function(con(7, most), ret(7)), 7, gives(most), 2},
		{function(con(7, 1), ret(0)), 7, gives(7), 2},
		{function(con(1, 3), add(2, 0, 1), ret(2)), 7, gives(10), 3},
		{function(con(1, 1), add(0, 0, 1), ret(0)), most, gives(least), 3},
		{function(con(1, 3), sub(2, 0, 1), ret(2)), 7, gives(4), 3},
		{function(con(1, 3), sub(2, 1, 0), ret(2)), 7, gives(-4), 3},
		{function(con(1, 1), sub(0, 0, 1), ret(0)), least, gives(most), 3},
		{function(con(1, -3), mul(2, 0, 1), ret(2)), 7, gives(-21), 3},
		{function(mul(0, 0, 0), ret(0)), 1 << 16, gives(0), 2},
		{function(mul(0, 0, 0), ret(0)), most, gives(1), 2},
		{function(con(1, 2), div(2, 0, 1), ret(2)), -7, gives(-3), 3},
		{function(con(1, 2), div(2, 1, 0), ret(2)), 7, gives(0), 3},
		{function(con(1, -1), div(0, 0, 1), ret(0)), least, gives(least), 3},
		{function(less(1, 2, 0), ret(1)), 7, gives(1), 2},
		{function(con(1, 9), less(1, 0, 2), ret(1)), 7, gives(0), 3},
		{function(con(1, 9), less(1, 0, 0), ret(1)), 7, gives(0), 3},
		{function(less(1, 0, 2), ret(1)), least, gives(1), 2},
		{function(jump(2), ret(1), ret(0)), 7, gives(7), 2},
		{function(jump(3), ret(0), ret(1), jump(1)), 7, gives(7), 3},
		{function(zero(1, 2), ret(1), ret(0)), 7, gives(7), 2},
		{function(zero(0, 2), ret(1), ret(0)), 7, gives(0), 2},
		{function(zero(0, 2), ret(1), con(0, 4), ret(0)), 0, gives(4), 3},
		{function(zero(0, 2), ret(0), ret(1)), least, gives(least), 2},
		{function(yield(), ret(0)), 7, gives(7), 2},
		{function(yield(), yield(), con(3, 2), yield(), ret(3)), 7, gives(2), 5},
	})
}

// P7.1: each register by itself is 0 at the start, but register 0; what is written to one is in that one alone.
func TestRegisters(t *testing.T) {
	for i := range 8 {
		for j := range 8 {
			want := 0
			switch {
			case i == j:
				want = 5
			case j == 0:
				want = 7
			}
			checkSolo(t, []soloRow{{function(con(i, 5), ret(j)), 7, gives(want), 2}})
		}
	}
}

// P7.1: a division by 0 ends a task, and no other one by 0 does.
func TestDivisionByZero(t *testing.T) {
	checkSolo(t, []soloRow{
		{function(div(1, 0, 2), ret(0)), 7, fails(endDivZero), 1},
		{function(div(1, 2, 2), ret(0)), 0, fails(endDivZero), 1},
		{function(con(1, 5), con(2, 5), sub(1, 1, 2), div(0, 0, 1), ret(0)), 7, fails(endDivZero), 4},
		{function(con(1, 5), div(1, 2, 1), ret(1)), 7, gives(0), 3},
	})
	// 1 << 32 is 0 when it comes to the register
	checkRows(t, []row{{of(function(div(1, 1, 0), ret(0))), 1 << 32, alone(0, fails(endDivZero), 1)}})
}

// P7.1, P7.2: of an argument the lowest 32 bits are taken, of the root and of what is told.
func TestArgumentsBeyond32Bits(t *testing.T) {
	for _, x := range []struct{ arg, want int }{
		{1<<31 - 1, 1<<31 - 1}, {1 << 31, -1 << 31}, {1<<31 + 1, -1<<31 + 1}, {-1 << 31, -1 << 31}, {-1<<31 - 1, 1<<31 - 1},
		{1 << 32, 0}, {1<<32 - 1, -1}, {1<<32 + 9, 9}, {-1 << 32, 0}, {-1<<32 - 9, -9}, {1<<62 + 3, 3},
		{math.MaxInt64, -1}, {math.MinInt64, 0}, {math.MinInt64 + 5, 5},
	} {
		checkRows(t, []row{
			{of(function(ret(0))), x.arg, alone(x.want, gives(x.want), 1)},
			{of(function(less(0, 0, 1), ret(0))), x.arg, alone(x.want, gives(bit(x.want < 0)), 2)},
		})
	}
}

func bit(b bool) int {
	if b {
		return 1
	}
	return 0
}

// count forks nothing: a root that counts its argument down to 0, three instructions each time round, and two at the end.
func count() []api.Ins {
	return function(con(1, 1), zero(0, 4), sub(0, 0, 1), jump(1), ret(0))
}

// P7.1: Fuel that is just enough, and one less.
func TestFuelJustEnough(t *testing.T) {
	for n := 1; n <= 40; n++ {
		l := slices.Repeat(function(yield()), n-1)
		p := of(append(l, ret(0)))
		checkRows(t, []row{{withFuel(n, p), 7, alone(7, gives(7), n)}})
		if n > 1 {
			checkRows(t, []row{{withFuel(n-1, p), 7, alone(7, fails(endFuelOut), n-1)}})
		}
	}
	for n := range 100 {
		steps := 3*n + 3
		checkRows(t, []row{
			{withFuel(steps, of(count())), n, alone(n, gives(0), steps)},
			{withFuel(steps+1, of(count())), n, alone(n, gives(0), steps)},
			{withFuel(steps-1, of(count())), n, alone(n, fails(endFuelOut), steps-1)},
		})
	}
	// The instruction that there is no fuel for is not done: no future is set, no task forked, nothing divided.
	for _, i := range []api.Ins{set(0, 0), set(2, 1), fork(0, 0, 0), div(0, 0, 1), join(0, 0), get(0, 0), ret(0), cancel(1)} {
		checkRows(t, []row{{withFuel(1, of(function(yield(), i, ret(0)))), 7, alone(7, fails(endFuelOut), 1)}})
	}
}

// P7.1: each task has Fuel of its own: who forks has spent one on the fork, however long that one runs.
func TestFuelOfEachTask(t *testing.T) {
	p := withFuel(4, withDepth(1, of(
		function(fork(0, 1, 0), fork(1, 1, 0), join(1, 1), ret(1)),
		function(yield(), yield(), yield(), ret(0)))))
	e := gives(7)
	want := Result{End: e, Ran: []api.Ran{ran(nil, 0, 7, e), ran(path{1}, 1, 7, e), ran(path{2}, 1, 7, e)},
		Futs: make([]int, 3), Was: make([]bool, 3), Steps: 12, Forks: 2}
	checkRows(t, []row{{p, 7, want}})
}

// P7.1, P7.3: a loop without an end comes to FuelOut; who joins it ends so, too; who does not goes on.
func TestLoopWithoutEnd(t *testing.T) {
	loops := [][]api.Ins{
		function(jump(0)), function(yield(), jump(0)), function(zero(1, 0), ret(0)), function(jump(1), jump(0)),
		function(con(1, 3), set(0, 1), jump(2)), function(add(0, 0, 0), add(0, 0, 0), jump(1)),
	}
	for _, l := range loops {
		for _, fuel := range []int{4, 5, 100, maxFuel - 1, maxFuel} {
			p := withFuel(fuel, of(l))
			if r := must(t, p, 7); r.End != fails(endFuelOut) || r.Steps != fuel || r.Over {
				t.Errorf("Run(%v, 7) ends %v by %d", p, r.End, r.Steps)
			}
			joins := withFuel(fuel, of(function(fork(3, 1, 0), join(0, 3), ret(0)), l))
			if r := must(t, joins, 7); r.End != fails(endFuelOut) || r.Steps != fuel+2 || len(r.Ran) != 2 || r.Ran[1].End != fails(endFuelOut) {
				t.Errorf("Run(%v, 7) = %v", joins, r)
			}
			leaves := withFuel(fuel, of(function(fork(3, 1, 0), cancel(3), ret(0)), l))
			if r := must(t, leaves, 7); r.End != gives(7) || r.Steps != fuel+3 || len(r.Ran) != 2 || r.Ran[1].End != fails(endFuelOut) {
				t.Errorf("Run(%v, 7) = %v", leaves, r)
			}
		}
	}
}

// P7.3: it ends, though each task forks as often as it has fuel, at every depth.
func TestTreeWithoutEnd(t *testing.T) {
	bushy := append(slices.Repeat(function(fork(0, 0, 0)), 39), jump(0))
	for depth := range maxDepth + 1 {
		for _, fuel := range []int{1, 2, 5, 39, 40, 41, maxFuel} {
			p := withFuel(fuel, withDepth(depth, of(bushy)))
			for _, most := range []int{0, 1, 500, maxTotal, math.MaxInt} {
				r, e := Run(p, 3, most)
				if want := meant(p, 3, most); e != api.OK || !same(r, want) {
					t.Errorf("depth %d, fuel %d, most %d: %d tasks, %d steps, over %v, %d; want %d, %d, %v, 0",
						depth, fuel, most, len(r.Ran), r.Steps, r.Over, e, len(want.Ran), want.Steps, want.Over)
				}
			}
		}
	}
}

// set3 is three futures, of which the given ones are set.
func set3(r Result, to map[int]int) Result {
	r.Futs, r.Was = make([]int, 3), make([]bool, 3)
	for f, v := range to {
		r.Futs[f], r.Was[f] = v, true
	}
	return r
}

// P7.1: forks and joins, one below the other and side by side; P7.2: Ran by key, Steps and Forks of each.
func TestForksAndJoins(t *testing.T) {
	double := function(add(0, 0, 0), ret(0))
	through := function(fork(0, 2, 0), join(1, 0), ret(1))
	checkRows(t, []row{
		{of(function(fork(0, 1, 0), join(1, 0), ret(1)), double), 7, set3(Result{End: gives(14), Steps: 5, Forks: 1,
			Ran: []api.Ran{ran(nil, 0, 7, gives(14)), ran(path{1}, 1, 7, gives(14))}}, nil)},
		{of(function(fork(3, 1, 0), join(7, 3), ret(7)), through, double), 7, set3(Result{End: gives(14), Steps: 8, Forks: 2,
			Ran: []api.Ran{ran(nil, 0, 7, gives(14)), ran(path{1}, 1, 7, gives(14)), ran(path{1, 1}, 2, 7, gives(14))}}, nil)},
		{of(function(con(1, 1), fork(2, 1, 1), con(1, 2), fork(1, 1, 1), join(3, 1), join(4, 2), sub(5, 3, 4), ret(5)), through, double), 7, set3(Result{
			End: gives(2), Steps: 18, Forks: 4, Ran: []api.Ran{
				ran(nil, 0, 7, gives(2)), ran(path{1}, 1, 1, gives(2)), ran(path{1, 1}, 2, 1, gives(2)),
				ran(path{2}, 1, 2, gives(4)), ran(path{2, 1}, 2, 2, gives(4))}}, nil)},
		// what is forked has registers of its own, and changes none of who forked it
		{of(function(con(1, 8), con(2, 9), fork(0, 1, 2), add(0, 0, 1), ret(0)), function(con(1, 5), con(2, 6), ret(3))), 7, set3(Result{
			End: gives(15), Steps: 8, Forks: 1, Ran: []api.Ran{ran(nil, 0, 7, gives(15)), ran(path{1}, 1, 9, gives(0))}}, nil)},
		// what is forked has hands of its own: it can join nothing of who forked it
		{of(function(fork(0, 1, 0), fork(1, 2, 0), join(0, 1), ret(0)), function(ret(0)), function(join(0, 0), ret(0))), 7, set3(Result{
			End: fails(endEmpty), Steps: 5, Forks: 2,
			Ran: []api.Ran{ran(nil, 0, 7, fails(endEmpty)), ran(path{1}, 1, 7, gives(7)), ran(path{2}, 2, 7, fails(endEmpty))}}, nil)},
		// a fork is done ahead of the next instruction, joined or not
		{of(function(con(1, 4), fork(0, 1, 1), get(2, 1), ret(2)), function(set(1, 0), ret(0))), 7, set3(Result{
			End: gives(4), Steps: 6, Forks: 1, Ran: []api.Ran{ran(nil, 0, 7, gives(4)), ran(path{1}, 1, 4, gives(4))}}, map[int]int{1: 4})},
	})
}

// P7.1: the number of a fork goes on from fork to fork of one task, whatever the hand, and begins anew in each task.
func TestKeysOfForks(t *testing.T) {
	p := withDepth(2, of(
		function(fork(0, 1, 0), fork(0, 1, 0), join(1, 0), fork(3, 1, 0), ret(0)),
		function(fork(2, 2, 0), fork(1, 2, 0), ret(0)),
		function(ret(0))))
	e := gives(7)
	want := []api.Ran{ran(nil, 0, 7, e)}
	for n := 1; n <= 3; n++ {
		want = append(want, ran(path{n}, 1, 7, e), ran(path{n, 1}, 2, 7, e), ran(path{n, 2}, 2, 7, e))
	}
	checkRows(t, []row{{p, 7, set3(Result{End: e, Ran: want, Steps: 5 + 9 + 6, Forks: 9}, nil)}})
}

// P7.1: a hand that is empty, that is filled twice, that is joined twice; each hand by itself.
func TestHands(t *testing.T) {
	same, nine := function(ret(0)), function(con(0, 9), ret(0))
	for h := range 4 {
		for other := range 4 {
			got := fails(endEmpty)
			if h == other {
				got = gives(7)
			}
			if r := must(t, of(function(fork(h, 1, 0), join(2, other), ret(2)), same), 7); r.End != got {
				t.Errorf("a fork in hand %d joined of %d: %v", h, other, r.End)
			}
		}
		for _, x := range []struct {
			f   []api.Ins
			end api.End
		}{
			{function(join(1, h), ret(0)), fails(endEmpty)},
			{function(cancel(h), ret(0)), fails(endEmpty)},
			{function(fork(h, 1, 0), fork(h, 2, 0), join(1, h), ret(1)), gives(9)},
			{function(fork(h, 2, 0), fork(h, 1, 0), join(1, h), ret(1)), gives(7)},
			{function(fork(h, 1, 0), fork(h, 2, 0), join(1, h), join(2, h), ret(1)), fails(endEmpty)},
			{function(fork(h, 1, 0), join(1, h), join(2, h), ret(1)), fails(endEmpty)},
			{function(fork(h, 1, 0), join(1, h), fork(h, 2, 0), join(2, h), add(0, 1, 2), ret(0)), gives(16)},
			{function(fork(h, 3, 0), fork(h, 1, 0), join(1, h), ret(1)), gives(7)},
			{function(fork(h, 1, 0), fork(h, 3, 0), join(1, h), ret(1)), fails(endDivZero)},
			{function(fork(h, 1, 0), fork((h+1)%4, 2, 0), join(1, h), join(2, (h+1)%4), sub(0, 2, 1), ret(0)), gives(2)},
		} {
			if r := must(t, of(x.f, same, nine, function(div(0, 0, 1), ret(0))), 7); r.End != x.end {
				t.Errorf("%v in hand %d: %v, want %v", x.f, h, r.End, x.end)
			}
		}
	}
	// a hand with the value 0 is not empty
	if r := must(t, of(function(fork(0, 1, 0), join(0, 0), ret(0)), function(ret(1))), 7); r.End != gives(0) {
		t.Errorf("a join of the value 0: %v", r.End)
	}
}

// P7.1: Cancel of an empty hand ends the task; of a full one it does nothing, whatever is in it: the hand is full still.
func TestCancel(t *testing.T) {
	for h := range 4 {
		for other := range 4 {
			got := fails(endEmpty)
			if h == other {
				got = gives(7)
			}
			if r := must(t, of(function(fork(h, 1, 0), cancel(other), ret(0)), function(ret(1))), 7); r.End != got {
				t.Errorf("a fork in hand %d cancelled in %d: %v", h, other, r.End)
			}
		}
	}
	checkRows(t, []row{
		{of(function(fork(2, 1, 0), cancel(2), cancel(2), join(1, 2), ret(1)), function(con(0, 9), ret(0))), 7, set3(Result{
			End: gives(9), Steps: 7, Forks: 1, Ran: []api.Ran{ran(nil, 0, 7, gives(9)), ran(path{1}, 1, 7, gives(9))}}, nil)},
		{of(function(fork(2, 1, 0), cancel(2), ret(0)), function(div(0, 0, 1), ret(0))), 7, set3(Result{
			End: gives(7), Steps: 4, Forks: 1, Ran: []api.Ran{ran(nil, 0, 7, gives(7)), ran(path{1}, 1, 7, fails(endDivZero))}}, nil)},
		{of(function(fork(2, 1, 0), join(1, 2), cancel(2), ret(0)), function(ret(0))), 7, set3(Result{
			End: fails(endEmpty), Steps: 4, Forks: 1, Ran: []api.Ran{ran(nil, 0, 7, fails(endEmpty)), ran(path{1}, 1, 7, gives(7))}}, nil)},
	})
}

// P7.1: futures that are set and got; one that is set twice, and got ahead of its Set; each future by itself, for all tasks.
func TestFutures(t *testing.T) {
	all := of(nil)
	for f := range 3 {
		one := map[int]int{f: 7}
		for _, x := range []struct {
			f     []api.Ins
			end   api.End
			steps int
			set   map[int]int
		}{
			{function(set(f, 0), get(1, f), ret(1)), gives(7), 3, one},
			{function(set(f, 0), con(0, 5), get(1, f), ret(1)), gives(7), 4, one},
			{function(set(f, 0), get(1, f), get(2, f), add(0, 1, 2), ret(0)), gives(14), 5, one},
			{function(set(f, 1), get(0, f), ret(0)), gives(0), 3, map[int]int{f: 0}},
			{function(set(f, 0), set(f, 0), ret(0)), fails(endTwice), 2, one},
			{function(set(f, 0), con(0, 5), set(f, 0), ret(0)), fails(endTwice), 3, one},
			{function(set(f, 1), set(f, 0), ret(0)), fails(endTwice), 2, map[int]int{f: 0}},
			{function(get(1, f), set(f, 0), ret(1)), fails(endDeadlock), 1, nil},
			{function(set((f+1)%3, 0), get(1, f), ret(1)), fails(endDeadlock), 2, map[int]int{(f + 1) % 3: 7}},
			{function(con(1, -4), set(f, 0), set((f+1)%3, 1), get(2, f), ret(2)), gives(7), 5, map[int]int{f: 7, (f + 1) % 3: -4}},
		} {
			p := all
			p.Funcs = [][]api.Ins{x.f}
			checkRows(t, []row{{p, 7, set3(alone(7, x.end, x.steps), x.set)}})
		}
	}
	// as many futures as the program has
	for n := range 17 {
		l := []api.Ins{}
		for f := range n {
			l = append(l, con(1, 100+f), set(f, 1))
		}
		r := must(t, withFuel(40, withFuts(n, of(append(l, ret(0))))), 7)
		if len(r.Futs) != n || len(r.Was) != n || r.End != gives(7) {
			t.Errorf("of %d futures: %v", n, r)
		}
		for f := range r.Futs {
			if r.Futs[f] != 100+f || !r.Was[f] {
				t.Errorf("future %d of %d: %d, %v", f, n, r.Futs[f], r.Was[f])
			}
		}
	}
}

// P7.1: futures are of the whole program: what one task sets, another one gets, whether that one failed or not.
func TestFuturesAcrossTasks(t *testing.T) {
	setter, getter := function(set(1, 0), ret(0)), function(get(0, 1), ret(0))
	failing := function(set(1, 0), div(0, 0, 7), ret(0))
	for _, x := range []struct {
		p    api.Prog
		ends []api.End
		was  map[int]int
	}{
		{of(function(fork(0, 1, 0), fork(1, 2, 0), join(1, 1), ret(1)), setter, getter), []api.End{gives(7), gives(7), gives(7)}, map[int]int{1: 7}},
		{of(function(fork(0, 2, 0), fork(1, 1, 0), join(1, 1), ret(1)), setter, getter), []api.End{gives(7), fails(endDeadlock), gives(7)}, map[int]int{1: 7}},
		{of(function(fork(0, 2, 0), fork(1, 1, 0), join(1, 0), ret(1)), setter, getter), []api.End{fails(endDeadlock), fails(endDeadlock), gives(7)}, map[int]int{1: 7}},
		{of(function(fork(0, 1, 0), fork(1, 1, 0), join(1, 1), ret(1)), setter), []api.End{fails(endTwice), gives(7), fails(endTwice)}, map[int]int{1: 7}},
		{of(function(fork(0, 1, 0), get(3, 1), ret(3)), failing), []api.End{gives(7), fails(endDivZero)}, map[int]int{1: 7}},
		{of(function(set(1, 0), fork(0, 1, 0), join(3, 0), ret(3)), getter), []api.End{gives(7), gives(7)}, map[int]int{1: 7}},
	} {
		r := must(t, x.p, 7)
		ends := []api.End{}
		for _, one := range r.Ran {
			ends = append(ends, one.End)
		}
		if want := set3(r, x.was); !slices.Equal(ends, x.ends) || !same(r, want) {
			t.Errorf("Run(%v, 7) = %v, want ends %v and set %v", x.p, r, x.ends, x.was)
		}
	}
}

// P7.1: a task without a value that is joined, and one that is not, of each way to end; down two joins, too.
func TestEndsWithoutValue(t *testing.T) {
	for _, x := range []struct {
		f    []api.Ins
		how  int
		fuel int
	}{
		{function(div(0, 0, 1), ret(0)), endDivZero, 9},
		{function(set(0, 0), set(0, 0), ret(0)), endTwice, 9},
		{function(get(0, 0), ret(0)), endDeadlock, 9},
		{function(jump(0)), endFuelOut, 9},
		{function(join(0, 0), ret(0)), endEmpty, 9},
		{function(cancel(0), ret(0)), endEmpty, 9},
	} {
		for depth := 1; depth <= 2; depth++ {
			joins := [][]api.Ins{function(fork(0, 1, 0), join(5, 0), set(2, 0), ret(0))}
			if depth == 2 {
				joins = append(joins, function(fork(0, 2, 0), join(5, 0), set(2, 0), ret(0)))
			}
			r := must(t, withFuel(x.fuel, of(append(joins, x.f)...)), 7)
			if len(r.Ran) != depth+1 || r.End != fails(x.how) || r.Was[2] {
				t.Errorf("joined at %d: %v, want %d", depth, r, x.how)
			}
			for _, one := range r.Ran {
				if one.End != fails(x.how) {
					t.Errorf("joined at %d: %v, want %d", depth, one, x.how)
				}
			}
		}
		r := must(t, withFuel(x.fuel, of(function(fork(0, 1, 0), yield(), set(2, 0), ret(0)), x.f)), 7)
		if r.End != gives(7) || !r.Was[2] || r.Ran[1].End != fails(x.how) {
			t.Errorf("not joined: %v, want %d", r, x.how)
		}
	}
}

// P7.1: a fork at Depth, and one above it.
func TestForkAtDepth(t *testing.T) {
	for depth := range maxDepth + 1 {
		for tasks := 1; tasks <= min(depth+1, maxDepth); tasks++ {
			// a chain: each task forks the next function, the last one only gives back
			funcs := [][]api.Ins{}
			for n := 1; n < tasks; n++ {
				funcs = append(funcs, function(fork(0, n, 0), join(0, 0), ret(0)))
			}
			if r := must(t, withDepth(depth, of(append(funcs, function(ret(0)))...)), 7); r.End != gives(7) || len(r.Ran) != tasks || r.Forks != tasks-1 {
				t.Errorf("depth %d, %d tasks: %v", depth, tasks, r)
			}
		}
		// each forks itself: the one at Depth can't, and who joins it ends so, too
		way, want := path{}, []api.Ran{}
		for range depth + 1 {
			want = append(want, ran(way, 0, 7, fails(endTooDeep)))
			way = append(slices.Clone(way), 1)
		}
		checkRows(t, []row{{withDepth(depth, of(function(fork(1, 0, 0), join(0, 1), ret(0)))), 7,
			set3(Result{End: fails(endTooDeep), Ran: want, Steps: 2*depth + 1, Forks: depth}, nil)}})
	}
}

// P7.1: TooMany. No program that may run has Fuel for so many forks; what a task does then is told all the same.
func TestTooManyForks(t *testing.T) {
	forks := append(slices.Repeat(function(fork(0, 1, 0)), 39), jump(0))
	w := &whole{prog: api.Prog{Depth: 1, Fuel: 2 * maxForks, Funcs: [][]api.Ins{forks, function(ret(0))}}, most: maxTotal}
	if e := w.run(root, 0, 7); e != fails(endTooMany) || w.forks != maxForks || len(w.ran) != maxForks+1 {
		t.Errorf("%v by %d forks", e, w.forks)
	}
	last := w.ran[len(w.ran)-1]
	if last != ran(path{maxForks}, 1, 7, gives(7)) {
		t.Errorf("the last fork: %v", last)
	}
	// the most that a program can
	r := must(t, withFuel(maxFuel, withDepth(1, of(forks, function(ret(0))))), 7)
	if r.Forks != maxFuel-maxFuel/40 || r.End != fails(endFuelOut) {
		t.Errorf("%d forks, %v", r.Forks, r.End)
	}
}

// fib is the sum over a tree of forks: each task forks two, less by 1 and by 2, and adds what they give.
func fib() api.Prog {
	return api.Prog{Depth: maxDepth, Fuel: 20, Futs: 1, Funcs: [][]api.Ins{function(
		con(1, 2), less(2, 0, 1), zero(2, 4), ret(0), con(1, 1), sub(0, 0, 1), fork(0, 0, 0), sub(0, 0, 1), fork(1, 0, 0), join(3, 0), join(4, 1), add(0, 3, 4), ret(0),
	)}}
}

// P7.1, P7.2: trees of forks, and all that is told of them.
func TestTreesOfForks(t *testing.T) {
	for n, want := range []int{0, 1, 1, 2, 3, 5, 8} {
		r := must(t, fib(), n)
		if r.End != gives(want) || r.Over || len(r.Ran) != r.Forks+1 {
			t.Errorf("fib of %d: %v", n, r)
		}
		if !slices.IsSortedFunc(r.Ran, func(a, b api.Ran) int { return a.Key - b.Key }) || r.Ran[0] != ran(nil, 0, n, gives(want)) {
			t.Errorf("fib of %d: %v", n, r.Ran)
		}
		leaves := (r.Forks + 2) / 2 // in a tree of twos there is one leaf more than there are others
		if r.Steps != leaves*4+(leaves-1)*12 {
			t.Errorf("fib of %d: %d steps by %d leaves", n, r.Steps, leaves)
		}
	}
	if r := must(t, fib(), 7); r.End != fails(endTooDeep) {
		t.Errorf("fib of 7 goes below the depth: %v", r.End)
	}
}

// P7.2: most at just the instructions that there are, at one less, at 0, below 0 and beyond MaxTotal.
func TestMost(t *testing.T) {
	over := Result{Over: true}
	programs := []api.Prog{
		of(function(ret(0))), of(function(jump(0))), of(function(div(0, 0, 1), ret(0))), fib(),
		of(function(fork(0, 1, 0), ret(0)), function(set(0, 0), jump(1))),
		of(function(fork(0, 1, 0), join(0, 0), ret(0)), function(jump(0))),
		of(function(fork(0, 1, 0), fork(1, 1, 0), jump(2)), function(fork(0, 2, 0), fork(0, 2, 0), ret(0)), function(jump(0))),
	}
	for k, p := range programs {
		full := must(t, p, 5)
		for most := -3; most <= full.Steps+3; most++ {
			want := full
			if most < full.Steps {
				want = over
			}
			if r, e := Run(p, 5, most); e != api.OK || !same(r, want) {
				t.Errorf("%d: most %d: %v, %d, want %v", k, most, r, e, want)
			}
		}
		for _, most := range []int{maxTotal - 1, maxTotal, maxTotal + 1, 1 << 40, math.MaxInt} {
			if r, e := Run(p, 5, most); e != api.OK || !same(r, full) {
				t.Errorf("%d: most %d: %v, %d, want %v", k, most, r, e, full)
			}
		}
		for _, most := range []int{0, -1, -maxTotal, math.MinInt} {
			if r, e := Run(p, 5, most); e != api.OK || !same(r, over) {
				t.Errorf("%d: most %d: %v, %d, want %v", k, most, r, e, over)
			}
		}
	}
}

// long is a program of n instructions, from 19553 on: forks that use up all of their Fuel, and one that counts what is left.
func long(n int) api.Prog {
	left := n - 19553
	counter := append(slices.Repeat(function(yield()), left%3),
		con(1, left/3), con(2, 1), zero(1, left%3+5), sub(1, 1, 2), jump(left%3+2), ret(0))
	fill := append(slices.Repeat(function(fork(0, 2, 0)), 9), ret(0))
	f := slices.Concat(slices.Repeat(function(fork(0, 1, 0)), 4), slices.Repeat(function(fork(0, 2, 0)), 3), function(fork(0, 3, 0), ret(0)))
	return api.Prog{Depth: 2, Fuel: maxFuel, Funcs: [][]api.Ins{f, fill, function(jump(0)), counter}}
}

// P7.2: MaxTotal instructions are told, one more is not, however great most is.
func TestMaxTotal(t *testing.T) {
	for n := maxTotal - 30; n <= maxTotal+30; n++ {
		for _, most := range []int{maxTotal - 1, maxTotal, maxTotal + 1, maxTotal + 100, 1 << 40, math.MaxInt} {
			r, e := Run(long(n), 3, most)
			over := n > min(most, maxTotal)
			if e != api.OK || r.Over != over || !over && (r.Steps != n || r.End != gives(3)) || !same(r, meant(long(n), 3, most)) {
				t.Errorf("%d instructions, most %d: over %v by %d, %v, %d", n, most, r.Over, r.Steps, r.End, e)
			}
		}
	}
}

// P7.2: programs that valid's Check refuses, of each error: all zero, and that error, whatever most is.
func TestRefused(t *testing.T) {
	ok := function(ret(0))
	for k, x := range []struct {
		p    api.Prog
		want api.Errno
	}{
		{api.Prog{Fuel: 1, Funcs: make([][]api.Ins, 13)}, api.ErrBig},
		{of(append(slices.Repeat(function(yield()), 40), ret(0))), api.ErrBig},
		{of(ok, append(slices.Repeat(function(yield()), 40), ret(0))), api.ErrBig},
		{withFuel(0, of(append(slices.Repeat(function(yield()), 40), ret(0)))), api.ErrBig},
		{api.Prog{}, api.ErrArg},
		{withFuel(0, of(ok)), api.ErrArg},
		{withFuel(-1, of(ok)), api.ErrArg},
		{withFuel(maxFuel+1, of(ok)), api.ErrArg},
		{withDepth(-1, of(ok)), api.ErrArg},
		{withDepth(maxDepth+1, of(ok)), api.ErrArg},
		{withFuts(-1, of(ok)), api.ErrArg},
		{withFuts(17, of(ok)), api.ErrArg},
		{of(function(ret(8))), api.ErrArg},
		{of(function(ret(-1))), api.ErrArg},
		{of(function(join(0, 4), ret(0))), api.ErrArg},
		{of(function(con(0, 1<<31), ret(0))), api.ErrArg},
		{of(function(api.Ins{}, ret(0))), api.ErrArg},
		{of(function(api.Ins{Op: 16}, ret(0))), api.ErrArg},
		{of(function(api.Ins{Op: 14, A: 1}, ret(0))), api.ErrArg},
		{of(ok, function(ret(8))), api.ErrArg},
		{of(), api.ErrCode},
		{of(nil), api.ErrCode},
		{of(ok, nil), api.ErrCode},
		{of(function(yield())), api.ErrCode},
		{of(ok, function(zero(0, 0))), api.ErrCode},
		{of(function(jump(1))), api.ErrCode},
		{of(function(zero(0, 2), ret(0))), api.ErrCode},
		{of(function(fork(0, 1, 0), ret(0))), api.ErrCode},
		{of(function(set(3, 0), ret(0))), api.ErrCode},
		{of(function(get(0, 3), ret(0))), api.ErrCode},
		{withFuts(0, of(function(get(0, 0), ret(0)))), api.ErrCode},
	} {
		for _, most := range []int{math.MinInt, -1, 0, 1, 100, maxTotal, math.MaxInt} {
			if r, e := Run(x.p, 7, most); e != x.want || !same(r, Result{}) {
				t.Errorf("%d: Run(%v, 7, %d) = %v, %d, want nothing, %d", k, x.p, most, r, e, x.want)
			}
		}
	}
}

// P7.1 to P7.3: all roots of three instructions of a choice that has each one, ahead of a Ret, held against the reference.
func TestAllShortRoots(t *testing.T) {
	choice := function(
		con(1, 3), add(1, 0, 1), sub(0, 1, 0), mul(1, 1, 0), div(1, 0, 1), less(1, 1, 0), jump(0), jump(3), zero(1, 2), fork(0, 1, 1), fork(1, 2, 0),
		fork(0, 0, 1), join(1, 0), join(0, 1), set(0, 0), set(1, 1), get(1, 0), get(0, 1), cancel(0), yield(), ret(1))
	helpers := [][]api.Ins{function(set(0, 0), add(0, 0, 0), ret(0)), function(get(1, 0), div(0, 0, 1), ret(0))}
	for _, a := range choice {
		for _, b := range choice {
			for _, c := range choice {
				p := withFuel(9, of(function(a, b, c, ret(0)), helpers[0], helpers[1]))
				for _, most := range []int{3, maxTotal} {
					r, e := Run(p, 2, most)
					if want := meant(p, 2, most); e != api.OK || !same(r, want) {
						t.Fatalf("Run(%v, 2, %d) = %v, %d, want %v", p, most, r, e, want)
					}
				}
			}
		}
	}
}

// someInstruction is one that may run in a function of n instructions, in a program of so many functions and futures.
func someInstruction(x *rand.Rand, n, funcs, futs int) api.Ins {
	reg, hand := func() int { return x.Intn(8) * x.Intn(2) }, func() int { return x.Intn(1 + x.Intn(4)) }
	switch op := 1 + x.Intn(14); op {
	case 1:
		return con(reg(), []int{0, 1, -1, 2, 3, -1 << 31, 1<<31 - 1, x.Intn(1 << 20)}[x.Intn(8)])
	case 2, 3, 4, 5, 6:
		return api.Ins{Op: op, A: reg(), B: reg(), C: reg()}
	case 7:
		return jump(x.Intn(n))
	case 8:
		return zero(reg(), x.Intn(n))
	case 9:
		return fork(hand(), x.Intn(funcs), reg())
	case 10:
		return join(reg(), hand())
	case 11, 12:
		if futs == 0 {
			return fork(hand(), x.Intn(funcs), reg())
		}
		if op == 11 {
			return set(x.Intn(futs), reg())
		}
		return get(reg(), x.Intn(futs))
	case 13:
		return cancel(hand())
	}
	return yield()
}

func someProgram(x *rand.Rand) api.Prog {
	p := api.Prog{Futs: x.Intn(1 + x.Intn(17)), Depth: x.Intn(6), Fuel: 1 + x.Intn(1+x.Intn(maxFuel))}
	funcs := 1 + x.Intn(1+x.Intn(12))
	for range funcs {
		f := make([]api.Ins, 1+x.Intn(1+x.Intn(40)))
		for k := range f {
			f[k] = someInstruction(x, len(f), funcs, p.Futs)
		}
		f[len(f)-1] = ret(x.Intn(8))
		if x.Intn(4) == 0 {
			f[len(f)-1] = jump(x.Intn(len(f)))
		}
		p.Funcs = append(p.Funcs, f)
	}
	return p
}

// P7.1 to P7.3: programs of all kinds, held against the reference; all ends that a program can come to are among them.
func TestManyPrograms(t *testing.T) {
	x := rand.New(rand.NewSource(7))
	ends, overs := map[int]int{}, 0
	for range 30000 {
		p, arg := someProgram(x), int(x.Uint64())
		most := []int{maxTotal, maxTotal, x.Intn(maxTotal), x.Intn(100), math.MaxInt}[x.Intn(5)]
		r, e := Run(p, arg, most)
		if want := meant(p, arg, most); e != api.OK || !same(r, want) {
			t.Fatalf("Run(%v, %d, %d) = %v, %d, want %v", p, arg, most, r, e, want)
		}
		overs += bit(r.Over)
		for _, one := range r.Ran {
			ends[one.End.How]++
		}
	}
	for _, how := range []int{endValue, endDivZero, endTwice, endDeadlock, endFuelOut, endTooDeep, endEmpty} {
		if ends[how] < 100 {
			t.Errorf("%d tasks end %d", ends[how], how)
		}
	}
	if overs < 100 || len(ends) != 7 {
		t.Errorf("%d are over; ends %v", overs, ends)
	}
}

// clone is a program that has no memory in common with p.
func clone(p api.Prog) api.Prog {
	q := p
	q.Funcs = nil
	for _, f := range p.Funcs {
		q.Funcs = append(q.Funcs, slices.Clone(f))
	}
	return q
}

// spoil writes over a list, spare room too.
func spoil[T any](l []T, with T) {
	l = l[:cap(l)]
	for k := range l {
		l[k] = with
	}
}

// R3, R4: a program is left as it was, an answer is new memory, and one call leaves nothing to the next.
func TestAnswersShareNothing(t *testing.T) {
	p := of(function(set(0, 0), fork(0, 1, 0), fork(1, 1, 0), join(1, 0), set(1, 1), ret(1)), function(add(0, 0, 0), ret(0)))
	kept := clone(p)
	first, _ := Run(p, 7, maxTotal)
	want := Result{End: first.End, Ran: slices.Clone(first.Ran), Futs: slices.Clone(first.Futs), Was: slices.Clone(first.Was), Steps: first.Steps, Forks: first.Forks}
	second, _ := Run(p, 7, maxTotal)
	spoil(first.Ran, api.Ran{Key: -1})
	spoil(first.Futs, -1)
	spoil(first.Was, true)
	other, _ := Run(of(function(set(2, 0), ret(0))), 99, maxTotal)
	third, _ := Run(p, 7, maxTotal)
	if !same(second, want) || !same(third, want) || other.End != gives(99) {
		t.Errorf("%v, %v, want %v twice", second, third, want)
	}
	if !slices.EqualFunc(p.Funcs, kept.Funcs, slices.Equal[[]api.Ins]) {
		t.Errorf("the program is now %v", p)
	}
	for _, f := range p.Funcs {
		spoil(f, ret(7))
	}
	if !same(second, want) || !same(third, want) {
		t.Errorf("%v, %v, want %v twice", second, third, want)
	}
}

// The document's example.
func TestExample(t *testing.T) {
	r, e := Run(api.Prog{Fuel: 2, Funcs: [][]api.Ins{function(con(0, 5), ret(0))}}, 9, 2)
	if e != api.OK || !same(r, Result{End: gives(5), Ran: []api.Ran{ran(nil, 0, 9, gives(5))}, Steps: 2}) {
		t.Errorf("%v, %d", r, e)
	}
}
