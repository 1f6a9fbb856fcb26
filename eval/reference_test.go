package eval

import (
	"cmp"
	"slices"

	"magpie/api"
)

// The document's numbers, written out apart from the package's.
const (
	root     = 1 << 50
	maxForks = 1000
	maxFuel  = 500
	maxTotal = 20000
	maxDepth = 5
)

const (
	endValue, endDivZero, endTwice, endDeadlock, endFuelOut, endTooDeep, endEmpty, endTooMany = 1, 2, 3, 4, 5, 6, 7, 9
)

// cut is a number's lowest 32 bits, by division.
func cut(v int) int {
	const all = 1 << 32
	v = (v%all + all) % all
	if v >= all/2 {
		v -= all
	}
	return v
}

// path is the numbers of the forks on the way down to a task.
type path []int

func (l path) key() int {
	k, weight := root, 1<<40
	for _, n := range l {
		k += n * weight
		weight /= 1 << 10
	}
	return k
}

// layer is a task that has begun and not ended, in the reference.
type layer struct {
	way             path
	fn, arg         int
	at, fuel, forks int
	hand            int // where the end goes, of who forked it
	regs            [8]int
	full            [4]bool
	ends            [4]api.End
}

// reference is the document's evaluator with a stack of its own: no recursion, no panic.
type reference struct {
	p     api.Prog
	stack []*layer
	r     Result
}

func (x *reference) begin(way path, fn, arg, hand int) {
	l := &layer{way: way, fn: fn, arg: arg, hand: hand, fuel: x.p.Fuel}
	l.regs[0] = arg
	x.stack = append(x.stack, l)
}

// end takes the last task off, and gives its end to who forked it.
func (x *reference) end(how, val int) {
	l := x.stack[len(x.stack)-1]
	x.stack = x.stack[:len(x.stack)-1]
	e := api.End{How: how, Val: val}
	x.r.Ran = append(x.r.Ran, api.Ran{Key: l.way.key(), Fn: l.fn, Arg: l.arg, End: e})
	if len(x.stack) == 0 {
		x.r.End = e
		return
	}
	up := x.stack[len(x.stack)-1]
	up.full[l.hand], up.ends[l.hand] = true, e
}

func (x *reference) math(l *layer, i api.Ins) {
	a, b := l.regs[i.B], l.regs[i.C]
	switch i.Op {
	case 2:
		l.regs[i.A] = cut(a + b)
	case 3:
		l.regs[i.A] = cut(a - b)
	case 4:
		l.regs[i.A] = cut(a * b)
	case 5:
		if b == 0 {
			x.end(endDivZero, 0)
			return
		}
		l.regs[i.A] = cut(a / b)
	case 6:
		l.regs[i.A] = 0
		if a < b {
			l.regs[i.A] = 1
		}
	}
}

func (x *reference) hands(l *layer, i api.Ins) {
	switch i.Op {
	case 9:
		if len(l.way) >= x.p.Depth {
			x.end(endTooDeep, 0)
			return
		}
		if l.forks >= maxForks {
			x.end(endTooMany, 0)
			return
		}
		l.forks++
		x.r.Forks++
		x.begin(append(slices.Clone(l.way), l.forks), i.B, l.regs[i.C], i.A)
	case 10:
		if !l.full[i.B] {
			x.end(endEmpty, 0)
			return
		}
		l.full[i.B] = false
		if e := l.ends[i.B]; e.How == endValue {
			l.regs[i.A] = e.Val
		} else {
			x.end(e.How, 0)
		}
	case 13:
		if !l.full[i.A] {
			x.end(endEmpty, 0)
		}
	}
}

func (x *reference) futures(l *layer, i api.Ins) {
	switch {
	case i.Op == 11 && x.r.Was[i.A]:
		x.end(endTwice, 0)
	case i.Op == 11:
		x.r.Was[i.A], x.r.Futs[i.A] = true, l.regs[i.B]
	case !x.r.Was[i.B]:
		x.end(endDeadlock, 0)
	default:
		l.regs[i.A] = x.r.Futs[i.B]
	}
}

func (x *reference) instruction(l *layer) {
	i := x.p.Funcs[l.fn][l.at]
	l.at++
	switch i.Op {
	case 1:
		l.regs[i.A] = cut(i.B)
	case 2, 3, 4, 5, 6:
		x.math(l, i)
	case 7:
		l.at = i.A
	case 8:
		if l.regs[i.A] == 0 {
			l.at = i.B
		}
	case 9, 10, 13:
		x.hands(l, i)
	case 11, 12:
		x.futures(l, i)
	case 15:
		x.end(endValue, l.regs[i.A])
	}
}

// meant is what the document says of a program that may run.
func meant(p api.Prog, arg, most int) Result {
	most = max(0, min(most, maxTotal))
	x := &reference{p: p}
	x.r.Futs, x.r.Was = make([]int, p.Futs), make([]bool, p.Futs)
	x.begin(nil, 0, cut(arg), 0)
	for len(x.stack) > 0 {
		l := x.stack[len(x.stack)-1]
		if l.fuel == 0 {
			x.end(endFuelOut, 0)
			continue
		}
		if x.r.Steps == most {
			return Result{Over: true}
		}
		l.fuel--
		x.r.Steps++
		x.instruction(l)
	}
	slices.SortFunc(x.r.Ran, func(a, b api.Ran) int { return cmp.Compare(a.Key, b.Key) })
	return x.r
}
