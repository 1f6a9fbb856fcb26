// Package turns goes through every order in which some can do their steps: tests hold machines against it.
package turns

import "slices"

// Order is one order: whose turn it is, step by step.
type Order struct {
	first []int // the picks that come first; behind them each is 0
	picks []int // that were done
	of    []int // how many there were to choose from at each
}

// Each hands in every order there is, one behind the other; how many. What is done must hang on the picks alone.
func Each(do func(o *Order)) int {
	var first []int
	for n := 1; ; n++ {
		o := Order{first: first}
		do(&o)
		last := len(o.picks) - 1
		for last >= 0 && o.picks[last] == o.of[last]-1 {
			last--
		}
		if last < 0 {
			return n
		}
		first = append(o.picks[:last:last], o.picks[last]+1)
	}
}

// Pick is which one of so many does the next step.
func (o *Order) Pick(of int) int {
	pick := 0
	if len(o.picks) < len(o.first) {
		pick = o.first[len(o.picks)]
	}
	o.picks, o.of = append(o.picks, pick), append(o.of, max(of, 1))
	return pick
}

// Known tells whether all picks so far were those of the order before: what came of them need not be held against anything again.
func (o *Order) Known() bool { return len(o.picks) < len(o.first) }

// Picks are those that were done.
func (o *Order) Picks() []int { return slices.Clone(o.picks) }
