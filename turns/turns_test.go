package turns

import (
	"slices"
	"testing"
)

// all are the orders of some who do so many steps each: whose steps they are.
func all(steps ...int) (rows [][]int, n int) {
	n = Each(func(o *Order) {
		left := slices.Clone(steps)
		var row []int
		for {
			var who []int
			for i, n := range left {
				if n > 0 {
					who = append(who, i)
				}
			}
			if len(who) == 0 {
				break
			}
			x := who[o.Pick(len(who))]
			left[x]--
			row = append(row, x)
		}
		rows = append(rows, row)
	})
	return rows, n
}

// Each order comes once, in order, and none is missing.
func TestEach(t *testing.T) {
	for _, x := range []struct {
		steps []int
		n     int
	}{{nil, 1}, {[]int{3}, 1}, {[]int{1, 1}, 2}, {[]int{2, 2}, 6}, {[]int{3, 5}, 56}, {[]int{1, 1, 1}, 6}, {[]int{2, 2, 2}, 90}, {[]int{0, 4, 1}, 5}} {
		rows, n := all(x.steps...)
		if n != x.n || len(rows) != n || !slices.IsSortedFunc(rows, slices.Compare) {
			t.Errorf("%d: %d orders, want %d, sorted", x.steps, n, x.n)
		}
		if one := slices.CompactFunc(rows, slices.Equal); len(one) != n {
			t.Errorf("%d: only %d are different", x.steps, len(one))
		}
	}
}

// Picks are those that were done, and Known holds up to the first that differs from the order before.
func TestKnown(t *testing.T) {
	var was []int
	Each(func(o *Order) {
		same := was != nil
		for i := range 4 {
			if o.Known() != same {
				t.Errorf("%d behind %d: Known is %v", o.Picks(), was, !same)
			}
			pick := o.Pick(2 + i%2)
			same = same && pick == was[i]
		}
		o.Picks()[0] = 7
		if was = o.Picks(); len(was) != 4 || was[0] == 7 {
			t.Errorf("Picks are %d", was)
		}
	})
	if !slices.Equal(was, []int{1, 2, 1, 2}) {
		t.Errorf("the last order is %d", was)
	}
}

// Fewer than one to choose from are one.
func TestNone(t *testing.T) {
	if n := Each(func(o *Order) {
		if o.Pick(0) != 0 || o.Pick(-3) != 0 {
			t.Error("picked")
		}
	}); n != 1 {
		t.Errorf("%d orders", n)
	}
}
