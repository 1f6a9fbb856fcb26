package value

import (
	"math"
	"math/big"
	"testing"
)

const (
	most  = 1<<31 - 1
	least = -1 << 31
	whole = 1 << 32
)

// numbers are the edges of 32 bits, what lies beside and beyond them, and ordinary ones.
func numbers() []int {
	l := []int{46340, 46341, -46341, 65535, 65536, 1000003, -1000003, 123456789, -987654321, 0xDEADBEEF, 0x123456789ABCDEF, -0x123456789ABCDEF}
	for _, edge := range []int{0, least, most, whole, -whole, 3 << 31, -3 << 31, 1 << 40, -1 << 40, 1 << 62, -1 << 62} {
		for d := -3; d <= 3; d++ {
			l = append(l, edge+d)
		}
	}
	for d := range 4 {
		l = append(l, math.MaxInt-d, math.MinInt+d)
	}
	return l
}

// wrapped is Wrap as the document says it, worked out without a bound and without a conversion that cuts.
func wrapped(v *big.Int) int {
	n := new(big.Int).Mod(v, big.NewInt(whole)).Int64()
	if n > most {
		n -= whole
	}
	return int(n)
}

func wide(v int) *big.Int { return big.NewInt(int64(v)) }

// P1.1: Wrap.

func TestWrapExamples(t *testing.T) {
	rows := [][2]int{
		{0, 0}, {1, 1}, {-1, -1}, {most, most}, {least, least},
		{most + 1, least}, {most + 2, least + 1}, {least - 1, most}, {least - 2, most - 1},
		{whole, 0}, {whole + 5, 5}, {whole - 1, -1}, {-whole, 0}, {-whole - 1, -1},
		{3<<31 + 7, least + 7}, {1 << 40, 0}, {math.MaxInt, -1}, {math.MinInt, 0},
	}
	for _, r := range rows {
		if got := Wrap(r[0]); got != r[1] {
			t.Errorf("Wrap(%d) = %d, want %d", r[0], got, r[1])
		}
	}
}

func TestWrapIsTheLowestBits(t *testing.T) {
	for _, v := range numbers() {
		got := Wrap(v)
		if want := wrapped(wide(v)); got != want {
			t.Errorf("Wrap(%d) = %d, want %d", v, got, want)
		}
		if got < least || got > most {
			t.Errorf("Wrap(%d) = %d: not of 32 bits", v, got)
		}
		if Wrap(got) != got {
			t.Errorf("Wrap(%d) is turned by another Wrap", v)
		}
	}
}

// P1.1: Add, Sub, Mul.

func TestRingExamples(t *testing.T) {
	rows := []struct{ a, b, sum, difference, product int }{
		{2, 3, 5, -1, 6},
		{most, 1, least, most - 1, most},
		{least, 1, least + 1, most, least},
		{least, -1, most, least + 1, least},
		{most, most, -2, 0, 1},
		{least, least, 0, 0, 0},
		{1 << 16, 1 << 16, 1 << 17, 0, 0},
		{46341, 46341, 92682, 0, -2147479015},
		{whole + 2, 3, 5, -1, 6},
		{2, 3 - whole, 5, -1, 6},
		{math.MaxInt, math.MinInt, -1, -1, 0},
	}
	for _, r := range rows {
		if got := Add(r.a, r.b); got != r.sum {
			t.Errorf("Add(%d, %d) = %d, want %d", r.a, r.b, got, r.sum)
		}
		if got := Sub(r.a, r.b); got != r.difference {
			t.Errorf("Sub(%d, %d) = %d, want %d", r.a, r.b, got, r.difference)
		}
		if got := Mul(r.a, r.b); got != r.product {
			t.Errorf("Mul(%d, %d) = %d, want %d", r.a, r.b, got, r.product)
		}
	}
}

func TestOperationsAreWrapOfWhatThereIs(t *testing.T) {
	for _, a := range numbers() {
		for _, b := range numbers() {
			x, y := wide(wrapped(wide(a))), wide(wrapped(wide(b)))
			if got, want := Add(a, b), wrapped(new(big.Int).Add(x, y)); got != want {
				t.Errorf("Add(%d, %d) = %d, want %d", a, b, got, want)
			}
			if got, want := Sub(a, b), wrapped(new(big.Int).Sub(x, y)); got != want {
				t.Errorf("Sub(%d, %d) = %d, want %d", a, b, got, want)
			}
			if got, want := Mul(a, b), wrapped(new(big.Int).Mul(x, y)); got != want {
				t.Errorf("Mul(%d, %d) = %d, want %d", a, b, got, want)
			}
		}
	}
}

// P1.1: Div.

func TestDivExamples(t *testing.T) {
	rows := [][3]int{
		{7, 2, 3}, {-7, 2, -3}, {7, -2, -3}, {-7, -2, 3}, {1, 2, 0}, {-1, 2, 0}, {0, 5, 0},
		{least, -1, least}, {least, 1, least}, {most, -1, -most}, {least, least, 1}, {most, least, 0}, {least, most, -1},
		{most + 1, -1, least}, {least, whole - 1, least}, {whole, 5, 0}, {6, whole + 2, 3}, {math.MaxInt, math.MaxInt, 1},
	}
	for _, r := range rows {
		if got, ok := Div(r[0], r[1]); got != r[2] || !ok {
			t.Errorf("Div(%d, %d) = %d, %t, want %d, true", r[0], r[1], got, ok, r[2])
		}
	}
}

func TestDivByWhatWrapsToNought(t *testing.T) {
	for _, b := range []int{0, whole, -whole, 1 << 40, -1 << 40, 1 << 62, math.MinInt} {
		for _, a := range numbers() {
			if got, ok := Div(a, b); got != 0 || ok {
				t.Errorf("Div(%d, %d) = %d, %t, want 0, false", a, b, got, ok)
			}
		}
	}
}

func TestDivIsCutTowardsNought(t *testing.T) {
	for _, a := range numbers() {
		for _, b := range numbers() {
			x, y := wide(wrapped(wide(a))), wide(wrapped(wide(b)))
			if y.Sign() == 0 {
				continue
			}
			want := wrapped(new(big.Int).Quo(x, y))
			if got, ok := Div(a, b); got != want || !ok {
				t.Errorf("Div(%d, %d) = %d, %t, want %d, true", a, b, got, ok, want)
			}
		}
	}
}

// P1.1: Less.

func TestLessExamples(t *testing.T) {
	rows := [][3]int{
		{1, 2, 1}, {2, 1, 0}, {2, 2, 0}, {-1, 0, 1}, {0, -1, 0}, {least, most, 1}, {most, least, 0}, {least, least, 0},
		{most + 1, 0, 1}, {0, least - 1, 1}, {whole, 1, 1}, {whole + 5, 5, 0}, {5, whole + 5, 0}, {math.MaxInt, 0, 1}, {math.MinInt, 0, 0},
	}
	for _, r := range rows {
		if got := Less(r[0], r[1]); got != r[2] {
			t.Errorf("Less(%d, %d) = %d, want %d", r[0], r[1], got, r[2])
		}
	}
}

func TestLessIsOfWhatIsWrapped(t *testing.T) {
	for _, a := range numbers() {
		for _, b := range numbers() {
			want := 0
			if wrapped(wide(a)) < wrapped(wide(b)) {
				want = 1
			}
			if got := Less(a, b); got != want {
				t.Errorf("Less(%d, %d) = %d, want %d", a, b, got, want)
			}
		}
	}
}

// P1.2: a ring.

func TestRingOrder(t *testing.T) {
	for _, a := range numbers() {
		for _, b := range numbers() {
			if Add(a, b) != Add(b, a) {
				t.Errorf("Add hangs on the order of %d, %d", a, b)
			}
			if Mul(a, b) != Mul(b, a) {
				t.Errorf("Mul hangs on the order of %d, %d", a, b)
			}
		}
	}
}

func TestRingBrackets(t *testing.T) {
	l := numbers()
	for _, a := range l {
		for _, b := range l {
			for _, c := range l {
				if Add(Add(a, b), c) != Add(a, Add(b, c)) {
					t.Fatalf("Add hangs on the brackets of %d, %d, %d", a, b, c)
				}
				if Mul(Mul(a, b), c) != Mul(a, Mul(b, c)) {
					t.Fatalf("Mul hangs on the brackets of %d, %d, %d", a, b, c)
				}
				if Mul(a, Add(b, c)) != Add(Mul(a, b), Mul(a, c)) {
					t.Fatalf("Mul is not spread over Add at %d, %d, %d", a, b, c)
				}
			}
		}
	}
}

func TestRingNeutralAndOpposite(t *testing.T) {
	for _, a := range numbers() {
		if Add(a, 0) != Wrap(a) || Mul(a, 1) != Wrap(a) || Mul(a, 0) != 0 {
			t.Errorf("0 or 1 is not neutral at %d", a)
		}
		if Add(a, Sub(0, a)) != 0 || Sub(a, a) != 0 || Sub(0, a) != Mul(a, -1) {
			t.Errorf("%d has no opposite", a)
		}
		for _, b := range numbers() {
			if Add(Sub(a, b), b) != Wrap(a) || Sub(a, b) != Add(a, Sub(0, b)) {
				t.Errorf("Sub does not undo Add at %d, %d", a, b)
			}
		}
	}
}
