// Package value: numbers of 32 bits.
package value

// integer is what a number may be kept in, ahead of its cut to 32 bits and after it.
type integer interface {
	~int | ~int32 | ~int64
}

// Wrap is a number's lowest 32 bits.
func Wrap(v int) int { return int(low(v)) }

// Add is a sum.
func Add(a, b int) int { return int(sum(low(a), low(b))) }

// Sub is a difference.
func Sub(a, b int) int { return int(difference(low(a), low(b))) }

// Mul is a product.
func Mul(a, b int) int { return int(product(low(a), low(b))) }

// Div is a quotient; false: there is none.
func Div(a, b int) (int, bool) {
	q, ok := quotient(low(a), low(b))
	return int(q), ok
}

// Less is 1, if a is less.
func Less(a, b int) int { return less(low(a), low(b)) }

// low leans on Go's conversion, which drops the bits that have no room.
func low[T integer](v T) int32 { return int32(v) }

// The operations below wrap round in the type they are asked of: in int32 there is nothing left to Wrap.

func sum[T integer](a, b T) T { return a + b }

func difference[T integer](a, b T) T { return a - b }

func product[T integer](a, b T) T { return a * b }

// quotient needs no case for the least number by -1: Go's division gives the least number again.
func quotient[T integer](a, b T) (T, bool) {
	if b == 0 {
		return 0, false
	}
	return a / b, true
}

func less[T integer](a, b T) int {
	if a < b {
		return 1
	}
	return 0
}
