// Package sat is layer 1: numbers that stop at their ends, where Go's own come round.
package sat

import "math"

// Int is whatever kind of number has a sign.
type Int interface {
	~int8 | ~int16 | ~int32 | ~int64 | ~int
}

// Add is a and b together. A sum that came round lies on the wrong side of a.
func Add[T Int](a, b T) T {
	sum := a + b
	if b > 0 && sum < a || b < 0 && sum > a {
		return end[T](b < 0)
	}
	return sum
}

// Sub is a without b. It is not a and Neg(b) together: of the least b that would be one too few.
func Sub[T Int](a, b T) T {
	left := a - b
	if b > 0 && left > a || b < 0 && left < a {
		return end[T](b > 0)
	}
	return left
}

// Mul is a times b.
func Mul[T Int](a, b T) T {
	if a == 0 || b == 0 {
		return 0
	}
	below := (a < 0) != (b < 0)
	product := a * b
	// The sign is asked for beside the division because the least number by -1 comes round to itself.
	if product/b != a || (product < 0) != below {
		return end[T](below)
	}
	return product
}

// Neg is a with its sign turned round.
func Neg[T Int](a T) T {
	return Sub(0, a)
}

// Abs is a without its sign.
func Abs[T Int](a T) T {
	if a < 0 {
		return Neg(a)
	}
	return a
}

// Div is a by b, towards nought; false, if b is 0.
func Div[T Int](a, b T) (T, bool) {
	switch b {
	case 0:
		return 0, false
	case -1: // the one divisor whose quotient may lie beyond the ends
		return Neg(a), true
	}
	return a / b, true
}

// Rem is what Div leaves over, with the sign of a; false, if b is 0.
func Rem[T Int](a, b T) (T, bool) {
	if b == 0 {
		return 0, false
	}
	return a % b, true
}

// Clamp holds a to at most hi, then to at least lo; so lo has the last word.
func Clamp[T Int](a, lo, hi T) T {
	if a > hi {
		a = hi
	}
	if a < lo {
		a = lo
	}
	return a
}

// To is a as a number of the kind T, cut to its ends.
func To[T, U Int](a U) T {
	wide := int64(a)
	near := T(wide)
	if int64(near) != wide {
		return end[T](wide < 0)
	}
	return near
}

// Sum adds from the left, so what has stopped at an end goes on from there.
func Sum[T Int](l ...T) T {
	var sum T
	for _, n := range l {
		sum = Add(sum, n)
	}
	return sum
}

// end is the least number of the kind T, or the greatest.
// A kind does not tell its width: the widest number that comes back whole out of it does.
func end[T Int](least bool) T {
	var most T
	for _, n := range [4]int64{math.MaxInt8, math.MaxInt16, math.MaxInt32, math.MaxInt64} {
		if int64(T(n)) == n {
			most = T(n)
		}
	}
	if least {
		return -most - 1
	}
	return most
}
