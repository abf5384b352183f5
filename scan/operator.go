package scan

import (
	"math"

	"lockstep/api"
)

// stepsMod is what both halves of OpSteps' numbers are taken by.
const stepsMod = math.MaxInt32

// operator: what comes of two numbers, and what of none. Under OpSteps the one of none may not be joined to what is there: an item alone stands as it is, and would not behind it.
type operator struct {
	join func(first, second int64) int64
	none int64
}

// operatorOf answers false of a number that is no operator's.
func operatorOf(op int) (operator, bool) {
	switch op {
	case api.OpSum:
		return operator{join: func(first, second int64) int64 { return first + second }}, true
	case api.OpMax:
		return operator{join: func(first, second int64) int64 { return max(first, second) }, none: math.MinInt64}, true
	case api.OpLast:
		return operator{join: lastBut(0)}, true
	case api.OpSteps:
		return operator{join: stepsBy(stepsMod), none: 1 << 32}, true
	}
	return operator{}, false
}

// lastBut: the second, unless it is the one that stands for nothing.
func lastBut(nothing int64) func(first, second int64) int64 {
	return func(first, second int64) int64 {
		if second != nothing {
			return second
		}
		return first
	}
}

// stepsBy takes the halves by mod ahead of multiplying, so that no product runs over.
func stepsBy(mod int64) func(first, second int64) int64 {
	return func(first, second int64) int64 {
		h1, l1 := halves(first, mod)
		h2, l2 := halves(second, mod)
		return h1*h2%mod<<32 | (l1*h2+l2)%mod
	}
}

// halves of a number, from 0 on. The shift rounds down, also below 0, and so the low half is never below 0.
func halves(n, mod int64) (high, low int64) {
	return restBy(n>>32, mod), (n & math.MaxUint32) % mod
}

// restBy: from 0 on, where the language's own is below 0 for numbers below 0.
func restBy(n, mod int64) int64 {
	rest := n % mod
	if rest < 0 {
		rest += mod
	}
	return rest
}
