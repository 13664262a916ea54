package impl

import "strconv"

const MaxValue = 1000000000000

func FormatInt(n int) string {
	return strconv.Itoa(n)
}

func ParseInt(s string) (int, bool) {
	n, err := strconv.Atoi(s)
	// Atoi also takes signs and leading zeros; formatting n again tells them from the one accepted form.
	if err != nil || !InRange(n, 0, MaxValue) || FormatInt(n) != s {
		return 0, false
	}
	return n, true
}

func Min(a int, b int) int {
	least, _ := bounds(a, b)
	return least
}

func Max(a int, b int) int {
	_, greatest := bounds(a, b)
	return greatest
}

// The first argument stands apart so that there is always a least and a greatest one.
func bounds(first int, rest ...int) (int, int) {
	least, greatest := first, first
	for _, n := range rest {
		if n < least {
			least = n
		}
		if n > greatest {
			greatest = n
		}
	}
	return least, greatest
}

func CeilDiv(a int, b int) int {
	if !InRange(a, 0, MaxValue) || !InRange(b, 1, MaxValue) {
		return 0
	}
	return (a + b - 1) / b
}

func Mod(p int, q int) int {
	if !InRange(q, 1, MaxValue) {
		return 0
	}
	r := p % q
	if r < 0 {
		// Go's remainder has the sign of p.
		r += q
	}
	return r
}

func InRange(n int, low int, high int) bool {
	return low <= n && n <= high
}
