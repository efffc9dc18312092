package impl

import (
	"math/bits"
	"strconv"
)

const MaxInt = 1000000000000000

// maxPower keeps every power of 10, and so of 2 and 5, within an int.
const maxPower = 17

func NumText(n int) string {
	return strconv.Itoa(n)
}

func ParseNum(s string) (int, bool) {
	n, err := strconv.Atoi(s)
	if err != nil || n < -MaxInt || n > MaxInt {
		return 0, false
	}
	// Atoi also reads "+1", "01" and "-0", which NumText never writes.
	if NumText(n) != s {
		return 0, false
	}
	return n, true
}

func Pow(b int, k int) int {
	// The index is the base; a base without a function has no powers.
	powers := [11]func(k int) int{2: powerOfTwo, 5: powerOfFive, 10: powerOfTen}
	if b < 0 || b >= len(powers) || powers[b] == nil {
		return 0
	}
	if k < 0 || k > maxPower {
		return 0
	}
	return powers[b](k)
}

func powerOfTwo(k int) int {
	return 1 << k
}

func powerOfFive(k int) int {
	p := 1
	for range k {
		p *= 5
	}
	return p
}

func powerOfTen(k int) int {
	return powerOfTwo(k) * powerOfFive(k)
}

func Half(n int, d int) int {
	if n < 0 || n > MaxInt || d < 1 || d > MaxInt {
		return 0
	}
	whole, rest := n/d, n%d
	// Comparing twice the rest with d is exact, and both are too small to overflow.
	tie := 2*rest == d
	if 2*rest > d || tie && whole%2 == 1 {
		return whole + 1
	}
	return whole
}

func BitsOf(n int) int {
	if n < 0 || n > MaxInt {
		return 0
	}
	return bits.Len(uint(n))
}

func Digits(n int) int {
	// The sign stays, since the smallest int has no positive counterpart.
	count := 1
	for n /= 10; n != 0; n /= 10 {
		count++
	}
	return count
}
