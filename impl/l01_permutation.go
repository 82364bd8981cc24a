package impl

import "slices"

const MaxPoints = 20
const MaxSmallDegree = 7

// A permutation is a slice that IsPermutation accepts. Its methods do not check that again: the
// exported functions do so before they convert an argument.
type permutation []int64

// then returns the permutation that applies p first and q second.
func (p permutation) then(q permutation) permutation {
	result := make(permutation, len(p))
	for i, x := range p {
		result[i] = q[x]
	}
	return result
}

func (p permutation) inverse() permutation {
	result := make(permutation, len(p))
	for i, x := range p {
		result[x] = int64(i)
	}
	return result
}

// power turns each cycle by k modulo its length, so that the size of k does not matter.
func (p permutation) power(k int64) permutation {
	result := make(permutation, len(p))
	for _, cycle := range p.allCycles() {
		length := int64(len(cycle))
		shift := modulo(k, length)
		for i, x := range cycle {
			result[x] = cycle[(int64(i)+shift)%length]
		}
	}
	return result
}

func (p permutation) moves(x int64) bool { return p[x] != x }

// startsCycle reports whether x is the smallest point of its cycle.
func (p permutation) startsCycle(x int64) bool {
	y := p[x]
	for y > x {
		y = p[y]
	}
	return y == x
}

// cycleFrom returns the cycle of x, starting with x.
func (p permutation) cycleFrom(x int64) []int64 {
	cycle := []int64{x}
	for y := p[x]; y != x; y = p[y] {
		cycle = append(cycle, y)
	}
	return cycle
}

// allCycles returns the cycles of p, including those of length 1, sorted by their first points.
func (p permutation) allCycles() [][]int64 {
	var cycles [][]int64
	for _, x := range pointsWhere(len(p), p.startsCycle) {
		cycles = append(cycles, p.cycleFrom(x))
	}
	return cycles
}

// pointsWhere returns the points below n for which holds is true, in ascending order.
func pointsWhere(n int, holds func(x int64) bool) []int64 {
	var points []int64
	for x := range int64(n) {
		if holds(x) {
			points = append(points, x)
		}
	}
	return points
}

// areOfEqualDegree reports whether p and q are permutations of the same degree.
func areOfEqualDegree(p []int64, q []int64) bool {
	return len(p) == len(q) && IsPermutation(p) && IsPermutation(q)
}

// modulo returns what k leaves modulo m, in the range 0 to m-1; m is greater than 0.
func modulo(k int64, m int64) int64 {
	rest := k % m
	if rest < 0 {
		rest += m
	}
	return rest
}

func greatestCommonDivisor(a int64, b int64) int64 {
	for b != 0 {
		a, b = b, a%b
	}
	return a
}

// IsPermutation reports whether p is a permutation.
func IsPermutation(p []int64) bool {
	if len(p) < 1 || len(p) > MaxPoints {
		return false
	}
	var seen [MaxPoints]bool
	for _, x := range p {
		if x < 0 || x >= int64(len(p)) || seen[x] {
			return false
		}
		seen[x] = true
	}
	return true
}

// Identity returns the identity of degree n, or nil if n is not in the range 1 to MaxPoints.
func Identity(n int64) []int64 {
	if n < 1 || n > MaxPoints {
		return nil
	}
	result := make([]int64, n)
	for i := range result {
		result[i] = int64(i)
	}
	return result
}

// Compose returns the permutation that applies p first and q second, that is i maps to q[p[i]],
// and true.
func Compose(p []int64, q []int64) ([]int64, bool) {
	if !areOfEqualDegree(p, q) {
		return nil, false
	}
	return permutation(p).then(q), true
}

// Inverse returns the permutation that, composed with p in either order, is the identity.
func Inverse(p []int64) []int64 {
	if !IsPermutation(p) {
		return nil
	}
	return permutation(p).inverse()
}

// Power returns p composed with itself k times. For a negative k it returns the inverse composed
// with itself -k times; for k = 0 it returns the identity. Every int64 value of k is accepted.
func Power(p []int64, k int64) []int64 {
	if !IsPermutation(p) {
		return nil
	}
	return permutation(p).power(k)
}

// ElementOrder returns the smallest k >= 1 for which Power(p, k) is the identity.
func ElementOrder(p []int64) int64 {
	if !IsPermutation(p) {
		return 0
	}
	order := int64(1)
	for _, cycle := range permutation(p).allCycles() {
		length := int64(len(cycle))
		order = order / greatestCommonDivisor(order, length) * length
	}
	return order
}

// Cycles returns the cycles of length 2 or more. Each cycle starts with its smallest point x,
// followed by p[x], p[p[x]] and so on; the cycles are sorted by their first points.
func Cycles(p []int64) [][]int64 {
	if !IsPermutation(p) {
		return nil
	}
	var cycles [][]int64
	for _, cycle := range permutation(p).allCycles() {
		if len(cycle) > 1 {
			cycles = append(cycles, cycle)
		}
	}
	return cycles
}

// Sign returns 1 if p is a product of an even number of transpositions, and -1 otherwise.
func Sign(p []int64) int64 {
	if !IsPermutation(p) {
		return 0
	}
	// A cycle of length m is a product of m-1 transpositions.
	transpositions := len(p) - len(permutation(p).allCycles())
	if transpositions%2 == 0 {
		return 1
	}
	return -1
}

// PermutationLess reports whether p precedes q in lexicographic order: the first differing entry
// of p is smaller.
func PermutationLess(p []int64, q []int64) bool {
	return areOfEqualDegree(p, q) && slices.Compare(p, q) < 0
}

// Support returns the points that p moves, in ascending order.
func Support(p []int64) []int64 {
	if !IsPermutation(p) {
		return nil
	}
	return pointsWhere(len(p), permutation(p).moves)
}
