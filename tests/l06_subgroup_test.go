package tests

import (
	"fmt"
	"math/rand"
	"slices"
	"testing"

	"loop.example/g00855/impl"
)

// A multiplication holds all permutations of a small degree; a number stands for the one at that place
// in lexicographic order.
type multiplication struct {
	all     [][]int64
	product [][]int // of x and y: the permutation that applies x first and y second
	inverse []int
}

func multiplicationOf(n int) multiplication {
	m := multiplication{all: permutationsOf(n)}
	places := map[string]int{}
	for x, p := range m.all {
		places[fmt.Sprint(p)] = x
	}
	for _, p := range m.all {
		var row []int
		for _, q := range m.all {
			row = append(row, places[fmt.Sprint(composed(p, q))])
		}
		m.product = append(m.product, row)
		m.inverse = append(m.inverse, slices.Index(row, 0))
	}
	return m
}

// composed returns the permutation that applies p first and q second.
func composed(p []int64, q []int64) []int64 {
	result := make([]int64, len(p))
	for i, x := range p {
		result[i] = q[x]
	}
	return result
}

// A subgroup holds its members in ascending order, and sets of generators of it.
type subgroup struct {
	members []int
	has     []bool
	gens    [][][]int64
}

// generatedBy returns the subgroup of all products of the given permutations.
func (m multiplication) generatedBy(gens ...int) subgroup {
	s := subgroup{members: []int{0}, has: make([]bool, len(m.all))}
	s.has[0] = true
	for i := 0; i < len(s.members); i++ {
		for _, g := range gens {
			if next := m.product[s.members[i]][g]; !s.has[next] {
				s.has[next] = true
				s.members = append(s.members, next)
			}
		}
	}
	slices.Sort(s.members)
	return s
}

func (m multiplication) permutations(numbers []int) [][]int64 {
	var result [][]int64
	for _, x := range numbers {
		result = append(result, m.all[x])
	}
	return result
}

// within reports whether every member of a is a member of b.
func (a subgroup) within(b subgroup) bool {
	for _, x := range a.members {
		if !b.has[x] {
			return false
		}
	}
	return true
}

// minima returns, for each permutation, the smallest one of its coset of a.
func (m multiplication) minima(a subgroup) []int {
	minima := make([]int, len(m.all))
	for p := range minima {
		minima[p] = p
		for _, x := range a.members {
			minima[p] = min(minima[p], m.product[x][p])
		}
	}
	return minima
}

// isNormal tries every member of a with every member of b.
func (m multiplication) isNormal(a subgroup, b subgroup) bool {
	for _, x := range a.members {
		for _, y := range b.members {
			if !a.has[m.product[m.product[m.inverse[y]][x]][y]] {
				return false
			}
		}
	}
	return a.within(b)
}

// centerOf returns the members of a that commute with every member.
func (m multiplication) centerOf(a subgroup) []int {
	return slices.DeleteFunc(slices.Clone(a.members), func(x int) bool {
		return slices.ContainsFunc(a.members, func(y int) bool { return m.product[x][y] != m.product[y][x] })
	})
}

// derivedOf returns the subgroup that the commutators of any two members of a generate.
func (m multiplication) derivedOf(a subgroup) subgroup {
	isCommutator := make([]bool, len(m.all))
	for _, x := range a.members {
		for _, y := range a.members {
			isCommutator[m.product[m.product[m.inverse[x]][m.inverse[y]]][m.product[x][y]]] = true
		}
	}
	var gens []int
	for x, is := range isCommutator {
		if is {
			gens = append(gens, x)
		}
	}
	return m.generatedBy(gens...)
}

// subgroupsOf returns different subgroups of degree n, each with a set of two generators and one of
// eight. For the degrees 1 to 5 they are all subgroups there are, since two permutations are enough to
// generate any of these; for degree 6 there are the trivial and the whole group among them.
func subgroupsOf(m multiplication) []subgroup {
	random := rand.New(rand.NewSource(14))
	var all []subgroup
	seen := map[string]bool{}
	add := func(x int, y int) {
		s := m.generatedBy(x, y)
		if seen[fmt.Sprint(s.members)] {
			return
		}
		seen[fmt.Sprint(s.members)] = true
		eight := [][]int64{m.all[y], m.all[x]}
		for len(eight) < impl.MaxGenerators {
			eight = append(eight, m.all[s.members[random.Intn(len(s.members))]])
		}
		random.Shuffle(len(eight), func(i int, j int) { eight[i], eight[j] = eight[j], eight[i] })
		s.gens = [][][]int64{{m.all[x], m.all[y]}, eight}
		all = append(all, s)
	}
	if len(m.all) > 120 {
		add(0, 0)
		add(slices.IndexFunc(m.all, func(p []int64) bool { return slices.Equal(p, withSwap(6, 0, 1)) }), slices.IndexFunc(m.all, func(p []int64) bool { return slices.Equal(p, shiftOf(6, 1)) }))
		for len(all) < 60 {
			// Permutations that move few points generate smaller groups.
			add(random.Intn(40), random.Intn(len(m.all)))
			add(random.Intn(120), random.Intn(120))
		}
		return all
	}
	for x := range m.all {
		for y := range m.all {
			add(x, y)
		}
	}
	return all
}

func requireSubgroup(t *testing.T, n int64, a [][]int64, b [][]int64, want bool) {
	t.Helper()
	if got := impl.IsSubgroup(n, a, b); got != want {
		t.Errorf("IsSubgroup(%d, %v, %v) = %v", n, a, b, got)
	}
}

func requireIndex(t *testing.T, n int64, a [][]int64, b [][]int64, want int64) {
	t.Helper()
	if got := impl.SubgroupIndex(n, a, b); got != want {
		t.Errorf("SubgroupIndex(%d, %v, %v) = %d, want %d", n, a, b, got, want)
	}
}

func requireNormal(t *testing.T, n int64, a [][]int64, b [][]int64, want bool) {
	t.Helper()
	if got := impl.IsNormalSubgroup(n, a, b); got != want {
		t.Errorf("IsNormalSubgroup(%d, %v, %v) = %v", n, a, b, got)
	}
}

func requireRepresentatives(t *testing.T, n int64, a [][]int64, b [][]int64, want [][]int64) {
	t.Helper()
	if got := impl.CosetRepresentatives(n, a, b); !slices.EqualFunc(got, want, slices.Equal) {
		t.Errorf("CosetRepresentatives(%d, %v, %v) = %v, want %v", n, a, b, got, want)
	}
}

func requireMinimum(t *testing.T, n int64, a [][]int64, p []int64, want []int64) {
	t.Helper()
	if got := impl.CosetMinimum(n, a, p); !slices.Equal(got, want) {
		t.Errorf("CosetMinimum(%d, %v, %v) = %v, want %v", n, a, p, got, want)
	}
}

// requireSameCoset asks in both orders.
func requireSameCoset(t *testing.T, n int64, a [][]int64, p []int64, q []int64, want bool) {
	t.Helper()
	if got := impl.SameCoset(n, a, p, q); got != want {
		t.Errorf("SameCoset(%d, %v, %v, %v) = %v", n, a, p, q, got)
	}
	if got := impl.SameCoset(n, a, q, p); got != want {
		t.Errorf("SameCoset(%d, %v, %v, %v) = %v", n, a, q, p, got)
	}
}

func requireAbelian(t *testing.T, g generated, want bool) {
	t.Helper()
	if got := impl.IsAbelian(g.n, g.gens); got != want {
		t.Errorf("IsAbelian(%v) = %v", g, got)
	}
}

func requireCenter(t *testing.T, g generated, want int64) {
	t.Helper()
	if got := impl.CenterOrder(g.n, g.gens); got != want {
		t.Errorf("CenterOrder(%v) = %d, want %d", g, got, want)
	}
}

func requireDerived(t *testing.T, g generated, want int64) {
	t.Helper()
	if got := impl.DerivedSubgroupOrder(g.n, g.gens); got != want {
		t.Errorf("DerivedSubgroupOrder(%v) = %d, want %d", g, got, want)
	}
}

// requireStep fails unless a is or is not a normal subgroup of b, of the given index.
func requireStep(t *testing.T, n int64, a [][]int64, b [][]int64, index int64, isNormal bool) {
	t.Helper()
	requireSubgroup(t, n, a, b, index > 0)
	requireIndex(t, n, a, b, index)
	requireNormal(t, n, a, b, isNormal)
	if index == 0 || index > 200 {
		requireRepresentatives(t, n, a, b, nil)
	} else if got := impl.CosetRepresentatives(n, a, b); int64(len(got)) != index {
		t.Errorf("CosetRepresentatives(%d, %v, %v) = %v, but the index is %d", n, a, b, got, index)
	}
}

func TestSubgroupsOfThreePoints(t *testing.T) {
	turn, all, swap := turnThree.gens, allThree.gens, [][]int64{{1, 0, 2}}
	requireStep(t, 3, turn, all, 2, true)
	requireStep(t, 3, all, turn, 0, false)
	requireStep(t, 3, swap, all, 3, false)
	requireStep(t, 3, swap, turn, 0, false)
	requireStep(t, 3, swap, [][]int64{{0, 2, 1}}, 0, false)
	requireStep(t, 3, all, [][]int64{{2, 1, 0}, {0, 2, 1}}, 1, true)
	requireSameCoset(t, 3, turn, []int64{0, 2, 1}, []int64{1, 0, 2}, true)
	requireSameCoset(t, 3, turn, []int64{0, 2, 1}, []int64{0, 1, 2}, false)
	requireMinimum(t, 3, turn, []int64{2, 1, 0}, []int64{0, 2, 1})
	requireRepresentatives(t, 3, turn, all, [][]int64{{0, 1, 2}, {0, 2, 1}})
	// A swap of two points, followed by a permutation, exchanges two entries of it, not two numbers.
	requireMinimum(t, 3, swap, []int64{2, 0, 1}, []int64{0, 2, 1})
	requireSameCoset(t, 3, swap, []int64{2, 0, 1}, []int64{0, 2, 1}, true)
	requireSameCoset(t, 3, swap, []int64{2, 0, 1}, []int64{2, 1, 0}, false)
	requireRepresentatives(t, 3, swap, all, [][]int64{{0, 1, 2}, {0, 2, 1}, {1, 2, 0}})
	requireAbelian(t, turnThree, true)
	requireAbelian(t, allThree, false)
	requireCenter(t, generated{4, [][]int64{{1, 2, 3, 0}, {0, 3, 2, 1}}}, 2)
	requireCenter(t, turnThree, 3)
	requireCenter(t, allThree, 1)
	requireDerived(t, allThree, 3)
	requireDerived(t, turnThree, 1)
}

// TestP6CosetsHaveTheOrderOfTheSubgroup sorts all permutations of small degrees by their CosetMinimum.
func TestP6CosetsHaveTheOrderOfTheSubgroup(t *testing.T) {
	random := rand.New(rand.NewSource(15))
	for n := 1; n <= 6; n++ {
		m := multiplicationOf(n)
		for i, a := range subgroupsOf(m) {
			gens, minima := a.gens[i%2], m.minima(a)
			size := map[string]int64{}
			for x, p := range m.all {
				requireMinimum(t, int64(n), gens, p, m.all[minima[x]])
				size[fmt.Sprint(impl.CosetMinimum(int64(n), gens, p))]++
				other := random.Intn(len(m.all))
				requireSameCoset(t, int64(n), gens, p, m.all[other], minima[x] == minima[other])
				requireSameCoset(t, int64(n), gens, p, m.all[minima[x]], true)
			}
			for minimum, count := range size {
				if order := impl.GroupOrder(int64(n), gens); count != order || count != int64(len(a.members)) {
					t.Errorf("the coset of %s has %d permutations, the group of %v has %d", minimum, count, gens, order)
				}
			}
		}
	}
}

func TestSameCosetOfAllPairs(t *testing.T) {
	for n := 1; n <= 4; n++ {
		m := multiplicationOf(n)
		for i, a := range subgroupsOf(m) {
			minima := m.minima(a)
			for x, p := range m.all {
				for y, q := range m.all {
					if got := impl.SameCoset(int64(n), a.gens[i%2], p, q); got != (minima[x] == minima[y]) {
						t.Errorf("SameCoset(%d, %v, %v, %v) = %v", n, a.gens[i%2], p, q, got)
					}
				}
			}
		}
	}
}

// TestAllPairsOfSubgroups knows from elsewhere how many subgroups there are.
func TestAllPairsOfSubgroups(t *testing.T) {
	counts := []int{0, 1, 2, 6, 30, 156, 60}
	for n := 1; n <= 6; n++ {
		m := multiplicationOf(n)
		all := subgroupsOf(m)
		if n < 6 && len(all) != counts[n] || len(all) < counts[n] {
			t.Fatalf("there are %d subgroups of degree %d, not %d", len(all), n, counts[n])
		}
		for i, a := range all {
			minima := m.minima(a)
			for j, b := range all {
				gensA, gensB := a.gens[i*j%2], b.gens[(i+j)%2]
				if !a.within(b) {
					requireStep(t, int64(n), gensA, gensB, 0, false)
					continue
				}
				representatives := slices.DeleteFunc(slices.Clone(b.members), func(p int) bool { return minima[p] != p })
				requireStep(t, int64(n), gensA, gensB, int64(len(representatives)), m.isNormal(a, b))
				if len(representatives) <= 200 {
					requireRepresentatives(t, int64(n), gensA, gensB, m.permutations(representatives))
				}
				if len(representatives)*len(a.members) != len(b.members) {
					t.Fatalf("the cosets of %v do not partition %v", gensA, gensB)
				}
			}
		}
	}
}

func TestCentersAndDerivedSubgroupsOfSmallDegree(t *testing.T) {
	for n := 1; n <= 6; n++ {
		m := multiplicationOf(n)
		for _, a := range subgroupsOf(m) {
			center, derived := m.centerOf(a), m.derivedOf(a)
			for _, gens := range a.gens {
				g := generated{int64(n), gens}
				requireAbelian(t, g, len(center) == len(a.members))
				requireCenter(t, g, int64(len(center)))
				requireDerived(t, g, int64(len(derived.members)))
			}
		}
	}
}

// TestTrivialSubgroups has every degree and every number of generators.
func TestTrivialSubgroups(t *testing.T) {
	for n := 1; n <= 20; n++ {
		identity := identityOf(n)
		turn := [][]int64{shiftOf(n, 1)}
		var turns [][]int64
		for k := range n {
			turns = append(turns, shiftOf(n, k))
		}
		for count := range 9 {
			g := generated{int64(n), slices.Repeat([][]int64{identity}, count)}
			requireStep(t, g.n, g.gens, g.gens, 1, true)
			requireStep(t, g.n, g.gens, nil, 1, true)
			requireStep(t, g.n, nil, g.gens, 1, true)
			requireRepresentatives(t, g.n, g.gens, nil, [][]int64{identity})
			requireStep(t, g.n, g.gens, turn, g.n, true)
			requireRepresentatives(t, g.n, g.gens, turn, turns)
			requireSubgroup(t, g.n, turn, g.gens, n == 1)
			requireAbelian(t, g, true)
			requireCenter(t, g, 1)
			requireDerived(t, g, 1)
			for _, p := range turns {
				requireMinimum(t, g.n, g.gens, p, p)
				requireSameCoset(t, g.n, g.gens, p, p, true)
				requireSameCoset(t, g.n, g.gens, p, identity, slices.Equal(p, identity))
			}
		}
	}
}

// TestSubgroupsOfLargeDegree has groups whose relation is known from elsewhere; an index of 0 is one
// that is no subgroup.
func TestSubgroupsOfLargeDegree(t *testing.T) {
	symmetric := [][]int64{withSwap(20, 0, 1), shiftOf(20, 1)}
	alternating := [][]int64{turnOf(20, 0, 1, 2), turnOf(20, identityOf(20)[1:]...)}
	line := [][]int64{onLine(19, 1, 1, 0, 1), onLine(19, 2, 0, 0, 1), onLine(19, 0, -1, 1, 0)}
	special := [][]int64{onLine(19, 1, 1, 0, 1), onLine(19, 4, 0, 0, 1), onLine(19, 0, -1, 1, 0)}
	mathieu := [][]int64{turnOf(12, 0, 1, 2, 3, 4, 5, 6, 7, 8, 9, 10), {0, 1, 6, 9, 5, 3, 10, 2, 8, 4, 7, 11}, {11, 10, 5, 7, 8, 2, 9, 3, 4, 6, 1, 0}}
	halves := [][]int64{withSwap(20, 0, 1), turnOf(20, 0, 1, 2, 3, 4, 5, 6, 7, 8, 9), withSwap(20, 10, 11), turnOf(20, 10, 11, 12, 13, 14, 15, 16, 17, 18, 19)}
	fives := [][]int64{withSwap(20, 0, 4), turnOf(20, 0, 1, 2, 3, 4), withSwap(20, 5, 9), turnOf(20, 5, 6, 7, 8, 9), withSwap(20, 10, 11), turnOf(20, 10, 11, 12, 13, 14), withSwap(20, 15, 17), turnOf(20, 15, 16, 17, 18, 19)}
	turning := [][]int64{withSwap(20, 0, 4), turnOf(20, 0, 1, 2, 3, 4), alongBlocks(5, []int64{1, 0, 2, 3}), alongBlocks(5, shiftOf(4, 1))}
	for _, c := range []struct {
		what     string
		n        int64
		a, b     [][]int64
		index    int64
		isNormal bool
	}{
		{"the alternating group", 20, alternating, symmetric, 2, true},
		{"the symmetric group in the alternating one", 20, symmetric, alternating, 0, false},
		{"the symmetric group in itself", 20, symmetric, [][]int64{shiftOf(20, 19), withSwap(20, 3, 4)}, 1, true},
		{"the alternating group in itself", 20, alternating, [][]int64{turnOf(20, 17, 18, 19), turnOf(20, identityOf(20)[:19]...)}, 1, true},
		{"the trivial group", 20, nil, symmetric, 2432902008176640000, true},
		{"the symmetric group in the trivial one", 20, symmetric, nil, 0, false},
		{"a swap", 20, [][]int64{withSwap(20, 4, 9)}, symmetric, 1216451004088320000, false},
		{"a swap in the alternating group", 20, [][]int64{withSwap(20, 4, 9)}, alternating, 0, false},
		{"all but the last point", 20, [][]int64{withSwap(20, 0, 1), turnOf(20, identityOf(20)[:19]...)}, symmetric, 20, false},
		{"even permutations of all but the first point", 20, [][]int64{turnOf(20, 1, 2, 3), turnOf(20, identityOf(20)[1:]...)}, alternating, 20, false},
		{"all but two points", 20, [][]int64{withSwap(20, 0, 1), turnOf(20, identityOf(20)[:18]...)}, symmetric, 380, false},
		{"a turn of 20 points", 20, [][]int64{shiftOf(20, 3)}, symmetric, 121645100408832000, false},
		{"a turn of 20 points in the alternating group", 20, [][]int64{shiftOf(20, 1)}, alternating, 0, false},
		{"a turn of 20 points in its inverse", 20, [][]int64{shiftOf(20, 1)}, [][]int64{shiftOf(20, 19)}, 1, true},
		{"a square in a turn", 20, [][]int64{shiftOf(20, 2)}, [][]int64{shiftOf(20, 1)}, 2, true},
		{"a turn in its square", 20, [][]int64{shiftOf(20, 1)}, [][]int64{shiftOf(20, 2)}, 0, false},
		{"swaps of the same order", 20, [][]int64{withSwap(20, 0, 1)}, [][]int64{withSwap(20, 0, 2)}, 0, false},
		{"conjugate groups", 20, [][]int64{withSwap(20, 0, 1), turnOf(20, 0, 1, 2, 3, 4)}, [][]int64{withSwap(20, 0, 1), turnOf(20, 0, 1, 2, 3, 5)}, 0, false},
		{"special fractions", 20, special, line, 2, true},
		{"fractions in the special ones", 20, line, special, 0, false},
		{"affine maps", 20, line[:2], line, 20, false},
		{"shifts in affine maps", 20, line[:1], line[:2], 18, true},
		{"multiples in affine maps", 20, line[1:2], line[:2], 19, false},
		{"shifts in fractions", 20, line[:1], line, 360, false},
		{"fractions in all permutations", 20, line, symmetric, 355687428096000, false},
		{"Mathieu groups", 12, mathieu[:2], mathieu, 12, false},
		{"exchanged Mathieu groups", 12, mathieu, mathieu[:2], 0, false},
		{"a turn in the smaller Mathieu group", 12, mathieu[:1], mathieu[:2], 720, false},
		{"two halves, exchanged or not", 20, halves, append(slices.Clone(halves), alongBlocks(10, []int64{1, 0})), 2, true},
		{"two halves", 20, halves, symmetric, 184756, false},
		{"four fives, exchanged or not", 20, fives, turning, 24, true},
		{"four fives in all permutations", 20, turning, symmetric, 2432902008176640000 / 4976640000, false},
		{"one of four fives", 20, turning[:2], turning, 4976640000 / 120, false},
		{"one of four fives in all of them", 20, fives[4:6], fives, 1728000, true},
	} {
		t.Run(c.what, func(t *testing.T) { requireStep(t, c.n, c.a, c.b, c.index, c.isNormal) })
	}
	requireRepresentatives(t, 20, alternating, symmetric, [][]int64{identityOf(20), withSwap(20, 18, 19)})
	requireRepresentatives(t, 20, symmetric, symmetric, [][]int64{identityOf(20)})
}

func factorial(k int64) int64 {
	if k < 2 {
		return 1
	}
	return k * factorial(k-1)
}

// subsetsOf returns all choices of k of the numbers below n, in lexicographic order.
func subsetsOf(n int, k int) [][]int64 {
	var all [][]int64
	var extend func(chosen []int64, from int64)
	extend = func(chosen []int64, from int64) {
		if len(chosen) == k {
			all = append(all, slices.Clone(chosen))
			return
		}
		for x := from; x < int64(n); x++ {
			extend(append(slices.Clone(chosen), x), x+1)
		}
	}
	extend(nil, 0)
	return all
}

// rest returns the points below n that are not among the given ones.
func rest(n int, points []int64) []int64 {
	return slices.DeleteFunc(identityOf(n), func(x int64) bool { return slices.Contains(points, x) })
}

// TestRepresentativesAreShuffles takes the group that maps a set of points onto itself: a coset is
// determined by the entries at these points, and its smallest permutation has them in ascending order.
func TestRepresentativesAreShuffles(t *testing.T) {
	random := rand.New(rand.NewSource(16))
	for n := 2; n <= 20; n++ {
		all := [][]int64{withSwap(n, 0, 1), shiftOf(n, 1)}
		for k := 1; k < n; k++ {
			points := int64s(random.Perm(n)[:k])
			others := rest(n, points)
			gens := [][]int64{turnOf(n, points...), withSwap(n, int(points[0]), int(points[k-1])), turnOf(n, others...), withSwap(n, int(others[0]), int(others[len(others)-1]))}
			if k > 2 {
				gens[1] = withSwap(n, int(points[0]), int(points[1]))
			}
			if n-k > 2 {
				gens[3] = withSwap(n, int(others[0]), int(others[1]))
			}
			slices.Sort(points)
			index := factorial(int64(n)) / factorial(int64(k)) / factorial(int64(n-k))
			requireStep(t, int64(n), gens, all, index, n == 2)
			if index > 200 {
				continue
			}
			var want [][]int64
			for _, entries := range subsetsOf(n, k) {
				p := make([]int64, n)
				for i, x := range points {
					p[x] = entries[i]
				}
				for i, x := range others {
					p[x] = rest(n, entries)[i]
				}
				want = append(want, p)
			}
			slices.SortFunc(want, slices.Compare[[]int64])
			requireRepresentatives(t, int64(n), gens, all, want)
		}
	}
}

// TestRepresentativesAtTheLimit has the index 200, and the next ones that there are with few points.
func TestRepresentativesAtTheLimit(t *testing.T) {
	if impl.MaxCosets != 200 {
		t.Errorf("MaxCosets = %d", impl.MaxCosets)
	}
	turned := limitGroups()[0].gens
	mapped := func(factor int64) []int64 {
		p := identityOf(20)
		for x := range int64(17) {
			p[x] = x * factor % 17
		}
		return p
	}
	for _, c := range []struct {
		n     int64
		a, b  [][]int64
		index int64
	}{
		{18, nil, [][]int64{turnOf(18, 0, 4, 8, 12, 16), turnOf(18, 1, 5, 9, 13, 17), turnOf(18, 2, 6, 10, 14, 15, 11, 7, 3)}, 200},
		{19, [][]int64{turnOf(19, 0, 1, 2), turned[3]}, turned, 200},
		{19, [][]int64{turned[2], turned[3], turned[4]}, turned, 24},
		{20, nil, [][]int64{turnOf(20, identityOf(20)[:17]...), mapped(4), turnOf(20, 17, 18, 19)}, 204},
		{19, nil, [][]int64{turnOf(19, identityOf(19)[:13]...), turnOf(19, 13, 14, 15, 16), withSwap(19, 13, 15), withSwap(19, 17, 18)}, 208},
		{17, nil, [][]int64{turnOf(17, 0, 1, 2, 3, 4, 5, 6), turnOf(17, 7, 8, 9, 10, 11), turnOf(17, 12, 13, 14), turnOf(17, 15, 16)}, 210},
		{19, [][]int64{turnOf(19, 0, 1, 2), withSwap(19, 0, 1), turned[4]}, turned, 100},
		{19, [][]int64{turnOf(19, 0, 1, 2), turnOf(19, 1, 2, 3)}, turned, 250},
	} {
		requireIndex(t, c.n, c.a, c.b, c.index)
		if c.index > 200 {
			requireRepresentatives(t, c.n, c.a, c.b, nil)
			continue
		}
		requireRepresentatives(t, c.n, c.a, c.b, enumeratedRepresentatives(generated{c.n, c.a}, generated{c.n, c.b}))
	}
}

// enumeratedCosets returns the cosets of a formed by members of b, each in ascending order.
func enumeratedCosets(a generated, b generated) [][][]int64 {
	var cosets [][][]int64
	seen := map[string]bool{}
	members := membersOf(a)
	for _, p := range sortedMembersOf(b) {
		if seen[fmt.Sprint(p)] {
			continue
		}
		var coset [][]int64
		for _, x := range members {
			coset = append(coset, composed(x, p))
			seen[fmt.Sprint(coset[len(coset)-1])] = true
		}
		slices.SortFunc(coset, slices.Compare[[]int64])
		cosets = append(cosets, coset)
	}
	return cosets
}

// enumeratedRepresentatives returns the smallest permutation of each coset of a formed by members of b.
func enumeratedRepresentatives(a generated, b generated) [][]int64 {
	var representatives [][]int64
	for _, coset := range enumeratedCosets(a, b) {
		representatives = append(representatives, coset[0])
	}
	slices.SortFunc(representatives, slices.Compare[[]int64])
	return representatives
}

// TestCosetsInGroupsOfAFewThousandMembers writes out the cosets at degrees where the permutations are
// too many to try.
func TestCosetsInGroupsOfAFewThousandMembers(t *testing.T) {
	random := rand.New(rand.NewSource(17))
	for _, group := range namedGroups() {
		if group.order > 7000 {
			continue
		}
		b := group.g
		for k := range len(b.gens) + 1 {
			a := generated{b.n, b.gens[:k]}
			cosets := enumeratedCosets(a, b)
			requireSubgroup(t, b.n, a.gens, b.gens, true)
			requireIndex(t, b.n, a.gens, b.gens, int64(len(cosets)))
			if len(cosets) <= 200 {
				requireRepresentatives(t, b.n, a.gens, b.gens, enumeratedRepresentatives(a, b))
			}
			for range 60 {
				coset := cosets[random.Intn(len(cosets))]
				other := cosets[random.Intn(len(cosets))]
				p := coset[random.Intn(len(coset))]
				requireMinimum(t, b.n, a.gens, p, coset[0])
				requireSameCoset(t, b.n, a.gens, p, coset[random.Intn(len(coset))], true)
				requireSameCoset(t, b.n, a.gens, p, other[random.Intn(len(other))], slices.Equal(coset[0], other[0]))
			}
		}
	}
}

// TestCosetsOfPermutationsThatAreNoMembers writes out the coset of any permutation.
func TestCosetsOfPermutationsThatAreNoMembers(t *testing.T) {
	random := rand.New(rand.NewSource(18))
	for _, group := range namedGroups() {
		if group.order > 7000 {
			continue
		}
		g := group.g
		members := membersOf(g)
		for range 20 {
			p := int64s(random.Perm(int(g.n)))
			least := p
			for _, x := range members {
				if q := composed(x, p); slices.Compare(q, least) < 0 {
					least = q
				}
			}
			requireMinimum(t, g.n, g.gens, p, least)
			requireSameCoset(t, g.n, g.gens, p, composed(members[random.Intn(len(members))], p), true)
			q := int64s(random.Perm(int(g.n)))
			isSame := slices.ContainsFunc(members, func(x []int64) bool { return slices.Equal(composed(x, p), q) })
			requireSameCoset(t, g.n, g.gens, p, q, isSame)
		}
	}
}

// homesOf returns, for each point, the smallest point of its orbit.
func homesOf(g generated) []int64 {
	homes := make([]int64, g.n)
	for x := range g.n {
		homes[x] = searchedOrbit(g, x)[0]
	}
	return homes
}

// arranged returns p with the entries at the points of each orbit in ascending order: the smallest
// permutation in the coset of p, if the group has all permutations that move each point within its orbit.
func arranged(homes []int64, p []int64) []int64 {
	result := make([]int64, len(p))
	for home := range int64(len(p)) {
		var entries []int64
		for x, y := range p {
			if homes[x] == home {
				entries = append(entries, y)
			}
		}
		slices.Sort(entries)
		for x := range p {
			if homes[x] == home {
				result[x], entries = entries[0], entries[1:]
			}
		}
	}
	return result
}

// TestCosetsOfGroupsOfSwaps exchanges entries within and across orbits.
func TestCosetsOfGroupsOfSwaps(t *testing.T) {
	random := rand.New(rand.NewSource(19))
	for _, g := range swapGroups() {
		homes := homesOf(g)
		for range 5 {
			p := int64s(random.Perm(int(g.n)))
			requireMinimum(t, g.n, g.gens, p, arranged(homes, p))
			q := slices.Clone(p)
			for range 3 {
				x, y := random.Intn(len(q)), random.Intn(len(q))
				q[x], q[y] = q[y], q[x]
				requireSameCoset(t, g.n, g.gens, p, q, slices.Equal(arranged(homes, p), arranged(homes, q)))
			}
		}
	}
}

// orbitLengths returns, for the smallest point of each orbit, the number of points in it.
func orbitLengths(homes []int64) map[int64]int64 {
	lengths := map[int64]int64{}
	for _, home := range homes {
		lengths[home]++
	}
	return lengths
}

// isNormalAmongSwaps uses that of the groups with all permutations that move each point within a part of
// one orbit, only those of single points and of the whole orbit are normal.
func isNormalAmongSwaps(parts []int64, homes []int64) bool {
	lengths, partLengths := orbitLengths(homes), orbitLengths(parts)
	for home, length := range lengths {
		for x := range homes {
			if part := partLengths[parts[x]]; homes[x] == home && part != length && part != 1 {
				return false
			}
		}
	}
	return true
}

// TestSubgroupsOfGroupsOfSwaps leaves out some of the swaps: everything follows from the orbits.
func TestSubgroupsOfGroupsOfSwaps(t *testing.T) {
	for _, g := range swapGroups()[:180] {
		homes := homesOf(g)
		order, derived, center, isAbelian := int64(1), int64(1), int64(1), true
		for _, length := range orbitLengths(homes) {
			order *= factorial(length)
			switch {
			case length == 2:
				center *= 2
			case length > 2:
				derived *= factorial(length) / 2
				isAbelian = false
			}
		}
		requireAbelian(t, g, isAbelian)
		requireDerived(t, g, derived)
		if order <= 3000 {
			requireCenter(t, g, center)
		} else {
			requireCenter(t, g, 0)
		}
		for k := range len(g.gens) + 1 {
			parts := homesOf(generated{g.n, g.gens[:k]})
			index := order
			for _, length := range orbitLengths(parts) {
				index /= factorial(length)
			}
			requireStep(t, g.n, g.gens[:k], g.gens, index, isNormalAmongSwaps(parts, homes))
			requireSubgroup(t, g.n, g.gens, g.gens[:k], index == 1)
			requireSubgroup(t, g.n, g.gens[k:], g.gens[:k], !slices.ContainsFunc(g.gens[k:], func(p []int64) bool { return !slices.Equal(arranged(parts, p), identityOf(int(g.n))) }))
		}
	}
}

func TestCentersOfLargeDegree(t *testing.T) {
	reversed := identityOf(20)
	slices.Reverse(reversed)
	fours := [][]int64{turnOf(20, 0, 1, 2, 3), withSwap(20, 1, 3), turnOf(20, 4, 5, 6, 7), withSwap(20, 5, 7), turnOf(20, 8, 9, 10, 11), withSwap(20, 9, 11)}
	for _, c := range []struct {
		g    generated
		want int64
	}{
		{generated{20, [][]int64{shiftOf(20, 1)}}, 20},
		{generated{20, [][]int64{shiftOf(20, 1), reversed}}, 2},
		{generated{19, [][]int64{shiftOf(19, 1), reversed[1:]}}, 1},
		{generated{20, [][]int64{shiftOf(20, 8), shiftOf(20, 14)}}, 10},
		{generated{20, fours}, 8},
		{generated{20, append(slices.Clone(fours), turnOf(20, 12, 13, 14, 15, 16))}, 40},
		{generated{20, append(slices.Clone(fours), turnOf(20, 12, 13, 14, 15, 16), withSwap(20, 12, 13))}, 0},
		{generated{20, append(slices.Clone(fours), turnOf(20, 12, 13, 14), withSwap(20, 12, 13))}, 0},
		{generated{18, [][]int64{turnOf(18, 0, 3, 6), turnOf(18, 9, 12, 15), turnOf(18, 1, 4, 7), turnOf(18, 10, 13, 16), turnOf(18, 2, 5, 8), turnOf(18, 11, 14, 17)}}, 729},
		{generated{20, [][]int64{onLine(19, 1, 1, 0, 1), onLine(19, 2, 0, 0, 1)}}, 1},
		{limitGroups()[0], 125},
		{limitGroups()[1], 125},
	} {
		requireCenter(t, c.g, c.want)
	}
	for _, g := range beyondLimit() {
		requireCenter(t, g, 0)
	}
}

func TestDerivedSubgroupsOfNamedGroups(t *testing.T) {
	want := map[string]int64{
		"symmetric of degree 20":              1216451004088320000,
		"symmetric of degree 20, last points": 1216451004088320000,
		"symmetric of degree 20, repeated":    1216451004088320000,
		"symmetric on 19 of 20 points":        60822550204416000,
		"alternating of degree 20":            1216451004088320000,
		"dihedral of degree 20":               10,
		"two symmetric of degree 10":          1814400 * 1814400,
		"ten pairs":                           3715891200 / 4,
		"five fours":                          955514880 / 4,
		"four fives":                          4976640000 / 4,
		"corners of a turning cube":           12,
		"fractions modulo 19":                 3420,
		"special fractions modulo 19":         3420,
		"affine maps modulo 19":               19,
		"special fractions modulo 7":          168,
		"Mathieu of degree 11":                7920,
		"Mathieu of degree 12":                95040,
	}
	for _, group := range namedGroups() {
		order, isOther := want[group.name]
		if !isOther {
			order = 1
		}
		requireDerived(t, group.g, order)
		requireAbelian(t, group.g, !isOther)
	}
}

// TestCosetsOfNamedGroups multiplies a permutation by members, where these are too many to write out.
func TestCosetsOfNamedGroups(t *testing.T) {
	random := rand.New(rand.NewSource(20))
	for _, group := range namedGroups() {
		g := group.g
		for range 4 {
			p := int64s(random.Perm(int(g.n)))
			least := impl.CosetMinimum(g.n, g.gens, p)
			requireSameCoset(t, g.n, g.gens, least, p, true)
			q := p
			for range 5 {
				if len(g.gens) > 0 {
					q = composed(g.gens[random.Intn(len(g.gens))], q)
				}
				requireMinimum(t, g.n, g.gens, q, least)
				requireSameCoset(t, g.n, g.gens, p, q, true)
				if slices.Compare(q, least) < 0 {
					t.Errorf("%s: CosetMinimum of %v = %v, but the coset has %v", group.name, p, least, q)
				}
			}
		}
	}
	alternating := [][]int64{turnOf(20, 0, 1, 2), turnOf(20, identityOf(20)[1:]...)}
	for range 50 {
		p, q := int64s(random.Perm(20)), int64s(random.Perm(20))
		requireSameCoset(t, 20, alternating, p, q, inversions(p)%2 == inversions(q)%2)
		if inversions(p)%2 == 0 {
			requireMinimum(t, 20, alternating, p, identityOf(20))
		} else {
			requireMinimum(t, 20, alternating, p, withSwap(20, 18, 19))
		}
	}
}

func TestSubgroupFunctionsRefuseOtherGenerators(t *testing.T) {
	for _, g := range notGenerated() {
		p := identityOf(int(min(max(g.n, 0), 30)))
		for _, other := range [][][]int64{nil, {p}, g.gens} {
			requireStep(t, g.n, g.gens, other, 0, false)
			requireStep(t, g.n, other, g.gens, 0, false)
		}
		for _, p := range [][]int64{nil, {}, {0}, p} {
			requireSameCoset(t, g.n, g.gens, p, p, false)
			requireMinimum(t, g.n, g.gens, p, nil)
		}
		requireAbelian(t, g, false)
		requireCenter(t, g, 0)
		requireDerived(t, g, 0)
	}
}

func TestSubgroupFunctionsAcceptEightGenerators(t *testing.T) {
	for n := 1; n <= 20; n++ {
		eight := slices.Repeat([][]int64{shiftOf(n, 1)}, 8)
		nine := append(eight, identityOf(n))
		g, beyond := generated{int64(n), eight}, generated{int64(n), nine}
		requireStep(t, g.n, eight, eight, 1, true)
		requireStep(t, g.n, eight, nine, 0, false)
		requireStep(t, g.n, nine, eight, 0, false)
		requireStep(t, g.n, nine, nine, 0, false)
		requireMinimum(t, g.n, eight, shiftOf(n, n-1), identityOf(n))
		requireMinimum(t, g.n, nine, shiftOf(n, n-1), nil)
		requireSameCoset(t, g.n, eight, shiftOf(n, n-1), identityOf(n), true)
		requireSameCoset(t, g.n, nine, identityOf(n), identityOf(n), false)
		requireAbelian(t, g, true)
		requireAbelian(t, beyond, false)
		requireCenter(t, g, g.n)
		requireCenter(t, beyond, 0)
		requireDerived(t, g, 1)
		requireDerived(t, beyond, 0)
	}
}

func TestSubgroupFunctionsRefuseOtherDegrees(t *testing.T) {
	for n := 1; n <= 20; n++ {
		turn, longer, shorter := [][]int64{shiftOf(n, 1)}, [][]int64{shiftOf(n+1, 1)}, [][]int64{shiftOf(n-1, 1)}
		for _, other := range [][][]int64{longer, shorter, {identityOf(n), identityOf(n + 1)}, {identityOf(n - 1), identityOf(n)}} {
			requireStep(t, int64(n), turn, other, 0, false)
			requireStep(t, int64(n), other, turn, 0, false)
			requireStep(t, int64(n), nil, other, 0, false)
		}
	}
}

func TestCosetFunctionsRefuseOtherPermutations(t *testing.T) {
	for n := 1; n <= 20; n++ {
		for _, gens := range [][][]int64{nil, {shiftOf(n, 1)}, {shiftOf(n, 1), withSwap(n, 0, n-1)}} {
			refused := append(notPermutations(), identityOf(n-1), identityOf(n+1), shiftOf(n+1, 1), append(identityOf(n-1), -1), append(identityOf(n-1), int64(n)), append(identityOf(n), 0))
			for _, p := range refused {
				requireMinimum(t, int64(n), gens, p, nil)
				requireSameCoset(t, int64(n), gens, p, identityOf(n), false)
				requireSameCoset(t, int64(n), gens, p, p, false)
			}
		}
	}
}

// subgroupResults calls every function of chapter 6, with a part of the generators as the subgroup; each
// slice of a result has a name of its own.
func subgroupResults(g generated, p []int64) map[string][]int64 {
	results := map[string][]int64{}
	for _, k := range []int{0, len(g.gens) / 2, len(g.gens)} {
		a := g.gens[:k]
		impl.IsSubgroup(g.n, a, g.gens)
		impl.IsSubgroup(g.n, g.gens, a)
		impl.SubgroupIndex(g.n, a, g.gens)
		impl.IsNormalSubgroup(g.n, a, g.gens)
		impl.SameCoset(g.n, a, p, p)
		if len(g.gens) > 0 {
			impl.SameCoset(g.n, a, p, g.gens[0])
			impl.SameCoset(g.n, a, g.gens[0], p)
		}
		results[fmt.Sprint("CosetMinimum ", k)] = impl.CosetMinimum(g.n, a, p)
		for i, minimum := range impl.CosetRepresentatives(g.n, a, g.gens) {
			results[fmt.Sprint("CosetRepresentatives ", k, " ", i)] = minimum
		}
	}
	impl.IsAbelian(g.n, g.gens)
	impl.CenterOrder(g.n, g.gens)
	impl.DerivedSubgroupOrder(g.n, g.gens)
	return results
}

func TestSubgroupResultsAreNewMemory(t *testing.T) {
	requireNewMemory(t, "chapter 6", subgroupResults)
}
