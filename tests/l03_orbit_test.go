package tests

import (
	"fmt"
	"math"
	"math/rand"
	"slices"
	"testing"

	"loop.example/g00855/impl"
)

// A generated group is a degree and generators of that degree.
type generated struct {
	n    int64
	gens [][]int64
}

// withSwap returns the permutation of degree n that exchanges x and y.
func withSwap(n int, x int, y int) []int64 {
	p := identityOf(n)
	p[x], p[y] = p[y], p[x]
	return p
}

// turnOf returns the permutation of degree n that moves each of the points to the next one, and the
// last one to the first.
func turnOf(n int, points ...int64) []int64 {
	p := identityOf(n)
	for i, x := range points {
		p[x] = points[(i+1)%len(points)]
	}
	return p
}

// smallGroups returns all sets of one generator of the degrees 1 to 4 and of two of the degrees 1 to 3,
// the empty sets of the degrees 1 to 5, and some larger sets of small degree.
func smallGroups() []generated {
	var all []generated
	for n := 1; n <= 5; n++ {
		all = append(all, generated{int64(n), nil}, generated{int64(n), [][]int64{}})
	}
	for n := 1; n <= 4; n++ {
		for _, p := range permutationsOf(n) {
			all = append(all, generated{int64(n), [][]int64{p}})
		}
	}
	for n := 1; n <= 3; n++ {
		for _, p := range permutationsOf(n) {
			for _, q := range permutationsOf(n) {
				all = append(all, generated{int64(n), [][]int64{p, q}})
			}
		}
	}
	return append(all,
		generated{4, [][]int64{{1, 0, 2, 3}, {0, 2, 1, 3}, {0, 1, 3, 2}}},
		generated{4, [][]int64{{0, 1, 3, 2}, {0, 2, 1, 3}, {1, 0, 2, 3}}},
		generated{4, [][]int64{{0, 1, 2, 3}, {1, 2, 3, 0}}},
		generated{4, [][]int64{{1, 2, 3, 0}, {1, 2, 3, 0}}},
		generated{4, [][]int64{{1, 2, 3, 0}, {3, 0, 1, 2}}},
		generated{4, [][]int64{{3, 0, 1, 2}, {1, 2, 3, 0}}},
		generated{4, [][]int64{{1, 0, 3, 2}, {2, 3, 0, 1}}},
		generated{5, [][]int64{{1, 0, 2, 3, 4}, {0, 1, 3, 2, 4}}},
		generated{5, [][]int64{{1, 2, 3, 4, 0}}},
		generated{5, [][]int64{{2, 3, 4, 0, 1}, {0, 4, 3, 2, 1}}},
		generated{5, [][]int64{{1, 2, 0, 3, 4}, {0, 1, 3, 4, 2}}},
		generated{5, [][]int64{{0, 1, 2, 3, 4}, {4, 1, 2, 3, 0}, {0, 3, 2, 1, 4}}},
		generated{3, [][]int64{{0, 1, 2}, {0, 1, 2}, {0, 1, 2}, {0, 1, 2}, {0, 1, 2}, {0, 1, 2}, {0, 1, 2}, {2, 0, 1}}},
		generated{3, [][]int64{{0, 1, 2}, {1, 0, 2}, {1, 0, 2}, {0, 1, 2}, {0, 1, 2}, {0, 1, 2}, {0, 2, 1}, {0, 1, 2}}},
	)
}

// largeGroups returns sets of 0 to 8 generators of the degrees 5 to 20, among them sets with few moved
// points, so that there are many orbits.
func largeGroups() []generated {
	all := []generated{
		{20, nil},
		{20, [][]int64{shiftOf(20, 1)}},
		{20, [][]int64{shiftOf(20, 4), shiftOf(20, 10)}},
		{20, [][]int64{shiftOf(20, 15), shiftOf(20, 0), shiftOf(20, 15)}},
		{20, [][]int64{shiftOf(20, 0)}},
		{20, [][]int64{withSwap(20, 0, 19)}},
		{20, [][]int64{shiftOf(20, 1), withSwap(20, 0, 1)}},
		{20, [][]int64{withSwap(20, 18, 19), withSwap(20, 17, 18), withSwap(20, 3, 17), withSwap(20, 0, 3), withSwap(20, 1, 2), withSwap(20, 5, 4), withSwap(20, 9, 5), withSwap(20, 10, 11)}},
		{19, [][]int64{turnOf(19, 0, 2, 4, 6, 8), turnOf(19, 8, 10, 12), turnOf(19, 1, 3, 5), turnOf(19, 7, 9, 11, 13)}},
		{12, [][]int64{turnOf(12, 11, 3, 7, 0), turnOf(12, 0, 7, 3, 11), turnOf(12, 5, 6), turnOf(12, 6, 5), turnOf(12, 10, 9, 8)}},
	}
	random := rand.New(rand.NewSource(3))
	for n := 5; n <= 20; n++ {
		for count := 0; count <= 8; count++ {
			var gens [][]int64
			for range count {
				g := identityOf(n)
				for range random.Intn(3) {
					x, y := random.Intn(n), random.Intn(n)
					g[x], g[y] = g[y], g[x]
				}
				gens = append(gens, g)
			}
			all = append(all, generated{int64(n), gens})
		}
		all = append(all, generated{int64(n), [][]int64{int64s(random.Perm(n))}})
	}
	return all
}

func int64s(list []int) []int64 {
	var result []int64
	for _, x := range list {
		result = append(result, int64(x))
	}
	return result
}

// membersOf returns all products of the generators and their inverses, found by multiplying until
// nothing new comes, without the functions under test.
func membersOf(g generated) [][]int64 {
	members := [][]int64{identityOf(int(g.n))}
	seen := map[string]bool{fmt.Sprint(members[0]): true}
	for i := 0; i < len(members); i++ {
		for _, move := range movesInOrder(g) {
			product := make([]int64, g.n)
			for j, x := range members[i] {
				product[j] = move[x]
			}
			if !seen[fmt.Sprint(product)] {
				seen[fmt.Sprint(product)] = true
				members = append(members, product)
			}
		}
	}
	return members
}

// lettersInOrder returns the letters of g in the order 1, -1, 2, -2, and so on.
func lettersInOrder(g generated) []int64 {
	var letters []int64
	for k := range g.gens {
		letters = append(letters, int64(k+1), int64(-k-1))
	}
	return letters
}

// movesInOrder returns what the letters of g denote, in their order.
func movesInOrder(g generated) [][]int64 {
	var moves [][]int64
	for _, p := range g.gens {
		inverse := make([]int64, len(p))
		for i, x := range p {
			inverse[x] = int64(i)
		}
		moves = append(moves, p, inverse)
	}
	return moves
}

// pointAfter returns where the word moves the content of x, a letter at a time.
func pointAfter(g generated, word []int64, x int64) int64 {
	for _, letter := range word {
		if letter > 0 {
			x = g.gens[letter-1][x]
		} else {
			x = int64(slices.Index(g.gens[-letter-1], x))
		}
	}
	return x
}

// distancesTo returns, for each of the n points, the least number of moves from it to y, or -1.
func distancesTo(y int64, n int64, moves [][]int64) []int64 {
	distances := make([]int64, n)
	for i := range distances {
		distances[i] = -1
	}
	distances[y] = 0
	for changed := true; changed; {
		changed = false
		for x := range distances {
			for _, move := range moves {
				after := distances[move[x]]
				if after >= 0 && (distances[x] < 0 || distances[x] > after+1) {
					distances[x] = after + 1
					changed = true
				}
			}
		}
	}
	return distances
}

// searchedOrbit is a plain search from x.
func searchedOrbit(g generated, x int64) []int64 {
	found := []int64{x}
	for i := 0; i < len(found); i++ {
		for _, move := range movesInOrder(g) {
			if y := move[found[i]]; !slices.Contains(found, y) {
				found = append(found, y)
			}
		}
	}
	slices.Sort(found)
	return found
}

func TestP3OrbitsPartitionThePoints(t *testing.T) {
	for _, g := range append(smallGroups(), largeGroups()...) {
		orbits := impl.Orbits(g.n, g.gens)
		home := make([]int, g.n)
		for i, orbit := range orbits {
			if len(orbit) == 0 {
				t.Fatalf("Orbits(%v) has an empty orbit", g)
			}
			for _, x := range orbit {
				if x < 0 || x >= g.n || home[x] != 0 {
					t.Fatalf("Orbits(%v) = %v: the point %d is no point or in two orbits", g, orbits, x)
				}
				home[x] = i + 1
			}
		}
		for x, orbit := range home {
			if orbit == 0 {
				t.Errorf("Orbits(%v) = %v: the point %d is in no orbit", g, orbits, x)
			}
			for _, p := range g.gens {
				if home[p[x]] != orbit {
					t.Errorf("Orbits(%v) = %v: %v maps %d out of its orbit", g, orbits, p, x)
				}
			}
		}
	}
}

// TestOrbitsArePlainSearches compares the orbits with a search from every point, so that they are not
// only closed under the generators but also as small as possible.
func TestOrbitsArePlainSearches(t *testing.T) {
	for _, g := range append(smallGroups(), largeGroups()...) {
		var orbits [][]int64
		var fixed []int64
		for x := range g.n {
			orbit := searchedOrbit(g, x)
			if got := impl.Orbit(g.n, g.gens, x); !slices.Equal(got, orbit) {
				t.Errorf("Orbit(%v, %d) = %v, want %v", g, x, got, orbit)
			}
			if orbit[0] == x {
				orbits = append(orbits, orbit)
			}
			if len(orbit) == 1 {
				fixed = append(fixed, x)
			}
		}
		if got := impl.Orbits(g.n, g.gens); !slices.EqualFunc(got, orbits, slices.Equal) {
			t.Errorf("Orbits(%v) = %v, want %v", g, got, orbits)
		}
		if got := impl.FixedPoints(g.n, g.gens); !slices.Equal(got, fixed) {
			t.Errorf("FixedPoints(%v) = %v, want %v", g, got, fixed)
		}
		if got := impl.IsTransitive(g.n, g.gens); got != (len(orbits) == 1) {
			t.Errorf("IsTransitive(%v) = %v, the orbits are %v", g, got, orbits)
		}
	}
}

func TestOrbitIsWhereMembersMoveThePoint(t *testing.T) {
	for _, g := range smallGroups() {
		members := membersOf(g)
		for x := range g.n {
			var want []int64
			for _, member := range members {
				want = append(want, member[x])
			}
			slices.Sort(want)
			want = slices.Compact(want)
			if got := impl.Orbit(g.n, g.gens, x); !slices.Equal(got, want) {
				t.Errorf("Orbit(%v, %d) = %v, want %v", g, x, got, want)
			}
		}
	}
}

func TestOrbitsOfSomeGroups(t *testing.T) {
	points := identityOf(20)
	single := make([][]int64, 20)
	for x := range single {
		single[x] = []int64{int64(x)}
	}
	for _, c := range []struct {
		g      generated
		orbits [][]int64
		fixed  []int64
		pairs  int64
	}{
		{generated{1, nil}, [][]int64{{0}}, []int64{0}, 0},
		{generated{1, [][]int64{{0}}}, [][]int64{{0}}, []int64{0}, 0},
		{generated{2, nil}, [][]int64{{0}, {1}}, []int64{0, 1}, 2},
		{generated{2, [][]int64{{1, 0}}}, [][]int64{{0, 1}}, nil, 1},
		{generated{3, [][]int64{{2, 1, 0}}}, [][]int64{{0, 2}, {1}}, []int64{1}, 3},
		{generated{5, [][]int64{{1, 0, 2, 3, 4}, {0, 1, 3, 2, 4}}}, [][]int64{{0, 1}, {2, 3}, {4}}, []int64{4}, 8},
		{generated{6, [][]int64{{5, 1, 4, 3, 2, 0}}}, [][]int64{{0, 5}, {1}, {2, 4}, {3}}, []int64{1, 3}, 16},
		{generated{20, nil}, single, points, 380},
		{generated{20, [][]int64{points}}, single, points, 380},
		{generated{20, [][]int64{shiftOf(20, 1)}}, [][]int64{points}, nil, 19},
		{generated{20, [][]int64{shiftOf(20, 1), withSwap(20, 0, 1)}}, [][]int64{points}, nil, 1},
		{generated{20, [][]int64{shiftOf(20, 10)}}, [][]int64{{0, 10}, {1, 11}, {2, 12}, {3, 13}, {4, 14}, {5, 15}, {6, 16}, {7, 17}, {8, 18}, {9, 19}}, nil, 190},
		{generated{20, [][]int64{turnOf(20, 0, 5, 1, 6, 2, 7, 3, 8, 4, 9), turnOf(20, 11, 10), turnOf(20, 19, 12)}}, [][]int64{points[:10], {10, 11}, {12, 19}, {13}, {14}, {15}, {16}, {17}, {18}}, points[13:19], 83},
	} {
		if got := impl.Orbits(c.g.n, c.g.gens); !slices.EqualFunc(got, c.orbits, slices.Equal) {
			t.Errorf("Orbits(%v) = %v", c.g, got)
		}
		if got := impl.FixedPoints(c.g.n, c.g.gens); !slices.Equal(got, c.fixed) {
			t.Errorf("FixedPoints(%v) = %v", c.g, got)
		}
		if got := impl.IsTransitive(c.g.n, c.g.gens); got != (len(c.orbits) == 1) {
			t.Errorf("IsTransitive(%v) = %v", c.g, got)
		}
		if got := impl.PairOrbitCount(c.g.n, c.g.gens); got != c.pairs {
			t.Errorf("PairOrbitCount(%v) = %d", c.g, got)
		}
	}
}

// TestPairOrbitsArePlainSearches searches from every ordered pair of distinct points and counts the
// searches that find no pair before the one that they start from.
func TestPairOrbitsArePlainSearches(t *testing.T) {
	type pair struct{ x, y int64 }
	for _, g := range append(smallGroups(), largeGroups()...) {
		moves := movesInOrder(g)
		seen := map[pair]bool{}
		want := int64(0)
		for code := range g.n * g.n {
			start := pair{code / g.n, code % g.n}
			if start.x == start.y || seen[start] {
				continue
			}
			want++
			seen[start] = true
			for found := []pair{start}; len(found) > 0; found = found[1:] {
				for _, move := range moves {
					next := pair{move[found[0].x], move[found[0].y]}
					if !seen[next] {
						seen[next] = true
						found = append(found, next)
					}
				}
			}
		}
		if got := impl.PairOrbitCount(g.n, g.gens); got != want {
			t.Errorf("PairOrbitCount(%v) = %d, want %d", g, got, want)
		}
	}
}

// TestPairOrbitsOfMembers counts by Burnside's lemma: the orbits are as many as the pairs that a member
// fixes on average.
func TestPairOrbitsOfMembers(t *testing.T) {
	for _, g := range smallGroups() {
		members := membersOf(g)
		pairs := 0
		for _, member := range members {
			fixed := 0
			for i, x := range member {
				if x == int64(i) {
					fixed++
				}
			}
			pairs += fixed * (fixed - 1)
		}
		if got := impl.PairOrbitCount(g.n, g.gens); got != int64(pairs/len(members)) {
			t.Errorf("PairOrbitCount(%v) = %d, want %d", g, got, pairs/len(members))
		}
	}
}

func requireWordTo(t *testing.T, g generated, x int64, y int64, want []int64) {
	t.Helper()
	got, ok := impl.ShortestWordTo(g.n, g.gens, x, y)
	if !ok || !slices.Equal(got, want) {
		t.Errorf("ShortestWordTo(%v, %d, %d) = %v, %v, want %v", g, x, y, got, ok, want)
	}
}

func requireNoWordTo(t *testing.T, g generated, x int64, y int64) {
	t.Helper()
	if got, ok := impl.ShortestWordTo(g.n, g.gens, x, y); ok || len(got) != 0 {
		t.Errorf("ShortestWordTo(%v, %d, %d) = %v, %v", g, x, y, got, ok)
	}
}

func TestShortestWordTo(t *testing.T) {
	turn := turnOf(5, 0, 1, 2, 3, 4)
	back := turnOf(5, 4, 3, 2, 1, 0)
	row := [][]int64{{1, 0, 2, 3}, {0, 2, 1, 3}, {0, 1, 3, 2}}
	for _, c := range []struct {
		g    generated
		x, y int64
		want []int64
	}{
		{generated{1, nil}, 0, 0, nil},
		{generated{1, [][]int64{{0}}}, 0, 0, nil},
		{generated{20, nil}, 19, 19, nil},
		{generated{5, [][]int64{turn}}, 3, 3, nil},
		{generated{5, [][]int64{turn}}, 0, 1, []int64{1}},
		{generated{5, [][]int64{turn}}, 0, 2, []int64{1, 1}},
		{generated{5, [][]int64{turn}}, 0, 3, []int64{-1, -1}},
		{generated{5, [][]int64{turn}}, 0, 4, []int64{-1}},
		{generated{5, [][]int64{turn}}, 4, 1, []int64{1, 1}},
		// Of the letters that do the same, the first in the order 1, -1, 2, -2 is taken.
		{generated{4, row}, 0, 1, []int64{1}},
		{generated{4, row}, 0, 3, []int64{1, 2, 3}},
		{generated{4, row}, 3, 0, []int64{3, 2, 1}},
		{generated{5, [][]int64{turn, turn}}, 0, 2, []int64{1, 1}},
		{generated{5, [][]int64{turn, turn}}, 2, 0, []int64{-1, -1}},
		{generated{5, [][]int64{turn, back}}, 0, 4, []int64{-1}},
		{generated{5, [][]int64{back, turn}}, 0, 1, []int64{-1}},
		{generated{5, [][]int64{identityOf(5), turn, back}}, 1, 0, []int64{-2}},
		{generated{5, [][]int64{identityOf(5), turn, back}}, 1, 2, []int64{2}},
		{generated{4, [][]int64{{1, 2, 3, 0}}}, 0, 2, []int64{1, 1}},
		{generated{4, [][]int64{{1, 2, 3, 0}}}, 3, 1, []int64{1, 1}},
		{generated{4, [][]int64{{1, 0, 3, 2}, {2, 3, 0, 1}}}, 0, 3, []int64{1, 2}},
		{generated{4, [][]int64{{2, 3, 0, 1}, {1, 0, 3, 2}}}, 0, 3, []int64{1, 2}},
		{generated{4, [][]int64{{1, 2, 3, 0}, {1, 0, 3, 2}}}, 0, 3, []int64{-1}},
		// Here [-1 2], [-1 -2], [2 1] and [2 -1] all lead from 0 to 5.
		{generated{6, [][]int64{{1, 4, 5, 3, 0, 2}, {2, 1, 3, 0, 5, 4}}}, 0, 5, []int64{-1, 2}},
		// The first differing letter decides, whatever follows it.
		{generated{6, [][]int64{turnOf(6, 1, 5, 4), turnOf(6, 0, 1, 2), turnOf(6, 2, 5, 3)}}, 0, 5, []int64{2, 1}},
		{generated{6, [][]int64{turnOf(6, 2, 5, 4), turnOf(6, 0, 1, 2), turnOf(6, 1, 5, 3)}}, 0, 5, []int64{2, 3}},
		// A shorter word comes before a longer one, whatever its letters.
		{generated{4, [][]int64{turnOf(4, 0, 1), turnOf(4, 1, 2), turnOf(4, 2, 0)}}, 0, 2, []int64{3}},
		{generated{3, [][]int64{identityOf(3), identityOf(3), identityOf(3), identityOf(3), identityOf(3), identityOf(3), identityOf(3), {2, 0, 1}}}, 0, 1, []int64{-8}},
		{generated{3, [][]int64{identityOf(3), identityOf(3), identityOf(3), identityOf(3), identityOf(3), identityOf(3), identityOf(3), {2, 0, 1}}}, 0, 2, []int64{8}},
		{generated{20, [][]int64{shiftOf(20, 1)}}, 0, 10, []int64{1, 1, 1, 1, 1, 1, 1, 1, 1, 1}},
		{generated{20, [][]int64{shiftOf(20, 1)}}, 0, 11, []int64{-1, -1, -1, -1, -1, -1, -1, -1, -1}},
		{generated{20, [][]int64{shiftOf(20, 1), shiftOf(20, 5)}}, 19, 12, []int64{-1, -1, -2}},
		{generated{20, [][]int64{shiftOf(20, 1), shiftOf(20, 9)}}, 0, 10, []int64{1, 2}},
	} {
		requireWordTo(t, c.g, c.x, c.y, c.want)
	}
	requireNoWordTo(t, generated{2, nil}, 0, 1)
	requireNoWordTo(t, generated{20, nil}, 19, 0)
	requireNoWordTo(t, generated{2, [][]int64{{0, 1}}}, 1, 0)
	requireNoWordTo(t, generated{5, [][]int64{{1, 0, 2, 3, 4}, {0, 1, 3, 2, 4}}}, 0, 2)
	requireNoWordTo(t, generated{5, [][]int64{{1, 0, 2, 3, 4}, {0, 1, 3, 2, 4}}}, 2, 4)
	requireNoWordTo(t, generated{20, [][]int64{shiftOf(20, 4)}}, 0, 2)
}

// TestShortestWordIsFirstOfAllWords tries the words one after the other, in their order; with more than
// two generators there are too many of them.
func TestShortestWordIsFirstOfAllWords(t *testing.T) {
	for _, g := range smallGroups() {
		if len(g.gens) > 2 {
			continue
		}
		first := make(map[[2]int64][]int64)
		level := [][]int64{{}}
		for range g.n { // a word of n letters passes a point twice
			var longer [][]int64
			for _, word := range level {
				for x := range g.n {
					ends := [2]int64{x, pointAfter(g, word, x)}
					if _, known := first[ends]; !known {
						first[ends] = word
					}
				}
				for _, letter := range lettersInOrder(g) {
					longer = append(longer, append(slices.Clone(word), letter))
				}
			}
			level = longer
		}
		for x := range g.n {
			for y := range g.n {
				if word, ok := first[[2]int64{x, y}]; ok {
					requireWordTo(t, g, x, y, word)
				} else {
					requireNoWordTo(t, g, x, y)
				}
			}
		}
	}
}

// TestShortestWordTakesFirstUsefulLetters goes from x to y by the first letter that comes nearer to y,
// again and again, with all distances to y known beforehand.
func TestShortestWordTakesFirstUsefulLetters(t *testing.T) {
	for _, g := range append(smallGroups(), largeGroups()...) {
		letters, moves := lettersInOrder(g), movesInOrder(g)
		for y := range g.n {
			distances := distancesTo(y, g.n, moves)
			for x := range g.n {
				if distances[x] < 0 {
					requireNoWordTo(t, g, x, y)
					continue
				}
				var want []int64
				for at := x; at != y; {
					next := slices.IndexFunc(moves, func(move []int64) bool { return distances[move[at]] == distances[at]-1 })
					want = append(want, letters[next])
					at = moves[next][at]
				}
				requireWordTo(t, g, x, y, want)
			}
		}
	}
}

func TestInverseGenerators(t *testing.T) {
	for _, g := range append(smallGroups(), largeGroups()...) {
		var want [][]int64
		for k, move := range movesInOrder(g) {
			if k%2 == 1 {
				want = append(want, move)
			}
		}
		got := impl.InverseGenerators(g.n, g.gens)
		if !slices.EqualFunc(got, want, slices.Equal) {
			t.Errorf("InverseGenerators(%v) = %v, want %v", g, got, want)
		}
		if back := impl.InverseGenerators(g.n, got); !slices.EqualFunc(back, g.gens, slices.Equal) {
			t.Errorf("the inverses of the inverses of %v are %v", g, back)
		}
	}
	got := impl.InverseGenerators(3, [][]int64{{1, 2, 0}, {0, 2, 1}, {1, 2, 0}})
	if !slices.EqualFunc(got, [][]int64{{2, 0, 1}, {0, 2, 1}, {2, 0, 1}}, slices.Equal) {
		t.Errorf("InverseGenerators = %v", got)
	}
}

// notGenerated returns degrees and slices that are not generators of that degree.
func notGenerated() []generated {
	all := []generated{
		{3, [][]int64{{1, 2}}},
		{3, [][]int64{{1, 2, 3, 0}}},
		{3, [][]int64{{0, 1, 2}, {0, 1}}},
		{3, [][]int64{{1, 0}, {0, 1, 2}}},
		{4, [][]int64{{1, 2, 0}}},
		{20, [][]int64{identityOf(19)}},
		{1<<32 + 3, [][]int64{{1, 2, 0}}},
		{1<<32 + 3, nil},
	}
	for _, n := range []int64{math.MinInt64, math.MinInt64 + 1, -20, -1, 0, 21, 22, math.MaxInt64} {
		all = append(all, generated{n, nil}, generated{n, [][]int64{}}, generated{n, [][]int64{{}}}, generated{n, [][]int64{nil}}, generated{n, [][]int64{{0}}}, generated{n, [][]int64{identityOf(20)}}, generated{n, [][]int64{shiftOf(21, 1)}}, generated{n, [][]int64{shiftOf(22, 1)}})
	}
	for _, p := range notPermutations() {
		n := max(len(p), 1)
		all = append(all, generated{int64(n), [][]int64{p}}, generated{int64(n), [][]int64{identityOf(n), p}}, generated{int64(n), [][]int64{p, identityOf(n)}})
		eighth := [][]int64{identityOf(n), identityOf(n), identityOf(n), identityOf(n), identityOf(n), identityOf(n), identityOf(n), p}
		all = append(all, generated{int64(n), eighth})
	}
	for _, n := range []int{1, 2, 5, 20} {
		for _, count := range []int{9, 10, 100} {
			all = append(all, generated{int64(n), slices.Repeat([][]int64{shiftOf(n, 1)}, count)})
		}
	}
	return all
}

func TestIsGeneratorSet(t *testing.T) {
	if impl.MaxGenerators != 8 {
		t.Errorf("MaxGenerators = %d", impl.MaxGenerators)
	}
	for _, g := range append(smallGroups(), largeGroups()...) {
		if !impl.IsGeneratorSet(g.n, g.gens) {
			t.Errorf("IsGeneratorSet(%v) = false", g)
		}
	}
	for n := 1; n <= 20; n++ {
		for count := range 9 {
			if !impl.IsGeneratorSet(int64(n), slices.Repeat([][]int64{shiftOf(n, 1)}, count)) {
				t.Errorf("IsGeneratorSet refuses %d generators of degree %d", count, n)
			}
		}
	}
	for _, g := range notGenerated() {
		if impl.IsGeneratorSet(g.n, g.gens) {
			t.Errorf("IsGeneratorSet(%v) = true", g)
		}
	}
}

func TestOrbitFunctionsRefuseOtherGenerators(t *testing.T) {
	for _, g := range notGenerated() {
		for _, x := range []int64{-1, 0, 1, g.n - 1, g.n} {
			if got := impl.Orbit(g.n, g.gens, x); len(got) != 0 {
				t.Errorf("Orbit(%v, %d) = %v", g, x, got)
			}
			requireNoWordTo(t, g, x, x)
			requireNoWordTo(t, g, x, 0)
			requireNoWordTo(t, g, 0, x)
		}
		if got := impl.Orbits(g.n, g.gens); len(got) != 0 {
			t.Errorf("Orbits(%v) = %v", g, got)
		}
		if impl.IsTransitive(g.n, g.gens) {
			t.Errorf("IsTransitive(%v) = true", g)
		}
		if got := impl.FixedPoints(g.n, g.gens); len(got) != 0 {
			t.Errorf("FixedPoints(%v) = %v", g, got)
		}
		if got := impl.PairOrbitCount(g.n, g.gens); got != 0 {
			t.Errorf("PairOrbitCount(%v) = %d", g, got)
		}
		if got := impl.InverseGenerators(g.n, g.gens); len(got) != 0 {
			t.Errorf("InverseGenerators(%v) = %v", g, got)
		}
	}
}

func TestOrbitFunctionsRefuseOtherPoints(t *testing.T) {
	for _, g := range append(smallGroups(), largeGroups()...) {
		for _, x := range []int64{math.MinInt64, -g.n, -2, -1, g.n, g.n + 1, g.n * g.n, 1 << 32, math.MaxInt64} {
			if got := impl.Orbit(g.n, g.gens, x); len(got) != 0 {
				t.Errorf("Orbit(%v, %d) = %v", g, x, got)
			}
			requireNoWordTo(t, g, x, x)
			for y := range g.n {
				requireNoWordTo(t, g, x, y)
				requireNoWordTo(t, g, y, x)
			}
		}
	}
}

// orbitResults calls every function of chapter 3; each slice of a result has a name of its own.
func orbitResults(g generated) map[string][]int64 {
	impl.IsGeneratorSet(g.n, g.gens)
	impl.IsTransitive(g.n, g.gens)
	impl.PairOrbitCount(g.n, g.gens)
	word, _ := impl.ShortestWordTo(g.n, g.gens, 0, g.n-1)
	results := map[string][]int64{
		"Orbit 0":        impl.Orbit(g.n, g.gens, 0),
		"Orbit n-1":      impl.Orbit(g.n, g.gens, g.n-1),
		"ShortestWordTo": word,
		"FixedPoints":    impl.FixedPoints(g.n, g.gens),
	}
	for i, orbit := range impl.Orbits(g.n, g.gens) {
		results[fmt.Sprint("Orbits ", i)] = orbit
	}
	for i, inverse := range impl.InverseGenerators(g.n, g.gens) {
		results[fmt.Sprint("InverseGenerators ", i)] = inverse
	}
	return results
}

// withSpareGenerators returns a copy of g with spare capacity behind each generator and behind all of
// them; repeated generators share their memory.
func withSpareGenerators(g generated) generated {
	copies := map[string][]int64{}
	var gens [][]int64
	for _, p := range g.gens {
		if copies[fmt.Sprint(p)] == nil {
			copies[fmt.Sprint(p)] = withSpare(p)
		}
		gens = append(gens, copies[fmt.Sprint(p)])
	}
	gens = append(gens, withSpare([]int64{filler}), withSpare([]int64{filler}))
	return generated{g.n, gens[:len(g.gens)]}
}

// requireGeneratorsUnchanged is requireUnchanged for what withSpareGenerators made of want.
func requireGeneratorsUnchanged(t *testing.T, what string, g generated, want generated) {
	t.Helper()
	if len(g.gens) != len(want.gens) {
		t.Fatalf("%s changed the number of generators", what)
	}
	for i, p := range g.gens {
		requireUnchanged(t, what, p, want.gens[i])
	}
	for _, p := range g.gens[len(g.gens) : len(g.gens)+2] {
		requireUnchanged(t, what, p, []int64{filler})
	}
}

func TestOrbitResultsAreNewMemory(t *testing.T) {
	for _, g := range append(smallGroups(), largeGroups()...) {
		kept := withSpareGenerators(g)
		want := orbitResults(g)
		results := orbitResults(kept)
		requireGeneratorsUnchanged(t, "a function of chapter 3", kept, g)
		for name, result := range results {
			overwrite(result)
			delete(results, name)
			requireGeneratorsUnchanged(t, "a write to the result of "+name, kept, g)
			for other, rest := range results {
				if !slices.Equal(rest, want[other]) {
					t.Errorf("%v: the results of %s and %s share memory", g, name, other)
				}
			}
		}
		results = orbitResults(kept)
		for _, p := range kept.gens {
			overwrite(p)
		}
		for name, result := range results {
			if !slices.Equal(result, want[name]) {
				t.Errorf("%v: the result of %s changes with its argument or an earlier result", g, name)
			}
		}
	}
	for _, g := range notGenerated() {
		kept := withSpareGenerators(g)
		orbitResults(kept)
		requireGeneratorsUnchanged(t, "a function of chapter 3", kept, g)
	}
}
