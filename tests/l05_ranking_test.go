package tests

import (
	"fmt"
	"math"
	"math/big"
	"math/rand"
	"slices"
	"testing"

	"loop.example/g00855/impl"
)

// extremes are numbers that no group has as a rank.
var extremes = []int64{math.MinInt64, math.MinInt64 + 1, -2, -1, math.MaxInt64 - 1, math.MaxInt64}

// seeds are seeds on both sides of where the state of the generator starts again.
var seeds = []int64{0, 1, 2, 3, 10, -1, -2, 48271, 999999935, 999999936, 999999937, 999999938, 1999999874, 2000000000, -999999936, -999999937, -999999938, 1 << 40, -1 << 40, math.MaxInt64, math.MaxInt64 - 1, math.MinInt64, math.MinInt64 + 1}

// requireResult fails unless got and ok are the wanted slice and true, or nil and false if none is wanted.
func requireResult(t *testing.T, got []int64, ok bool, want []int64, what ...any) {
	t.Helper()
	if ok != (want != nil) || !slices.Equal(got, want) {
		t.Errorf("%v = %v, %v, want %v", what, got, ok, want)
	}
}

func requireMemberAt(t *testing.T, g generated, k int64, want []int64) {
	t.Helper()
	got, ok := impl.MemberAt(g.n, g.gens, k)
	requireResult(t, got, ok, want, "MemberAt", g, k)
}

func requireNextMember(t *testing.T, g generated, p []int64, want []int64) {
	t.Helper()
	got, ok := impl.NextMember(g.n, g.gens, p)
	requireResult(t, got, ok, want, "NextMember", g, p)
}

func requireRandomMember(t *testing.T, g generated, seed int64, want []int64) {
	t.Helper()
	got, ok := impl.RandomMember(g.n, g.gens, seed)
	requireResult(t, got, ok, want, "RandomMember", g, seed)
}

func requireFirstNonIdentity(t *testing.T, g generated, want []int64) {
	t.Helper()
	got, ok := impl.FirstNonIdentity(g.n, g.gens)
	requireResult(t, got, ok, want, "FirstNonIdentity", g)
}

func requireMembers(t *testing.T, g generated, want [][]int64) {
	t.Helper()
	if got := impl.Members(g.n, g.gens); !slices.EqualFunc(got, want, slices.Equal) {
		t.Errorf("Members(%v) = %v, want %v", g, got, want)
	}
}

func requireRank(t *testing.T, g generated, p []int64, want int64) {
	t.Helper()
	if got := impl.Rank(g.n, g.gens, p); got != want {
		t.Errorf("Rank(%v, %v) = %d, want %d", g, p, got, want)
	}
}

func requireCountBelow(t *testing.T, g generated, p []int64, want int64) {
	t.Helper()
	if got := impl.CountMembersBelow(g.n, g.gens, p); got != want {
		t.Errorf("CountMembersBelow(%v, %v) = %d, want %d", g, p, got, want)
	}
}

func requireCountOfType(t *testing.T, g generated, cycleType []int64, want int64) {
	t.Helper()
	if got := impl.CountMembersOfType(g.n, g.gens, cycleType); got != want {
		t.Errorf("CountMembersOfType(%v, %v) = %d, want %d", g, cycleType, got, want)
	}
}

// requireNumbered fails unless p is the member of rank k.
func requireNumbered(t *testing.T, g generated, k int64, p []int64) {
	t.Helper()
	requireMemberAt(t, g, k, p)
	requireRank(t, g, p, k)
	requireCountBelow(t, g, p, k)
}

// requirePlace fails unless p stands behind the given number of the sorted members, and is the next one
// of them or not.
func requirePlace(t *testing.T, g generated, members [][]int64, p []int64) {
	t.Helper()
	k, isMember := slices.BinarySearchFunc(members, p, slices.Compare[[]int64])
	rank, next := int64(-1), k
	if isMember {
		rank, next = int64(k), k+1
	}
	requireRank(t, g, p, rank)
	requireCountBelow(t, g, p, int64(k))
	if next == len(members) {
		requireNextMember(t, g, p, nil)
	} else {
		requireNextMember(t, g, p, members[next])
	}
}

// drawn returns the member that the draws of chapter 5 choose; valuesAfter returns the values that may
// follow the entries chosen so far, in ascending order.
func drawn(n int64, seed int64, valuesAfter func(prefix []int64) []int64) []int64 {
	modulus := big.NewInt(999999937)
	state := new(big.Int).Mod(big.NewInt(seed), modulus)
	var p []int64
	for range n {
		state.Mul(state, big.NewInt(48271))
		state.Add(state, big.NewInt(11))
		state.Mod(state, modulus)
		values := valuesAfter(p)
		index := new(big.Int).Mod(state, big.NewInt(int64(len(values))))
		p = append(p, values[index.Int64()])
	}
	return p
}

// valuesAmong returns the values that follow the prefix in the members.
func valuesAmong(members [][]int64, prefix []int64) []int64 {
	var values []int64
	for _, p := range members {
		if agreement(p, prefix) == int64(len(prefix)) {
			values = append(values, p[len(prefix)])
		}
	}
	slices.Sort(values)
	return slices.Compact(values)
}

// cycleTypesAsked returns every cycle type of degree n and slices that are no cycle types of that degree.
func cycleTypesAsked(n int64) [][]int64 {
	all := [][]int64{nil, {}, {0}, {-1}, {n + 1}, {n, 0}, {n, 1}, {n, -1, 1}, {n + 1, -1}, {1, n - 1}, {1, 1, n - 2}, {1, n}, {math.MinInt64}, {math.MaxInt64}, {1<<32 + n}, make([]int64, n), identityOf(int(n)), slices.Repeat([]int64{1}, int(n+1)), slices.Repeat([]int64{1}, 1000)}
	var extend func(parts []int64, left int64)
	extend = func(parts []int64, left int64) {
		if left == 0 {
			all = append(all, slices.Clone(parts))
		}
		for next := int64(1); next <= left && (len(parts) == 0 || next <= parts[len(parts)-1]); next++ {
			extend(append(slices.Clone(parts), next), left-next)
		}
	}
	extend(nil, n)
	return all
}

// requireTypesCounted compares with the cycle types of the members.
func requireTypesCounted(t *testing.T, g generated, members [][]int64, asked [][]int64) {
	t.Helper()
	count := map[string]int64{}
	for _, p := range members {
		count[fmt.Sprint(cycleTypeOf(p))]++
	}
	for _, cycleType := range asked {
		requireCountOfType(t, g, cycleType, count[fmt.Sprint(cycleType)])
	}
}

// degreeOne and its companions are the groups of the chapter's examples and of its smallest degree.
var (
	degreeOne = generated{1, nil}
	turnThree = generated{3, [][]int64{{1, 2, 0}}}
	allThree  = generated{3, [][]int64{{1, 2, 0}, {1, 0, 2}}}
)

// limitGroups returns groups of exactly MaxStates members.
func limitGroups() []generated {
	return []generated{
		{19, [][]int64{withSwap(19, 0, 1), turnOf(19, 0, 1, 2, 3), turnOf(19, 4, 5, 6, 7, 8), turnOf(19, 9, 10, 11, 12, 13), turnOf(19, 14, 15, 16, 17, 18)}},
		{20, [][]int64{turnOf(20, 19, 2, 5, 8, 11), turnOf(20, 0, 3, 6, 9, 12), turnOf(20, 17, 14, 1, 4, 7), turnOf(20, 18, 10, 16, 13), turnOf(20, 10, 18), identityOf(20), turnOf(20, 10, 18), turnOf(20, 13, 18)}},
	}
}

// beyondLimit returns groups of more than MaxStates members, the first of them of 3024.
func beyondLimit() []generated {
	all := []generated{
		{17, [][]int64{withSwap(17, 0, 1), turnOf(17, 0, 1, 2, 3), turnOf(17, 4, 5, 6, 7, 8, 9, 10), turnOf(17, 11, 12, 13), withSwap(17, 14, 15), turnOf(17, 14, 15, 16)}},
		{7, [][]int64{{1, 0, 2, 3, 4, 5, 6}, {1, 2, 3, 4, 5, 6, 0}}},
	}
	for _, group := range namedGroups() {
		if group.order > impl.MaxStates {
			all = append(all, group.g)
		}
	}
	return all
}

func TestRankingOfThreePoints(t *testing.T) {
	requireMemberAt(t, allThree, 4, []int64{2, 0, 1})
	requireRank(t, allThree, []int64{1, 2, 0}, 3)
	requireRank(t, turnThree, []int64{1, 2, 0}, 1)
	requireRank(t, turnThree, []int64{0, 2, 1}, -1)
	requireNextMember(t, turnThree, []int64{0, 2, 1}, []int64{1, 2, 0})
	requireNextMember(t, turnThree, []int64{2, 1, 0}, nil)
	requireMembers(t, turnThree, [][]int64{{0, 1, 2}, {1, 2, 0}, {2, 0, 1}})
	requireRandomMember(t, allThree, 1, []int64{0, 2, 1})
	requireCountBelow(t, allThree, []int64{1, 2, 0}, 3)
	requireCountBelow(t, turnThree, []int64{2, 1, 0}, 3)
	requireFirstNonIdentity(t, allThree, []int64{0, 2, 1})
	requireCountOfType(t, allThree, []int64{2, 1}, 3)
	requireCountOfType(t, turnThree, []int64{2, 1}, 0)
	requireCountOfType(t, turnThree, []int64{3}, 2)
}

// TestRankingOfTheTrivialGroup has only the identity to number, for every degree and with every number
// of generators.
func TestRankingOfTheTrivialGroup(t *testing.T) {
	for n := 1; n <= 20; n++ {
		for count := range 9 {
			g := generated{int64(n), slices.Repeat([][]int64{identityOf(n)}, count)}
			requireNumbered(t, g, 0, identityOf(n))
			requireMemberAt(t, g, 1, nil)
			requireNextMember(t, g, identityOf(n), nil)
			requireMembers(t, g, [][]int64{identityOf(n)})
			requireFirstNonIdentity(t, g, nil)
			requireCountOfType(t, g, slices.Repeat([]int64{1}, n), 1)
			for _, seed := range seeds {
				requireRandomMember(t, g, seed, identityOf(n))
			}
			if n > 1 {
				requirePlace(t, g, [][]int64{identityOf(n)}, withSwap(n, n-2, n-1))
				requireCountOfType(t, g, []int64{int64(n)}, 0)
			}
		}
	}
}

func TestP5MemberAtAndRankAreInverse(t *testing.T) {
	for _, g := range enumeratedGroups() {
		members := sortedMembersOf(g)
		order := int64(len(members))
		for k, p := range members {
			requireNumbered(t, g, int64(k), p)
		}
		for _, k := range append(slices.Clone(extremes), order, order+1, -order) {
			requireMemberAt(t, g, k, nil)
		}
		requireMembers(t, g, members)
		if order == 1 {
			requireFirstNonIdentity(t, g, nil)
		} else {
			requireFirstNonIdentity(t, g, members[1])
		}
	}
}

// TestP5InLargeGroups takes ranks and products of generators where the members are too many to write
// out: the ranks go up with the members, so that no member is left out between them.
func TestP5InLargeGroups(t *testing.T) {
	random := rand.New(rand.NewSource(9))
	for _, group := range namedGroups() {
		g, n := group.g, int(group.g.n)
		requireNumbered(t, g, 0, identityOf(n))
		for _, k := range append(slices.Clone(extremes), group.order, group.order+1, -group.order) {
			requireMemberAt(t, g, k, nil)
		}
		last, ok := impl.MemberAt(g.n, g.gens, group.order-1)
		if !ok || !impl.IsMember(g.n, g.gens, last) {
			t.Fatalf("%s: the last member is %v, %v", group.name, last, ok)
		}
		requireNumbered(t, g, group.order-1, last)
		requireNextMember(t, g, last, nil)
		for range 20 {
			k := random.Int63n(group.order)
			p, ok := impl.MemberAt(g.n, g.gens, k)
			if !ok || !impl.IsMember(g.n, g.gens, p) {
				t.Errorf("%s: MemberAt %d = %v, %v", group.name, k, p, ok)
			}
			requireRank(t, g, p, k)
			product := identityOf(n)
			for range random.Intn(60) {
				if moves := movesInOrder(g); len(moves) > 0 {
					product, _ = impl.Compose(product, moves[random.Intn(len(moves))])
				}
			}
			rank := impl.Rank(g.n, g.gens, product)
			requireNumbered(t, g, rank, product)
			if (rank < k) != (slices.Compare(product, p) < 0) {
				t.Errorf("%s: %v has the rank %d and %v the rank %d", group.name, product, rank, p, k)
			}
			if k > 0 {
				before, _ := impl.MemberAt(g.n, g.gens, k-1)
				requireNextMember(t, g, before, p)
			}
		}
	}
}

// TestPlacesOfAllPermutations asks for every permutation, member or not.
func TestPlacesOfAllPermutations(t *testing.T) {
	for _, g := range enumeratedGroups() {
		members := sortedMembersOf(g)
		for _, p := range permutationsOf(int(g.n)) {
			requirePlace(t, g, members, p)
		}
	}
}

func TestRandomMemberMakesTheDraws(t *testing.T) {
	random := rand.New(rand.NewSource(10))
	for _, g := range enumeratedGroups() {
		members := membersOf(g)
		valuesAfter := func(prefix []int64) []int64 { return valuesAmong(members, prefix) }
		for _, seed := range append(slices.Clone(seeds), random.Int63(), -random.Int63(), random.Int63n(999999937)) {
			requireRandomMember(t, g, seed, drawn(g.n, seed, valuesAfter))
		}
	}
}

// TestRandomMemberOfKnownSeeds has results that were computed apart from this program.
func TestRandomMemberOfKnownSeeds(t *testing.T) {
	all := generated{20, [][]int64{withSwap(20, 0, 1), shiftOf(20, 1)}}
	fixing := generated{5, [][]int64{turnOf(5, 2, 3, 4), withSwap(5, 2, 3)}}
	for _, c := range []struct {
		g    generated
		seed int64
		want []int64
	}{
		{all, 0, []int64{11, 19, 8, 18, 14, 10, 7, 17, 16, 9, 6, 12, 3, 4, 2, 13, 0, 1, 5, 15}},
		{all, 999999937, []int64{11, 19, 8, 18, 14, 10, 7, 17, 16, 9, 6, 12, 3, 4, 2, 13, 0, 1, 5, 15}},
		{all, 1, []int64{2, 1, 17, 0, 10, 9, 5, 19, 18, 3, 7, 16, 14, 6, 4, 13, 15, 11, 8, 12}},
		{all, -1, []int64{17, 9, 1, 4, 3, 16, 18, 0, 2, 8, 10, 12, 19, 13, 15, 11, 6, 7, 14, 5}},
		{all, 999999936, []int64{17, 9, 1, 4, 3, 16, 18, 0, 2, 8, 10, 12, 19, 13, 15, 11, 6, 7, 14, 5}},
		{all, math.MaxInt64, []int64{6, 14, 10, 12, 0, 16, 13, 9, 17, 8, 3, 11, 18, 5, 2, 7, 1, 19, 4, 15}},
		{all, math.MinInt64, []int64{2, 15, 0, 17, 18, 12, 13, 8, 4, 7, 14, 10, 9, 16, 1, 6, 5, 11, 19, 3}},
		// The points 0 and 1 are fixed; a draw is made for each of them all the same.
		{fixing, 0, []int64{0, 1, 4, 2, 3}},
		{fixing, 1, []int64{0, 1, 2, 4, 3}},
		{fixing, 2, []int64{0, 1, 3, 4, 2}},
		{fixing, 3, []int64{0, 1, 2, 4, 3}},
		{fixing, -5, []int64{0, 1, 4, 2, 3}},
		{fixing, math.MaxInt64, []int64{0, 1, 2, 3, 4}},
		{fixing, math.MinInt64, []int64{0, 1, 2, 4, 3}},
	} {
		requireRandomMember(t, c.g, c.seed, c.want)
	}
}

func TestCountMembersOfType(t *testing.T) {
	for _, g := range enumeratedGroups() {
		requireTypesCounted(t, g, membersOf(g), cycleTypesAsked(g.n))
	}
	for _, group := range namedGroups() {
		if group.order <= impl.MaxStates {
			members := membersOf(group.g)
			asked := [][]int64{nil, {0}, {20}, {19, 1}, {1, 19}, slices.Repeat([]int64{2}, 10)}
			for _, p := range members {
				asked = append(asked, cycleTypeOf(p))
			}
			slices.SortFunc(asked, slices.Compare[[]int64])
			requireTypesCounted(t, group.g, members, slices.CompactFunc(asked, slices.Equal[[]int64]))
		}
	}
}

func TestMembersUpToTheLimit(t *testing.T) {
	if impl.MaxStates != 3000 {
		t.Errorf("MaxStates = %d", impl.MaxStates)
	}
	for _, g := range limitGroups() {
		members := sortedMembersOf(g)
		if len(members) != impl.MaxStates {
			t.Fatalf("%v has %d members", g, len(members))
		}
		requireMembers(t, g, members)
		ones := slices.Repeat([]int64{1}, int(g.n))
		requireTypesCounted(t, g, members, [][]int64{ones, cycleTypeOf(g.gens[0]), cycleTypeOf(members[1]), cycleTypeOf(members[2999]), {g.n}, nil, {-1}})
	}
	for _, g := range beyondLimit() {
		requireMembers(t, g, nil)
		for _, cycleType := range append([][]int64{slices.Repeat([]int64{1}, int(g.n)), cycleTypeOf(g.gens[0])}, nil, []int64{}, []int64{-1}, []int64{g.n}) {
			requireCountOfType(t, g, cycleType, -1)
		}
		identity := identityOf(int(g.n))
		requireNumbered(t, g, 0, identity)
		if second, ok := impl.MemberAt(g.n, g.gens, 1); !ok || slices.Equal(second, identity) {
			t.Errorf("MemberAt(%v, 1) = %v, %v", g, second, ok)
		} else {
			requireFirstNonIdentity(t, g, second)
			requireNextMember(t, g, identity, second)
		}
	}
}

// TestPlacesInGroupsOfAFewThousandMembers compares with all members, at degrees where the permutations
// are too many to try.
func TestPlacesInGroupsOfAFewThousandMembers(t *testing.T) {
	random := rand.New(rand.NewSource(11))
	all := limitGroups()
	for _, group := range namedGroups() {
		if group.order <= 8000 {
			all = append(all, group.g)
		}
	}
	for _, g := range all {
		members := sortedMembersOf(g)
		requireMemberAt(t, g, int64(len(members)), nil)
		for range 60 {
			k := random.Intn(len(members))
			requireNumbered(t, g, int64(k), members[k])
			p := slices.Clone(members[k])
			requirePlace(t, g, members, p)
			x, y := random.Intn(len(p)), random.Intn(len(p))
			p[x], p[y] = p[y], p[x]
			requirePlace(t, g, members, p)
			requirePlace(t, g, members, int64s(random.Perm(len(p))))
			seed := random.Int63() - random.Int63()
			requireRandomMember(t, g, seed, drawn(g.n, seed, func(prefix []int64) []int64 { return valuesAmong(members, prefix) }))
		}
	}
}

// valuesWithin returns the values that may follow the prefix in a permutation that moves each point
// within its orbit, in ascending order.
func valuesWithin(homes []int64, prefix []int64) []int64 {
	var values []int64
	for y := range int64(len(homes)) {
		if homes[y] == homes[len(prefix)] && !slices.Contains(prefix, y) {
			values = append(values, y)
		}
	}
	return values
}

// completionsWithin returns in how many ways a prefix of the given length becomes a permutation that
// moves each point within its orbit.
func completionsWithin(homes []int64, length int) int64 {
	product := int64(1)
	for i := length; i < len(homes); i++ {
		product *= int64(len(valuesWithin(homes, identityOf(i))))
	}
	return product
}

// countWithin returns how many permutations that move each point within its orbit precede p.
func countWithin(homes []int64, p []int64) int64 {
	count := int64(0)
	for i, x := range p {
		values := valuesWithin(homes, p[:i])
		for _, y := range values {
			if y < x {
				count += completionsWithin(homes, i+1)
			}
		}
		if !slices.Contains(values, x) {
			break
		}
	}
	return count
}

// memberWithin returns the member of rank k among the permutations that move each point within its
// orbit, or nil if there is none.
func memberWithin(homes []int64, k int64) []int64 {
	if k >= completionsWithin(homes, 0) {
		return nil
	}
	var p []int64
	for i := range homes {
		each := completionsWithin(homes, i+1)
		p = append(p, valuesWithin(homes, p)[k/each])
		k %= each
	}
	return p
}

func TestRankingOfGroupsOfSwaps(t *testing.T) {
	random := rand.New(rand.NewSource(12))
	for _, g := range swapGroups() {
		homes := make([]int64, g.n)
		for x := range g.n {
			homes[x] = searchedOrbit(g, x)[0]
		}
		order := completionsWithin(homes, 0)
		requireMemberAt(t, g, order, nil)
		requireFirstNonIdentity(t, g, memberWithin(homes, 1))
		for _, k := range []int64{0, order / 2, order - 1, random.Int63n(order)} {
			p := memberWithin(homes, k)
			requireNumbered(t, g, k, p)
			requireNextMember(t, g, p, memberWithin(homes, k+1))
			x, y := random.Intn(len(p)), random.Intn(len(p))
			p[x], p[y] = p[y], p[x]
			k = countWithin(homes, p)
			requireCountBelow(t, g, p, k)
			if homes[x] == homes[y] {
				requireNumbered(t, g, k, p)
				k++
			} else {
				requireRank(t, g, p, -1)
			}
			requireNextMember(t, g, p, memberWithin(homes, k))
		}
		for _, seed := range append(slices.Clone(seeds), random.Int63(), -random.Int63()) {
			requireRandomMember(t, g, seed, drawn(g.n, seed, func(prefix []int64) []int64 { return valuesWithin(homes, prefix) }))
		}
	}
}

// TestRankingOfAlternatingGroup uses that of any two neighbours in the order of all permutations that
// differ in their last two entries, one is even.
func TestRankingOfAlternatingGroup(t *testing.T) {
	random := rand.New(rand.NewSource(13))
	g := generated{20, [][]int64{turnOf(20, 0, 1, 2), turnOf(20, identityOf(20)[1:]...)}}
	oneOrbit := make([]int64, 20)
	for range 100 {
		p := int64s(random.Perm(20))
		rank := countWithin(oneOrbit, p)
		if inversions(p)%2 == 0 {
			requireNumbered(t, g, rank/2, p)
			continue
		}
		requireRank(t, g, p, -1)
		requireCountBelow(t, g, p, (rank+1)/2)
		even := memberWithin(oneOrbit, rank+1)
		if inversions(even)%2 == 1 {
			even = memberWithin(oneOrbit, rank+2)
		}
		requireNextMember(t, g, p, even)
		requireNumbered(t, g, (rank+1)/2, even)
	}
}

func TestRankingRefusesOtherGenerators(t *testing.T) {
	for _, g := range notGenerated() {
		identity := identityOf(int(min(max(g.n, 0), 30)))
		for _, k := range append(slices.Clone(extremes), 0, 1) {
			requireMemberAt(t, g, k, nil)
		}
		for _, p := range [][]int64{nil, {0}, identity} {
			requireRank(t, g, p, -1)
			requireNextMember(t, g, p, nil)
			requireCountBelow(t, g, p, -1)
		}
		requireMembers(t, g, nil)
		for _, seed := range seeds {
			requireRandomMember(t, g, seed, nil)
		}
		requireFirstNonIdentity(t, g, nil)
		for _, cycleType := range [][]int64{nil, {}, {1}, {g.n}, slices.Repeat([]int64{1}, len(identity))} {
			requireCountOfType(t, g, cycleType, -1)
		}
	}
}

func TestRankingRefusesOtherPermutations(t *testing.T) {
	for n := 1; n <= 20; n++ {
		for _, gens := range [][][]int64{nil, {shiftOf(n, 1)}, {shiftOf(n, 1), withSwap(n, 0, n-1)}} {
			g := generated{int64(n), gens}
			refused := append(notPermutations(), identityOf(n-1), identityOf(n+1), shiftOf(n+1, 1), append(identityOf(n-1), 0), append(identityOf(n-1), -1), append(identityOf(n-1), int64(n)))
			for _, p := range refused {
				if n == 1 && slices.Equal(p, []int64{0}) {
					continue
				}
				requireRank(t, g, p, -1)
				requireNextMember(t, g, p, nil)
				requireCountBelow(t, g, p, -1)
			}
		}
	}
	requireNumbered(t, degreeOne, 0, []int64{0})
}

// rankingResults calls every function of chapter 5, with p as a permutation and as a cycle type; each
// slice of a result has a name of its own.
func rankingResults(g generated, p []int64) map[string][]int64 {
	impl.Rank(g.n, g.gens, p)
	impl.CountMembersBelow(g.n, g.gens, p)
	impl.CountMembersOfType(g.n, g.gens, p)
	results := map[string][]int64{}
	for _, k := range []int64{0, 1, impl.GroupOrder(g.n, g.gens) - 1} {
		results[fmt.Sprint("MemberAt ", k)], _ = impl.MemberAt(g.n, g.gens, k)
	}
	for _, seed := range []int64{0, 1, -1} {
		results[fmt.Sprint("RandomMember ", seed)], _ = impl.RandomMember(g.n, g.gens, seed)
	}
	results["NextMember"], _ = impl.NextMember(g.n, g.gens, p)
	results["FirstNonIdentity"], _ = impl.FirstNonIdentity(g.n, g.gens)
	for i, member := range impl.Members(g.n, g.gens) {
		results[fmt.Sprint("Members ", i)] = member
	}
	return results
}

func TestRankingResultsAreNewMemory(t *testing.T) {
	requireNewMemory(t, "chapter 5", rankingResults)
}
