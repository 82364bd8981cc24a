package tests

import (
	"fmt"
	"math"
	"math/rand"
	"slices"
	"testing"

	"loop.example/g00855/impl"
)

// A named group is one whose order is known from elsewhere.
type named struct {
	name  string
	g     generated
	order int64
}

// alongBlocks returns the permutation of the given number of blocks of neighbours that moves the blocks
// as p does and keeps the order of the points within them.
func alongBlocks(size int, p []int64) []int64 {
	var result []int64
	for _, block := range p {
		for i := range int64(size) {
			result = append(result, block*int64(size)+i)
		}
	}
	return result
}

// onLine returns the permutation of degree prime+1 that takes x, one of 0, ..., prime-1, to
// (a*x+b)/(c*x+d) modulo prime; the last point stands for the quotients by 0.
func onLine(prime, a, b, c, d int64) []int64 {
	quotient := func(above int64, below int64) int64 {
		for q := range prime {
			if (q*below-above)%prime == 0 && below%prime != 0 {
				return q
			}
		}
		return prime
	}
	var result []int64
	for x := range prime {
		result = append(result, quotient(a*x+b, c*x+d))
	}
	return append(result, quotient(a, c))
}

// namedGroups returns groups of large degree.
func namedGroups() []named {
	mathieu := [][]int64{
		turnOf(12, 0, 1, 2, 3, 4, 5, 6, 7, 8, 9, 10),
		{0, 1, 6, 9, 5, 3, 10, 2, 8, 4, 7, 11},
		{11, 10, 5, 7, 8, 2, 9, 3, 4, 6, 1, 0},
	}
	reversed := identityOf(20)
	slices.Reverse(reversed)
	return []named{
		{"degree 1", generated{1, nil}, 1},
		{"degree 1, 8 generators", generated{1, slices.Repeat([][]int64{{0}}, 8)}, 1},
		{"identity of degree 20", generated{20, nil}, 1},
		{"identity of degree 20, 8 generators", generated{20, slices.Repeat([][]int64{identityOf(20)}, 8)}, 1},
		{"symmetric of degree 20", generated{20, [][]int64{withSwap(20, 0, 1), shiftOf(20, 1)}}, 2432902008176640000},
		{"symmetric of degree 20, last points", generated{20, [][]int64{shiftOf(20, 19), withSwap(20, 18, 19)}}, 2432902008176640000},
		{"symmetric of degree 20, repeated", generated{20, [][]int64{identityOf(20), withSwap(20, 4, 5), withSwap(20, 4, 5), shiftOf(20, 1), identityOf(20), shiftOf(20, 1), shiftOf(20, 19), reversed}}, 2432902008176640000},
		{"symmetric on 19 of 20 points", generated{20, [][]int64{withSwap(20, 7, 19), turnOf(20, 0, 1, 2, 3, 4, 5, 6, 7, 19, 18, 17, 16, 15, 14, 13, 12, 11, 10, 9)}}, 121645100408832000},
		{"alternating of degree 20", generated{20, [][]int64{turnOf(20, 0, 1, 2), turnOf(20, 1, 2, 3, 4, 5, 6, 7, 8, 9, 10, 11, 12, 13, 14, 15, 16, 17, 18, 19)}}, 1216451004088320000},
		{"cycle of degree 20", generated{20, [][]int64{shiftOf(20, 1)}}, 20},
		{"even shifts", generated{20, [][]int64{shiftOf(20, 8), shiftOf(20, 14)}}, 10},
		{"dihedral of degree 20", generated{20, [][]int64{shiftOf(20, 1), reversed}}, 40},
		{"two symmetric of degree 10", generated{20, [][]int64{withSwap(20, 0, 2), turnOf(20, 0, 2, 4, 6, 8, 10, 12, 14, 16, 18), withSwap(20, 1, 3), turnOf(20, 1, 3, 5, 7, 9, 11, 13, 15, 17, 19)}}, 13168189440000},
		{"ten pairs", generated{20, [][]int64{withSwap(20, 0, 1), alongBlocks(2, withSwap(10, 0, 1)), alongBlocks(2, shiftOf(10, 1))}}, 3715891200},
		{"five fours", generated{20, [][]int64{withSwap(20, 16, 17), turnOf(20, 16, 17, 18, 19), alongBlocks(4, withSwap(5, 3, 4)), alongBlocks(4, shiftOf(5, 2))}}, 955514880},
		{"four fives", generated{20, [][]int64{withSwap(20, 0, 4), turnOf(20, 0, 1, 2, 3, 4), alongBlocks(5, withSwap(4, 0, 1)), alongBlocks(5, shiftOf(4, 1))}}, 4976640000},
		{"two turns of four points", generated{8, [][]int64{turnOf(8, 0, 1, 3, 2), turnOf(8, 4, 5, 7, 6)}}, 16},
		{"corners of a turning cube", generated{8, [][]int64{{1, 3, 0, 2, 5, 7, 4, 6}, {1, 5, 3, 7, 0, 4, 2, 6}}}, 24},
		{"fractions modulo 19", generated{20, [][]int64{onLine(19, 1, 1, 0, 1), onLine(19, 2, 0, 0, 1), onLine(19, 0, -1, 1, 0)}}, 6840},
		{"special fractions modulo 19", generated{20, [][]int64{onLine(19, 1, 1, 0, 1), onLine(19, 4, 0, 0, 1), onLine(19, 0, -1, 1, 0)}}, 3420},
		{"affine maps modulo 19", generated{20, [][]int64{onLine(19, 1, 1, 0, 1), onLine(19, 2, 0, 0, 1)}}, 342},
		{"special fractions modulo 7", generated{8, [][]int64{onLine(7, 1, 1, 0, 1), onLine(7, 0, -1, 1, 0)}}, 168},
		{"Mathieu of degree 11", generated{12, mathieu[:2]}, 7920},
		{"Mathieu of degree 12", generated{12, mathieu}, 95040},
	}
}

// enumeratedGroups returns groups that are small enough to write out all members.
func enumeratedGroups() []generated {
	all := smallGroups()
	random := rand.New(rand.NewSource(4))
	for n := 4; n <= 6; n++ {
		permutations := permutationsOf(n)
		for count := 1; count <= 8; count++ {
			var gens [][]int64
			for range count {
				gens = append(gens, permutations[random.Intn(len(permutations))])
			}
			all = append(all, generated{int64(n), gens}, generated{int64(n), gens[:1]})
		}
	}
	return append(all,
		generated{4, slices.Repeat([][]int64{{0, 1, 2, 3}}, 8)},
		generated{6, [][]int64{alongBlocks(2, []int64{1, 2, 0}), withSwap(6, 4, 5)}},
		generated{6, [][]int64{alongBlocks(3, []int64{1, 0}), turnOf(6, 3, 4, 5)}},
		generated{6, [][]int64{turnOf(6, 0, 2, 4), turnOf(6, 1, 3, 5)}},
		generated{6, [][]int64{onLine(5, 1, 1, 0, 1), onLine(5, 0, -1, 1, 0)}},
		generated{6, [][]int64{{3, 4, 5, 0, 1, 2}, {1, 0, 2, 4, 3, 5}}},
		generated{6, [][]int64{{0, 1, 2, 3, 4, 5}, {5, 1, 2, 3, 4, 0}, {5, 1, 2, 3, 4, 0}}},
	)
}

// sortedMembersOf returns the members of g in lexicographic order.
func sortedMembersOf(g generated) [][]int64 {
	members := membersOf(g)
	slices.SortFunc(members, slices.Compare[[]int64])
	return members
}

// agreement returns in how many first entries p and q agree.
func agreement(p []int64, q []int64) int64 {
	count := 0
	for count < len(p) && count < len(q) && p[count] == q[count] {
		count++
	}
	return int64(count)
}

// fixes reports whether p fixes each of the points.
func fixes(p []int64, points []int64) bool {
	for _, x := range points {
		if p[x] != x {
			return false
		}
	}
	return true
}

// sequencesOver returns all sequences of up to the given number of the values.
func sequencesOver(values []int64, length int) [][]int64 {
	all := [][]int64{{}}
	for i := 0; i < len(all); i++ {
		if len(all[i]) == length {
			continue
		}
		for _, x := range values {
			all = append(all, append(slices.Clone(all[i]), x))
		}
	}
	return all
}

// prefixesFor returns what may be asked for as a prefix: for a small degree every sequence that may
// name a point twice, a negative number or the degree, and for others the prefixes of permutations.
func prefixesFor(n int) [][]int64 {
	if n <= 3 {
		return sequencesOver(append(identityOf(n+1), -1), n+1)
	}
	all := [][]int64{{}, {-1}, {int64(n)}, {0, 0}, {0, -1}, {0, int64(n)}, append(identityOf(n-1), 0), identityOf(n + 1), append(identityOf(n), 0), append(identityOf(n), -1)}
	for _, p := range permutationsOf(n) {
		for k := 1; k <= n; k++ {
			if k == n || slices.IsSorted(p[k:]) {
				all = append(all, p[:k])
			}
		}
	}
	return all
}

// firstWhere returns the first of the members for which holds is true, or nil.
func firstWhere(members [][]int64, holds func(p []int64) bool) []int64 {
	i := slices.IndexFunc(members, holds)
	if i < 0 {
		return nil
	}
	return members[i]
}

// strongSetAmong picks the strong generating set out of the sorted members.
func strongSetAmong(n int64, members [][]int64) [][]int64 {
	var set [][]int64
	for i := range n {
		for y := i + 1; y < n; y++ {
			found := firstWhere(members, func(p []int64) bool { return fixes(p, identityOf(int(i))) && p[i] == y })
			if found != nil {
				set = append(set, found)
			}
		}
	}
	return set
}

// orbitSizesAmong counts the values that the members that fix 0, ..., i-1 have at i.
func orbitSizesAmong(n int64, members [][]int64) []int64 {
	var sizes []int64
	for i := range n {
		values := map[int64]bool{}
		for _, p := range members {
			if fixes(p, identityOf(int(i))) {
				values[p[i]] = true
			}
		}
		sizes = append(sizes, int64(len(values)))
	}
	return sizes
}

func requireMember(t *testing.T, g generated, prefix []int64, want []int64) {
	t.Helper()
	got, ok := impl.MemberWithPrefix(g.n, g.gens, prefix)
	if !ok || !slices.Equal(got, want) {
		t.Errorf("MemberWithPrefix(%v, %v) = %v, %v, want %v", g, prefix, got, ok, want)
	}
}

func requireNoMember(t *testing.T, g generated, prefix []int64) {
	t.Helper()
	if got, ok := impl.MemberWithPrefix(g.n, g.gens, prefix); ok || len(got) != 0 {
		t.Errorf("MemberWithPrefix(%v, %v) = %v, %v", g, prefix, got, ok)
	}
}

// requireStands fails unless the three functions that look for p say the same: the first agree entries
// of p, and no more, are those of a member.
func requireStands(t *testing.T, g generated, p []int64, agree int64) {
	t.Helper()
	if got := impl.LongestMemberPrefix(g.n, g.gens, p); got != agree {
		t.Errorf("LongestMemberPrefix(%v, %v) = %d, want %d", g, p, got, agree)
	}
	if got := impl.IsMember(g.n, g.gens, p); got != (agree == g.n) {
		t.Errorf("IsMember(%v, %v) = %v, but some member agrees in %d entries", g, p, got, agree)
	}
	got, ok := impl.MemberWithPrefix(g.n, g.gens, p[:agree])
	if !ok || agreement(got, p) != agree {
		t.Errorf("MemberWithPrefix(%v, %v) = %v, %v, want a member that agrees in %d entries with %v", g, p[:agree], got, ok, agree, p)
	}
	if agree < g.n {
		requireNoMember(t, g, p[:agree+1])
	}
}

func TestP4OrderIsProductOfOrbitSizes(t *testing.T) {
	all := append(enumeratedGroups(), largeGroups()...)
	for _, group := range namedGroups() {
		all = append(all, group.g)
	}
	for _, g := range all {
		sizes := impl.OrbitSizes(g.n, g.gens)
		if int64(len(sizes)) != g.n {
			t.Errorf("OrbitSizes(%v) = %v", g, sizes)
		}
		product := int64(1)
		for i, size := range sizes {
			product *= size
			if size < 1 || size > g.n-int64(i) {
				t.Errorf("OrbitSizes(%v) = %v: at %d there are only %d points left", g, sizes, i, g.n-int64(i))
			}
		}
		if got := impl.GroupOrder(g.n, g.gens); got != product {
			t.Errorf("GroupOrder(%v) = %d, but the orbit sizes are %v", g, got, sizes)
		}
	}
}

func TestP4MembersAgreeInAllEntries(t *testing.T) {
	for _, g := range enumeratedGroups() {
		members := membersOf(g)
		if got := impl.GroupOrder(g.n, g.gens); got != int64(len(members)) {
			t.Errorf("GroupOrder(%v) = %d, want %d", g, got, len(members))
		}
		if want := orbitSizesAmong(g.n, members); !slices.Equal(impl.OrbitSizes(g.n, g.gens), want) {
			t.Errorf("OrbitSizes(%v) = %v, want %v", g, impl.OrbitSizes(g.n, g.gens), want)
		}
		for _, p := range permutationsOf(int(g.n)) {
			longest := int64(0)
			for _, member := range members {
				longest = max(longest, agreement(p, member))
			}
			requireStands(t, g, p, longest)
		}
	}
}

func TestMemberWithPrefixIsFirstOfSortedMembers(t *testing.T) {
	for _, g := range enumeratedGroups() {
		members := sortedMembersOf(g)
		for _, prefix := range prefixesFor(int(g.n)) {
			want := firstWhere(members, func(p []int64) bool { return agreement(p, prefix) == int64(len(prefix)) })
			if want == nil {
				requireNoMember(t, g, prefix)
			} else {
				requireMember(t, g, prefix, want)
			}
		}
	}
}

func TestStrongGeneratingSetOfSortedMembers(t *testing.T) {
	for _, g := range enumeratedGroups() {
		want := strongSetAmong(g.n, sortedMembersOf(g))
		if got := impl.StrongGeneratingSet(g.n, g.gens); !slices.EqualFunc(got, want, slices.Equal) {
			t.Errorf("StrongGeneratingSet(%v) = %v, want %v", g, got, want)
		}
	}
}

func TestStabilizerOrderCountsMembers(t *testing.T) {
	for _, g := range enumeratedGroups() {
		members := membersOf(g)
		for set := range 1 << g.n {
			var points []int64
			for x := range g.n {
				if set>>x&1 == 1 {
					points = append(points, x)
				}
			}
			want := int64(0)
			for _, member := range members {
				if fixes(member, points) {
					want++
				}
			}
			if got := impl.StabilizerOrder(g.n, g.gens, points); got != want {
				t.Errorf("StabilizerOrder(%v, %v) = %d, want %d", g, points, got, want)
			}
		}
	}
}

func TestSameGroupHasSameMembers(t *testing.T) {
	members := map[int]string{}
	all := enumeratedGroups()
	for i, g := range all {
		members[i] = fmt.Sprint(sortedMembersOf(g))
	}
	for i, a := range all {
		for j, b := range all {
			want := a.n == b.n && members[i] == members[j]
			if a.n != b.n && len(b.gens) == 0 {
				want = members[i] == fmt.Sprint([][]int64{identityOf(int(a.n))})
			}
			if got := impl.SameGroup(a.n, a.gens, b.gens); got != want {
				t.Errorf("SameGroup(%v, %v) = %v", a, b, got)
			}
		}
	}
}

func TestSameGroup(t *testing.T) {
	full := [][]int64{withSwap(20, 0, 1), shiftOf(20, 1)}
	for _, c := range []struct {
		what string
		n    int64
		a, b [][]int64
		want bool
	}{
		{"no generators", 1, nil, [][]int64{}, true},
		{"no generators and the identity", 20, nil, [][]int64{identityOf(20)}, true},
		{"no generators and a cycle", 20, nil, [][]int64{shiftOf(20, 10)}, false},
		{"a cycle and its inverse", 20, [][]int64{shiftOf(20, 3)}, [][]int64{shiftOf(20, 17)}, true},
		{"a cycle and its square", 20, [][]int64{shiftOf(20, 1)}, [][]int64{shiftOf(20, 2)}, false},
		{"two swaps", 3, [][]int64{{1, 0, 2}}, [][]int64{{0, 2, 1}}, false},
		{"two groups of order 4", 4, [][]int64{{1, 2, 3, 0}}, [][]int64{{1, 0, 3, 2}, {2, 3, 0, 1}}, false},
		{"two groups of order 4 with a common square", 4, [][]int64{{1, 2, 3, 0}}, [][]int64{{2, 3, 0, 1}, {0, 3, 2, 1}}, false},
		{"the symmetric group of degree 20", 20, full, [][]int64{withSwap(20, 9, 10), shiftOf(20, 19)}, true},
		{"the symmetric and the alternating group", 20, full, [][]int64{turnOf(20, 0, 1, 2), turnOf(20, 1, 2, 3, 4, 5, 6, 7, 8, 9, 10, 11, 12, 13, 14, 15, 16, 17, 18, 19)}, false},
		{"two conjugate groups", 20, [][]int64{withSwap(20, 0, 1), turnOf(20, 0, 1, 2, 3, 4)}, [][]int64{withSwap(20, 0, 1), turnOf(20, 0, 1, 2, 3, 5)}, false},
	} {
		if got := impl.SameGroup(c.n, c.a, c.b); got != c.want {
			t.Errorf("%s: SameGroup = %v", c.what, got)
		}
		if got := impl.SameGroup(c.n, c.b, c.a); got != c.want {
			t.Errorf("%s, exchanged: SameGroup = %v", c.what, got)
		}
	}
}

func TestOrdersOfNamedGroups(t *testing.T) {
	for _, group := range namedGroups() {
		n, gens := group.g.n, group.g.gens
		if got := impl.GroupOrder(n, gens); got != group.order {
			t.Errorf("%s: GroupOrder = %d, want %d", group.name, got, group.order)
		}
		if got := impl.StabilizerOrder(n, gens, nil); got != group.order {
			t.Errorf("%s: StabilizerOrder of no points = %d, want %d", group.name, got, group.order)
		}
		if got := impl.StabilizerOrder(n, gens, identityOf(int(n))); got != 1 {
			t.Errorf("%s: StabilizerOrder of all points = %d", group.name, got)
		}
		for _, orbit := range impl.Orbits(n, gens) {
			for _, x := range orbit {
				if got := impl.StabilizerOrder(n, gens, []int64{x}); got != group.order/int64(len(orbit)) {
					t.Errorf("%s: StabilizerOrder of %d = %d", group.name, x, got)
				}
			}
		}
		for _, g := range gens {
			requireStands(t, group.g, g, n)
		}
		requireStands(t, group.g, identityOf(int(n)), n)
		requireMember(t, group.g, nil, identityOf(int(n)))
	}
}

// TestNamedGroupsOfAFewThousandMembers compares with all members, at degrees where the permutations are
// too many to try.
func TestNamedGroupsOfAFewThousandMembers(t *testing.T) {
	random := rand.New(rand.NewSource(5))
	for _, group := range namedGroups() {
		if group.order > 8000 {
			continue
		}
		g := group.g
		members := sortedMembersOf(g)
		if int64(len(members)) != group.order {
			t.Fatalf("%s has %d members, not %d", group.name, len(members), group.order)
		}
		if want := orbitSizesAmong(g.n, members); !slices.Equal(impl.OrbitSizes(g.n, g.gens), want) {
			t.Errorf("%s: OrbitSizes = %v, want %v", group.name, impl.OrbitSizes(g.n, g.gens), want)
		}
		if want := strongSetAmong(g.n, members); !slices.EqualFunc(impl.StrongGeneratingSet(g.n, g.gens), want, slices.Equal) {
			t.Errorf("%s: StrongGeneratingSet = %v, want %v", group.name, impl.StrongGeneratingSet(g.n, g.gens), want)
		}
		for range 60 {
			p := slices.Clone(members[random.Intn(len(members))])
			requireStands(t, g, p, g.n)
			prefix := p[:random.Intn(len(p)+1)]
			requireMember(t, g, prefix, firstWhere(members, func(q []int64) bool { return agreement(q, prefix) == int64(len(prefix)) }))
			x, y := random.Intn(len(p)), random.Intn(len(p))
			p[x], p[y] = p[y], p[x]
			longest := int64(0)
			for _, member := range members {
				longest = max(longest, agreement(p, member))
			}
			requireStands(t, g, p, longest)
			points := int64s(random.Perm(int(g.n))[:random.Intn(4)%int(g.n)])
			slices.Sort(points)
			fixing := slices.DeleteFunc(slices.Clone(members), func(q []int64) bool { return !fixes(q, points) })
			if got := impl.StabilizerOrder(g.n, g.gens, points); got != int64(len(fixing)) {
				t.Errorf("%s: StabilizerOrder of %v = %d, want %d", group.name, points, got, len(fixing))
			}
		}
	}
}

// swapGroups returns groups generated by swaps; their members are all permutations that map every orbit
// onto itself.
func swapGroups() []generated {
	random := rand.New(rand.NewSource(6))
	var all []generated
	for n := 1; n <= 20; n++ {
		for count := range 9 {
			var gens [][]int64
			for range count {
				gens = append(gens, withSwap(n, random.Intn(n), random.Intn(n)))
			}
			all = append(all, generated{int64(n), gens})
		}
	}
	return append(all, generated{20, [][]int64{withSwap(20, 0, 1), shiftOf(20, 1)}})
}

// smallestWithin returns the smallest permutation with the prefix that moves each point within its
// orbit; there must be one.
func smallestWithin(homes []int64, prefix []int64) []int64 {
	p := slices.Clone(prefix)
	for i := len(p); i < len(homes); i++ {
		y := int64(0)
		for homes[y] != homes[i] || slices.Contains(p, y) {
			y++
		}
		p = append(p, y)
	}
	return p
}

func TestGroupsOfSwapsMoveWithinOrbits(t *testing.T) {
	random := rand.New(rand.NewSource(7))
	for _, g := range swapGroups() {
		homes := make([]int64, g.n)
		order := int64(1)
		var sizes []int64
		for x := range g.n {
			orbit := searchedOrbit(g, x)
			homes[x] = orbit[0]
			left := int64(len(orbit) - slices.Index(orbit, x))
			order *= left
			sizes = append(sizes, left)
		}
		if got := impl.GroupOrder(g.n, g.gens); got != order {
			t.Errorf("GroupOrder(%v) = %d, want %d", g, got, order)
		}
		if got := impl.OrbitSizes(g.n, g.gens); !slices.Equal(got, sizes) {
			t.Errorf("OrbitSizes(%v) = %v, want %v", g, got, sizes)
		}
		for range 5 {
			p := int64s(random.Perm(int(g.n)))
			longest := int64(0)
			for longest < g.n && homes[p[longest]] == homes[longest] {
				longest++
			}
			requireStands(t, g, p, longest)
			requireMember(t, g, p[:longest], smallestWithin(homes, p[:longest]))
		}
		var set [][]int64
		for i := range g.n {
			for y := i + 1; y < g.n; y++ {
				if homes[y] == homes[i] {
					set = append(set, smallestWithin(homes, append(identityOf(int(i)), y)))
				}
			}
		}
		if got := impl.StrongGeneratingSet(g.n, g.gens); !slices.EqualFunc(got, set, slices.Equal) {
			t.Errorf("StrongGeneratingSet(%v) = %v, want %v", g, got, set)
		}
	}
}

// TestAlternatingGroup uses that the last two entries of an even permutation follow from the others.
func TestAlternatingGroup(t *testing.T) {
	random := rand.New(rand.NewSource(8))
	for n := 3; n <= 20; n++ {
		g := generated{int64(n), [][]int64{turnOf(n, 0, 1, 2)}}
		if n%2 == 1 {
			g.gens = append(g.gens, shiftOf(n, 1))
		} else {
			g.gens = append(g.gens, turnOf(n, identityOf(n)[1:]...))
		}
		for range 4 {
			p := int64s(random.Perm(n))
			if inversions(p)%2 == 1 {
				requireStands(t, g, p, int64(n-2))
				p[n-2], p[n-1] = p[n-1], p[n-2]
			}
			requireStands(t, g, p, int64(n))
			for k := range n - 2 {
				want := slices.Clone(p)
				slices.Sort(want[k:])
				if inversions(want)%2 == 1 {
					want[n-2], want[n-1] = want[n-1], want[n-2]
				}
				requireMember(t, g, p[:k], want)
			}
		}
	}
}

// inversions counts the pairs of entries that are not in ascending order.
func inversions(p []int64) int {
	count := 0
	for i := range p {
		for j := range i {
			if p[j] > p[i] {
				count++
			}
		}
	}
	return count
}

// TestGeneratorsDoNotMatter gives the same groups by other generators.
func TestGeneratorsDoNotMatter(t *testing.T) {
	for _, g := range append(enumeratedGroups(), largeGroups()...) {
		backwards := slices.Clone(impl.InverseGenerators(g.n, g.gens))
		slices.Reverse(backwards)
		others := [][][]int64{backwards}
		if len(g.gens) < impl.MaxGenerators {
			others = append(others, append([][]int64{identityOf(int(g.n))}, g.gens...))
		}
		strong := impl.StrongGeneratingSet(g.n, g.gens)
		if len(strong) <= impl.MaxGenerators {
			others = append(others, strong)
		}
		for _, p := range strong {
			if !impl.IsMember(g.n, g.gens, p) {
				t.Errorf("StrongGeneratingSet(%v) has %v, which is no member", g, p)
			}
		}
		for _, other := range others {
			if !impl.SameGroup(g.n, g.gens, other) || !impl.SameGroup(g.n, other, g.gens) {
				t.Errorf("SameGroup(%v, %v) = false", g, other)
			}
			if impl.GroupOrder(g.n, other) != impl.GroupOrder(g.n, g.gens) {
				t.Errorf("the order of %v differs from that of %v", g, other)
			}
			if got := impl.StrongGeneratingSet(g.n, other); !slices.EqualFunc(got, strong, slices.Equal) {
				t.Errorf("StrongGeneratingSet(%v) = %v for other generators, %v", other, got, strong)
			}
		}
	}
}

func TestChainFunctionsRefuseOtherGenerators(t *testing.T) {
	for _, g := range notGenerated() {
		n := int(min(max(g.n, 0), 30))
		p := identityOf(n)
		if got := impl.GroupOrder(g.n, g.gens); got != 0 {
			t.Errorf("GroupOrder(%v) = %d", g, got)
		}
		if impl.IsMember(g.n, g.gens, p) {
			t.Errorf("IsMember(%v, %v) = true", g, p)
		}
		if got := impl.OrbitSizes(g.n, g.gens); len(got) != 0 {
			t.Errorf("OrbitSizes(%v) = %v", g, got)
		}
		for _, prefix := range [][]int64{nil, {0}, p} {
			requireNoMember(t, g, prefix)
		}
		for _, p := range [][]int64{nil, {0}, p} {
			if got := impl.LongestMemberPrefix(g.n, g.gens, p); got != -1 {
				t.Errorf("LongestMemberPrefix(%v, %v) = %d", g, p, got)
			}
		}
		if got := impl.StrongGeneratingSet(g.n, g.gens); len(got) != 0 {
			t.Errorf("StrongGeneratingSet(%v) = %v", g, got)
		}
		for _, points := range [][]int64{nil, {0}, p, {1, 0}} {
			if got := impl.StabilizerOrder(g.n, g.gens, points); got != 0 {
				t.Errorf("StabilizerOrder(%v, %v) = %d", g, points, got)
			}
		}
		for _, other := range [][][]int64{nil, {p}, g.gens} {
			if impl.SameGroup(g.n, g.gens, other) || impl.SameGroup(g.n, other, g.gens) {
				t.Errorf("SameGroup(%v, %v) = true", g, other)
			}
		}
	}
}

func TestChainFunctionsRefuseOtherArguments(t *testing.T) {
	var all []generated
	for n := 1; n <= 20; n++ {
		all = append(all, generated{int64(n), nil}, generated{int64(n), [][]int64{shiftOf(n, 1)}}, generated{int64(n), [][]int64{shiftOf(n, 1), withSwap(n, 0, n-1)}})
	}
	for _, g := range all {
		n := int(g.n)
		for _, p := range append(notPermutations(), identityOf(n-1), identityOf(n+1)) {
			if impl.IsMember(g.n, g.gens, p) {
				t.Errorf("IsMember(%v, %v) = true", g, p)
			}
			if got := impl.LongestMemberPrefix(g.n, g.gens, p); got != -1 {
				t.Errorf("LongestMemberPrefix(%v, %v) = %d", g, p, got)
			}
		}
		for _, x := range []int64{math.MinInt64, -g.n, -1, g.n, g.n + 1, 1 << 32, math.MaxInt64} {
			requireNoMember(t, g, []int64{x})
			requireNoMember(t, g, append(identityOf(n-1), x))
			requireNoMember(t, g, append(identityOf(n), x))
			for _, points := range [][]int64{{x}, append(identityOf(n), x), append([]int64{x}, identityOf(n)...), {0, x}, {x, 0}} {
				if got := impl.StabilizerOrder(g.n, g.gens, points); got != 0 {
					t.Errorf("StabilizerOrder(%v, %v) = %d", g, points, got)
				}
			}
		}
		for x := range g.n {
			requireNoMember(t, g, []int64{x, x})
			for _, points := range [][]int64{{x, x}, {x, 0}, append(identityOf(n), x), {0, x, x}} {
				if got := impl.StabilizerOrder(g.n, g.gens, points); got != 0 {
					t.Errorf("StabilizerOrder(%v, %v) = %d", g, points, got)
				}
			}
		}
		for _, longer := range []int{n + 1, n + 2, 21, 1000} {
			requireNoMember(t, g, identityOf(longer))
			requireNoMember(t, g, make([]int64, longer))
			if got := impl.StabilizerOrder(g.n, g.gens, identityOf(longer)); got != 0 {
				t.Errorf("StabilizerOrder(%v) of %d points = %d", g, longer, got)
			}
		}
	}
}

// chainResults calls every function of chapter 4, with p as a member, a prefix and points; each slice
// of a result has a name of its own.
func chainResults(g generated, p []int64) map[string][]int64 {
	impl.GroupOrder(g.n, g.gens)
	impl.IsMember(g.n, g.gens, p)
	impl.LongestMemberPrefix(g.n, g.gens, p)
	impl.StabilizerOrder(g.n, g.gens, p)
	impl.SameGroup(g.n, g.gens, g.gens)
	results := map[string][]int64{"OrbitSizes": impl.OrbitSizes(g.n, g.gens)}
	for _, k := range []int{0, len(p) / 2, len(p)} {
		results[fmt.Sprint("MemberWithPrefix ", k)], _ = impl.MemberWithPrefix(g.n, g.gens, p[:k])
	}
	for i, member := range impl.StrongGeneratingSet(g.n, g.gens) {
		results[fmt.Sprint("StrongGeneratingSet ", i)] = member
	}
	return results
}

func TestChainResultsAreNewMemory(t *testing.T) {
	requireNewMemory(t, "chapter 4", chainResults)
}

// TestStabilizerOrderKeepsItsPoints has room behind the points for all points that are left.
func TestStabilizerOrderKeepsItsPoints(t *testing.T) {
	for n := 1; n <= 20; n++ {
		for k := range n + 1 {
			long := slices.Repeat([]int64{filler}, n+1)
			points := long[:copy(long, identityOf(n)[n-k:])]
			impl.StabilizerOrder(int64(n), [][]int64{shiftOf(n, 1)}, points)
			requireUnchanged(t, "StabilizerOrder", points, identityOf(n)[n-k:])
		}
	}
}
