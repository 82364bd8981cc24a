package tests

import (
	"fmt"
	"math"
	"math/rand"
	"slices"
	"testing"

	"loop.example/g00855/impl"
)

// copyOf returns a copy of the blocks that shares no memory with them.
func copyOf(blocks [][]int64) [][]int64 {
	var result [][]int64
	for _, block := range blocks {
		result = append(result, slices.Clone(block))
	}
	return result
}

// partitionsOf returns all partitions of the points below n.
func partitionsOf(n int) [][][]int64 {
	all := [][][]int64{nil}
	for x := range int64(n) {
		var longer [][][]int64
		for _, blocks := range all {
			for i := range blocks {
				extended := copyOf(blocks)
				extended[i] = append(extended[i], x)
				longer = append(longer, extended)
			}
			longer = append(longer, append(copyOf(blocks), []int64{x}))
		}
		all = longer
	}
	return all
}

// singlesOf returns the partition into single points.
func singlesOf(n int) [][]int64 {
	var blocks [][]int64
	for x := range int64(n) {
		blocks = append(blocks, []int64{x})
	}
	return blocks
}

// wholeOf returns the single block of all points.
func wholeOf(n int) [][]int64 { return [][]int64{identityOf(n)} }

// residuesOf returns the partition of the points below n by what they leave modulo d.
func residuesOf(n int, d int) [][]int64 {
	blocks := make([][]int64, d)
	for x := range n {
		blocks[x%d] = append(blocks[x%d], int64(x))
	}
	return blocks
}

// neighboursOf returns the partition of the points below n into blocks of neighbours of the given size.
func neighboursOf(n int, size int) [][]int64 {
	return slices.Collect(slices.Chunk(identityOf(n), size))
}

// togetherOf returns the partition into the given points and single points.
func togetherOf(n int, points []int64) [][]int64 {
	var blocks [][]int64
	for x := range int64(n) {
		if !slices.Contains(points, x) {
			blocks = append(blocks, []int64{x})
		} else if x == slices.Min(points) {
			blocks = append(blocks, slices.Sorted(slices.Values(points)))
		}
	}
	return blocks
}

func areSameBlocks(a [][]int64, b [][]int64) bool { return slices.EqualFunc(a, b, slices.Equal) }

// indexOfPoint returns the index of the block of x.
func indexOfPoint(blocks [][]int64, x int64) int {
	return slices.IndexFunc(blocks, func(block []int64) bool { return slices.Contains(block, x) })
}

// inducedOn returns which block p maps each of the blocks onto, or nil if it maps one onto no block.
func inducedOn(blocks [][]int64, p []int64) []int64 {
	var indices []int64
	for _, block := range blocks {
		var image []int64
		for _, x := range block {
			image = append(image, p[x])
		}
		slices.Sort(image)
		index := slices.IndexFunc(blocks, func(other []int64) bool { return slices.Equal(other, image) })
		if index < 0 {
			return nil
		}
		indices = append(indices, int64(index))
	}
	return indices
}

// countOn counts in how many ways the members rearrange the blocks and how many of them map each block
// onto itself; both are 0 if a member maps a block onto no block.
func countOn(blocks [][]int64, members [][]int64) (int64, int64) {
	ways, kernel := map[[20]int64]bool{}, int64(0)
	for _, p := range members {
		indices := inducedOn(blocks, p)
		if indices == nil {
			return 0, 0
		}
		var way [20]int64
		copy(way[:], indices)
		ways[way] = true
		if slices.IsSorted(indices) {
			kernel++
		}
	}
	return int64(len(ways)), kernel
}

// mergedBlocks merges single points into blocks until each of the groups is within one block and each of
// the maps takes points of one block to points of one block.
func mergedBlocks(n int64, groups [][]int64, maps [][]int64) [][]int64 {
	labels := identityOf(int(n))
	merge := func(x int64, y int64) bool {
		from, to := max(labels[x], labels[y]), min(labels[x], labels[y])
		for z := range labels {
			if labels[z] == from {
				labels[z] = to
			}
		}
		return from != to
	}
	for _, group := range groups {
		for _, x := range group {
			merge(group[0], x)
		}
	}
	for isNew := true; isNew; {
		isNew = false
		for _, g := range maps {
			for x := range n {
				for y := range n {
					if labels[x] == labels[y] && merge(g[x], g[y]) {
						isNew = true
					}
				}
			}
		}
	}
	var blocks [][]int64
	for x := range n {
		block := slices.DeleteFunc(identityOf(int(n)), func(y int64) bool { return labels[y] != x })
		if len(block) > 0 {
			blocks = append(blocks, block)
		}
	}
	return blocks
}

// requireOrders fails unless blocks is a block system of g, whose blocks the group rearranges in that
// many ways, that many of its members mapping every block onto itself. With 0 and 0 it must be none.
func requireOrders(t *testing.T, g generated, blocks [][]int64, actions int64, kernel int64) {
	t.Helper()
	if got := impl.IsBlockSystem(g.n, g.gens, blocks); got != (actions > 0) {
		t.Errorf("IsBlockSystem(%v, %v) = %v", g, blocks, got)
	}
	var want [][]int64
	for _, p := range g.gens {
		if actions > 0 {
			want = append(want, inducedOn(blocks, p))
		}
	}
	got, ok := impl.BlockAction(g.n, g.gens, blocks)
	if ok != (actions > 0) || !areSameBlocks(got, want) {
		t.Errorf("BlockAction(%v, %v) = %v, %v, want %v", g, blocks, got, ok, want)
	}
	if got := impl.BlockActionOrder(g.n, g.gens, blocks); got != actions {
		t.Errorf("BlockActionOrder(%v, %v) = %d, want %d", g, blocks, got, actions)
	}
	if got := impl.BlockKernelOrder(g.n, g.gens, blocks); got != kernel {
		t.Errorf("BlockKernelOrder(%v, %v) = %d, want %d", g, blocks, got, kernel)
	}
}

func requireNoSystem(t *testing.T, g generated, blocks [][]int64) {
	t.Helper()
	requireOrders(t, g, blocks, 0, 0)
}

// requireMinimal asks in both orders of the points.
func requireMinimal(t *testing.T, g generated, x int64, y int64, want [][]int64) {
	t.Helper()
	if got := impl.MinimalBlockSystem(g.n, g.gens, x, y); !areSameBlocks(got, want) {
		t.Errorf("MinimalBlockSystem(%v, %d, %d) = %v, want %v", g, x, y, got, want)
	}
	if got := impl.MinimalBlockSystem(g.n, g.gens, y, x); !areSameBlocks(got, want) {
		t.Errorf("MinimalBlockSystem(%v, %d, %d) = %v, want %v", g, y, x, got, want)
	}
}

func requireMinimalSystems(t *testing.T, g generated, want [][][]int64) {
	t.Helper()
	if got := impl.MinimalBlockSystems(g.n, g.gens); !slices.EqualFunc(got, want, areSameBlocks) {
		t.Errorf("MinimalBlockSystems(%v) = %v, want %v", g, got, want)
	}
}

func requirePrimitive(t *testing.T, g generated, want bool) {
	t.Helper()
	if got := impl.IsPrimitive(g.n, g.gens); got != want {
		t.Errorf("IsPrimitive(%v) = %v", g, got)
	}
}

// requireJoin asks in both orders of the partitions.
func requireJoin(t *testing.T, n int64, a [][]int64, b [][]int64, want [][]int64) {
	t.Helper()
	if got := impl.JoinBlockSystems(n, a, b); !areSameBlocks(got, want) {
		t.Errorf("JoinBlockSystems(%d, %v, %v) = %v, want %v", n, a, b, got, want)
	}
	if got := impl.JoinBlockSystems(n, b, a); !areSameBlocks(got, want) {
		t.Errorf("JoinBlockSystems(%d, %v, %v) = %v, want %v", n, b, a, got, want)
	}
}

func TestBlockSystemsOfFourPoints(t *testing.T) {
	turn := generated{4, [][]int64{{1, 2, 3, 0}}}
	pairs := [][]int64{{0, 2}, {1, 3}}
	requireOrders(t, turn, pairs, 2, 2)
	requireOrders(t, turn, singlesOf(4), 4, 1)
	requireOrders(t, turn, wholeOf(4), 1, 4)
	requireNoSystem(t, turn, [][]int64{{0, 1}, {2, 3}})
	requireNoSystem(t, turn, [][]int64{{0, 2}, {1}, {3}})
	requireNoSystem(t, turn, [][]int64{{0}, {1, 2, 3}})
	requireMinimal(t, turn, 0, 2, pairs)
	requireMinimal(t, turn, 1, 3, pairs)
	requireMinimal(t, turn, 0, 1, wholeOf(4))
	requireMinimal(t, turn, 3, 3, singlesOf(4))
	requireMinimalSystems(t, turn, [][][]int64{pairs})
	requirePrimitive(t, turn, false)
	requireJoin(t, 4, [][]int64{{0, 1}, {2}, {3}}, [][]int64{{0}, {1, 2}, {3}}, [][]int64{{0, 1, 2}, {3}})

	// Each of the three partitions into pairs is a block system of the group of double swaps.
	swaps := generated{4, [][]int64{{1, 0, 3, 2}, {2, 3, 0, 1}}}
	all := [][][]int64{{{0, 1}, {2, 3}}, pairs, {{0, 3}, {1, 2}}}
	for i, blocks := range all {
		requireOrders(t, swaps, blocks, 2, 2)
		requireMinimal(t, swaps, 0, int64(i+1), blocks)
		requireJoin(t, 4, blocks, all[(i+1)%3], wholeOf(4))
	}
	requireMinimalSystems(t, swaps, all)
	requirePrimitive(t, swaps, false)

	alternating := generated{4, [][]int64{{1, 2, 0, 3}, {0, 2, 3, 1}}}
	requireNoSystem(t, alternating, pairs)
	requireMinimalSystems(t, alternating, nil)
	requirePrimitive(t, alternating, true)
}

// TestBlocksOfDifferentSizes has a group that is not transitive.
func TestBlocksOfDifferentSizes(t *testing.T) {
	g := generated{6, [][]int64{{1, 0, 3, 4, 5, 2}, {0, 1, 2, 5, 4, 3}}}
	requireOrders(t, g, [][]int64{{0}, {1}, {2, 4}, {3, 5}}, 2, 4)
	requireOrders(t, g, [][]int64{{0}, {1}, {2}, {3}, {4}, {5}}, 8, 1)
	requireOrders(t, g, [][]int64{{0, 1}, {2}, {3}, {4}, {5}}, 8, 1)
	requireOrders(t, g, [][]int64{{0, 1}, {2, 4}, {3, 5}}, 2, 4)
	requireOrders(t, g, [][]int64{{0, 1}, {2, 3, 4, 5}}, 1, 8)
	requireOrders(t, g, [][]int64{{0}, {1}, {2, 3, 4, 5}}, 2, 4)
	requireOrders(t, g, [][]int64{{0, 3, 5}, {1, 2, 4}}, 2, 4)
	requireNoSystem(t, g, [][]int64{{0, 2}, {1, 3}, {4}, {5}})
	requireNoSystem(t, g, [][]int64{{0}, {1, 2, 3, 4, 5}})
	requireMinimal(t, g, 0, 1, [][]int64{{0, 1}, {2}, {3}, {4}, {5}})
	requireMinimal(t, g, 2, 4, [][]int64{{0}, {1}, {2, 4}, {3, 5}})
	requireMinimal(t, g, 0, 3, [][]int64{{0, 3, 5}, {1, 2, 4}})
	requireMinimal(t, g, 4, 5, [][]int64{{0}, {1}, {2, 3, 4, 5}})
	requireMinimalSystems(t, g, [][][]int64{{{0, 1}, {2}, {3}, {4}, {5}}, {{0, 2, 4}, {1, 3, 5}}, {{0, 3, 5}, {1, 2, 4}}})
	requirePrimitive(t, g, false)
}

// sampledGroups returns the subgroups of degree n, as subgroupsOf does, with their members.
func sampledGroups(n int) ([]generated, [][][]int64) {
	m := multiplicationOf(n)
	var groups []generated
	var members [][][]int64
	for i, a := range subgroupsOf(m) {
		groups = append(groups, generated{int64(n), a.gens[i%2]})
		members = append(members, m.permutations(a.members))
	}
	return groups, members
}

// TestP7OrderIsActionTimesKernel tries all partitions and counts over all members.
func TestP7OrderIsActionTimesKernel(t *testing.T) {
	bell := []int{1, 1, 2, 5, 15, 52, 203}
	for n := 1; n <= 6; n++ {
		partitions := partitionsOf(n)
		if len(partitions) != bell[n] {
			t.Fatalf("there are %d partitions of %d points, not %d", len(partitions), n, bell[n])
		}
		groups, members := sampledGroups(n)
		for i, g := range groups {
			for _, blocks := range partitions {
				actions, kernel := countOn(blocks, members[i])
				requireOrders(t, g, blocks, actions, kernel)
				product := impl.BlockActionOrder(g.n, g.gens, blocks) * impl.BlockKernelOrder(g.n, g.gens, blocks)
				if actions > 0 && (product != impl.GroupOrder(g.n, g.gens) || product != int64(len(members[i]))) {
					t.Errorf("%v acts in %d ways on %v, with a kernel of %d, but has %d members", g, actions, blocks, kernel, len(members[i]))
				}
			}
		}
	}
}

// TestMinimalBlockSystemsByTrial finds the block systems among all partitions.
func TestMinimalBlockSystemsByTrial(t *testing.T) {
	for n := 1; n <= 6; n++ {
		partitions := partitionsOf(n)
		groups, _ := sampledGroups(n)
		for _, g := range groups {
			systems := slices.DeleteFunc(slices.Clone(partitions), func(blocks [][]int64) bool {
				return slices.ContainsFunc(g.gens, func(p []int64) bool { return inducedOn(blocks, p) == nil })
			})
			others := slices.DeleteFunc(slices.Clone(systems), func(blocks [][]int64) bool { return len(blocks) == 1 || len(blocks) == n })
			requirePrimitive(t, g, len(searchedOrbit(g, 0)) == n && len(others) == 0)
			var fromFirst [][][]int64
			for x := range g.n {
				for y := range g.n {
					best := systemJoining(t, systems, x, y)
					requireMinimal(t, g, x, y, best)
					isKnown := slices.ContainsFunc(fromFirst, func(known [][]int64) bool { return areSameBlocks(known, best) })
					if x == 0 && y > 0 && len(best) > 1 && !isKnown {
						fromFirst = append(fromFirst, best)
					}
				}
			}
			requireMinimalSystems(t, g, fromFirst)
		}
	}
}

// systemJoining returns the one of the systems that has the most blocks among those that have x and y in
// one block. It fails if there are two.
func systemJoining(t *testing.T, systems [][][]int64, x int64, y int64) [][]int64 {
	t.Helper()
	var best [][]int64
	count := 0
	for _, blocks := range systems {
		switch {
		case indexOfPoint(blocks, x) != indexOfPoint(blocks, y):
		case len(blocks) > len(best):
			best, count = blocks, 1
		case len(blocks) == len(best):
			count++
		}
	}
	if count != 1 {
		t.Fatalf("%d block systems join %d and %d in %d blocks", count, x, y, len(best))
	}
	return best
}

// refines reports whether every block of b is a union of blocks of a.
func refines(a [][]int64, b [][]int64) bool {
	for _, block := range a {
		for _, x := range block {
			if indexOfPoint(b, x) != indexOfPoint(b, block[0]) {
				return false
			}
		}
	}
	return true
}

// TestJoinsByTrial finds the join of any two partitions among all partitions.
func TestJoinsByTrial(t *testing.T) {
	for n := 1; n <= 6; n++ {
		partitions := partitionsOf(n)
		coarser := make([][]bool, len(partitions))
		for i, a := range partitions {
			for _, c := range partitions {
				coarser[i] = append(coarser[i], refines(a, c))
			}
		}
		for i, a := range partitions {
			for j, b := range partitions[:i+1] {
				best, count := 0, 0
				for k, c := range partitions {
					switch {
					case !coarser[i][k] || !coarser[j][k]:
					case count == 0 || len(c) > len(partitions[best]):
						best, count = k, 1
					case len(c) == len(partitions[best]):
						count++
					}
				}
				if count != 1 {
					t.Fatalf("%v and %v have %d joins", a, b, count)
				}
				requireJoin(t, int64(n), a, b, partitions[best])
			}
		}
	}
}

func TestJoinsOfFewPoints(t *testing.T) {
	for n := 1; n <= 20; n++ {
		single, whole := singlesOf(n), wholeOf(n)
		requireJoin(t, int64(n), single, single, single)
		requireJoin(t, int64(n), single, whole, whole)
		requireJoin(t, int64(n), whole, whole, whole)
		for d := 1; d <= n; d++ {
			requireJoin(t, int64(n), residuesOf(n, d), single, residuesOf(n, d))
			requireJoin(t, int64(n), residuesOf(n, d), residuesOf(n, d), residuesOf(n, d))
			for e := 1; e <= n; e++ {
				// Among that many points, steps by d and by e lead from each to all that are equal to it modulo their divisor.
				if n >= d+e-1 {
					requireJoin(t, int64(n), residuesOf(n, d), residuesOf(n, e), residuesOf(n, divisorOf(d, e)))
				}
			}
		}
		// Each point is joined to the next one by one of the two.
		shifted := [][]int64{{0}}
		for _, block := range neighboursOf(n-1, 2) {
			for i := range block {
				block[i]++
			}
			shifted = append(shifted, block)
		}
		requireJoin(t, int64(n), neighboursOf(n, 2), shifted, whole)
	}
	requireJoin(t, 20, neighboursOf(20, 4), neighboursOf(20, 2), neighboursOf(20, 4))
	requireJoin(t, 20, neighboursOf(20, 10), neighboursOf(20, 5), neighboursOf(20, 10))
	requireJoin(t, 20, neighboursOf(20, 4), neighboursOf(20, 10), wholeOf(20))
	requireJoin(t, 20, residuesOf(20, 10), residuesOf(20, 4), residuesOf(20, 2))
	requireJoin(t, 20, togetherOf(20, []int64{0, 19}), togetherOf(20, []int64{19, 7}), togetherOf(20, []int64{0, 7, 19}))
	requireJoin(t, 20, togetherOf(20, []int64{0, 19}), togetherOf(20, []int64{3, 7}), mergedBlocks(20, [][]int64{{0, 19}, {3, 7}}, nil))
}

// divisorOf returns the greatest common divisor.
func divisorOf(a int, b int) int {
	for c := min(a, b); ; c-- {
		if a%c == 0 && b%c == 0 {
			return c
		}
	}
}

// randomPartition returns a partition of the points below n, mostly with many blocks.
func randomPartition(random *rand.Rand, n int64) [][]int64 {
	var pairs [][]int64
	for range random.Intn(int(n)) {
		pairs = append(pairs, []int64{random.Int63n(n), random.Int63n(n)})
	}
	return mergedBlocks(n, pairs, nil)
}

func TestJoinsAreMergedBlocks(t *testing.T) {
	random := rand.New(rand.NewSource(21))
	for n := int64(1); n <= 20; n++ {
		for range 60 {
			a, b := randomPartition(random, n), randomPartition(random, n)
			requireJoin(t, n, a, b, mergedBlocks(n, slices.Concat(a, b), nil))
			requireJoin(t, n, a, a, a)
		}
	}
}

// TestBlockListsOfFewPoints tries all short lists of short blocks: what is a partition is known.
func TestBlockListsOfFewPoints(t *testing.T) {
	for _, c := range []struct {
		n              int
		values         []int64
		points, blocks int
		partitions     int
	}{
		{1, []int64{-1, 0, 1}, 3, 2, 1},
		{1, []int64{0}, 3, 4, 1},
		{2, []int64{-1, 0, 1, 2}, 2, 3, 2},
		{2, []int64{0, 1}, 3, 3, 2},
		{3, []int64{-1, 0, 1, 2, 3}, 3, 2, 4}, // all but the one into single points
		{3, []int64{0, 1, 2}, 2, 4, 4},        // all but the single block
	} {
		parts := sequencesOver(c.values, c.points)
		numbers := identityOf(len(parts))
		known := map[string]bool{}
		for _, blocks := range partitionsOf(c.n) {
			known[fmt.Sprint(blocks)] = true
		}
		found := 0
		for _, chosen := range sequencesOver(numbers, c.blocks) {
			var blocks [][]int64
			for _, i := range chosen {
				blocks = append(blocks, parts[i])
			}
			g := generated{int64(c.n), nil}
			if !known[fmt.Sprint(blocks)] {
				requireNoSystem(t, g, blocks)
				requireJoin(t, g.n, blocks, singlesOf(c.n), nil)
				continue
			}
			found++
			requireOrders(t, g, blocks, 1, 1)
			requireJoin(t, g.n, blocks, singlesOf(c.n), blocks)
		}
		if found != c.partitions {
			t.Errorf("%d partitions of %d points were tried, not %d", found, c.n, c.partitions)
		}
	}
}

// notPartitions returns lists that are no partition of the points below n, close to the partition given.
func notPartitions(n int64, blocks [][]int64) [][][]int64 {
	beyond := []int64{math.MinInt64, -n, -1, n, n + 1, 1 << 32, math.MaxInt64}
	all := [][][]int64{nil, {}, {nil}, {{}}, append(copyOf(blocks), []int64{}), append([][]int64{nil}, copyOf(blocks)...)}
	for _, x := range append(beyond, identityOf(int(n))...) {
		all = append(all, append(copyOf(blocks), []int64{x}), append([][]int64{{x}}, copyOf(blocks)...))
	}
	for i, block := range blocks {
		changed := func(part []int64) {
			edited := copyOf(blocks)
			edited[i] = part
			all = append(all, edited)
		}
		all = append(all, slices.Delete(copyOf(blocks), i, i+1))
		changed(nil)
		changed(block[1:])
		changed(block[:len(block)-1])
		changed(append(slices.Clone(block), block...))
		changed(append(slices.Clone(block), block[len(block)-1]))
		changed(append([]int64{block[0]}, block...))
		for _, x := range beyond {
			changed(append(slices.Clone(block), x))
			changed(append([]int64{x}, block...))
			changed(append(slices.Clone(block[:len(block)-1]), x))
			changed(append([]int64{x}, block[1:]...))
		}
		if len(block) > 1 {
			reversed := slices.Clone(block)
			slices.Reverse(reversed)
			changed(reversed)
			exchanged := slices.Clone(block)
			exchanged[len(block)-1], exchanged[len(block)-2] = exchanged[len(block)-2], exchanged[len(block)-1]
			changed(exchanged)
		}
		if i > 0 {
			all = append(all, slices.Insert(copyOf(blocks), i, []int64{}))
			changed(append(slices.Clone(blocks[i-1]), block...))
			changed(slices.Sorted(slices.Values(append(slices.Clone(blocks[i-1]), block...))))
			changed(slices.Clone(blocks[i-1]))
			exchanged := copyOf(blocks)
			exchanged[i-1], exchanged[i] = exchanged[i], exchanged[i-1]
			all = append(all, exchanged)
		}
	}
	return all
}

func TestBlockFunctionsRefuseOtherPartitions(t *testing.T) {
	for n := 1; n <= 20; n++ {
		partitions := [][][]int64{singlesOf(n), wholeOf(n)}
		for d := 2; d < n; d++ {
			partitions = append(partitions, residuesOf(n, d), neighboursOf(n, d))
		}
		trivial := generated{int64(n), nil}
		for _, blocks := range partitions {
			for _, other := range append(notPartitions(int64(n), blocks), singlesOf(n-1), singlesOf(n+1), wholeOf(n-1), wholeOf(n+1)) {
				requireNoSystem(t, trivial, other)
				requireNoSystem(t, generated{int64(n), [][]int64{shiftOf(n, 1)}}, other)
				requireJoin(t, int64(n), blocks, other, nil)
				requireJoin(t, int64(n), other, other, nil)
			}
			requireOrders(t, trivial, blocks, 1, 1)
		}
		requireNoSystem(t, trivial, slices.Repeat([][]int64{identityOf(n)}, 2))
		requireNoSystem(t, trivial, slices.Repeat([][]int64{{0}}, 1000))
		requireNoSystem(t, trivial, wholeOf(1000))
		requireNoSystem(t, trivial, singlesOf(1000))
	}
}

// TestTrivialGroupsHaveAllPartitions has every degree and every number of generators.
func TestTrivialGroupsHaveAllPartitions(t *testing.T) {
	for n := 1; n <= 20; n++ {
		for count := range 9 {
			g := generated{int64(n), slices.Repeat([][]int64{identityOf(n)}, count)}
			var systems [][][]int64
			for x := range g.n {
				for y := range g.n {
					blocks := togetherOf(n, []int64{x, y})
					if x == y {
						blocks = singlesOf(n)
					}
					requireMinimal(t, g, x, y, blocks)
					if x == 0 && y > 0 && n > 2 {
						systems = append(systems, blocks)
					}
				}
			}
			requireMinimalSystems(t, g, systems)
			requirePrimitive(t, g, n == 1)
			for d := 1; d <= n; d++ {
				requireOrders(t, g, residuesOf(n, d), 1, 1)
				requireOrders(t, g, neighboursOf(n, d), 1, 1)
			}
		}
	}
}

// TestBlocksOfCycles has one block system for each divisor of the degree.
func TestBlocksOfCycles(t *testing.T) {
	for n := 1; n <= 20; n++ {
		reversed := identityOf(n)
		slices.Reverse(reversed)
		cycle, dihedral := generated{int64(n), [][]int64{shiftOf(n, 1)}}, generated{int64(n), [][]int64{reversed, shiftOf(n, 1)}}
		var systems [][][]int64
		for d := 1; d <= n; d++ {
			if n%d > 0 {
				requireNoSystem(t, cycle, residuesOf(n, d))
				requireNoSystem(t, dihedral, residuesOf(n, d))
				continue
			}
			if d > 1 && d < n {
				systems = append(systems, residuesOf(n, d))
			}
			requireOrders(t, cycle, residuesOf(n, d), int64(d), int64(n/d))
			actions := dihedralOrder(d)
			requireOrders(t, dihedral, residuesOf(n, d), actions, dihedralOrder(n)/actions)
		}
		for _, g := range []generated{cycle, dihedral} {
			requireMinimalSystems(t, g, systems)
			requirePrimitive(t, g, len(systems) == 0)
			for x := range n {
				for y := range n {
					requireMinimal(t, g, int64(x), int64(y), residuesOf(n, divisorOf(n, (x-y+n-1)%n+1)))
				}
			}
		}
	}
}

// dihedralOrder returns in how many ways a regular polygon, or less, can be laid onto itself.
func dihedralOrder(corners int) int64 {
	if corners < 3 {
		return int64(corners)
	}
	return int64(2 * corners)
}

// TestBlocksOfGroupsOfSwaps uses that a member may move each of two points anywhere in its orbit, and
// leave the other one where it is.
func TestBlocksOfGroupsOfSwaps(t *testing.T) {
	for _, g := range swapGroups() {
		homes := homesOf(g)
		order := int64(1)
		for _, length := range orbitLengths(homes) {
			order *= factorial(length)
		}
		requirePrimitive(t, g, len(orbitLengths(homes)) == 1)
		var systems [][][]int64
		for x := range g.n {
			for y := range g.n {
				if x == y {
					requireMinimal(t, g, x, y, singlesOf(int(g.n)))
					continue
				}
				joined := slices.DeleteFunc(identityOf(int(g.n)), func(z int64) bool { return homes[z] != homes[x] && homes[z] != homes[y] })
				want := togetherOf(int(g.n), joined)
				requireMinimal(t, g, x, y, want)
				isKnown := slices.ContainsFunc(systems, func(known [][]int64) bool { return areSameBlocks(known, want) })
				if x == 0 && len(want) > 1 && !isKnown {
					systems = append(systems, want)
				}
				if y == 0 {
					kernel := int64(1)
					for home, length := range orbitLengths(homes) {
						if home == homes[x] || home == homes[y] {
							kernel *= factorial(length)
						}
					}
					requireOrders(t, g, want, order/kernel, kernel)
				}
			}
		}
		requireMinimalSystems(t, g, systems)
		requireOrders(t, g, singlesOf(int(g.n)), order, 1)
		requireOrders(t, g, wholeOf(int(g.n)), 1, order)
	}
}

// groupNamed returns the one of namedGroups.
func groupNamed(t *testing.T, name string) named {
	t.Helper()
	for _, group := range namedGroups() {
		if group.name == name {
			return group
		}
	}
	t.Fatalf("there is no group named %s", name)
	return named{}
}

// TestBlocksOfNamedGroups has the orders of action and kernel from elsewhere.
func TestBlocksOfNamedGroups(t *testing.T) {
	for _, c := range []struct {
		name            string
		blocks          [][]int64
		actions, kernel int64
	}{
		{"symmetric of degree 20", wholeOf(20), 1, 2432902008176640000},
		{"symmetric of degree 20", singlesOf(20), 2432902008176640000, 1},
		{"symmetric of degree 20, repeated", wholeOf(20), 1, 2432902008176640000},
		{"symmetric of degree 20, repeated", singlesOf(20), 2432902008176640000, 1},
		{"symmetric of degree 20", neighboursOf(20, 10), 0, 0},
		{"symmetric on 19 of 20 points", togetherOf(20, rest(20, []int64{8})), 1, 121645100408832000},
		{"symmetric on 19 of 20 points", wholeOf(20), 1, 121645100408832000},
		{"symmetric on 19 of 20 points", neighboursOf(20, 19), 0, 0},
		{"alternating of degree 20", residuesOf(20, 2), 0, 0},
		{"even shifts", residuesOf(20, 2), 1, 10},
		{"even shifts", residuesOf(20, 4), 2, 5},
		{"even shifts", residuesOf(20, 5), 5, 2},
		{"two symmetric of degree 10", residuesOf(20, 2), 1, 3628800 * 3628800},
		{"two symmetric of degree 10", togetherOf(20, residuesOf(20, 2)[1]), 3628800, 3628800},
		{"two symmetric of degree 10", neighboursOf(20, 2), 0, 0},
		{"ten pairs", neighboursOf(20, 2), 3628800, 1024},
		{"ten pairs", residuesOf(20, 2), 0, 0},
		{"ten pairs", neighboursOf(20, 4), 0, 0},
		{"five fours", neighboursOf(20, 4), 120, 24 * 24 * 24 * 24 * 24},
		{"five fours", neighboursOf(20, 2), 0, 0},
		{"four fives", neighboursOf(20, 5), 24, 120 * 120 * 120 * 120},
		{"four fives", neighboursOf(20, 10), 0, 0},
		{"two turns of four points", [][]int64{{0, 3}, {1, 2}, {4, 7}, {5, 6}}, 4, 4},
		{"two turns of four points", neighboursOf(8, 4), 1, 16},
		{"two turns of four points", [][]int64{{0, 1}, {2, 3}, {4, 5}, {6, 7}}, 0, 0},
		{"corners of a turning cube", [][]int64{{0, 7}, {1, 6}, {2, 5}, {3, 4}}, 24, 1},
		{"corners of a turning cube", [][]int64{{0, 3, 5, 6}, {1, 2, 4, 7}}, 2, 12},
		{"corners of a turning cube", neighboursOf(8, 4), 0, 0},
		{"fractions modulo 19", wholeOf(20), 1, 6840},
		{"affine maps modulo 19", neighboursOf(20, 19), 1, 342},
		{"Mathieu of degree 11", neighboursOf(12, 11), 1, 7920},
		{"Mathieu of degree 12", singlesOf(12), 95040, 1},
		{"Mathieu of degree 12", residuesOf(12, 2), 0, 0},
	} {
		requireOrders(t, groupNamed(t, c.name).g, c.blocks, c.actions, c.kernel)
	}
	primitive := []string{"degree 1", "degree 1, 8 generators", "symmetric of degree 20", "symmetric of degree 20, last points", "symmetric of degree 20, repeated", "alternating of degree 20", "fractions modulo 19", "special fractions modulo 19", "special fractions modulo 7", "Mathieu of degree 12"}
	for _, group := range namedGroups() {
		requirePrimitive(t, group.g, slices.Contains(primitive, group.name))
		if slices.Contains(primitive, group.name) {
			requireMinimalSystems(t, group.g, nil)
		}
	}
	requireMinimalSystems(t, groupNamed(t, "symmetric on 19 of 20 points").g, [][][]int64{togetherOf(20, rest(20, []int64{8}))})
	requireMinimalSystems(t, groupNamed(t, "ten pairs").g, [][][]int64{neighboursOf(20, 2)})
	requireMinimalSystems(t, groupNamed(t, "five fours").g, [][][]int64{neighboursOf(20, 4)})
	requireMinimalSystems(t, groupNamed(t, "four fives").g, [][][]int64{neighboursOf(20, 5)})
	requireMinimalSystems(t, groupNamed(t, "corners of a turning cube").g, [][][]int64{{{0, 3, 5, 6}, {1, 2, 4, 7}}, {{0, 7}, {1, 6}, {2, 5}, {3, 4}}})
	requireMinimalSystems(t, groupNamed(t, "Mathieu of degree 11").g, [][][]int64{neighboursOf(12, 11)})
}

// TestBlocksAreMergedPoints has groups of large degree, with block systems that join two pairs of points.
func TestBlocksAreMergedPoints(t *testing.T) {
	random := rand.New(rand.NewSource(22))
	all := largeGroups()
	for _, group := range namedGroups() {
		all = append(all, group.g)
	}
	for _, g := range all {
		var systems [][][]int64
		for y := range g.n {
			want := mergedBlocks(g.n, [][]int64{{0, y}}, g.gens)
			isKnown := slices.ContainsFunc(systems, func(known [][]int64) bool { return areSameBlocks(known, want) })
			if y > 0 && len(want) > 1 && !isKnown {
				systems = append(systems, want)
			}
		}
		requireMinimalSystems(t, g, systems)
		for range 8 {
			pairs := [][]int64{{random.Int63n(g.n), random.Int63n(g.n)}, {random.Int63n(g.n), random.Int63n(g.n)}}
			first, second := mergedBlocks(g.n, pairs[:1], g.gens), mergedBlocks(g.n, pairs[1:], g.gens)
			requireMinimal(t, g, pairs[0][0], pairs[0][1], first)
			requireMinimal(t, g, pairs[1][0], pairs[1][1], second)
			joined := mergedBlocks(g.n, pairs, g.gens)
			requireJoin(t, g.n, first, second, joined)
			for _, blocks := range [][][]int64{first, second, joined} {
				actions, kernel := impl.BlockActionOrder(g.n, g.gens, blocks), impl.BlockKernelOrder(g.n, g.gens, blocks)
				if order := impl.GroupOrder(g.n, g.gens); actions*kernel != order {
					t.Errorf("%v has %d members, but %d ways to act on %v, and a kernel of %d", g, order, actions, blocks, kernel)
				}
				requireOrders(t, g, blocks, actions, kernel)
			}
			other := randomPartition(random, g.n)
			if slices.ContainsFunc(g.gens, func(p []int64) bool { return inducedOn(other, p) == nil }) {
				requireNoSystem(t, g, other)
			}
		}
	}
}

// TestP7InGroupsOfAFewThousandMembers counts over all members at degrees where partitions are too many.
func TestP7InGroupsOfAFewThousandMembers(t *testing.T) {
	random := rand.New(rand.NewSource(23))
	all := enumeratedGroups()
	for _, group := range namedGroups() {
		if group.order < 7000 {
			all = append(all, group.g)
		}
	}
	for _, g := range append(all, limitGroups()...) {
		members := membersOf(g)
		for range 4 {
			pairs := [][]int64{{random.Int63n(g.n), random.Int63n(g.n)}, {random.Int63n(g.n), random.Int63n(g.n)}}
			for _, blocks := range [][][]int64{mergedBlocks(g.n, pairs, g.gens), mergedBlocks(g.n, pairs[:1], g.gens), randomPartition(random, g.n)} {
				actions, kernel := countOn(blocks, members)
				requireOrders(t, g, blocks, actions, kernel)
				if actions > 0 && actions*kernel != int64(len(members)) {
					t.Errorf("%v has %d members, not %d times %d", g, len(members), actions, kernel)
				}
			}
		}
	}
}

// movingBlocks returns a permutation of the points that moves the blocks, which have equal sizes, at
// random, or not at all, and rearranges the points within them.
func movingBlocks(random *rand.Rand, blocks [][]int64) []int64 {
	targets := random.Perm(len(blocks))
	if random.Intn(3) == 0 {
		targets = slices.Sorted(slices.Values(targets))
	}
	p := make([]int64, len(blocks)*len(blocks[0]))
	for i, block := range blocks {
		for j, k := range random.Perm(len(block)) {
			p[block[j]] = blocks[targets[i]][k]
		}
	}
	return p
}

// TestP7KernelIsAStabilizer lets groups of up to 13 points act on these and, as further points, on their
// blocks: the kernel is what fixes the further points.
func TestP7KernelIsAStabilizer(t *testing.T) {
	random := rand.New(rand.NewSource(24))
	for size := 1; size <= 12; size++ {
		for count := 1; size*count+count <= 20; count++ {
			n := size * count
			for range 20 {
				blocks := copyOf(neighboursOf(n, size))
				names := int64s(random.Perm(n))
				for _, block := range blocks {
					for i, x := range block {
						block[i] = names[x]
					}
					slices.Sort(block)
				}
				slices.SortFunc(blocks, slices.Compare[[]int64])
				g := generated{int64(n), nil}
				var both [][]int64
				for range random.Intn(4) {
					p := movingBlocks(random, blocks)
					g.gens = append(g.gens, p)
					extended := slices.Clone(p)
					for _, i := range inducedOn(blocks, p) {
						extended = append(extended, int64(n)+i)
					}
					both = append(both, extended)
				}
				degree := int64(n + count)
				kernel := impl.StabilizerOrder(degree, both, identityOf(int(degree))[n:])
				requireOrders(t, g, blocks, impl.GroupOrder(degree, both)/kernel, kernel)
			}
		}
	}
}

func TestBlockFunctionsRefuseOtherGenerators(t *testing.T) {
	for _, g := range notGenerated() {
		n := int(min(max(g.n, 0), 30))
		for _, blocks := range [][][]int64{nil, {}, {{}}, {{0}}, singlesOf(n), wholeOf(n)} {
			requireNoSystem(t, g, blocks)
		}
		for _, x := range []int64{-1, 0, 1, g.n - 1, g.n} {
			requireMinimal(t, g, x, x, nil)
			requireMinimal(t, g, x, 0, nil)
		}
		requirePrimitive(t, g, false)
		requireMinimalSystems(t, g, nil)
	}
}

func TestBlockFunctionsAcceptEightGenerators(t *testing.T) {
	for n := 1; n <= 20; n++ {
		eight := slices.Repeat([][]int64{shiftOf(n, 1)}, 8)
		g, beyond := generated{int64(n), eight}, generated{int64(n), append(eight, identityOf(n))}
		requireOrders(t, g, singlesOf(n), int64(n), 1)
		requireOrders(t, g, wholeOf(n), 1, int64(n))
		requireMinimal(t, g, 0, g.n-1, wholeOf(n))
		requireNoSystem(t, beyond, singlesOf(n))
		requireNoSystem(t, beyond, wholeOf(n))
		requireMinimal(t, beyond, 0, 0, nil)
		requireMinimal(t, beyond, 0, g.n-1, nil)
		requirePrimitive(t, beyond, false)
		requireMinimalSystems(t, beyond, nil)
	}
	// Only the last generator moves other points to 0 and 10.
	last := generated{20, slices.Repeat([][]int64{shiftOf(20, 10)}, 7)}
	requireMinimal(t, last, 0, 10, togetherOf(20, []int64{0, 10}))
	requireOrders(t, last, togetherOf(20, []int64{0, 10}), 2, 1)
	last.gens = append(last.gens, shiftOf(20, 1))
	requireMinimal(t, last, 0, 10, residuesOf(20, 10))
	requireNoSystem(t, last, togetherOf(20, []int64{0, 10}))
	requireOrders(t, last, residuesOf(20, 10), 10, 2)
}

func TestMinimalBlockSystemRefusesOtherPoints(t *testing.T) {
	for _, g := range append(smallGroups(), largeGroups()...) {
		for _, x := range []int64{math.MinInt64, -g.n, -2, -1, g.n, g.n + 1, g.n * g.n, 1 << 32, math.MaxInt64} {
			requireMinimal(t, g, x, x, nil)
			for y := range g.n {
				requireMinimal(t, g, x, y, nil)
			}
		}
	}
}

func TestJoinBlockSystemsRefusesOtherDegrees(t *testing.T) {
	for _, n := range []int64{math.MinInt64, -20, -1, 0, 21, 22, 30, 1<<32 + 4, math.MaxInt64} {
		count := int(min(max(n, 0), 30))
		for _, blocks := range [][][]int64{nil, {}, {{}}, {{0}}, singlesOf(4), singlesOf(20), singlesOf(count), wholeOf(count), neighboursOf(count, 2)} {
			requireJoin(t, n, blocks, blocks, nil)
			requireJoin(t, n, blocks, nil, nil)
		}
	}
	for n := 1; n <= 20; n++ {
		for _, degree := range []int{n - 1, n + 1, 40 - n} {
			if degree != n {
				requireJoin(t, int64(n), singlesOf(degree), singlesOf(degree), nil)
				requireJoin(t, int64(n), wholeOf(degree), wholeOf(n), nil)
			}
		}
	}
}

// TestJoinBlockSystemsRefusesEndlessBlocks lists a million points up to a million times in one memory.
func TestJoinBlockSystemsRefusesEndlessBlocks(t *testing.T) {
	points := identityOf(1 << 20)
	var blocks [][]int64
	for i := range points {
		blocks = append(blocks, points[i:])
	}
	if impl.JoinBlockSystems(1<<20, blocks, blocks) != nil || impl.IsBlockSystem(1<<20, nil, blocks) {
		t.Error("a degree of a million was accepted")
	}
	requireNoSystem(t, generated{20, nil}, slices.Repeat([][]int64{identityOf(20)}, 1<<20))
	requireJoin(t, 20, slices.Repeat([][]int64{identityOf(20)}, 1<<20), wholeOf(20), nil)
}

// blockResults calls every function of chapter 7; each slice of a result has a name of its own.
func blockResults(g generated, blocks [][]int64) map[string][]int64 {
	results := map[string][]int64{}
	keep := func(name string, lists [][]int64) {
		for i, list := range lists {
			results[fmt.Sprint(name, " ", i)] = list
		}
	}
	impl.IsBlockSystem(g.n, g.gens, blocks)
	impl.BlockActionOrder(g.n, g.gens, blocks)
	impl.BlockKernelOrder(g.n, g.gens, blocks)
	impl.IsPrimitive(g.n, g.gens)
	action, _ := impl.BlockAction(g.n, g.gens, blocks)
	keep("BlockAction", action)
	keep("MinimalBlockSystem 0", impl.MinimalBlockSystem(g.n, g.gens, 0, 0))
	keep("MinimalBlockSystem n-1", impl.MinimalBlockSystem(g.n, g.gens, g.n-1, 0))
	keep("JoinBlockSystems", impl.JoinBlockSystems(g.n, blocks, blocks))
	if g.n >= 1 && g.n <= 20 {
		keep("JoinBlockSystems, single points", impl.JoinBlockSystems(g.n, blocks, singlesOf(int(g.n))))
	}
	for i, system := range impl.MinimalBlockSystems(g.n, g.gens) {
		keep(fmt.Sprint("MinimalBlockSystems ", i), system)
	}
	return results
}

func TestBlockResultsAreNewMemory(t *testing.T) {
	requireNewMemory(t, "chapter 7", func(g generated, p []int64) map[string][]int64 {
		return blockResults(g, singlesOf(len(p)))
	})
}

// TestBlockFunctionsKeepTheirPartitions has block systems, other partitions and no partitions.
func TestBlockFunctionsKeepTheirPartitions(t *testing.T) {
	for _, g := range allGroups() {
		n := int(g.n)
		lists := [][][]int64{singlesOf(n), wholeOf(n), mergedBlocks(g.n, [][]int64{{0, g.n - 1}}, g.gens), neighboursOf(n, 3), {{0}, {0}}, singlesOf(n + 1), {rest(n, []int64{0}), {0}}}
		for _, blocks := range lists {
			want := blockResults(g, blocks)
			kept := withSpareGenerators(generated{g.n, blocks})
			results := blockResults(g, kept.gens)
			requireGeneratorsUnchanged(t, "a function of chapter 7", kept, generated{g.n, blocks})
			requireEqualResults(t, fmt.Sprint("a second call with ", g, blocks), results, want)
			requireApart(t, fmt.Sprint("chapter 7 with ", g, blocks), results)
			requireGeneratorsUnchanged(t, "a write to a result", kept, generated{g.n, blocks})
			results = blockResults(g, kept.gens)
			for _, block := range kept.gens {
				overwrite(block)
			}
			requireEqualResults(t, fmt.Sprint("after a write to the blocks ", blocks), results, want)
		}
	}
}

// TestListsOfBlocksAreNewMemory writes to the lists that hold the blocks.
func TestListsOfBlocksAreNewMemory(t *testing.T) {
	for _, g := range append(smallGroups(), largeGroups()...) {
		n := int(g.n)
		whole := wholeOf(n)
		action, _ := impl.BlockAction(g.n, g.gens, whole)
		lists := append(impl.MinimalBlockSystems(g.n, g.gens), action, impl.MinimalBlockSystem(g.n, g.gens, 0, g.n-1), impl.JoinBlockSystems(g.n, whole, whole), whole)
		for i, list := range lists {
			for j := range list[:cap(list)] {
				list[:cap(list)][j] = []int64{int64(i)}
			}
		}
		for i, list := range lists {
			for _, block := range list[:cap(list)] {
				if !slices.Equal(block, []int64{int64(i)}) {
					t.Fatalf("%v: a list of blocks shares memory with another", g)
				}
			}
		}
	}
}
