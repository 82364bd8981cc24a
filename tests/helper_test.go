package tests

import (
	"fmt"
	"slices"
	"testing"
)

// filler marks the memory behind a slice's end; no function may read or change it.
const filler = -77

// withSpare returns a copy of p with spare capacity that holds the filler.
func withSpare(p []int64) []int64 {
	long := make([]int64, len(p)+3)
	for i := copy(long, p); i < len(long); i++ {
		long[i] = filler
	}
	return long[:len(p)]
}

// overwrite changes every element of p, up to its capacity.
func overwrite(p []int64) {
	full := p[:cap(p)]
	for i := range full {
		full[i] = -99
	}
}

// requireUnchanged fails if p differs from want, of which withSpare made it, or the filler behind p
// is gone.
func requireUnchanged(t *testing.T, what string, p []int64, want []int64) {
	t.Helper()
	if !slices.Equal(p, want) {
		t.Errorf("%s changed its argument %v to %v", what, want, p)
	}
	for _, x := range p[len(p):cap(p)] {
		if x != filler {
			t.Errorf("%s changed memory beyond the end of its argument %v", what, want)
		}
	}
}

// requireApart overwrites each of the named slices, up to its capacity, with a number of its own, and
// fails if one of them then has a number of another.
func requireApart(t *testing.T, what string, slicesByName map[string][]int64) {
	t.Helper()
	numbers := map[string]int64{}
	for name, p := range slicesByName {
		numbers[name] = -100 - int64(len(numbers))
		for i := range p[:cap(p)] {
			p[:cap(p)][i] = numbers[name]
		}
	}
	for name, p := range slicesByName {
		for _, x := range p[:cap(p)] {
			if x != numbers[name] {
				t.Fatalf("%s: %s shares memory with another result", what, name)
			}
		}
	}
}

// requireEqualResults fails if a slice differs from the one of the same name that is wanted.
func requireEqualResults(t *testing.T, what string, got map[string][]int64, want map[string][]int64) {
	t.Helper()
	for name, p := range want {
		if !slices.Equal(got[name], p) {
			t.Errorf("%s: %s is %v, want %v", what, name, got[name], p)
		}
	}
}

// permutationsOf returns all permutations of degree n in lexicographic order.
func permutationsOf(n int) [][]int64 {
	var all [][]int64
	var extend func(prefix []int64)
	extend = func(prefix []int64) {
		if len(prefix) == n {
			all = append(all, slices.Clone(prefix))
			return
		}
		for x := range int64(n) {
			if !slices.Contains(prefix, x) {
				extend(append(slices.Clone(prefix), x))
			}
		}
	}
	extend(nil)
	return all
}

// identityOf returns 0, ..., n-1, for any n.
func identityOf(n int) []int64 {
	p := make([]int64, n)
	for i := range p {
		p[i] = int64(i)
	}
	return p
}

// shiftOf returns the permutation of degree n that moves each point i to i+k modulo n.
func shiftOf(n int, k int) []int64 {
	p := make([]int64, n)
	for i := range p {
		p[i] = int64((i + k) % n)
	}
	return p
}

// notPermutations returns slices that no function may accept as a permutation.
func notPermutations() [][]int64 {
	repeated := shiftOf(20, 3)
	repeated[19] = repeated[0]
	return [][]int64{
		nil,
		{},
		{1},
		{-1},
		{20},
		{0, 0},
		{1, 1},
		{0, 2},
		{1, 2, 3},
		{0, 1, 3},
		{0, -1, 2},
		{2, 0, 2},
		{0, 1 << 32},
		{-9223372036854775808, 0},
		{0, 9223372036854775807},
		repeated,
		identityOf(21),
		shiftOf(21, 1),
		identityOf(64),
	}
}

// allGroups returns the small, the large and the named groups.
func allGroups() []generated {
	all := append(smallGroups(), largeGroups()...)
	for _, group := range namedGroups() {
		all = append(all, group.g)
	}
	return all
}

// requireNewMemory fails if what resultsOf returns for some generators and a permutation shares memory
// with these or within itself, or if they have been changed.
func requireNewMemory(t *testing.T, chapter string, resultsOf func(g generated, p []int64) map[string][]int64) {
	t.Helper()
	for _, g := range allGroups() {
		p := identityOf(int(g.n))
		if len(g.gens) > 0 {
			p = g.gens[len(g.gens)-1]
		}
		keptGens, kept := withSpareGenerators(g), withSpare(p)
		want := resultsOf(g, p)
		results := resultsOf(keptGens, kept)
		requireGeneratorsUnchanged(t, "a function of "+chapter, keptGens, g)
		requireUnchanged(t, "a function of "+chapter, kept, p)
		requireEqualResults(t, fmt.Sprint("a second call with ", g), results, want)
		requireApart(t, fmt.Sprint(chapter, " with ", g), results)
		requireGeneratorsUnchanged(t, "a write to a result", keptGens, g)
		requireUnchanged(t, "a write to a result", kept, p)
		results = resultsOf(keptGens, kept)
		overwrite(kept)
		for _, gen := range keptGens.gens {
			overwrite(gen)
		}
		requireEqualResults(t, fmt.Sprint("after a write to the arguments of ", g), results, want)
	}
	for _, g := range notGenerated() {
		kept := withSpareGenerators(g)
		resultsOf(kept, identityOf(5))
		requireGeneratorsUnchanged(t, "a function of "+chapter, kept, g)
	}
}
