package tests

import (
	"math"
	"slices"
	"testing"

	"loop.example/g00855/impl"
)

// samplePermutations returns all permutations of the degrees 1 to 5, and some of larger degrees
// up to 20.
func samplePermutations() [][]int64 {
	var all [][]int64
	for n := 1; n <= 5; n++ {
		all = append(all, permutationsOf(n)...)
	}
	reversed := shiftOf(20, 0)
	slices.Reverse(reversed)
	return append(all,
		[]int64{1, 2, 3, 4, 0, 6, 5},
		[]int64{6, 5, 4, 3, 2, 1, 0},
		[]int64{1, 2, 0, 4, 5, 6, 3, 8, 9, 10, 11, 7},
		shiftOf(19, 7),
		shiftOf(20, 0),
		shiftOf(20, 1),
		shiftOf(20, 4),
		reversed,
		// Cycles of lengths 1, 3, 4, 5, 7: the greatest order, 420, of degree 20.
		[]int64{0, 2, 3, 1, 5, 6, 7, 4, 9, 10, 11, 12, 8, 14, 15, 16, 17, 18, 19, 13},
	)
}

func requireCompose(t *testing.T, p []int64, q []int64) []int64 {
	t.Helper()
	got, ok := impl.Compose(p, q)
	if !ok {
		t.Fatalf("Compose(%v, %v) is refused", p, q)
	}
	return got
}

func TestP1InverseComposesToIdentity(t *testing.T) {
	for _, p := range samplePermutations() {
		identity := identityOf(len(p))
		inverse := impl.Inverse(p)
		if got := requireCompose(t, p, inverse); !slices.Equal(got, identity) {
			t.Errorf("%v then its inverse %v is %v", p, inverse, got)
		}
		if got := requireCompose(t, inverse, p); !slices.Equal(got, identity) {
			t.Errorf("the inverse %v of %v then it is %v", inverse, p, got)
		}
	}
}

// cycleLengths follows each point of p by itself, without the functions under test.
func cycleLengths(p []int64) []int64 {
	var lengths []int64
	for x := range p {
		length := int64(1)
		for y := p[x]; y != int64(x); y = p[y] {
			length++
		}
		lengths = append(lengths, length)
	}
	return lengths
}

func isMultipleOfAll(k int64, lengths []int64) bool {
	for _, length := range lengths {
		if k%length != 0 {
			return false
		}
	}
	return true
}

func TestP1OrderIsLeastCommonMultiple(t *testing.T) {
	for _, p := range samplePermutations() {
		lengths := cycleLengths(p)
		want := int64(1)
		for !isMultipleOfAll(want, lengths) {
			want++
		}
		if got := impl.ElementOrder(p); got != want {
			t.Errorf("ElementOrder(%v) = %d, want %d", p, got, want)
		}
	}
	if got := impl.ElementOrder(samplePermutations()[len(samplePermutations())-1]); got != 420 {
		t.Errorf("ElementOrder = %d, want 420", got)
	}
}

func TestP1OrderIsFirstPowerThatIsIdentity(t *testing.T) {
	for _, p := range samplePermutations() {
		identity := identityOf(len(p))
		product, count := slices.Clone(p), int64(1)
		for !slices.Equal(product, identity) {
			product = requireCompose(t, product, p)
			count++
		}
		if got := impl.ElementOrder(p); got != count {
			t.Errorf("ElementOrder(%v) = %d, want %d", p, got, count)
		}
		if got := impl.Power(p, count); !slices.Equal(got, identity) {
			t.Errorf("Power(%v, %d) = %v", p, count, got)
		}
	}
}

func TestIsPermutation(t *testing.T) {
	for _, p := range samplePermutations() {
		if !impl.IsPermutation(p) {
			t.Errorf("IsPermutation(%v) = false", p)
		}
	}
	for _, p := range notPermutations() {
		if impl.IsPermutation(p) {
			t.Errorf("IsPermutation(%v) = true", p)
		}
	}
	if impl.IsPermutation(identityOf(21)) || !impl.IsPermutation(identityOf(20)) || impl.MaxPoints != 20 || impl.MaxSmallDegree != 7 {
		t.Error("limits")
	}
}

// TestIsPermutationOfAllSmallSlices holds IsPermutation against all slices of up to 4 small numbers.
func TestIsPermutationOfAllSmallSlices(t *testing.T) {
	for n := 0; n <= 4; n++ {
		count := 1
		for range n {
			count *= 6
		}
		for code := range count {
			p := make([]int64, n)
			for i, rest := 0, code; i < n; i, rest = i+1, rest/6 {
				p[i] = int64(rest%6) - 1
			}
			sorted := slices.Sorted(slices.Values(p))
			want := n > 0 && slices.Equal(sorted, identityOf(n))
			if got := impl.IsPermutation(p); got != want {
				t.Errorf("IsPermutation(%v) = %v", p, got)
			}
		}
	}
}

func TestIdentity(t *testing.T) {
	for n := 1; n <= 20; n++ {
		if got := impl.Identity(int64(n)); !slices.Equal(got, identityOf(n)) {
			t.Errorf("Identity(%d) = %v", n, got)
		}
	}
	for _, n := range []int64{math.MinInt64, -1, 0, 21, 1<<32 + 1, math.MaxInt64} {
		if got := impl.Identity(n); len(got) != 0 {
			t.Errorf("Identity(%d) = %v", n, got)
		}
	}
}

func TestComposeAppliesFirstArgumentFirst(t *testing.T) {
	all := permutationsOf(4)
	for _, p := range all {
		for _, q := range all {
			got := requireCompose(t, p, q)
			for i := range p {
				if got[i] != q[p[i]] {
					t.Fatalf("Compose(%v, %v) = %v", p, q, got)
				}
			}
		}
	}
	if got := requireCompose(t, []int64{1, 2, 0}, []int64{0, 2, 1}); !slices.Equal(got, []int64{2, 1, 0}) {
		t.Errorf("Compose = %v", got)
	}
	if got := requireCompose(t, shiftOf(20, 13), shiftOf(20, 12)); !slices.Equal(got, shiftOf(20, 5)) {
		t.Errorf("Compose of degree 20 = %v", got)
	}
}

func TestPowerIsRepeatedComposition(t *testing.T) {
	for _, p := range samplePermutations() {
		forward, backward := identityOf(len(p)), identityOf(len(p))
		for k := range int64(45) {
			if got := impl.Power(p, k); !slices.Equal(got, forward) {
				t.Fatalf("Power(%v, %d) = %v, want %v", p, k, got, forward)
			}
			if got := impl.Power(p, -k); !slices.Equal(got, backward) {
				t.Fatalf("Power(%v, %d) = %v, want %v", p, -k, got, backward)
			}
			forward = requireCompose(t, forward, p)
			backward = requireCompose(t, backward, impl.Inverse(p))
		}
	}
}

// TestPowerOfExtremeExponents uses that 2^63 is 2 modulo 3, 3 modulo 5, 1 modulo 7, 18 modulo
// 19 and 8 modulo 20.
func TestPowerOfExtremeExponents(t *testing.T) {
	for _, c := range []struct {
		degree int
		k      int64
		shift  int
	}{
		{1, math.MaxInt64, 0}, {1, math.MinInt64, 0},
		{2, math.MaxInt64, 1}, {2, math.MinInt64, 0},
		{3, math.MaxInt64, 1}, {3, math.MinInt64, 1},
		{5, math.MaxInt64, 2}, {5, math.MinInt64, 2},
		{7, math.MaxInt64, 0}, {7, math.MinInt64, 6}, {7, math.MinInt64 + 1, 0},
		{19, math.MaxInt64, 17}, {19, math.MinInt64, 1},
		{20, math.MaxInt64, 7}, {20, math.MinInt64, 12},
	} {
		if got := impl.Power(shiftOf(c.degree, 1%c.degree), c.k); !slices.Equal(got, shiftOf(c.degree, c.shift)) {
			t.Errorf("Power(shift of degree %d, %d) = %v, want a shift by %d", c.degree, c.k, got, c.shift)
		}
	}
	for _, p := range samplePermutations() {
		// 2^63-1 and one more are 2^63, which the exponent -2^63 undoes.
		above := requireCompose(t, impl.Power(p, math.MaxInt64), p)
		if got := requireCompose(t, above, impl.Power(p, math.MinInt64)); !slices.Equal(got, identityOf(len(p))) {
			t.Errorf("the extreme powers of %v do not cancel: %v", p, got)
		}
	}
}

func TestCycles(t *testing.T) {
	for _, p := range samplePermutations() {
		rebuilt := identityOf(len(p))
		before := int64(-1)
		for _, cycle := range impl.Cycles(p) {
			if len(cycle) < 2 || slices.Min(cycle) != cycle[0] || cycle[0] <= before {
				t.Errorf("Cycles(%v) has the cycle %v after one of first point %d", p, cycle, before)
			}
			before = cycle[0]
			for i, x := range cycle {
				if rebuilt[x] != x {
					t.Errorf("Cycles(%v) has the point %d twice", p, x)
				}
				rebuilt[x] = cycle[(i+1)%len(cycle)]
			}
		}
		if !slices.Equal(rebuilt, p) {
			t.Errorf("the cycles of %v make %v", p, rebuilt)
		}
	}
	if got := impl.Cycles([]int64{0}); len(got) != 0 {
		t.Errorf("Cycles of degree 1 = %v", got)
	}
	got := impl.Cycles([]int64{3, 1, 5, 4, 0, 2})
	if len(got) != 2 || !slices.Equal(got[0], []int64{0, 3, 4}) || !slices.Equal(got[1], []int64{2, 5}) {
		t.Errorf("Cycles = %v", got)
	}
}

func TestSign(t *testing.T) {
	for _, p := range samplePermutations() {
		want := int64(1)
		for i := range p {
			for j := range i {
				if p[j] > p[i] {
					want = -want
				}
			}
		}
		if got := impl.Sign(p); got != want {
			t.Errorf("Sign(%v) = %d, want %d", p, got, want)
		}
	}
}

func TestPermutationLess(t *testing.T) {
	for n := 1; n <= 4; n++ {
		all := permutationsOf(n)
		for i, p := range all {
			for j, q := range all {
				if got := impl.PermutationLess(p, q); got != (i < j) {
					t.Errorf("PermutationLess(%v, %v) = %v", p, q, got)
				}
			}
		}
	}
	last := identityOf(20)
	last[18], last[19] = 19, 18
	if !impl.PermutationLess(identityOf(20), last) || impl.PermutationLess(last, identityOf(20)) {
		t.Error("PermutationLess of degree 20")
	}
}

func TestSupport(t *testing.T) {
	for _, p := range samplePermutations() {
		var want []int64
		for i, x := range p {
			if x != int64(i) {
				want = append(want, int64(i))
			}
		}
		if got := impl.Support(p); !slices.Equal(got, want) {
			t.Errorf("Support(%v) = %v, want %v", p, got, want)
		}
	}
}

func TestPermutationFunctionsRefuseOtherSlices(t *testing.T) {
	for _, p := range notPermutations() {
		if got := impl.Inverse(p); len(got) != 0 {
			t.Errorf("Inverse(%v) = %v", p, got)
		}
		for _, k := range []int64{math.MinInt64, -1, 0, 1, math.MaxInt64} {
			if got := impl.Power(p, k); len(got) != 0 {
				t.Errorf("Power(%v, %d) = %v", p, k, got)
			}
		}
		if got := impl.ElementOrder(p); got != 0 {
			t.Errorf("ElementOrder(%v) = %d", p, got)
		}
		if got := impl.Cycles(p); len(got) != 0 {
			t.Errorf("Cycles(%v) = %v", p, got)
		}
		if got := impl.Sign(p); got != 0 {
			t.Errorf("Sign(%v) = %d", p, got)
		}
		if got := impl.Support(p); len(got) != 0 {
			t.Errorf("Support(%v) = %v", p, got)
		}
	}
}

func requireRefusedPair(t *testing.T, p []int64, q []int64) {
	t.Helper()
	if got, ok := impl.Compose(p, q); ok || len(got) != 0 {
		t.Errorf("Compose(%v, %v) = %v, %v", p, q, got, ok)
	}
	if impl.PermutationLess(p, q) {
		t.Errorf("PermutationLess(%v, %v) = true", p, q)
	}
}

func TestPermutationPairsAreRefused(t *testing.T) {
	for _, p := range notPermutations() {
		// A partner of the same length, where there is one, and a larger and a smaller one.
		for _, q := range [][]int64{impl.Identity(int64(len(p))), shiftOf(20, 1), {0}, p} {
			requireRefusedPair(t, p, q)
			requireRefusedPair(t, q, p)
		}
	}
	for n := 1; n <= 20; n++ {
		for m := 1; m <= 20; m++ {
			if n != m {
				requireRefusedPair(t, shiftOf(n, 1), identityOf(m))
				requireRefusedPair(t, identityOf(n), shiftOf(m, 1))
			}
		}
	}
}

// permutationResults calls every function of chapter 1 that returns slices.
func permutationResults(p []int64, q []int64) map[string][]int64 {
	composed, _ := impl.Compose(p, q)
	results := map[string][]int64{
		"Identity":  impl.Identity(int64(len(p))),
		"Compose":   composed,
		"Inverse":   impl.Inverse(p),
		"Power 0":   impl.Power(p, 0),
		"Power 1":   impl.Power(p, 1),
		"Power -1":  impl.Power(p, -1),
		"Power 500": impl.Power(p, 500),
		"Support":   impl.Support(p),
	}
	for i, cycle := range impl.Cycles(p) {
		results["Cycles "+string(rune('A'+i))] = cycle
	}
	return results
}

func TestPermutationResultsAreNewMemory(t *testing.T) {
	for _, p := range samplePermutations() {
		first := withSpare(p)
		second := withSpare(impl.Inverse(p))
		want := permutationResults(p, second)
		results := permutationResults(first, second)
		impl.IsPermutation(first)
		impl.ElementOrder(first)
		impl.Sign(first)
		impl.PermutationLess(first, second)
		requireUnchanged(t, "a function of chapter 1", first, p)
		requireUnchanged(t, "a function of chapter 1", second, impl.Inverse(p))
		for name, result := range results {
			overwrite(result)
			delete(results, name)
			requireUnchanged(t, "a write to the result of "+name, first, p)
			requireUnchanged(t, "a write to the result of "+name, second, impl.Inverse(p))
			for other, rest := range results {
				if !slices.Equal(rest, want[other]) {
					t.Errorf("%v: the results of %s and %s share memory", p, name, other)
				}
			}
		}
		for name, result := range permutationResults(p, second) {
			if !slices.Equal(result, want[name]) {
				t.Errorf("%v: %s changes after a write to an earlier result", p, name)
			}
		}
	}
}

func TestPermutationResultsOutliveArguments(t *testing.T) {
	for _, p := range samplePermutations() {
		first, second := slices.Clone(p), slices.Clone(p)
		want := permutationResults(p, p)
		results := permutationResults(first, second)
		overwrite(first)
		overwrite(second)
		for name, result := range results {
			if !slices.Equal(result, want[name]) {
				t.Errorf("%v: the result of %s changes with its argument", p, name)
			}
		}
	}
}

func TestRefusedArgumentsAreUnchanged(t *testing.T) {
	for _, p := range notPermutations() {
		kept := withSpare(p)
		permutationResults(kept, kept)
		impl.IsPermutation(kept)
		impl.ElementOrder(kept)
		impl.Sign(kept)
		impl.PermutationLess(kept, kept)
		requireUnchanged(t, "a function of chapter 1", kept, p)
	}
}
