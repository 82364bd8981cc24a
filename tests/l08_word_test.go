package tests

import (
	"fmt"
	"math"
	"math/rand"
	"slices"
	"testing"

	"loop.example/g00855/impl"
)

// allLetters returns the letters there are, in their order.
func allLetters() []int64 {
	return []int64{1, -1, 2, -2, 3, -3, 4, -4, 5, -5, 6, -6, 7, -7, 8, -8}
}

// wordOfLength returns a word of the given length that has no adjacent inverse letters.
func wordOfLength(length int) []int64 {
	var w []int64
	for i := range length {
		w = append(w, []int64{1, 8, 2, -1, 3, 3, -2, -8}[i%8])
	}
	return w
}

// randomWord returns a word of the given length over the letters; with few of them it has many adjacent
// inverse letters.
func randomWord(random *rand.Rand, letters []int64, length int) []int64 {
	var w []int64
	for range length {
		w = append(w, letters[random.Intn(len(letters))])
	}
	return w
}

// inverseOf returns the inverse letters of w in reverse order.
func inverseOf(w []int64) []int64 {
	inverse := make([]int64, len(w))
	for i, letter := range w {
		inverse[len(w)-1-i] = -letter
	}
	return inverse
}

// reducedBy removes adjacent inverse letters, each time at the one of the possible places that choose
// names by its index, until there are none.
func reducedBy(choose func(count int) int, w []int64) []int64 {
	for {
		var places []int
		for i := 1; i < len(w); i++ {
			if w[i-1]+w[i] == 0 {
				places = append(places, i)
			}
		}
		if len(places) == 0 {
			return w
		}
		i := places[choose(len(places))]
		w = slices.Concat(w[:i-1], w[i+1:])
	}
}

func chooseFirst(int) int { return 0 }

func chooseLast(count int) int { return count - 1 }

// evaluationOf follows every point by itself through the word.
func evaluationOf(g generated, w []int64) []int64 {
	var images []int64
	for x := range g.n {
		images = append(images, pointAfter(g, w, x))
	}
	return images
}

// runsOf counts the maximal runs of letters of one generator.
func runsOf(w []int64) int64 {
	count := int64(0)
	for i, letter := range w {
		if i == 0 || letter != w[i-1] && letter != -w[i-1] {
			count++
		}
	}
	return count
}

// badLetters returns numbers that are no letters, whatever the number of generators.
func badLetters() []int64 {
	return []int64{0, 9, -9, 10, -10, 1 << 8, 1<<8 + 1, 1 << 32, 1<<32 + 1, -1<<32 - 1, math.MaxInt64, math.MaxInt64 - 1, math.MinInt64, math.MinInt64 + 1}
}

// notWords returns slices that no function may accept as a word.
func notWords() [][]int64 {
	var all [][]int64
	for _, x := range badLetters() {
		all = append(all, []int64{x}, []int64{x, 1}, []int64{-1, x}, []int64{8, x, -8}, []int64{x, -x}, []int64{1, 2, x, -2, -1})
		long := wordOfLength(200)
		long[199] = x
		all = append(all, long)
	}
	for _, length := range []int{201, 202, 256, 400, 1 << 16} {
		all = append(all, wordOfLength(length), slices.Repeat([]int64{1}, length), slices.Repeat([]int64{0}, length))
	}
	// Half of this one is the inverse of the other half.
	return append(all, append(wordOfLength(101), inverseOf(wordOfLength(101))...))
}

func requireEvaluation(t *testing.T, g generated, w []int64, want []int64) {
	t.Helper()
	got, ok := impl.EvaluateWord(g.n, g.gens, w)
	requireResult(t, got, ok, want, "EvaluateWord", g, w)
}

// requireReduced also asks for the length of the reduction in both metrics.
func requireReduced(t *testing.T, w []int64, want []int64) {
	t.Helper()
	if got := impl.FreeReduce(w); !slices.Equal(got, want) {
		t.Errorf("FreeReduce(%v) = %v, want %v", w, got, want)
	}
	requireWordLength(t, w, 1, int64(len(want)))
	requireWordLength(t, w, 2, runsOf(want))
}

func requireWordLength(t *testing.T, w []int64, metric int64, want int64) {
	t.Helper()
	if got := impl.WordLength(w, metric); got != want {
		t.Errorf("WordLength(%v, %d) = %d, want %d", w, metric, got, want)
	}
}

func requireWordLess(t *testing.T, a []int64, b []int64, want bool) {
	t.Helper()
	if got := impl.WordLess(a, b); got != want {
		t.Errorf("WordLess(%v, %v) = %v", a, b, got)
	}
}

// requireWord fails unless the function that is named returned the wanted word, or none if it has more
// than 200 letters.
func requireWord(t *testing.T, got []int64, ok bool, want []int64, what ...any) {
	t.Helper()
	fits := len(want) <= 200
	if !fits {
		want = nil
	}
	if ok != fits || !slices.Equal(got, want) {
		t.Fatalf("%v is %v, %v, want %v, %v", what, got, ok, want, fits)
	}
}

// requireJoined asks for the words that are made of a and b, which are valid.
func requireJoined(t *testing.T, a []int64, b []int64) {
	t.Helper()
	got, ok := impl.ConcatWords(a, b)
	requireWord(t, got, ok, slices.Concat(a, b), "ConcatWords", a, b)
	got, ok = impl.Commutator(a, b)
	requireWord(t, got, ok, slices.Concat(a, b, inverseOf(a), inverseOf(b)), "Commutator", a, b)
	got, ok = impl.ConjugateWord(a, b)
	requireWord(t, got, ok, slices.Concat(a, b, inverseOf(a)), "ConjugateWord", a, b)
}

func requireNotJoined(t *testing.T, a []int64, b []int64) {
	t.Helper()
	if got, ok := impl.ConcatWords(a, b); ok || len(got) != 0 {
		t.Errorf("ConcatWords(%v, %v) = %v, %v", a, b, got, ok)
	}
	if got, ok := impl.Commutator(a, b); ok || len(got) != 0 {
		t.Errorf("Commutator(%v, %v) = %v, %v", a, b, got, ok)
	}
	if got, ok := impl.ConjugateWord(a, b); ok || len(got) != 0 {
		t.Errorf("ConjugateWord(%v, %v) = %v, %v", a, b, got, ok)
	}
	requireWordLess(t, a, b, false)
}

// requireRepeated takes a word of at most 200 letters and any k.
func requireRepeated(t *testing.T, w []int64, k int64) {
	t.Helper()
	unit := w
	if k < 0 {
		unit = inverseOf(w)
	}
	// More than these many repetitions have too many letters as well, or none at all.
	times := 200/max(len(w), 1) + 1
	if -201 < k && k < 201 {
		times = min(times, int(max(k, -k)))
	}
	got, ok := impl.RepeatWord(w, k)
	requireWord(t, got, ok, slices.Repeat(unit, times), "RepeatWord", w, k)
}

func TestWordsOfTheChapter(t *testing.T) {
	if impl.MaxWordLength != 200 || impl.LetterMetric != 1 || impl.MoveMetric != 2 {
		t.Error("limits")
	}
	if !impl.IsValidWord(2, []int64{1, -2}) || impl.IsValidWord(1, []int64{1, -2}) {
		t.Error("IsValidWord")
	}
	requireEvaluation(t, generated{3, [][]int64{{1, 2, 0}, {1, 0, 2}}}, []int64{1, 2}, []int64{0, 2, 1})
	if got := impl.InvertWord([]int64{1, -2}); !slices.Equal(got, []int64{2, -1}) {
		t.Errorf("InvertWord = %v", got)
	}
	requireReduced(t, []int64{1, 2, -2, 3}, []int64{1, 3})
	got, ok := impl.ConcatWords([]int64{1}, []int64{2})
	requireWord(t, got, ok, []int64{1, 2}, "ConcatWords")
	got, ok = impl.RepeatWord([]int64{1, 2}, -2)
	requireWord(t, got, ok, []int64{-2, -1, -2, -1}, "RepeatWord")
	got, ok = impl.Commutator([]int64{1}, []int64{2})
	requireWord(t, got, ok, []int64{1, 2, -1, -2}, "Commutator")
	got, ok = impl.ConjugateWord([]int64{1}, []int64{2})
	requireWord(t, got, ok, []int64{1, 2, -1}, "ConjugateWord")
	requireWordLess(t, []int64{-1}, []int64{2}, true)
	requireWordLength(t, []int64{1, 1, -2}, impl.MoveMetric, 2)
	requireWordLength(t, []int64{1, 1, -2}, impl.LetterMetric, 3)
}

// TestIsValidWordOfAllShortSlices looks the letters up among those of the generators.
func TestIsValidWordOfAllShortSlices(t *testing.T) {
	values := append(badLetters(), 1, -1, 2, -2, 7, -7, 8, -8)
	all := sequencesOver(values, 3)
	for generators, letters := range map[int64][]int64{
		math.MinInt64: nil, math.MinInt64 + 1: nil, -9: nil, -8: nil, -2: nil, -1: nil, 0: nil,
		1: allLetters()[:2], 2: allLetters()[:4], 3: allLetters()[:6], 7: allLetters()[:14], 8: allLetters(),
		9: allLetters(), 10: allLetters(), 1 << 32: allLetters(), math.MaxInt64: allLetters(),
	} {
		for _, w := range all {
			want := !slices.ContainsFunc(w, func(x int64) bool { return !slices.Contains(letters, x) })
			if got := impl.IsValidWord(generators, w); got != want {
				t.Errorf("IsValidWord(%d, %v) = %v", generators, w, got)
			}
		}
		if !impl.IsValidWord(generators, nil) {
			t.Errorf("IsValidWord(%d) refuses the word without letters", generators)
		}
	}
}

func TestIsValidWordOfAllLengths(t *testing.T) {
	for length := range 500 {
		for _, x := range allLetters() {
			for generators := range int64(12) {
				want := length <= 200 && (length == 0 || slices.Index(allLetters(), x) < 2*int(generators))
				if got := impl.IsValidWord(generators, slices.Repeat([]int64{x}, length)); got != want {
					t.Errorf("IsValidWord(%d) of %d letters %d is %v", generators, length, x, got)
				}
			}
		}
	}
	// A letter that is refused may be anywhere in a long word.
	for place := range 200 {
		for _, x := range append(badLetters(), 4, -4) {
			w := slices.Repeat([]int64{-3}, 200)
			w[place] = x
			if impl.IsValidWord(3, w) {
				t.Errorf("IsValidWord accepts the letter %d at %d", x, place)
			}
		}
	}
}

// TestP8ReductionEvaluatesAlike follows the points through all words of up to four letters, of two
// generators, and through longer ones, of up to eight.
func TestP8ReductionEvaluatesAlike(t *testing.T) {
	random := rand.New(rand.NewSource(81))
	for _, g := range allGroups() {
		letters := lettersInOrder(g)
		words := sequencesOver(letters[:min(len(letters), 4)], 4)
		for length := 1; length <= 200 && len(letters) > 0; length += 1 + random.Intn(40) {
			w := randomWord(random, letters, length)
			words = append(words, w, append(w[:length/2], inverseOf(w[:length/2])...))
		}
		if len(letters) > 0 {
			words = append(words, randomWord(random, letters, 199), randomWord(random, letters, 200), randomWord(random, letters[:2], 200))
		}
		for _, w := range words {
			want := evaluationOf(g, w)
			requireEvaluation(t, g, w, want)
			requireEvaluation(t, g, impl.FreeReduce(w), want)
			if got := impl.FreeReduce(w); len(got) > len(w) || !slices.Equal(evaluationOf(g, got), want) {
				t.Errorf("%v: the reduction %v of %v is no other word for %v", g, got, w, want)
			}
		}
	}
}

// TestReductionsInAnyOrder removes the first, the last and random pairs of inverse letters.
func TestReductionsInAnyOrder(t *testing.T) {
	random := rand.New(rand.NewSource(82))
	words := slices.Concat(
		sequencesOver([]int64{1, -1}, 10),
		sequencesOver([]int64{1, -1, 2, -2}, 6),
		sequencesOver([]int64{1, -1, 2, -2, 8, -8}, 4),
		sequencesOver(allLetters(), 2),
	)
	for length := range 201 {
		for _, count := range []int{2, 4, 6, 16} {
			words = append(words, randomWord(random, allLetters()[:count], length))
		}
	}
	for _, w := range words {
		want := reducedBy(chooseFirst, w)
		if !slices.Equal(reducedBy(chooseLast, w), want) || !slices.Equal(reducedBy(random.Intn, w), want) {
			t.Fatalf("the order in which %v is reduced matters", w)
		}
		requireReduced(t, w, want)
		requireReduced(t, want, want)
	}
}

func TestReductionsOfSomeWords(t *testing.T) {
	for _, c := range []struct{ w, want []int64 }{
		{nil, nil},
		{[]int64{}, nil},
		{[]int64{8}, []int64{8}},
		{[]int64{-8}, []int64{-8}},
		{[]int64{1, 1}, []int64{1, 1}},
		{[]int64{-1, -1}, []int64{-1, -1}},
		{[]int64{1, -1}, nil},
		{[]int64{-8, 8}, nil},
		{[]int64{1, -2}, []int64{1, -2}},
		{[]int64{1, -1, 1}, []int64{1}},
		{[]int64{1, 2, -1}, []int64{1, 2, -1}},
		{[]int64{1, 2, -1, -2}, []int64{1, 2, -1, -2}},
		{[]int64{1, 2, -2, -1}, nil},
		{[]int64{1, 2, 3, -3, -2, -1, 4}, []int64{4}},
		{[]int64{4, 1, 2, 3, -3, -2, -1}, []int64{4}},
		{[]int64{1, -1, 2, -2, -3, 3}, nil},
		{[]int64{1, 2, -2, 1}, []int64{1, 1}},
		{[]int64{1, 2, -2, -1, 1}, []int64{1}},
		{[]int64{1, 1, 2, -2, -1, -1, -1}, []int64{-1}},
		{[]int64{5, 1, 2, 2, -2, -2, -1, 5}, []int64{5, 5}},
		{append(wordOfLength(100), inverseOf(wordOfLength(100))...), nil},
		{append(wordOfLength(100), inverseOf(wordOfLength(100)[1:])...), []int64{1}},
		{wordOfLength(199), wordOfLength(199)},
		{wordOfLength(200), wordOfLength(200)},
		{slices.Repeat([]int64{7}, 200), slices.Repeat([]int64{7}, 200)},
		{slices.Repeat([]int64{7, -7}, 100), nil},
		{append([]int64{7}, slices.Repeat([]int64{7, -7}, 99)...), []int64{7}},
	} {
		requireReduced(t, c.w, c.want)
	}
}

func TestWordLengthCountsRunsOfTheReduction(t *testing.T) {
	for _, c := range []struct {
		w              []int64
		letters, moves int64
	}{
		{nil, 0, 0},
		{[]int64{3}, 1, 1},
		{[]int64{-3}, 1, 1},
		{[]int64{3, 3}, 2, 1},
		{[]int64{3, -3}, 0, 0},
		{[]int64{3, 3, -3}, 1, 1},
		{[]int64{-3, 3, -3, -3}, 2, 1},
		{[]int64{1, 2, 1, 1}, 4, 3},
		{[]int64{1, -2, 1, -2}, 4, 4},
		// Runs come together where what is between them is removed.
		{[]int64{1, 2, -2, 1}, 2, 1},
		{[]int64{1, 2, 3, -3, -2, 1}, 2, 1},
		{[]int64{1, 1, 2, -2, -1, 3, 1}, 3, 3},
		{[]int64{1, 1, 2, -2, -1, -1}, 0, 0},
		{[]int64{2, 1, 1, 3, -3, -1, -1, 2}, 2, 1},
		{[]int64{2, 1, -1, -2, 1}, 1, 1},
		{slices.Repeat([]int64{6}, 200), 200, 1},
		{slices.Repeat([]int64{6, 5}, 100), 200, 200},
		{slices.Repeat([]int64{6, -6}, 100), 0, 0},
		{slices.Repeat([]int64{6, 6, 6, -5}, 50), 200, 100},
		{slices.Repeat([]int64{6, -6, 6}, 66), 66, 1},
	} {
		requireWordLength(t, c.w, impl.LetterMetric, c.letters)
		requireWordLength(t, c.w, impl.MoveMetric, c.moves)
		for _, metric := range []int64{math.MinInt64, -2, -1, 0, 3, 4, 1<<32 + 1, 1<<32 + 2, math.MaxInt64} {
			requireWordLength(t, c.w, metric, -1)
		}
	}
}

// TestInverseWords also lets a word be followed by its inverse, which leaves nothing of the two.
func TestInverseWords(t *testing.T) {
	random := rand.New(rand.NewSource(83))
	words := slices.Concat(sequencesOver([]int64{1, -1, 2, -2, 8, -8}, 4), sequencesOver(allLetters(), 2))
	for length := range 201 {
		words = append(words, wordOfLength(length), randomWord(random, allLetters(), length))
	}
	for _, w := range words {
		inverse := impl.InvertWord(w)
		if !slices.Equal(inverse, inverseOf(w)) {
			t.Errorf("InvertWord(%v) = %v", w, inverse)
		}
		if got := impl.InvertWord(inverse); !slices.Equal(got, w) {
			t.Errorf("the inverse of the inverse of %v is %v", w, got)
		}
		got, ok := impl.ConcatWords(w, inverse)
		requireWord(t, got, ok, slices.Concat(w, inverse), "ConcatWords", w, inverse)
		if ok {
			requireReduced(t, got, nil)
		}
	}
}

// TestWordsAsPermutations evaluates the words made of two by composing what the two evaluate to.
func TestWordsAsPermutations(t *testing.T) {
	random := rand.New(rand.NewSource(84))
	for _, g := range allGroups() {
		letters := lettersInOrder(g)
		for length := 0; length <= 50; length += 10 {
			var a, b []int64
			if len(letters) > 0 {
				a, b = randomWord(random, letters, length), randomWord(random, letters, random.Intn(51))
			}
			p, q := evaluationOf(g, a), evaluationOf(g, b)
			back, backward := impl.Inverse(p), impl.Inverse(q)
			requireEvaluation(t, g, impl.InvertWord(a), back)
			joined, _ := impl.ConcatWords(a, b)
			requireEvaluation(t, g, joined, composed(p, q))
			commutator, _ := impl.Commutator(a, b)
			requireEvaluation(t, g, commutator, composed(composed(p, q), composed(back, backward)))
			conjugate, _ := impl.ConjugateWord(a, b)
			requireEvaluation(t, g, conjugate, composed(composed(p, q), back))
			for k := int64(-4); k <= 4; k++ {
				repeated, _ := impl.RepeatWord(a, k)
				requireEvaluation(t, g, repeated, impl.Power(p, k))
			}
		}
	}
}

// TestEvaluateWordHasEveryGenerator has shifts, so that only how often each letter comes matters.
func TestEvaluateWordHasEveryGenerator(t *testing.T) {
	for n := 1; n <= 20; n++ {
		for count := range 9 {
			g := generated{int64(n), nil}
			for k := range count {
				g.gens = append(g.gens, shiftOf(n, (3*k+1)%n))
			}
			requireEvaluation(t, g, nil, identityOf(n))
			for i, x := range allLetters() {
				shift := 3*(i/2) + 1
				if i%2 == 1 {
					shift *= n - 1 // as many steps back, less whole rounds
				}
				want, often := shiftOf(n, shift), shiftOf(n, 200*shift)
				if i >= 2*count {
					want, often = nil, nil
				}
				requireEvaluation(t, g, []int64{x}, want)
				requireEvaluation(t, g, slices.Repeat([]int64{x}, 200), often)
				requireEvaluation(t, g, slices.Repeat([]int64{x}, 201), nil)
				if count > 0 {
					requireEvaluation(t, g, append(slices.Repeat([]int64{1, -1}, 99), x), want)
				}
			}
			for _, x := range append(badLetters(), int64(count+1), int64(-count-1)) {
				requireEvaluation(t, g, []int64{x}, nil)
				if count > 0 {
					requireEvaluation(t, g, []int64{1, x, -1}, nil)
				}
			}
		}
	}
}

// TestEvaluateWordFromLeftToRight has generators that do not commute.
func TestEvaluateWordFromLeftToRight(t *testing.T) {
	g := generated{4, [][]int64{{1, 2, 3, 0}, {1, 0, 2, 3}, {0, 2, 3, 1}}}
	for _, c := range []struct{ w, want []int64 }{
		{nil, []int64{0, 1, 2, 3}},
		{[]int64{1}, []int64{1, 2, 3, 0}},
		{[]int64{-1}, []int64{3, 0, 1, 2}},
		{[]int64{1, 2}, []int64{0, 2, 3, 1}},
		{[]int64{2, 1}, []int64{2, 1, 3, 0}},
		{[]int64{-1, 2}, []int64{3, 1, 0, 2}},
		{[]int64{2, -1}, []int64{0, 3, 1, 2}},
		{[]int64{1, 2, -3}, []int64{0, 1, 2, 3}},
		{[]int64{3, -2, -1}, []int64{0, 1, 2, 3}},
		{[]int64{1, 1}, []int64{2, 3, 0, 1}},
		{[]int64{1, 2, -2, -1}, []int64{0, 1, 2, 3}},
		{[]int64{4}, nil},
		{[]int64{-4}, nil},
		{[]int64{1, 2, 4}, nil},
	} {
		requireEvaluation(t, g, c.w, c.want)
	}
}

func TestEvaluateWordRefusesOtherGenerators(t *testing.T) {
	for _, g := range notGenerated() {
		for _, w := range [][]int64{nil, {1}, {-1}, {1, 2}, {8}, {9}, {0}} {
			requireEvaluation(t, g, w, nil)
		}
	}
}

func TestJoinedShortWords(t *testing.T) {
	words := append(sequencesOver([]int64{1, -1, 2, -8}, 3), nil)
	for _, a := range words {
		for _, b := range words {
			requireJoined(t, a, b)
		}
	}
}

// TestJoinedWordsOfAllLengths has every two lengths, so also those that make 200 letters and 201.
func TestJoinedWordsOfAllLengths(t *testing.T) {
	for i := range 203 {
		for j := range 203 {
			a, b := wordOfLength(i), inverseOf(wordOfLength(j))
			if i > 200 || j > 200 {
				requireNotJoined(t, a, b)
			} else {
				requireJoined(t, a, b)
			}
		}
	}
}

func TestJoinedWordsAreNotReduced(t *testing.T) {
	half := wordOfLength(100)
	requireJoined(t, half, inverseOf(half))
	requireJoined(t, half, nil)
	requireJoined(t, nil, half)
	// These have no letters left after a reduction, but more than 200 before it.
	requireJoined(t, wordOfLength(101), inverseOf(wordOfLength(100)))
	requireJoined(t, wordOfLength(101), nil)
	requireJoined(t, nil, wordOfLength(101))
}

func TestRepeatedShortWords(t *testing.T) {
	for _, w := range append(sequencesOver([]int64{1, -1, 2, -8}, 3), nil) {
		for k := int64(-5); k <= 5; k++ {
			requireRepeated(t, w, k)
		}
	}
}

func TestRepeatedWordsOfAllLengths(t *testing.T) {
	for length := range 201 {
		w := wordOfLength(length)
		for k := int64(-203); k <= 203; k++ {
			requireRepeated(t, w, k)
		}
		for _, k := range extremeCounts() {
			requireRepeated(t, w, k)
		}
	}
}

// extremeCounts returns numbers some of which, multiplied by a length, are between -200 and 200 again
// if an int64 is taken for enough.
func extremeCounts() []int64 {
	all := []int64{math.MinInt64, math.MinInt64 + 1, math.MaxInt64, math.MaxInt64 - 1}
	for shift := 8; shift < 63; shift++ {
		power := int64(1) << shift
		all = append(all, power-1, power, power+1, -power-1, -power, -power+1)
	}
	for length := int64(3); length <= 200; length++ {
		all = append(all, math.MaxInt64/length, math.MaxInt64/length*2+1, math.MinInt64/length, math.MaxInt64/length+1, math.MinInt64/length-1)
	}
	return all
}

// TestWordLessOfAllShortWords has the words in their order.
func TestWordLessOfAllShortWords(t *testing.T) {
	for _, words := range [][][]int64{
		sequencesOver(allLetters(), 2),
		sequencesOver([]int64{1, -1, 2, -2, 8, -8}, 3),
		sequencesOver([]int64{1, -1, 2}, 5),
	} {
		for i, a := range words {
			for j, b := range words {
				requireWordLess(t, a, b, i < j)
			}
		}
	}
}

func TestWordLessOfLongWords(t *testing.T) {
	for length := 1; length <= 200; length++ {
		w := wordOfLength(length)
		requireWordLess(t, w, w, false)
		requireWordLess(t, w, slices.Clone(w), false)
		requireWordLess(t, w[:length-1], w, true)
		requireWordLess(t, w, w[:length-1], false)
		requireWordLess(t, nil, w, true)
		requireWordLess(t, w, nil, false)
		requireWordLess(t, slices.Repeat([]int64{-8}, length-1), slices.Repeat([]int64{1}, length), true)
		requireWordLess(t, slices.Repeat([]int64{1}, length), slices.Repeat([]int64{-8}, length-1), false)
		// The first differing letter decides, whatever follows it.
		for i := range allLetters()[1:] {
			for _, place := range []int{0, length / 2, length - 1} {
				a, b := slices.Clone(w), slices.Clone(w)
				a[place], b[place] = allLetters()[i], allLetters()[i+1]
				if place+1 < length {
					a[place+1], b[place+1] = -8, 1
				}
				requireWordLess(t, a, b, true)
				requireWordLess(t, b, a, false)
			}
		}
	}
	requireWordLess(t, nil, nil, false)
	requireWordLess(t, []int64{}, nil, false)
}

func TestWordFunctionsRefuseOtherWords(t *testing.T) {
	eight := generated{5, slices.Repeat([][]int64{shiftOf(5, 1)}, 8)}
	valid := [][]int64{nil, {1}, {-8, 8}, wordOfLength(100), wordOfLength(200)}
	for _, w := range notWords() {
		for generators := range int64(12) {
			if impl.IsValidWord(generators, w) {
				t.Errorf("IsValidWord(%d, %v) = true", generators, w)
			}
		}
		requireEvaluation(t, eight, w, nil)
		if got := impl.InvertWord(w); len(got) != 0 {
			t.Errorf("InvertWord(%v) = %v", w, got)
		}
		if got := impl.FreeReduce(w); len(got) != 0 {
			t.Errorf("FreeReduce(%v) = %v", w, got)
		}
		for _, metric := range []int64{0, 1, 2, 3} {
			requireWordLength(t, w, metric, -1)
		}
		for _, k := range []int64{math.MinInt64, -201, -2, -1, 0, 1, 2, 201, math.MaxInt64} {
			if got, ok := impl.RepeatWord(w, k); ok || len(got) != 0 {
				t.Errorf("RepeatWord(%v, %d) = %v, %v", w, k, got, ok)
			}
		}
		for _, other := range append(valid, []int64{0}, wordOfLength(201), w) {
			requireNotJoined(t, w, other)
			requireNotJoined(t, other, w)
		}
	}
}

// wordResults calls every function of chapter 8; each slice of a result has a name of its own. Many of
// the results read as one of the arguments does.
func wordResults(g generated, a []int64, b []int64) map[string][]int64 {
	results := map[string][]int64{
		"InvertWord": impl.InvertWord(a),
		"FreeReduce": impl.FreeReduce(a),
	}
	keep := func(name string, w []int64, _ bool) { results[name] = w }
	keepOf := func(name string, of func(a []int64, b []int64) ([]int64, bool)) {
		for i, pair := range [][2][]int64{{a, b}, {b, a}, {a, a}, {a, nil}, {nil, a}} {
			w, ok := of(pair[0], pair[1])
			keep(fmt.Sprint(name, " ", i), w, ok)
		}
	}
	keepOf("ConcatWords", impl.ConcatWords)
	keepOf("Commutator", impl.Commutator)
	keepOf("ConjugateWord", impl.ConjugateWord)
	for k := int64(-2); k <= 2; k++ {
		w, ok := impl.RepeatWord(a, k)
		keep(fmt.Sprint("RepeatWord ", k), w, ok)
	}
	for _, w := range [][]int64{a, nil, {1}, {-1}, {1, -1}} {
		p, ok := impl.EvaluateWord(g.n, g.gens, w)
		keep(fmt.Sprint("EvaluateWord ", w), p, ok)
	}
	impl.IsValidWord(8, a)
	impl.WordLess(a, b)
	impl.WordLess(a, a)
	impl.WordLength(a, 1)
	impl.WordLength(a, 2)
	return results
}

// wordsToKeep returns words that are changed by a reduction, words that are not, and no words.
func wordsToKeep() [][]int64 {
	return append(sequencesOver([]int64{1, -1, 2}, 2), []int64{1, 2, -2, 3}, []int64{1, 1, 1}, []int64{8, -8}, []int64{0}, []int64{1, 9}, wordOfLength(50), wordOfLength(100), wordOfLength(199), wordOfLength(200), wordOfLength(201))
}

func TestWordResultsAreNewMemory(t *testing.T) {
	g := generated{4, [][]int64{{1, 2, 3, 0}, {1, 0, 2, 3}, {0, 1, 2, 3}}}
	for _, a := range wordsToKeep() {
		for _, b := range wordsToKeep() {
			want := wordResults(g, a, b)
			first, second := withSpare(a), withSpare(b)
			requireWordsUnchanged := func(what string) {
				requireUnchanged(t, what, first, a)
				requireUnchanged(t, what, second, b)
			}
			results := wordResults(g, first, second)
			requireWordsUnchanged("a function of chapter 8")
			requireEqualResults(t, fmt.Sprint("a second call with ", a, b), results, want)
			requireApart(t, fmt.Sprint("chapter 8 with ", a, b), results)
			requireWordsUnchanged("a write to a result")
			results = wordResults(g, first, second)
			overwrite(first)
			overwrite(second)
			requireEqualResults(t, fmt.Sprint("after a write to the words ", a, b), results, want)
		}
	}
}

// TestWordsOfOneArray has a first word with the second one in the memory behind its end.
func TestWordsOfOneArray(t *testing.T) {
	for i := range 30 {
		for j := i; j <= 30; j++ {
			array := withSpare(wordOfLength(30))
			requireJoined(t, array[:i], array[i:j])
			requireJoined(t, array[i:j], array[:i])
			requireRepeated(t, array[:i], 3)
			requireRepeated(t, array[i:j], -3)
			requireReduced(t, array[i:j], wordOfLength(30)[i:j])
			requireUnchanged(t, "a function of chapter 8", array, wordOfLength(30))
		}
	}
}

func TestEvaluationsAreNewMemory(t *testing.T) {
	requireNewMemory(t, "chapter 8", func(g generated, p []int64) map[string][]int64 {
		results := map[string][]int64{}
		for _, w := range [][]int64{nil, {1}, {-1}, {1, -1}, {2}, {8}, {1, 1, 2, -1}, {9}} {
			q, _ := impl.EvaluateWord(g.n, g.gens, w)
			results[fmt.Sprint("EvaluateWord ", w)] = q
		}
		return results
	})
}
