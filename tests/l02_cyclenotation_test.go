package tests

import (
	"fmt"
	"math"
	"slices"
	"strings"
	"testing"

	"loop.example/g00855/impl"
)

// cyclesTextOf writes p in cycle notation, without the functions under test.
func cyclesTextOf(p []int64) string {
	text := ""
	seen := make([]bool, len(p))
	for x := range p {
		if seen[x] || p[x] == int64(x) {
			continue
		}
		text += fmt.Sprint("(", x)
		seen[x] = true
		for y := p[x]; y != int64(x); y = p[y] {
			text += fmt.Sprint(" ", y)
			seen[y] = true
		}
		text += ")"
	}
	if text == "" {
		return "()"
	}
	return text
}

// imagesTextOf writes the entries of p, without the functions under test.
func imagesTextOf(p []int64) string {
	return strings.Trim(fmt.Sprint(p), "[]")
}

func requireParsedCycles(t *testing.T, n int64, text string, want []int64) {
	t.Helper()
	got, ok := impl.ParseCycles(n, text)
	if !ok || !slices.Equal(got, want) {
		t.Errorf("ParseCycles(%d, %q) = %v, %v, want %v", n, text, got, ok, want)
	}
}

func requireRefusedCycles(t *testing.T, n int64, text string) {
	t.Helper()
	if got, ok := impl.ParseCycles(n, text); ok || len(got) != 0 {
		t.Errorf("ParseCycles(%d, %q) = %v, %v", n, text, got, ok)
	}
}

func requireParsedImages(t *testing.T, text string, want []int64) {
	t.Helper()
	got, ok := impl.ParseImages(text)
	if !ok || !slices.Equal(got, want) {
		t.Errorf("ParseImages(%q) = %v, %v, want %v", text, got, ok, want)
	}
}

func requireRefusedImages(t *testing.T, text string) {
	t.Helper()
	if got, ok := impl.ParseImages(text); ok || len(got) != 0 {
		t.Errorf("ParseImages(%q) = %v, %v", text, got, ok)
	}
}

func requireConjugate(t *testing.T, p []int64, q []int64) []int64 {
	t.Helper()
	got, ok := impl.Conjugate(p, q)
	if !ok {
		t.Fatalf("Conjugate(%v, %v) is refused", p, q)
	}
	return got
}

func TestFormattingAndParsingAreInverse(t *testing.T) {
	for _, p := range samplePermutations() {
		cycles, images := cyclesTextOf(p), imagesTextOf(p)
		if got := impl.FormatCycles(p); got != cycles {
			t.Errorf("FormatCycles(%v) = %q, want %q", p, got, cycles)
		}
		if got := impl.FormatImages(p); got != images {
			t.Errorf("FormatImages(%v) = %q, want %q", p, got, images)
		}
		requireParsedCycles(t, int64(len(p)), cycles, p)
		requireParsedImages(t, images, p)
	}
}

func TestFormattedTexts(t *testing.T) {
	reversed := shiftOf(20, 0)
	slices.Reverse(reversed)
	for _, c := range []struct {
		p      []int64
		cycles string
		images string
	}{
		{[]int64{0}, "()", "0"},
		{[]int64{0, 1}, "()", "0 1"},
		{[]int64{1, 0}, "(0 1)", "1 0"},
		{[]int64{1, 0, 3, 4, 2}, "(0 1)(2 3 4)", "1 0 3 4 2"},
		{[]int64{3, 1, 5, 4, 0, 2}, "(0 3 4)(2 5)", "3 1 5 4 0 2"},
		{shiftOf(20, 1), "(0 1 2 3 4 5 6 7 8 9 10 11 12 13 14 15 16 17 18 19)", "1 2 3 4 5 6 7 8 9 10 11 12 13 14 15 16 17 18 19 0"},
		{reversed, "(0 19)(1 18)(2 17)(3 16)(4 15)(5 14)(6 13)(7 12)(8 11)(9 10)", "19 18 17 16 15 14 13 12 11 10 9 8 7 6 5 4 3 2 1 0"},
	} {
		if got := impl.FormatCycles(c.p); got != c.cycles {
			t.Errorf("FormatCycles(%v) = %q", c.p, got)
		}
		if got := impl.FormatImages(c.p); got != c.images {
			t.Errorf("FormatImages(%v) = %q", c.p, got)
		}
		requireParsedCycles(t, int64(len(c.p)), c.cycles, c.p)
		requireParsedImages(t, c.images, c.p)
	}
	for n := int64(1); n <= 20; n++ {
		requireParsedCycles(t, n, "()", identityOf(int(n)))
	}
	requireParsedCycles(t, 20, "(0 1)", append([]int64{1, 0}, identityOf(20)[2:]...))
}

// textsOver calls visit with all texts of up to length symbols.
func textsOver(symbols string, length int, visit func(text string)) {
	visit("")
	level := []string{""}
	for range length {
		var longer []string
		for _, text := range level {
			for _, symbol := range []byte(symbols) {
				longer = append(longer, text+string(symbol))
			}
		}
		level = longer
		for _, text := range level {
			visit(text)
		}
	}
}

// TestParsersOfAllShortTexts holds the parsers against all texts of up to 7 symbols; 7 are as many as
// any permutation of degree 3 needs.
func TestParsersOfAllShortTexts(t *testing.T) {
	cycles := [4]map[string][]int64{}
	images := map[string][]int64{}
	for n := 1; n <= 3; n++ {
		cycles[n] = map[string][]int64{}
		for _, p := range permutationsOf(n) {
			cycles[n][cyclesTextOf(p)] = p
			images[imagesTextOf(p)] = p
		}
	}
	textsOver("() 0123", 7, func(text string) {
		for n := 1; n <= 3; n++ {
			want, valid := cycles[n][text]
			got, ok := impl.ParseCycles(int64(n), text)
			if ok != valid || !slices.Equal(got, want) {
				t.Errorf("ParseCycles(%d, %q) = %v, %v", n, text, got, ok)
			}
		}
		want, valid := images[text]
		if strings.Contains(text, "3") && !valid { // it may be of degree 4
			want, valid = nil, len(text) == 7 && isImagesTextOfDegreeFour(text)
			for i := 0; valid && i < 7; i += 2 {
				want = append(want, int64(text[i]-'0'))
			}
		}
		got, ok := impl.ParseImages(text)
		if ok != valid || !slices.Equal(got, want) {
			t.Errorf("ParseImages(%q) = %v, %v", text, got, ok)
		}
	})
}

func isImagesTextOfDegreeFour(text string) bool {
	return text[1] == ' ' && text[3] == ' ' && text[5] == ' ' &&
		strings.Contains(text, "0") && strings.Contains(text, "1") && strings.Contains(text, "2") && strings.Contains(text, "3")
}

// editsOf returns all texts that differ from text in one byte that is put in, taken out or replaced.
func editsOf(text string) []string {
	var edits []string
	for i := 0; i <= len(text); i++ {
		for _, b := range []byte("()[]{} ,;-+_.0123456789ax\t\n\r\x00\x80\xa0\xff") {
			edits = append(edits, text[:i]+string([]byte{b})+text[i:])
			if i < len(text) {
				edits = append(edits, text[:i]+string([]byte{b})+text[i+1:])
			}
		}
		if i < len(text) {
			edits = append(edits, text[:i]+text[i+1:])
		}
	}
	return edits
}

// TestParsersOfEditedTexts requires that whatever the parsers accept has the text as its only form.
func TestParsersOfEditedTexts(t *testing.T) {
	for _, p := range [][]int64{
		{0},
		{1, 0},
		{1, 0, 3, 4, 2},
		{4, 1, 5, 3, 0, 2, 6, 8, 9, 10, 7},
		{0, 2, 3, 1, 5, 6, 7, 4, 9, 10, 11, 12, 8, 14, 15, 16, 17, 18, 19, 13},
	} {
		n := int64(len(p))
		for _, text := range editsOf(cyclesTextOf(p)) {
			got, ok := impl.ParseCycles(n, text)
			if !ok && len(got) != 0 || ok && (!impl.IsPermutation(got) || int64(len(got)) != n || cyclesTextOf(got) != text) {
				t.Errorf("ParseCycles(%d, %q) = %v, %v", n, text, got, ok)
			}
		}
		for _, text := range editsOf(imagesTextOf(p)) {
			got, ok := impl.ParseImages(text)
			if !ok && len(got) != 0 || ok && (!impl.IsPermutation(got) || imagesTextOf(got) != text) {
				t.Errorf("ParseImages(%q) = %v, %v", text, got, ok)
			}
		}
	}
}

func TestParseCyclesRefusesOtherForms(t *testing.T) {
	for _, text := range []string{
		"", " ", "(", ")", ")(", "( )", "(()", "())", "(())", "()()", "(0 1)()", "()(0 1)", "() ", " ()",
		"(0)", "(1)", "(0)(1)", "(0 1)(2)", "(2)(0 1)",
		"(1 0)", "(1 2 0)", "(2 0 1)", "(0 1)(3 2)", "(2 3)(0 1)", "(1 2)(0 3)",
		"(0 0)", "(0 1 0)", "(0 1 1)", "(0 1 0 1)", "(0 1)(0 1)", "(0 1)(1 2)", "(0 1)(0 2)", "(0 1 2)(2 3)",
		"(0 5)", "(5 6)", "(0 20)", "(0 1000000000)", "(0 4294967297)", "(0 18446744073709551617)", "(0 99999999999999999999999)",
		"(00 1)", "(0 01)", "(0 1)(02 3)", "(-0 1)", "(0 -1)", "(+0 1)", "(0 +1)", "(0x0 1)", "(0 1e0)", "(0 1.)", "(0 ١)",
		"(0  1)", "( 0 1)", "(0 1 )", "(0 1) ", " (0 1)", "(0 1) (2 3)", "(0 1)\n", "(0\t1)", "(0\xa01)",
		"(0,1)", "(0, 1)", "(0 1),(2 3)", "(0 1", "0 1)", "0 1", "(0 1)(2 3", "(0 1)2 3)", "(0 1))", "((0 1)", "((0 1))", "[0 1]", "{0 1}",
		"1 0 2 3 4", "(0 1)x", "x(0 1)", "(0 1)\x00",
	} {
		requireRefusedCycles(t, 5, text)
	}
	requireParsedCycles(t, 5, "(0 4)", []int64{4, 1, 2, 3, 0})
	requireRefusedCycles(t, 4, "(0 4)")
	requireRefusedCycles(t, 1, "(0 1)")
	requireRefusedCycles(t, 20, "(0 20)")
	for _, n := range []int64{math.MinInt64, -1, 0, 21, 1<<32 + 5, math.MaxInt64} {
		for _, text := range []string{"", "()", "(0 1)"} {
			requireRefusedCycles(t, n, text)
		}
	}
}

func TestParseImagesRefusesOtherForms(t *testing.T) {
	for _, text := range []string{
		"", " ", "1", "2", "-0", "+0", "00", "0 ", " 0", "x", "0x0", "0.", "0e0",
		"0 0", "1 1", "0 2", "1 2", "2 0", "1 0 3", "0 1 1", "2 0 1 0",
		"01 0", "1 00", "-1 0", "0 -1", "+1 0", "1 +0",
		"1  0", "1 0 ", " 1 0", "1\t0", "1 0\n", "1,0", "1, 0", "(1 0)", "[1 0]", "(0 1)", "()", "10",
		"1 0 1000000000", "1 0 4294967298", "1 18446744073709551616", "0 99999999999999999999999",
		imagesTextOf(identityOf(21)), imagesTextOf(shiftOf(21, 1)), imagesTextOf(shiftOf(64, 5)),
	} {
		requireRefusedImages(t, text)
	}
}

// TestTextsAtTheLimit uses texts of 200 and 201 bytes, none of which any permutation has; those of 200
// would be a permutation's, if blanks or zeros did not count.
func TestTextsAtTheLimit(t *testing.T) {
	if impl.MaxText != 200 {
		t.Errorf("MaxText = %d", impl.MaxText)
	}
	for _, size := range []int{199, 200, 201, 202, 100000} {
		requireRefusedCycles(t, 20, "(0 1)"+strings.Repeat(" ", size-5))
		requireRefusedCycles(t, 20, "(0 1"+strings.Repeat(" ", size-5)+")")
		requireRefusedCycles(t, 20, "("+strings.Repeat("0", size-4)+" 1)")
		requireRefusedCycles(t, 20, "()"+strings.Repeat("(0 1)", size/5))
		requireRefusedImages(t, "0 1"+strings.Repeat(" ", size-3))
		requireRefusedImages(t, strings.Repeat("0", size-2)+" 1")
		requireRefusedImages(t, "0 1"+strings.Repeat(" 2", size/2))
	}
}

// cycleTypeOf returns the cycle lengths of p in descending order, without the functions under test.
func cycleTypeOf(p []int64) []int64 {
	// Each cycle's length comes once for each of its points; the fixed points come once.
	count := map[int64]int64{}
	for _, length := range cycleLengths(p) {
		count[length]++
	}
	var cycleType []int64
	for length := int64(len(p)); length >= 1; length-- {
		for range count[length] / length {
			cycleType = append(cycleType, length)
		}
	}
	return cycleType
}

func TestCycleTypeListsAllLengths(t *testing.T) {
	for _, p := range samplePermutations() {
		want := cycleTypeOf(p)
		if got := impl.CycleType(p); !slices.Equal(got, want) {
			t.Errorf("CycleType(%v) = %v, want %v", p, got, want)
		}
	}
	for _, c := range []struct{ p, want []int64 }{
		{[]int64{0}, []int64{1}},
		{[]int64{1, 0, 2, 4, 3}, []int64{2, 2, 1}},
		{[]int64{0, 2, 1, 4, 5, 3}, []int64{3, 2, 1}},
		{identityOf(20), []int64{1, 1, 1, 1, 1, 1, 1, 1, 1, 1, 1, 1, 1, 1, 1, 1, 1, 1, 1, 1}},
		{shiftOf(20, 1), []int64{20}},
	} {
		if got := impl.CycleType(c.p); !slices.Equal(got, c.want) {
			t.Errorf("CycleType(%v) = %v", c.p, got)
		}
	}
}

func TestConjugateAppliesInverseThenPThenQ(t *testing.T) {
	for n := 1; n <= 4; n++ {
		all := permutationsOf(n)
		for _, p := range all {
			for _, q := range all {
				got := requireConjugate(t, p, q)
				for i := range p {
					if got[q[i]] != q[p[i]] {
						t.Fatalf("Conjugate(%v, %v) = %v", p, q, got)
					}
				}
			}
		}
	}
	// A shift by 5 of a shift's cycle is the cycle again; the reversal turns it round.
	reversed := identityOf(20)
	slices.Reverse(reversed)
	if got := requireConjugate(t, shiftOf(20, 3), shiftOf(20, 5)); !slices.Equal(got, shiftOf(20, 3)) {
		t.Errorf("Conjugate by a shift = %v", got)
	}
	if got := requireConjugate(t, shiftOf(20, 3), reversed); !slices.Equal(got, shiftOf(20, 17)) {
		t.Errorf("Conjugate by the reversal = %v", got)
	}
}

// firstConjugator tries all permutations in lexicographic order, without the functions under test.
func firstConjugator(p []int64, q []int64, all [][]int64) []int64 {
candidates:
	for _, x := range all {
		for i := range p {
			if q[x[i]] != x[p[i]] {
				continue candidates
			}
		}
		return x
	}
	return nil
}

func requireFirstConjugator(t *testing.T, p []int64, q []int64, all [][]int64) {
	t.Helper()
	want := firstConjugator(p, q, all)
	got, ok := impl.FindConjugator(p, q)
	if ok != (want != nil) || !slices.Equal(got, want) {
		t.Errorf("FindConjugator(%v, %v) = %v, %v, want %v", p, q, got, ok, want)
	}
	if same := impl.SameCycleType(p, q); same != (want != nil) {
		t.Errorf("SameCycleType(%v, %v) = %v", p, q, same)
	}
	if equal := slices.Equal(impl.CycleType(p), impl.CycleType(q)); equal != (want != nil) {
		t.Errorf("CycleType of %v and of %v: equal is %v", p, q, equal)
	}
}

func TestP2ConjugateExactlyIfCycleTypesAreEqual(t *testing.T) {
	for n := 1; n <= 5; n++ {
		all := permutationsOf(n)
		for _, p := range all {
			for _, q := range all {
				requireFirstConjugator(t, p, q, all)
			}
		}
	}
	for _, c := range []struct{ n, step, other int }{{6, 29, 31}, {7, 173, 211}} {
		all := permutationsOf(c.n)
		for i := 0; i < len(all); i += c.step {
			for j := 0; j < len(all); j += c.other {
				requireFirstConjugator(t, all[i], all[j], all)
			}
		}
	}
}

// TestP2InLargeDegrees goes both ways: a conjugate has the same cycle type, and if the sorted cycles
// of two permutations have equal lengths, matching them point by point makes a conjugator.
func TestP2InLargeDegrees(t *testing.T) {
	for _, p := range samplePermutations() {
		for k := range len(p) {
			x := shiftOf(len(p), k)
			q := requireConjugate(t, p, x)
			if !impl.SameCycleType(p, q) || !impl.SameCycleType(q, p) {
				t.Errorf("%v and its conjugate %v have different types", p, q)
			}
			if back := requireConjugate(t, q, impl.Inverse(x)); !slices.Equal(back, p) {
				t.Errorf("%v is not conjugated back to %v", q, p)
			}
		}
	}
	p := []int64{1, 2, 0, 4, 5, 6, 3, 8, 9, 10, 11, 7, 12, 14, 13, 15, 17, 16, 18, 19}
	q := []int64{0, 1, 3, 2, 4, 6, 5, 8, 9, 7, 11, 12, 13, 10, 15, 16, 17, 18, 14, 19}
	r := []int64{0, 1, 3, 2, 4, 5, 6, 8, 9, 7, 11, 12, 13, 10, 15, 16, 17, 18, 14, 19}
	if !impl.SameCycleType(p, q) || impl.SameCycleType(p, r) || impl.SameCycleType(q, r) {
		t.Error("SameCycleType of degree 20")
	}
	x := []int64{7, 8, 9, 10, 11, 12, 13, 14, 15, 16, 17, 18, 0, 2, 3, 1, 5, 6, 4, 19}
	if got := requireConjugate(t, p, x); !slices.Equal(got, q) {
		t.Errorf("Conjugate = %v, want %v", got, q)
	}
}

func requireNoConjugator(t *testing.T, p []int64, q []int64) {
	t.Helper()
	if got, ok := impl.FindConjugator(p, q); ok || len(got) != 0 {
		t.Errorf("FindConjugator(%v, %v) = %v, %v", p, q, got, ok)
	}
}

func TestFindConjugator(t *testing.T) {
	for _, c := range []struct{ p, q, want []int64 }{
		{[]int64{0}, []int64{0}, []int64{0}},
		{[]int64{0, 1}, []int64{0, 1}, []int64{0, 1}},
		{[]int64{1, 0, 2}, []int64{0, 2, 1}, []int64{1, 2, 0}},
		{[]int64{1, 2, 0}, []int64{2, 0, 1}, []int64{0, 2, 1}},
		{[]int64{1, 0, 3, 2}, []int64{3, 2, 1, 0}, []int64{0, 3, 1, 2}},
		{identityOf(7), identityOf(7), identityOf(7)},
		{shiftOf(7, 1), shiftOf(7, 3), []int64{0, 3, 6, 2, 5, 1, 4}},
		{[]int64{1, 0, 2, 3, 4, 6, 5}, []int64{2, 1, 0, 5, 4, 3, 6}, []int64{0, 2, 1, 4, 6, 3, 5}},
	} {
		if got, ok := impl.FindConjugator(c.p, c.q); !ok || !slices.Equal(got, c.want) {
			t.Errorf("FindConjugator(%v, %v) = %v, %v, want %v", c.p, c.q, got, ok, c.want)
		}
	}
	for _, n := range []int{8, 9, 20} {
		requireNoConjugator(t, identityOf(n), identityOf(n))
		requireNoConjugator(t, shiftOf(n, 1), shiftOf(n, 1))
		requireNoConjugator(t, identityOf(7), identityOf(n))
		requireNoConjugator(t, identityOf(n), identityOf(7))
	}
	requireNoConjugator(t, []int64{1, 0, 2}, []int64{1, 2, 0})
	requireNoConjugator(t, []int64{1, 0, 3, 2}, []int64{1, 0, 2, 3})
	requireNoConjugator(t, identityOf(7), shiftOf(7, 1))
}

func requireRefusedTypePair(t *testing.T, p []int64, q []int64) {
	t.Helper()
	if impl.SameCycleType(p, q) {
		t.Errorf("SameCycleType(%v, %v) = true", p, q)
	}
	if got, ok := impl.Conjugate(p, q); ok || len(got) != 0 {
		t.Errorf("Conjugate(%v, %v) = %v, %v", p, q, got, ok)
	}
	requireNoConjugator(t, p, q)
}

func TestCycleNotationRefusesOtherSlices(t *testing.T) {
	for _, p := range notPermutations() {
		if got := impl.FormatCycles(p); got != "" {
			t.Errorf("FormatCycles(%v) = %q", p, got)
		}
		if got := impl.FormatImages(p); got != "" {
			t.Errorf("FormatImages(%v) = %q", p, got)
		}
		if got := impl.CycleType(p); len(got) != 0 {
			t.Errorf("CycleType(%v) = %v", p, got)
		}
		for _, q := range [][]int64{impl.Identity(int64(len(p))), shiftOf(20, 1), {0}, p} {
			requireRefusedTypePair(t, p, q)
			requireRefusedTypePair(t, q, p)
		}
	}
	for n := 1; n <= 20; n++ {
		for m := 1; m <= 20; m++ {
			if n != m {
				requireRefusedTypePair(t, shiftOf(n, 1), shiftOf(m, 1))
				requireRefusedTypePair(t, identityOf(n), identityOf(m))
			}
		}
	}
}

// cycleNotationResults calls every function of chapter 2 that returns slices.
func cycleNotationResults(p []int64, q []int64) map[string][]int64 {
	parsedCycles, _ := impl.ParseCycles(int64(len(p)), impl.FormatCycles(p))
	parsedImages, _ := impl.ParseImages(impl.FormatImages(p))
	conjugated, _ := impl.Conjugate(p, q)
	conjugator, _ := impl.FindConjugator(p, q)
	impl.SameCycleType(p, q)
	return map[string][]int64{
		"ParseCycles":    parsedCycles,
		"ParseImages":    parsedImages,
		"CycleType":      impl.CycleType(p),
		"Conjugate":      conjugated,
		"FindConjugator": conjugator,
	}
}

func TestCycleNotationResultsAreNewMemory(t *testing.T) {
	for _, p := range samplePermutations() {
		// The inverse has the same cycle type, so that FindConjugator has a result.
		first, second := withSpare(p), withSpare(impl.Inverse(p))
		want := cycleNotationResults(p, impl.Inverse(p))
		results := cycleNotationResults(first, second)
		requireUnchanged(t, "a function of chapter 2", first, p)
		requireUnchanged(t, "a function of chapter 2", second, impl.Inverse(p))
		for name, result := range results {
			overwrite(result)
			delete(results, name)
			requireUnchanged(t, "a write to the result of "+name, first, p)
			requireUnchanged(t, "a write to the result of "+name, second, impl.Inverse(p))
			for other, rest := range results {
				if !slices.Equal(rest, want[other]) {
					t.Errorf("%v: the results of %s and %s share memory", p, name, other)
				}
			}
		}
		results = cycleNotationResults(first, second)
		overwrite(first)
		overwrite(second)
		for name, result := range results {
			if !slices.Equal(result, want[name]) {
				t.Errorf("%v: the result of %s changes with its argument or an earlier result", p, name)
			}
		}
	}
	for _, p := range notPermutations() {
		kept := withSpare(p)
		cycleNotationResults(kept, kept)
		requireUnchanged(t, "a function of chapter 2", kept, p)
	}
}
