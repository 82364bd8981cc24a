package tests

import (
	"fmt"
	"math"
	"math/rand"
	"slices"
	"strings"
	"testing"

	"loop.example/g00855/impl"
)

// A knownRow is a row of the table of chapter 9, with the cycles of each move, and how many states can be
// reached, found by hand or by a plain search.
type knownRow struct {
	points int64
	names  string
	moves  [][][]int64
	states int64
}

// knownRows returns the table of chapter 9.
func knownRows() []knownRow {
	return []knownRow{
		{4, "ABC", [][][]int64{{{0, 1}}, {{1, 2}}, {{2, 3}}}, 24},
		{6, "AB", [][][]int64{{{0, 1, 2, 3, 4, 5}}, {{0, 2}}}, 72},
		{6, "AB", [][][]int64{{{0, 1, 2, 3}}, {{2, 3, 4, 5}}}, 120},
		{7, "ABC", [][][]int64{{{0, 1, 2, 3}}, {{1, 2, 6, 5}}, {{0, 4, 5, 1}}}, 5040},
		{12, "ABCD", [][][]int64{{{0, 1}, {4, 5}}, {{1, 2}, {6, 7}}, {{2, 3}, {8, 9}}, {{0, 3}, {10, 11}}}, 192},
		{12, "ABCD", [][][]int64{{{0, 1, 2}, {3, 6, 9}}, {{0, 7, 10}, {3, 4, 5}}, {{1, 4, 11}, {6, 7, 8}}, {{2, 5, 8}, {9, 10, 11}}}, 11520},
	}
}

// puzzle returns the puzzle of the row.
func (row knownRow) puzzle() impl.Puzzle {
	p := impl.Puzzle{Points: row.points, Names: row.names}
	for _, cycles := range row.moves {
		move := identityOf(int(row.points))
		for _, cycle := range cycles {
			move = composed(move, turnOf(int(row.points), cycle...))
		}
		p.Moves = append(p.Moves, move)
	}
	return p
}

func rowOfFour() impl.Puzzle { return knownRows()[0].puzzle() }

// lettered returns a puzzle whose moves are the generators and whose names are the letters from A on.
func lettered(g generated) impl.Puzzle {
	p := impl.Puzzle{Points: g.n, Moves: g.gens}
	for k := range g.gens {
		p.Names += string(rune('A' + k%26))
	}
	return p
}

func generatedBy(p impl.Puzzle) generated { return generated{p.Points, p.Moves} }

// letteredAll returns the puzzles of those of the groups that have a generator.
func letteredAll(groups []generated) []impl.Puzzle {
	var all []impl.Puzzle
	for _, g := range groups {
		if len(g.gens) > 0 {
			all = append(all, lettered(g))
		}
	}
	return all
}

// allPuzzles returns puzzles of one to eight moves of the degrees 1 to 20, among them the known ones.
func allPuzzles() []impl.Puzzle {
	all := letteredAll(allGroups())
	for _, row := range knownRows() {
		all = append(all, row.puzzle())
	}
	for n := 1; n <= 20; n++ {
		for count := 1; count <= 8; count++ {
			all = append(all, lettered(generated{int64(n), slices.Repeat([][]int64{shiftOf(n, 1)}, count)}))
		}
	}
	return all
}

// stateAfter plays the word a letter at a time.
func stateAfter(p impl.Puzzle, s []int64, w []int64) []int64 {
	state := slices.Clone(s)
	for _, letter := range w {
		for i, x := range state {
			state[i] = pointAfter(generatedBy(p), []int64{letter}, x)
		}
	}
	return state
}

// statesReached returns the texts of the states that are reached by trying all moves again and again.
func statesReached(p impl.Puzzle) map[string]bool {
	reached := map[string]bool{}
	for _, s := range membersOf(generatedBy(p)) {
		reached[fmt.Sprint(s)] = true
	}
	return reached
}

// alphabet has the names that there are.
const alphabet = "ABCDEFGHIJKLMNOPQRSTUVWXYZ"

// namesFit reports whether names has count names, none of them twice.
func namesFit(names string, count int) bool {
	fits := len(names) == count
	for i := range len(names) {
		fits = fits && strings.Contains(alphabet, names[i:i+1]) && strings.Count(names, names[i:i+1]) == 1
	}
	return fits
}

// wideNames are characters of more than one byte; the last byte of the number of each is that of a letter.
var wideNames = []string{"\u0141", "\u0241", "\u1041", "\uff41", "\U00010041"}

// badNames returns strings that are not the names of three moves.
func badNames() []string {
	return []string{
		"", "A", "AB", "ABCD", "ABCDEFGH", "ABCABC", alphabet, strings.Repeat("A", 1<<16),
		"AAB", "ABA", "BAA", "ABB", "AAA", "ZYZ",
		"abc", "aBC", "AbC", "ABc", "ABa", "ABz", "1BC", "A2C", "AB3", "AB0", "AB9",
		" BC", "A C", "AB ", "AB@", "AB[", "AB'", "AB\n", "AB\x00", "\x00BC", "AB\x7f",
		"AB\x80", "\xc1BC", "A\xc2C", "AB\xda", "AB\xff", "\xff\xfe\xfd", "AB\u00c1", "A\u00c1", "\u00c1B", "\uff21", "AB\u0141",
	}
}

// badPoints returns numbers that are not the degree of three permutations of degree 4.
func badPoints() []int64 {
	return []int64{math.MinInt64, math.MinInt64 + 1, -4, -1, 0, 1, 2, 3, 5, 19, 20, 21, 1<<8 + 4, 1<<32 + 4, -1<<32 + 4, math.MaxInt64 - 1, math.MaxInt64}
}

// notPuzzles returns puzzles that are not valid.
func notPuzzles() []impl.Puzzle {
	row := rowOfFour()
	all := []impl.Puzzle{
		{},
		{Names: "ABC"},
		{Moves: row.Moves},
		{Names: "ABC", Moves: row.Moves},
		{Points: 3, Names: "A"},
		{Points: 4, Names: "ABC"},
		{Points: 4, Names: "ABC", Moves: [][]int64{}},
		{Points: 4, Names: "A", Moves: [][]int64{{}}},
		{Points: 4, Names: "A", Moves: [][]int64{nil}},
		{Points: 4, Names: "ABC", Moves: [][]int64{nil, nil, nil}},
		{Points: 4, Names: "ABC", Moves: row.Moves[:2]},
		{Points: 4, Names: "ABCD", Moves: append(rowOfFour().Moves, nil)},
		{Points: 4, Names: "ABCD", Moves: append(rowOfFour().Moves, identityOf(3))},
		{Points: 4, Names: "ABCD", Moves: append(rowOfFour().Moves, identityOf(5))},
		{Points: 5, Names: "ABCD", Moves: append(rowOfFour().Moves, identityOf(5))},
	}
	for n := int64(-1); n <= 21; n++ {
		all = append(all, impl.Puzzle{Points: n}, impl.Puzzle{Points: n, Moves: [][]int64{}})
	}
	for n := 1; n <= 20; n++ {
		for count := 9; count <= 27; count++ {
			all = append(all, lettered(generated{int64(n), slices.Repeat([][]int64{shiftOf(n, 1)}, count)}))
		}
	}
	for _, g := range notGenerated() {
		all = append(all, lettered(g), impl.Puzzle{Points: g.n, Names: "A", Moves: g.gens})
	}
	for _, points := range badPoints() {
		all = append(all, impl.Puzzle{Points: points, Names: "ABC", Moves: row.Moves})
	}
	for _, names := range badNames() {
		all = append(all, impl.Puzzle{Points: 4, Names: names, Moves: row.Moves})
	}
	return all
}

func requireValid(t *testing.T, p impl.Puzzle, want bool) {
	t.Helper()
	if got := impl.IsValidPuzzle(p); got != want {
		t.Errorf("IsValidPuzzle(%v) = %v", p, got)
	}
}

func requireState(t *testing.T, p impl.Puzzle, s []int64, want bool) {
	t.Helper()
	if got := impl.IsState(p, s); got != want {
		t.Errorf("IsState(%v, %v) = %v", p, s, got)
	}
}

func requirePlayed(t *testing.T, p impl.Puzzle, s []int64, w []int64, want []int64) {
	t.Helper()
	got, ok := impl.ApplyWord(p, s, w)
	requireResult(t, got, ok, want, "ApplyWord", p, s, w)
}

func requireSolved(t *testing.T, p impl.Puzzle, s []int64, want bool) {
	t.Helper()
	if got := impl.IsSolved(p, s); got != want {
		t.Errorf("IsSolved(%v, %v) = %v", p, s, got)
	}
}

func requireMoveIndex(t *testing.T, p impl.Puzzle, name string, want int64) {
	t.Helper()
	if got := impl.MoveIndex(p, name); got != want {
		t.Errorf("MoveIndex(%v, %q) = %d, want %d", p, name, got, want)
	}
}

func requireStates(t *testing.T, p impl.Puzzle, want int64) {
	t.Helper()
	if got := impl.StateCount(p); got != want {
		t.Errorf("StateCount(%v) = %d, want %d", p, got, want)
	}
}

func requireReachable(t *testing.T, p impl.Puzzle, s []int64, want bool) {
	t.Helper()
	if got := impl.IsReachable(p, s); got != want {
		t.Errorf("IsReachable(%v, %v) = %v", p, s, got)
	}
}

// requireSame asks for both orders of a and b.
func requireSame(t *testing.T, a impl.Puzzle, b impl.Puzzle, want bool) {
	t.Helper()
	if got := impl.SamePuzzle(a, b); got != want {
		t.Errorf("SamePuzzle(%v, %v) = %v", a, b, got)
	}
	if got := impl.SamePuzzle(b, a); got != want {
		t.Errorf("SamePuzzle(%v, %v) = %v", b, a, got)
	}
}

// requireNoState asks the functions that a state is an argument of.
func requireNoState(t *testing.T, p impl.Puzzle, s []int64) {
	t.Helper()
	requireState(t, p, s, false)
	requireSolved(t, p, s, false)
	requireReachable(t, p, s, false)
	for _, w := range [][]int64{nil, {1}, {-1}, {1, -1}, {9}, {0}} {
		requirePlayed(t, p, s, w, nil)
	}
}

func TestPuzzlesOfTheChapter(t *testing.T) {
	row := rowOfFour()
	requireValid(t, row, true)
	requireValid(t, impl.Puzzle{Points: 3, Names: "A"}, false)
	requireSame(t, row, rowOfFour(), true)
	requireState(t, row, []int64{1, 0, 2, 3}, true)
	requireState(t, row, []int64{1, 0, 2}, false)
	requirePlayed(t, row, []int64{0, 1, 2, 3}, []int64{1, 2}, []int64{2, 0, 1, 3})
	requireSolved(t, row, []int64{0, 1, 2, 3}, true)
	requireMoveIndex(t, row, "C", 2)
	requireStates(t, row, 24)
	requireReachable(t, knownRows()[4].puzzle(), withSwap(12, 4, 5), false)
	if got, ok := impl.KnownPuzzle(0); !ok || got.Points != 4 || got.Names != "ABC" {
		t.Errorf("KnownPuzzle(0) = %v, %v", got, ok)
	}
}

// requireKnown compares KnownPuzzle(k) with the row of the table.
func requireKnown(t *testing.T, k int64, row knownRow) {
	t.Helper()
	got, ok := impl.KnownPuzzle(k)
	want := row.puzzle()
	if !ok || got.Points != want.Points || got.Names != want.Names || !slices.EqualFunc(got.Moves, want.Moves, slices.Equal) {
		t.Fatalf("KnownPuzzle(%d) = %v, %v, want %v", k, got, ok, want)
	}
}

func TestKnownPuzzlesAreTheTable(t *testing.T) {
	for k, row := range knownRows() {
		requireKnown(t, int64(k), row)
		known, _ := impl.KnownPuzzle(int64(k))
		requireValid(t, known, true)
		requireStates(t, known, row.states)
		for i, cycles := range row.moves {
			text := strings.NewReplacer("[[", "(", "]]", ")", "] [", ")(").Replace(fmt.Sprint(cycles))
			if got := cyclesTextOf(known.Moves[i]); got != text {
				t.Errorf("move %d of KnownPuzzle(%d) is %q, want %q", i, k, got, text)
			}
		}
		for other := range knownRows() {
			second, _ := impl.KnownPuzzle(int64(other))
			requireSame(t, known, second, k == other)
		}
	}
	beyond := []int64{math.MinInt64, math.MinInt64 + 1, -1 << 32, 1<<16 + 1, 1 << 32, 1<<32 + 1, math.MaxInt64 - 1, math.MaxInt64}
	for k := int64(1); k <= 1000; k++ {
		beyond = append(beyond, -k, 5+k)
	}
	for _, k := range beyond {
		got, ok := impl.KnownPuzzle(k)
		if ok || got.Points != 0 || got.Names != "" || len(got.Moves) != 0 {
			t.Errorf("KnownPuzzle(%d) = %v, %v", k, got, ok)
		}
	}
}

// TestP9InverseRestoresAllStates has all states and short words of small puzzles.
func TestP9InverseRestoresAllStates(t *testing.T) {
	for _, p := range append(letteredAll(smallGroups()), rowOfFour()) {
		letters := lettersInOrder(generatedBy(p))
		words := sequencesOver(letters[:min(len(letters), 6)], 2)
		words = append(words, sequencesOver(letters[len(letters)-2:], 3)...)
		for _, s := range permutationsOf(int(p.Points)) {
			for _, w := range words {
				after := stateAfter(p, s, w)
				requirePlayed(t, p, s, w, after)
				requirePlayed(t, p, after, inverseOf(w), s)
				requirePlayed(t, p, s, append(slices.Clone(w), inverseOf(w)...), s)
			}
		}
	}
}

// TestP9InverseRestoresStates has random states, of which many cannot be reached, and words of all lengths
// up to the greatest one.
func TestP9InverseRestoresStates(t *testing.T) {
	random := rand.New(rand.NewSource(91))
	for _, p := range allPuzzles() {
		letters := lettersInOrder(generatedBy(p))
		for _, length := range []int{0, 1, 2, 3, 10, 99, 100, 101, 199, 200, random.Intn(201), random.Intn(201)} {
			s := int64s(random.Perm(int(p.Points)))
			w := randomWord(random, letters, length)
			after := stateAfter(p, s, w)
			requirePlayed(t, p, s, w, after)
			requirePlayed(t, p, after, inverseOf(w), s)
			both := append(slices.Clone(w), inverseOf(w)...)
			if length <= 100 {
				requirePlayed(t, p, s, both, s)
			} else {
				requirePlayed(t, p, s, both, nil)
			}
			reachable := impl.IsReachable(p, s)
			requireReachable(t, p, after, reachable)
		}
	}
}

// requireExactlyReached compares with the states that a search reaches, for all of the given states.
func requireExactlyReached(t *testing.T, p impl.Puzzle, reached map[string]bool, states [][]int64) {
	t.Helper()
	requireStates(t, p, int64(len(reached)))
	for _, s := range states {
		requireReachable(t, p, s, reached[fmt.Sprint(s)])
	}
}

func TestP9ReachableExactlyIfMember(t *testing.T) {
	puzzles := letteredAll(enumeratedGroups())
	for _, row := range knownRows()[:4] {
		puzzles = append(puzzles, row.puzzle())
	}
	for _, p := range puzzles {
		reached := statesReached(p)
		requireExactlyReached(t, p, reached, permutationsOf(int(p.Points)))
		for _, s := range permutationsOf(int(p.Points)) {
			if got := impl.IsMember(p.Points, p.Moves, s); got != reached[fmt.Sprint(s)] {
				t.Errorf("IsMember(%v, %v) = %v", p, s, got)
			}
		}
	}
}

// TestP9OfTwelvePoints has all states that are reached, these with two contents exchanged, and random
// permutations.
func TestP9OfTwelvePoints(t *testing.T) {
	random := rand.New(rand.NewSource(92))
	for _, row := range knownRows()[4:] {
		p := row.puzzle()
		reached := statesReached(p)
		if int64(len(reached)) != row.states {
			t.Fatalf("%d states of %v are reached", len(reached), p)
		}
		states := membersOf(generatedBy(p))
		for _, s := range states[:192] {
			for x := range 12 {
				for y := range x {
					states = append(states, composed(s, withSwap(12, x, y)))
				}
			}
		}
		for range 1000 {
			states = append(states, int64s(random.Perm(12)))
		}
		requireExactlyReached(t, p, reached, states)
	}
}

// TestStatesOfLargePuzzles has puzzles with more states than can be written out.
func TestStatesOfLargePuzzles(t *testing.T) {
	random := rand.New(rand.NewSource(93))
	for _, group := range namedGroups() {
		if len(group.g.gens) == 0 {
			continue
		}
		p := lettered(group.g)
		requireStates(t, p, group.order)
		letters := lettersInOrder(group.g)
		for length := 0; length <= 200; length += 40 {
			requireReachable(t, p, stateAfter(p, identityOf(int(p.Points)), randomWord(random, letters, length)), true)
		}
		for range 20 {
			s := int64s(random.Perm(int(p.Points)))
			requireReachable(t, p, s, impl.IsMember(p.Points, p.Moves, s))
		}
	}
	turns := lettered(generated{20, [][]int64{turnOf(20, 0, 1, 2), turnOf(20, 1, 2, 3, 4, 5, 6, 7, 8, 9, 10, 11, 12, 13, 14, 15, 16, 17, 18, 19)}})
	requireStates(t, turns, 1216451004088320000)
	for range 200 {
		s := int64s(random.Perm(20))
		requireReachable(t, turns, s, inversions(s)%2 == 0)
	}
}

func TestPuzzlesOfAllNumbersOfMoves(t *testing.T) {
	for n := 1; n <= 20; n++ {
		for count := range 27 {
			requireValid(t, lettered(generated{int64(n), slices.Repeat([][]int64{shiftOf(n, 1)}, count)}), count >= 1 && count <= 8)
		}
	}
	for _, p := range allPuzzles() {
		requireValid(t, p, true)
	}
}

func TestPuzzlesOfAllNumbersOfPoints(t *testing.T) {
	for degree := 0; degree <= 24; degree++ {
		moves := [][]int64{identityOf(degree), shiftOf(degree, 1)}
		for _, points := range append(badPoints(), append(identityOf(25), int64(degree))...) {
			p := impl.Puzzle{Points: points, Names: "XY", Moves: moves}
			requireValid(t, p, points == int64(degree) && degree >= 1 && degree <= 20)
		}
	}
}

// TestNamesOfAllShortStrings counts the names among the bytes of the string.
func TestNamesOfAllShortStrings(t *testing.T) {
	puzzleNamed := func(names string, count int) impl.Puzzle {
		return impl.Puzzle{Points: 4, Names: names, Moves: slices.Repeat([][]int64{{1, 0, 3, 2}}, count)}
	}
	for count := 1; count <= 8; count++ {
		long := alphabet[26-count:]
		for b := range 256 {
			single := string([]byte{byte(b)})
			requireValid(t, puzzleNamed(single, count), namesFit(single, count))
			for place := range count {
				names := long[:place] + single + long[place+1:]
				requireValid(t, puzzleNamed(names, count), namesFit(names, count))
			}
		}
		textsOver("ABZa", 4, func(names string) {
			requireValid(t, puzzleNamed(names, count), namesFit(names, count))
		})
		for length := range 27 {
			requireValid(t, puzzleNamed(alphabet[:length], count), length == count)
			requireValid(t, puzzleNamed(strings.Repeat("Q", length), count), length == 1 && count == 1)
		}
		for _, wide := range wideNames {
			requireValid(t, puzzleNamed(wide+alphabet[1:count], count), false)
			requireValid(t, puzzleNamed(wide+alphabet[:max(0, count-len(wide))], count), false)
			requireValid(t, puzzleNamed(wide+alphabet[1:1+max(0, count-len(wide))], count), false)
		}
		// The names need not be in the order of the alphabet.
		backward := []byte(long)
		slices.Reverse(backward)
		requireValid(t, puzzleNamed(string(backward), count), true)
		requireValid(t, puzzleNamed("QWERTYUI"[:count], count), true)
	}
	for _, names := range badNames() {
		requireValid(t, puzzleNamed(names, 3), false)
	}
}

// variantsOf returns p and puzzles that equal it but for one thing, or for the order of two; no two of them
// are the same, and all are valid.
func variantsOf(p impl.Puzzle) []impl.Puzzle {
	n := int(p.Points)
	names, last := []byte(p.Names), len(p.Moves)-1
	slices.Reverse(names)
	var longer [][]int64
	for _, move := range p.Moves {
		longer = append(longer, append(slices.Clone(move), int64(n)))
	}
	moves := slices.Clone(p.Moves)
	moves[0], moves[last] = moves[last], moves[0]
	return []impl.Puzzle{
		p,
		{Points: p.Points, Names: p.Names[:last] + "Z", Moves: p.Moves},
		{Points: p.Points, Names: "Z" + p.Names[1:], Moves: p.Moves},
		{Points: p.Points, Names: string(names), Moves: p.Moves},
		{Points: p.Points, Names: p.Names, Moves: moves},
		{Points: p.Points, Names: p.Names, Moves: append(slices.Clone(p.Moves[:last]), shiftOf(n, 1))},
		{Points: p.Points, Names: p.Names, Moves: append([][]int64{shiftOf(n, 1)}, p.Moves[1:]...)},
		{Points: p.Points, Names: p.Names[:last], Moves: p.Moves[:last]},
		{Points: p.Points, Names: p.Names[1:], Moves: p.Moves[1:]},
		{Points: p.Points, Names: p.Names + "Z", Moves: append(slices.Clone(p.Moves), p.Moves[last])},
		{Points: p.Points + 1, Names: p.Names, Moves: longer},
	}
}

func TestSamePuzzleOfVariants(t *testing.T) {
	for _, k := range []int{0, 3, 4, 5} {
		variants := variantsOf(knownRows()[k].puzzle())
		for i, a := range variants {
			for j, b := range variants {
				requireValid(t, b, true)
				requireSame(t, a, b, i == j)
				requireSame(t, a, variantsOf(knownRows()[k].puzzle())[j], i == j)
			}
		}
	}
}

func TestSamePuzzleOfInvalidPuzzles(t *testing.T) {
	row := rowOfFour()
	for _, p := range notPuzzles() {
		requireSame(t, p, p, false)
		requireSame(t, p, impl.Puzzle{Points: p.Points, Names: strings.Clone(p.Names), Moves: copyOf(p.Moves)}, false)
		requireSame(t, p, row, false)
	}
	for _, points := range badPoints() {
		requireSame(t, row, impl.Puzzle{Points: points, Names: row.Names, Moves: row.Moves}, false)
	}
	for _, p := range allPuzzles() {
		requireSame(t, p, p, true)
		requireSame(t, p, impl.Puzzle{Points: p.Points, Names: strings.Clone(p.Names), Moves: copyOf(p.Moves)}, true)
	}
}

// TestStatesOfAllShortSlices looks the slices up among the permutations.
func TestStatesOfAllShortSlices(t *testing.T) {
	for _, p := range letteredAll(smallGroups()) {
		n := int(p.Points)
		if n > 3 {
			continue
		}
		permutations := map[string]bool{}
		for _, s := range permutationsOf(n) {
			permutations[fmt.Sprint(s)] = true
		}
		for _, s := range sequencesOver(append(identityOf(n+1), -1), n+1) {
			if permutations[fmt.Sprint(s)] {
				requireState(t, p, s, true)
				requireSolved(t, p, s, slices.IsSorted(s))
				requirePlayed(t, p, s, nil, s)
			} else {
				requireNoState(t, p, s)
			}
		}
		requireNoState(t, p, nil)
	}
}

func TestStatesAreOfTheDegree(t *testing.T) {
	random := rand.New(rand.NewSource(94))
	for _, p := range allPuzzles() {
		for n := 1; n <= 20; n++ {
			for _, s := range [][]int64{identityOf(n), shiftOf(n, n-1), int64s(random.Perm(n))} {
				if int64(n) == p.Points {
					requireState(t, p, s, true)
					requireSolved(t, p, s, slices.IsSorted(s))
				} else {
					requireNoState(t, p, s)
				}
			}
		}
	}
	for _, s := range notPermutations() {
		n := min(max(len(s), 1), 20)
		requireNoState(t, lettered(generated{int64(n), [][]int64{identityOf(n), shiftOf(n, 1)}}), s)
		requireNoState(t, rowOfFour(), s)
	}
	huge := make([]int64, 1<<20)
	requireNoState(t, rowOfFour(), huge)
}

func TestOnlyTheIdentityIsSolved(t *testing.T) {
	for _, p := range append(letteredAll(enumeratedGroups()), knownRows()[3].puzzle()) {
		for i, s := range permutationsOf(int(p.Points)) {
			requireSolved(t, p, s, i == 0)
		}
	}
	for _, p := range allPuzzles() {
		n := int(p.Points)
		requireSolved(t, p, identityOf(n), true)
		requireSolved(t, p, p.Moves[0], slices.IsSorted(p.Moves[0]))
		if n > 1 {
			requireSolved(t, p, withSwap(n, n-2, n-1), false)
			requireSolved(t, p, withSwap(n, 0, n-1), false)
		}
	}
}

// TestApplyWordFromLeftToRight has states in which one cannot read off the moves alone.
func TestApplyWordFromLeftToRight(t *testing.T) {
	rings := knownRows()[2].puzzle()
	for _, c := range []struct{ s, w, want []int64 }{
		{[]int64{0, 1, 2, 3, 4, 5}, nil, []int64{0, 1, 2, 3, 4, 5}},
		{[]int64{0, 1, 2, 3, 4, 5}, []int64{1}, []int64{1, 2, 3, 0, 4, 5}},
		{[]int64{0, 1, 2, 3, 4, 5}, []int64{-1}, []int64{3, 0, 1, 2, 4, 5}},
		{[]int64{0, 1, 2, 3, 4, 5}, []int64{1, 2}, []int64{1, 3, 4, 0, 5, 2}},
		{[]int64{0, 1, 2, 3, 4, 5}, []int64{2, 1}, []int64{1, 2, 0, 4, 5, 3}},
		{[]int64{5, 4, 3, 2, 1, 0}, []int64{1}, []int64{5, 4, 0, 3, 2, 1}},
		{[]int64{5, 4, 3, 2, 1, 0}, []int64{-2}, []int64{4, 3, 2, 5, 1, 0}},
		{[]int64{5, 4, 3, 2, 1, 0}, []int64{1, -1}, []int64{5, 4, 3, 2, 1, 0}},
		{[]int64{5, 4, 3, 2, 1, 0}, []int64{1, 1, 1, 1}, []int64{5, 4, 3, 2, 1, 0}},
		// No word leads from the solved state to these.
		{[]int64{1, 0, 2, 3, 4, 5}, nil, []int64{1, 0, 2, 3, 4, 5}},
		{[]int64{1, 0, 2, 3, 4, 5}, []int64{2}, []int64{1, 0, 3, 4, 5, 2}},
		{[]int64{1, 0, 2, 3, 4, 5}, []int64{1, 2}, []int64{3, 1, 4, 0, 5, 2}},
	} {
		requirePlayed(t, rings, c.s, c.w, c.want)
	}
	requireReachable(t, rings, []int64{1, 0, 2, 3, 4, 5}, false)
	requireReachable(t, rings, []int64{3, 1, 4, 0, 5, 2}, false)
}

// TestApplyWordInParts plays the letters with one call each.
func TestApplyWordInParts(t *testing.T) {
	random := rand.New(rand.NewSource(95))
	for _, p := range allPuzzles() {
		s := int64s(random.Perm(int(p.Points)))
		w := randomWord(random, lettersInOrder(generatedBy(p)), 12)
		state := s
		for i, letter := range w {
			state, _ = impl.ApplyWord(p, state, []int64{letter})
			requirePlayed(t, p, s, w[:i+1], state)
		}
		requirePlayed(t, p, state, inverseOf(w), s)
	}
}

func TestApplyWordRefusesOtherWords(t *testing.T) {
	for _, p := range allPuzzles() {
		n, count := int(p.Points), int64(len(p.Moves))
		states := [][]int64{identityOf(n), shiftOf(n, n-1), p.Moves[0]}
		var bad [][]int64
		for _, x := range append(badLetters(), count+1, -count-1) {
			bad = append(bad, []int64{x}, []int64{1, x, -1}, append(slices.Repeat([]int64{count}, 199), x))
		}
		for _, s := range states {
			for _, w := range bad {
				requirePlayed(t, p, s, w, nil)
			}
			for _, letter := range []int64{1, -1, count, -count} {
				requirePlayed(t, p, s, []int64{letter}, stateAfter(p, s, []int64{letter}))
				long := slices.Repeat([]int64{letter}, 200)
				requirePlayed(t, p, s, long, stateAfter(p, s, long))
				requirePlayed(t, p, s, append(long, letter), nil)
				requirePlayed(t, p, s, append(long, -letter), nil)
			}
		}
	}
	for _, w := range notWords() {
		requirePlayed(t, rowOfFour(), []int64{0, 1, 2, 3}, w, nil)
		eight := lettered(generated{5, slices.Repeat([][]int64{shiftOf(5, 1)}, 8)})
		requirePlayed(t, eight, identityOf(5), w, nil)
	}
}

func TestMoveIndex(t *testing.T) {
	for _, names := range []string{"A", "Z", "M", "AB", "BA", "ZA", "ABC", "CAB", "QWERTYUI", "HGFEDCBA", "ABCDEFGH"} {
		p := impl.Puzzle{Points: 3, Names: names, Moves: slices.Repeat([][]int64{{1, 2, 0}}, len(names))}
		requireValid(t, p, true)
		for b := range 256 {
			want := int64(-1)
			for i := range len(names) {
				if int(names[i]) == b {
					want = int64(i)
				}
			}
			requireMoveIndex(t, p, string([]byte{byte(b)}), want)
			requireMoveIndex(t, p, string(rune(b))+"\u0301", -1)
			if b > 127 {
				requireMoveIndex(t, p, string(rune(b)), -1)
			}
		}
		for _, wide := range wideNames {
			requireMoveIndex(t, p, wide, -1)
			requireMoveIndex(t, p, wide[len(wide)-1:], -1)
		}
		requireMoveIndex(t, p, names[:1], 0)
		requireMoveIndex(t, p, names[len(names)-1:], int64(len(names)-1))
		requireMoveIndex(t, p, "", -1)
		for i := range len(names) {
			for j := i + 2; j <= len(names); j++ {
				requireMoveIndex(t, p, names[i:j], -1)
			}
			single := names[i : i+1]
			for _, name := range []string{strings.ToLower(single), single + single, single + " ", " " + single, single + "'", single + "\x00", strings.Repeat(single, 257)} {
				requireMoveIndex(t, p, name, -1)
			}
		}
	}
}

func TestPuzzleFunctionsRefuseOtherPuzzles(t *testing.T) {
	for _, p := range notPuzzles() {
		requireValid(t, p, false)
		requireStates(t, p, 0)
		states := [][]int64{nil, {}, {0}, identityOf(3), identityOf(4), identityOf(20), identityOf(21)}
		for _, move := range p.Moves {
			states = append(states, move, identityOf(len(move)))
		}
		if p.Points >= 1 && p.Points <= 20 {
			states = append(states, identityOf(int(p.Points)))
		}
		// Of long lists of moves the first and the last are enough.
		for i, s := range states {
			if i < 12 || i >= len(states)-3 {
				requireNoState(t, p, s)
			}
		}
		for _, name := range []string{"", "A", "B", "C", "AB", "a", "\x00", "\xff"} {
			requireMoveIndex(t, p, name, -1)
		}
		for i := range min(len(p.Names), 30) {
			requireMoveIndex(t, p, p.Names[i:i+1], -1)
		}
	}
}

// puzzleResults calls every function of chapter 9 that takes a puzzle; each slice of a result has a name of
// its own.
func puzzleResults(p impl.Puzzle, s []int64, w []int64) map[string][]int64 {
	results := map[string][]int64{}
	for i, word := range [][]int64{w, nil, {1}, {-1}, {1, -1}, {2, 1}, {1, 9}} {
		state, _ := impl.ApplyWord(p, s, word)
		results[fmt.Sprint("ApplyWord ", i)] = state
	}
	impl.IsValidPuzzle(p)
	impl.SamePuzzle(p, p)
	impl.IsState(p, s)
	impl.IsSolved(p, s)
	impl.MoveIndex(p, "A")
	impl.StateCount(p)
	impl.IsReachable(p, s)
	return results
}

func TestPuzzleResultsAreNewMemory(t *testing.T) {
	requireNewMemory(t, "chapter 9", func(g generated, p []int64) map[string][]int64 {
		return puzzleResults(lettered(g), p, nil)
	})
	for _, p := range notPuzzles() {
		kept, s := withSpareGenerators(generatedBy(p)), withSpare(identityOf(4))
		puzzleResults(impl.Puzzle{Points: p.Points, Names: p.Names, Moves: kept.gens}, s, nil)
		requireGeneratorsUnchanged(t, "a function of chapter 9", kept, generatedBy(p))
		requireUnchanged(t, "a function of chapter 9", s, identityOf(4))
	}
}

func TestApplyWordKeepsItsArguments(t *testing.T) {
	words := [][]int64{nil, {1}, {-2}, {1, -1}, {2, 2, 1}, {0}, {9}, slices.Repeat([]int64{1}, 200), slices.Repeat([]int64{1, 2}, 101)}
	for _, row := range knownRows() {
		p, n := row.puzzle(), int(row.points)
		for _, s := range [][]int64{identityOf(n), shiftOf(n, 1), p.Moves[0], nil, identityOf(n - 1), slices.Repeat([]int64{0}, n)} {
			for _, w := range words {
				keptState, keptWord := withSpare(s), withSpare(w)
				want := puzzleResults(p, s, w)
				results := puzzleResults(p, keptState, keptWord)
				requireEqualResults(t, fmt.Sprint("a second call with ", s, w), results, want)
				requireApart(t, fmt.Sprint("chapter 9 with ", s, w), results)
				requireUnchanged(t, "ApplyWord", keptState, s)
				requireUnchanged(t, "ApplyWord", keptWord, w)
				results = puzzleResults(p, keptState, keptWord)
				overwrite(keptState)
				overwrite(keptWord)
				requireEqualResults(t, fmt.Sprint("after a write to ", s, w), results, want)
			}
		}
		requireSame(t, p, row.puzzle(), true)
	}
}

// TestSamePuzzleKeepsItsArguments has two puzzles of different memory, and two of the same.
func TestSamePuzzleKeepsItsArguments(t *testing.T) {
	puzzles := slices.Concat(variantsOf(rowOfFour()), variantsOf(knownRows()[5].puzzle()), notPuzzles()[:30])
	for i, a := range puzzles {
		for j, b := range puzzles {
			first, second := withSpareGenerators(generatedBy(a)), withSpareGenerators(generatedBy(b))
			got := impl.SamePuzzle(impl.Puzzle{Points: a.Points, Names: a.Names, Moves: first.gens}, impl.Puzzle{Points: b.Points, Names: b.Names, Moves: second.gens})
			if got != (i == j && impl.IsValidPuzzle(a)) {
				t.Errorf("SamePuzzle(%v, %v) = %v", a, b, got)
			}
			requireGeneratorsUnchanged(t, "SamePuzzle", first, generatedBy(a))
			requireGeneratorsUnchanged(t, "SamePuzzle", second, generatedBy(b))
		}
	}
}

// TestKnownPuzzlesAreNewMemory writes to the moves of one call, and to the list that holds them.
func TestKnownPuzzlesAreNewMemory(t *testing.T) {
	for k, row := range knownRows() {
		first, _ := impl.KnownPuzzle(int64(k))
		second, _ := impl.KnownPuzzle(int64(k))
		moves := map[string][]int64{}
		for i := range row.moves {
			moves[fmt.Sprint("move ", i, " of the first call")] = first.Moves[i]
			moves[fmt.Sprint("move ", i, " of the second call")] = second.Moves[i]
		}
		requireApart(t, fmt.Sprint("KnownPuzzle ", k), moves)
		for i := range first.Moves[:cap(first.Moves)] {
			first.Moves[:cap(first.Moves)][i] = nil
		}
		for i, move := range second.Moves {
			if move == nil {
				t.Errorf("KnownPuzzle(%d): move %d is kept in a list that two calls share", k, i)
			}
		}
		requireKnown(t, int64(k), row)
	}
}
