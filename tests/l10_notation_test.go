package tests

import (
	"fmt"
	"math"
	"math/rand"
	"slices"
	"strconv"
	"strings"
	"testing"

	"loop.example/g00855/impl"
)

// notationsOf returns all notations over the names of at most length bytes, made from shorter ones.
func notationsOf(names string, length int) []string {
	units, items, sequences := make([][]string, length+1), make([][]string, length+1), make([][]string, length+1)
	var counts []string
	for count := 2; count <= 99; count++ {
		counts = append(counts, strconv.Itoa(count))
	}
	all := []string{""}
	for n := 1; n <= length; n++ {
		if n == 1 {
			units[1] = strings.Split(names, "")
		}
		for first := 1; first <= n-2; first++ {
			second := n - 3 - first
			for _, a := range sequences[first] {
				if second == -1 {
					units[n] = append(units[n], "("+a+")")
				}
				for _, b := range sequences[max(second, 0)] {
					units[n] = append(units[n], "["+a+","+b+"]", "["+a+":"+b+"]")
				}
			}
		}
		for _, suffix := range append(counts, "") {
			for _, apostrophe := range []string{"", "'"} {
				for _, unit := range units[max(n-len(suffix+apostrophe), 0)] {
					items[n] = append(items[n], unit+suffix+apostrophe)
				}
			}
		}
		sequences[n] = slices.Clone(items[n])
		for first := 1; first < n-1; first++ {
			for _, a := range items[first] {
				for _, b := range sequences[n-1-first] {
					sequences[n] = append(sequences[n], a+" "+b)
				}
			}
		}
		all = append(all, sequences[n]...)
	}
	return all
}

// optional has the symbols of the productions that may become nothing.
const optional = "ncar"

// productions returns what the symbol of the grammar may become: n is a notation, s a sequence, r the rest of
// one behind an item, u a unit, m the symbol between two sequences, c a count or none, d a digit, and a an
// apostrophe or none.
func productions(names string, symbol byte) []string {
	switch symbol {
	case 'n':
		return []string{"", "s"}
	case 's':
		return []string{"ucar"}
	case 'r':
		return []string{"", " s"}
	case 'u':
		return append(strings.Split(names, ""), "(s)", "[sms]")
	case 'm':
		return []string{",", ":"}
	case 'c':
		return []string{"", "2", "3", "4", "5", "6", "7", "8", "9", "1d", "2d", "3d", "4d", "5d", "6d", "7d", "8d", "9d"}
	case 'd':
		return strings.Split("0123456789", "")
	case 'a':
		return []string{"", "'"}
	}
	return nil
}

// follow adds to rests what may still come in place of expected, once the byte has come.
func follow(rests map[string]bool, names string, expected string, b byte) {
	if expected == "" {
		return
	}
	if expected[0] < 'a' || expected[0] > 'z' {
		if expected[0] == b {
			rests[expected[1:]] = true
		}
		return
	}
	for _, part := range productions(names, expected[0]) {
		follow(rests, names, part+expected[1:], b)
	}
}

// followed returns what may still come behind the byte, if any of the given texts could come before it.
func followed(names string, expected map[string]bool, b byte) map[string]bool {
	rests := map[string]bool{}
	for rest := range expected {
		follow(rests, names, rest, b)
	}
	return rests
}

// mayEnd reports whether nothing more has to come.
func mayEnd(expected map[string]bool) bool {
	for rest := range expected {
		if strings.Trim(rest, optional) == "" {
			return true
		}
	}
	return false
}

// readable returns the length of the longest prefix of the text that a notation has too, and whether the
// text is a notation.
func readable(names string, text string) (int, bool) {
	expected := map[string]bool{"n": true}
	for i := range len(text) {
		rests := followed(names, expected, text[i])
		if len(rests) == 0 {
			return i, false
		}
		expected = rests
	}
	return len(text), mayEnd(expected)
}

// completion returns what makes a notation of a prefix of one.
func completion(names string, prefix string) string {
	expected := map[string]bool{"n": true}
	for i := range len(prefix) {
		expected = followed(names, expected, prefix[i])
	}
	for rest := range expected {
		rest = strings.NewReplacer("n", "", "c", "", "a", "", "r", "", "s", names[:1], "u", names[:1], "m", ":", "d", "5").Replace(rest)
		return rest
	}
	return "none"
}

// partsOf splits the text where the separator is not in brackets. The empty text has no parts.
func partsOf(text string, separator byte) []string {
	if text == "" {
		return nil
	}
	var parts []string
	depth, start := 0, 0
	for i := range len(text) {
		switch text[i] {
		case '(', '[':
			depth++
		case ')', ']':
			depth--
		case separator:
			if depth == 0 {
				parts = append(parts, text[start:i])
				start = i + 1
			}
		}
	}
	return append(parts, text[start:])
}

// An itemText is an item of a notation taken apart: what it has in its brackets, or its letter.
type itemText struct {
	kind    int64
	letter  string
	first   string
	second  string
	count   int64
	inverse int64
}

func takenApart(text string) itemText {
	x := itemText{count: 1}
	if strings.HasSuffix(text, "'") {
		x.inverse = 1
	}
	text = strings.TrimSuffix(text, "'")
	unit := strings.TrimRight(text, "0123456789")
	if unit != text {
		count, _ := strconv.Atoi(text[len(unit):])
		x.count = int64(count)
	}
	if len(unit) == 1 {
		x.kind, x.letter = 1, unit
		return x
	}
	inside := unit[1 : len(unit)-1]
	if unit[0] == '(' {
		x.kind, x.first = 2, inside
	} else if halves := partsOf(inside, ','); len(halves) == 2 {
		x.kind, x.first, x.second = 3, halves[0], halves[1]
	} else {
		halves = partsOf(inside, ':')
		x.kind, x.first, x.second = 4, halves[0], halves[1]
	}
	return x
}

// treeOf returns the syntax tree of a notation, of any length and number of nodes.
func treeOf(names string, notation string) []impl.NotationNode {
	var nodes []impl.NotationNode
	var add func(items []string) []int64
	add = func(items []string) []int64 {
		var indices []int64
		for _, text := range items {
			x := takenApart(text)
			node := impl.NotationNode{Kind: x.kind, Count: x.count, Inverse: x.inverse}
			if x.kind == 1 {
				node.Move = int64(strings.Index(names, x.letter))
			}
			first := partsOf(x.first, ' ')
			if x.kind > 2 {
				node.Split = int64(len(first))
			}
			node.Children = add(append(first, partsOf(x.second, ' ')...))
			nodes = append(nodes, node)
			indices = append(indices, int64(len(nodes)-1))
		}
		return indices
	}
	children := add(partsOf(notation, ' '))
	return append(nodes, impl.NotationNode{Kind: 2, Count: 1, Children: children})
}

// expansionOf returns the word that a notation expands to, unless it or that of an item has more than 200
// letters.
func expansionOf(names string, notation string) ([]int64, bool) {
	var w []int64
	for _, text := range partsOf(notation, ' ') {
		x := takenApart(text)
		first, fits := expansionOf(names, x.first)
		second, fitsToo := expansionOf(names, x.second)
		if !fits || !fitsToo {
			return nil, false
		}
		once := first
		switch x.kind {
		case 1:
			once = []int64{int64(strings.Index(names, x.letter)) + 1}
		case 3:
			once = slices.Concat(first, second, inverseOf(first), inverseOf(second))
		case 4:
			once = slices.Concat(first, second, inverseOf(first))
		}
		for range x.count {
			if x.inverse == 1 {
				w = append(w, inverseOf(once)...)
			} else {
				w = append(w, once...)
			}
			if len(w) > 200 {
				return nil, false
			}
		}
	}
	return w, true
}

// textOf writes a valid tree, of any length, node by node.
func textOf(names string, nodes []impl.NotationNode) string {
	texts := make([]string, len(nodes))
	for i, node := range nodes {
		joined := func(children []int64) string {
			var parts []string
			for _, child := range children {
				parts = append(parts, texts[child])
			}
			return strings.Join(parts, " ")
		}
		first, second := joined(node.Children[:node.Split]), joined(node.Children[node.Split:])
		switch node.Kind {
		case 1:
			texts[i] = string(names[node.Move])
		case 2:
			texts[i] = "(" + second + ")"
		case 3:
			texts[i] = "[" + first + "," + second + "]"
		case 4:
			texts[i] = "[" + first + ":" + second + "]"
		}
		if node.Count > 1 {
			texts[i] += fmt.Sprint(node.Count)
		}
		texts[i] += strings.Repeat("'", int(node.Inverse))
	}
	root := texts[len(nodes)-1]
	return root[1 : len(root)-1]
}

// isSyntaxTree walks from the last node to its children and so on, and reports whether it comes to every
// node once and in order, and each is as the table of the chapter says.
func isSyntaxTree(moveCount int64, nodes []impl.NotationNode) bool {
	if moveCount < 1 || moveCount > 8 || len(nodes) == 0 || len(nodes) > 200 {
		return false
	}
	var order []int64
	visits, valid := 0, true
	var walk func(i int64)
	walk = func(i int64) {
		if visits++; i < 0 || i >= int64(len(nodes)) || visits > len(nodes) {
			valid = false
			return
		}
		for _, child := range nodes[i].Children {
			if walk(child); !valid {
				return
			}
		}
		order = append(order, i)
	}
	walk(int64(len(nodes)) - 1)
	valid = valid && slices.Equal(order, identityOf(len(nodes)))
	for i, node := range nodes {
		valid = valid && fitsTable(moveCount, node, i == len(nodes)-1)
	}
	return valid
}

// fitsTable reports whether a node may have its fields.
func fitsTable(moveCount int64, node impl.NotationNode, isRoot bool) bool {
	children := int64(len(node.Children))
	fits := node.Count >= 1 && node.Count <= 99 && (node.Inverse == 0 || node.Inverse == 1)
	fits = fits && (!isRoot || node.Kind == 2 && node.Count == 1 && node.Inverse == 0)
	switch node.Kind {
	case 1:
		return fits && node.Move >= 0 && node.Move < moveCount && node.Split == 0 && children == 0
	case 2:
		return fits && node.Move == 0 && node.Split == 0 && (isRoot || children > 0)
	case 3, 4:
		return fits && node.Move == 0 && node.Split >= 1 && children-node.Split >= 1
	}
	return false
}

func areSameNodes(a []impl.NotationNode, b []impl.NotationNode) bool {
	return slices.EqualFunc(a, b, func(x impl.NotationNode, y impl.NotationNode) bool {
		return x.Kind == y.Kind && x.Move == y.Move && x.Count == y.Count && x.Inverse == y.Inverse && x.Split == y.Split && slices.Equal(x.Children, y.Children)
	})
}

func copyOfNodes(nodes []impl.NotationNode) []impl.NotationNode {
	list := slices.Clone(nodes)
	for i := range list {
		list[i].Children = slices.Clone(list[i].Children)
	}
	return list
}

func requireTree(t *testing.T, moveCount int64, nodes []impl.NotationNode, want bool) {
	t.Helper()
	if got := impl.IsValidNotation(moveCount, nodes); got != want {
		t.Fatalf("IsValidNotation(%d, %v) = %v", moveCount, nodes, got)
	}
}

func requireFormatted(t *testing.T, names string, nodes []impl.NotationNode, want string) {
	t.Helper()
	if got := impl.FormatNotation(names, nodes); got != want {
		t.Fatalf("FormatNotation(%q, %v) = %q, want %q", names, nodes, got, want)
	}
}

func requireParsed(t *testing.T, names string, text string, want []impl.NotationNode) {
	t.Helper()
	if got, at := impl.ParseNotation(names, text); at != -1 || !areSameNodes(got, want) {
		t.Fatalf("ParseNotation(%q, %q) = %v, %d, want %v", names, text, got, at, want)
	}
}

// requireNotParsed fails unless ParseNotation and ParseWord refuse the text, ParseNotation with this number.
func requireNotParsed(t *testing.T, names string, text string, want int64) {
	t.Helper()
	if got, at := impl.ParseNotation(names, text); at != want || len(got) != 0 {
		t.Fatalf("ParseNotation(%q, %q) = %v, %d, want nil, %d", names, text, got, at, want)
	}
	if got, ok := impl.ParseWord(names, text); ok || len(got) != 0 {
		t.Fatalf("ParseWord(%q, %q) = %v, %v", names, text, got, ok)
	}
}

// requireExpanded asks for the word of a text, and for that of its tree.
func requireExpanded(t *testing.T, names string, text string, want []int64, fits bool) {
	t.Helper()
	got, ok := impl.ParseWord(names, text)
	if ok != fits || !slices.Equal(got, want) {
		t.Fatalf("ParseWord(%q, %q) = %v, %v, want %v, %v", names, text, got, ok, want, fits)
	}
	nodes := treeOf(names, text)
	got, ok = impl.ExpandNotation(nodes)
	if ok != fits || !slices.Equal(got, want) {
		t.Fatalf("ExpandNotation(%v) = %v, %v, want %v, %v", nodes, got, ok, want, fits)
	}
}

// requireNotation holds every function but the last two against a text of at most 400 bytes that is a
// notation of at most 200 nodes.
func requireNotation(t *testing.T, names string, text string) {
	t.Helper()
	nodes := treeOf(names, text)
	moveCount := int64(len(names))
	requireTree(t, moveCount, nodes, true)
	requireParsed(t, names, text, nodes)
	requireFormatted(t, names, nodes, text)
	w, fits := expansionOf(names, text)
	requireExpanded(t, names, text, w, fits)
}

func requireWordFormatted(t *testing.T, names string, w []int64, want string) {
	t.Helper()
	if got := impl.FormatWord(names, w); got != want {
		t.Fatalf("FormatWord(%q, %v) = %q, want %q", names, w, got, want)
	}
}

func requireSimplified(t *testing.T, p impl.Puzzle, w []int64, want []int64) {
	t.Helper()
	if got := impl.SimplifyWord(p, w); !slices.Equal(got, want) {
		t.Fatalf("SimplifyWord(%v, %v) = %v, want %v", p, w, got, want)
	}
}

func TestNotationsOfTheChapter(t *testing.T) {
	requireTree(t, 2, []impl.NotationNode{{Kind: impl.NodeMove, Move: 1, Count: 1}, {Kind: impl.NodeSequence, Count: 1, Children: []int64{0}}}, true)
	nodes := []impl.NotationNode{
		{Kind: impl.NodeMove, Move: 0, Count: 1},
		{Kind: impl.NodeMove, Move: 1, Count: 2},
		{Kind: impl.NodeConjugate, Count: 1, Split: 1, Children: []int64{0, 1}},
		{Kind: impl.NodeMove, Move: 0, Count: 1, Inverse: 1},
		{Kind: impl.NodeSequence, Count: 1, Children: []int64{2, 3}},
	}
	requireFormatted(t, "AB", nodes, "[A:B2] A'")
	requireParsed(t, "AB", "[A:B2] A'", nodes)
	nodes[2].Kind = impl.NodeCommutator
	requireFormatted(t, "AB", nodes, "[A,B2] A'")
	requireParsed(t, "AB", "[A,B2] A'", nodes)
	requireNotParsed(t, "AB", "A1 B", 2)
	requireExpanded(t, "AB", "[A,B]", []int64{1, 2, -1, -2}, true)
	requireExpanded(t, "AB", "(A B')2", []int64{1, -2, 1, -2}, true)
	requireWordFormatted(t, "AB", []int64{1, 1, -2}, "A2 B'")
	requireSimplified(t, knownRows()[2].puzzle(), []int64{1, 1, 1, 2, -2}, []int64{-1})
	if impl.MaxNodes != 200 || impl.MaxNotationLength != 400 {
		t.Error("the limits are not those of the chapter")
	}
}

// TestP10ShortNotations has all notations of up to 6 bytes over two names.
func TestP10ShortNotations(t *testing.T) {
	for _, names := range []string{"A", "BA"} {
		for _, text := range notationsOf(names, 6) {
			requireNotation(t, names, text)
		}
	}
}

// randomNotation returns a notation of some items, in which brackets are nested up to the depth.
func randomNotation(random *rand.Rand, names string, depth int) string {
	var items []string
	for range 1 + random.Intn(3) {
		sequence := func() string { return randomNotation(random, names, depth-1) }
		kind := random.Intn(5)
		item := names[random.Intn(len(names)):][:1]
		switch {
		case depth > 0 && kind == 2:
			item = "(" + sequence() + ")"
		case depth > 0 && kind == 3:
			item = "[" + sequence() + "," + sequence() + "]"
		case depth > 0 && kind == 4:
			item = "[" + sequence() + ":" + sequence() + "]"
		}
		if random.Intn(3) == 0 {
			item += strconv.Itoa([]int{2, 3, 2 + random.Intn(8), 2 + random.Intn(98)}[random.Intn(4)])
		}
		items = append(items, item+strings.Repeat("'", random.Intn(2)))
	}
	return strings.Join(items, " ")
}

// TestP10RandomNotations has deep and long notations; of those beyond a limit it asks what is due then.
func TestP10RandomNotations(t *testing.T) {
	random := rand.New(rand.NewSource(101))
	long, large := 0, 0
	for i := range 6000 {
		names := []string{"A", "ZQ", "BDFH", "HGFEDCBA", "ABCDEFGH"}[i%5]
		text := randomNotation(random, names, i%7)
		switch nodes := treeOf(names, text); {
		case len(text) > 400:
			long++
			requireNotParsed(t, names, text, -2)
			if len(nodes) <= 200 {
				requireFormatted(t, names, nodes, "")
			}
		case len(nodes) > 200:
			large++
			requireNotParsed(t, names, text, -3)
		default:
			requireNotation(t, names, text)
		}
	}
	if long < 50 {
		t.Error("only so many notations are too long:", long)
	}
}

// TestParseNotationOfAllShortTexts has all texts of up to 5 symbols, and of up to 6 of less different ones.
func TestParseNotationOfAllShortTexts(t *testing.T) {
	valid := map[string]bool{}
	for _, text := range notationsOf("AB", 6) {
		valid[text] = true
	}
	check := func(text string) {
		length, isNotation := readable("AB", text)
		if isNotation != valid[text] {
			t.Fatalf("the two lists of notations differ for %q", text)
		}
		if !isNotation {
			requireNotParsed(t, "AB", text, int64(length))
			return
		}
		if got, at := impl.ParseNotation("AB", text); at != -1 || textOf("AB", got) != text {
			t.Fatalf("ParseNotation(%q) = %v, %d", text, got, at)
		}
	}
	textsOver("ABC0129'()[],: ", 4, check)
	textsOver("A15'([,:)] ", 5, check)
	textsOver("B2'([,)] ", 6, check)
}

// TestReadablePrefixesHaveCompletions shows of the numbers that are asked for that a notation does begin so.
func TestReadablePrefixesHaveCompletions(t *testing.T) {
	textsOver("A10'([,:)] ", 4, func(text string) {
		length, _ := readable("A", text)
		notation := text[:length] + completion("A", text[:length])
		if got, at := impl.ParseNotation("A", notation); at != -1 || textOf("A", got) != notation {
			t.Fatalf("ParseNotation(%q) = %v, %d", notation, got, at)
		}
	})
}

// someNotations returns notations with everything that the grammar has.
func someNotations() []string {
	return []string{
		"", "A", "B'", "A2", "A9'", "A10", "A99'", "A B", "(A)", "(A)'", "(A)2", "(A)99'", "[A,B]", "[A:B]", "[A,B]'", "[A:B]10'",
		"[A:B2] A'", "(A B')2", "[A B,(B A)3']99", "A10' B", "[A,B A' B2]2' (A B)", "[[A,B],[A:B]]", "[[A:B]:[A,B]2]'",
		"((A))", "((A)2 (B)')10", "[(A B),(B A)] [(A B):(B A)]", "A A' A2 A2' (A A')2 [A2 A':A A]",
		"((((((A))))))", "[A:[A:[A:[A:B]]]]", "[[[[A,B],B],B],B]",
	}
}

func TestPrefixesOfNotations(t *testing.T) {
	for _, text := range someNotations() {
		for length := range len(text) {
			prefix := text[:length]
			if _, isNotation := readable("AB", prefix); isNotation {
				requireNotation(t, "AB", prefix)
			} else {
				requireNotParsed(t, "AB", prefix, int64(length))
			}
		}
	}
}

// requireRead asks ParseNotation about a text that may or may not be a notation.
func requireRead(t *testing.T, names string, text string) {
	t.Helper()
	if length, isNotation := readable(names, text); isNotation {
		requireNotation(t, names, text)
	} else {
		requireNotParsed(t, names, text, int64(length))
	}
}

func TestNotationsWithOneByteChanged(t *testing.T) {
	for _, text := range someNotations() {
		requireNotation(t, "AB", text)
		for _, edit := range editsOf(text) {
			requireRead(t, "AB", edit)
		}
		for i := range len(text) + 1 {
			for _, b := range []byte("ABC:'") {
				requireRead(t, "AB", text[:i]+string(b)+text[i:])
				requireRead(t, "AB", text[:i]+string(b)+text[min(i+1, len(text)):])
			}
		}
	}
	for _, text := range []string{"", "A", "A2", "[A:B2] A'", "(A B')2"} {
		for i := range len(text) + 1 {
			for b := range 256 {
				requireRead(t, "AB", text[:i]+string([]byte{byte(b)})+text[i:])
				requireRead(t, "AB", text[:i]+string([]byte{byte(b)})+text[min(i+1, len(text)):])
			}
		}
	}
}

func TestTextsThatAreNoNotations(t *testing.T) {
	for _, c := range []struct {
		text string
		at   int64
	}{
		// Counts.
		{"A0", 1}, {"A1", 2}, {"A1'", 2}, {"A1 ", 2}, {"A01", 1}, {"A02", 1}, {"A00", 1}, {"A100", 3}, {"A101", 3}, {"A990", 3}, {"A999", 3}, {"A123", 3},
		{"A-2", 1}, {"A+2", 1}, {"A 2", 2}, {"2", 0}, {"2A", 0}, {"(A)1", 4}, {"(A)0", 3}, {"(A)100", 5}, {"[A,B]1", 6}, {"[A:B]02", 5}, {"(A1)", 3}, {"[A1,B]", 3}, {"[A:B1]", 5},
		// Apostrophes.
		{"'", 0}, {"A''", 2}, {"A'2", 2}, {"A '", 2}, {"A'2'", 2}, {"('A)", 1}, {"(A'')", 3}, {"A2''", 3}, {"A\u2019", 1},
		// Blanks.
		{" ", 0}, {" A", 0}, {"A ", 2}, {"A  B", 2}, {"A B ", 4}, {"( A)", 1}, {"(A )", 3}, {"[ A,B]", 1}, {"[A ,B]", 3}, {"[A, B]", 3}, {"[A,B ]", 5}, {"[A :B]", 3}, {"[A: B]", 3},
		{"A 2", 2}, {"(A) 2", 4}, {"A\tB", 1}, {"A\nB", 1}, {"A\u00a0B", 1}, {"A\n", 1},
		// Brackets.
		{"(", 1}, {"[", 1}, {")", 0}, {"]", 0}, {"()", 1}, {"[]", 1}, {"(A", 2}, {"[A", 2}, {"[A,", 3}, {"[A:", 3}, {"[A,B", 4}, {"[A:B", 4}, {"(A]", 2}, {"[A,B)", 4}, {"[A:B)", 4}, {"[A)", 2}, {"A)", 1}, {"A]", 1}, {"(A))", 3}, {"[A,B]]", 5},
		{"[A]", 2}, {"[A B]", 4}, {"[,B]", 1}, {"[A,]", 3}, {"[:B]", 1}, {"[A:]", 3}, {"[,]", 1}, {"[A,B,A]", 4}, {"[A,B:A]", 4}, {"[A:B,A]", 4}, {"[A:B:A]", 4}, {"[A,,B]", 3}, {"[A:,B]", 3}, {"(A,B)", 2}, {"(A:B)", 2}, {"A,B", 1}, {"A:B", 1},
		{"AB", 1}, {"A(B)", 1}, {"(A)B", 3}, {"(A)(B)", 3}, {"[A,B][A,B]", 5}, {"((A)", 4}, {"([A,B)", 5}, {"{A}", 0},
		// Letters.
		{"C", 0}, {"Z", 0}, {"a", 0}, {"A b", 2}, {"A C", 2}, {"(A C)", 3}, {"[C,A]", 1}, {"[A,C]", 3}, {"@", 0}, {"\x00", 0}, {"A\x00", 1}, {"\u00c1", 0}, {"A \uff21", 2}, {"\u0141", 0}, {"A\xc1", 1}, {"\xff", 0},
	} {
		requireNotParsed(t, "AB", c.text, c.at)
		if length, isNotation := readable("AB", c.text); isNotation || int64(length) != c.at {
			t.Errorf("readable(%q) = %d, %v", c.text, length, isNotation)
		}
	}
}

// TestCounts has all numbers of up to three digits as the count of a letter and of brackets.
func TestCounts(t *testing.T) {
	for _, unit := range []string{"A", "(A)", "(A B')", "[A,B]", "[A:B A]"} {
		for _, apostrophe := range []string{"", "'"} {
			for count := range 1000 {
				for _, digits := range []string{strconv.Itoa(count), "0" + strconv.Itoa(count)} {
					requireRead(t, "AB", unit+digits+apostrophe)
				}
				if count >= 2 && count <= 99 {
					requireNotation(t, "AB", fmt.Sprint(unit, count, apostrophe))
				}
			}
		}
	}
}

// notNames returns strings that are no name strings.
func notNames() []string {
	all := []string{
		"", "AA", "ABA", "BAB", "ABB", "ABCDEFGA", "ABCDEFGG", "AABCDEFG", "ABCDEFGHI", "ABCDEFGHA", "ZYXWVUTSR", alphabet, strings.Repeat("A", 1<<16),
		"a", "Ab", "aB", "0", "A1", "2A", " ", "A ", " A", "A'", "(A)", "[", "@", "A@", "A[", "A\x00", "\x00", "A\x7f", "\x7f",
		"\x80", "A\x80", "\xc1", "\xc1B", "A\xff", "A\u00c1", "\uff21", "AB\u0141",
	}
	return append(all, wideNames...)
}

func requireNoNames(t *testing.T, names string) {
	t.Helper()
	for _, text := range []string{"", "A", "A B", "A1", "(", strings.Repeat("A ", 200) + "A", names} {
		requireNotParsed(t, names, text, -2)
	}
	for _, text := range []string{"", "A", "(A2 A)'"} {
		requireFormatted(t, names, treeOf("A", text), "")
	}
	for _, w := range [][]int64{nil, {1}, {-1, 2}, {9}, {0}} {
		requireWordFormatted(t, names, w, "")
	}
}

func TestNamesOfNotations(t *testing.T) {
	for _, names := range notNames() {
		requireNoNames(t, names)
	}
	for a := range 256 {
		for b := range 256 {
			names := string([]byte{byte(a), byte(b)})
			if b == 0 {
				names = names[:1]
			}
			if !namesFit(names, len(names)) {
				requireNotParsed(t, names, "A", -2)
				requireFormatted(t, names, treeOf("A", "A"), "")
				requireWordFormatted(t, names, []int64{1}, "")
				continue
			}
			last := names[len(names)-1:]
			requireNotation(t, names, names[:1]+"2 "+last+"' "+last)
			requireWordFormatted(t, names, []int64{1, 1, -int64(len(names))}, names[:1]+"2 "+last+"'")
		}
	}
	for count := 1; count <= 8; count++ {
		for _, names := range []string{alphabet[:count], alphabet[26-count:], "QAZWSXED"[:count]} {
			text := strings.Join(strings.Split(names, ""), " ")
			requireNotation(t, names, text)
			requireNotation(t, names, "[("+text+")2:"+text+"]'")
			requireExpanded(t, names, text, identityOf(count + 1)[1:], true)
			missing := strings.IndexFunc(alphabet, func(letter rune) bool { return !strings.ContainsRune(names, letter) })
			requireNotParsed(t, names, text+" "+alphabet[missing:missing+1], int64(2*count))
		}
	}
}

// flat returns count items of one letter.
func flat(count int) string { return strings.TrimSuffix(strings.Repeat("A ", count), " ") }

// nested returns a letter within depth brackets.
func nested(opening string, closing string, depth int) string {
	return strings.Repeat(opening, depth) + "A" + strings.Repeat(closing, depth)
}

// TestLengthsAndNodesOfNotations has notations around both limits, each with its number of bytes and nodes.
func TestLengthsAndNodesOfNotations(t *testing.T) {
	for _, c := range []struct {
		text   string
		length int
		nodes  int
	}{
		{flat(198), 395, 199},
		{flat(199), 397, 200},
		{flat(200), 399, 201},
		{flat(199) + "'", 398, 200},
		{flat(199) + "10'", 400, 200},
		{flat(199) + " A'", 400, 201},
		{flat(200) + "'", 400, 201},
		{flat(199) + " A10'", 402, 201},
		{flat(201), 401, 202},
		{flat(197) + " (A)", 397, 200},
		{flat(198) + " (A)", 399, 201},
		{"(" + flat(198) + ")", 397, 200},
		{"(" + flat(199) + ")", 399, 201},
		{"(" + flat(198) + ")99'", 400, 200},
		{"[A:" + flat(197) + "]", 397, 200},
		{"[A:" + flat(198) + "]", 399, 201},
		{"[" + flat(196) + ",A A]", 397, 200},
		{nested("(", ")", 197), 395, 199},
		{nested("(", ")", 198), 397, 200},
		{nested("(", ")", 199), 399, 201},
		{nested("(", ")", 200), 401, 202},
		{nested("(", ")", 198) + "99'", 400, 200},
		{nested("[A,", "]", 98), 393, 198},
		{nested("[A,", "]", 99), 397, 200},
		{nested("[", ":A]", 99), 397, 200},
		{nested("[", ",A]", 99) + "2'", 399, 200},
		{nested("[", ",A]", 99) + "22'", 400, 200},
		{nested("[", ",A]", 100), 401, 202},
		{strings.Repeat("A10' ", 79) + "A10'", 399, 81},
		{strings.Repeat("A10' ", 79) + "A A'", 399, 82},
		{strings.Repeat("A10' ", 79) + "A A2'", 400, 82},
		{strings.Repeat("A10' ", 79) + "A A10'", 401, 82},
		{strings.Repeat("A10' ", 80) + "A", 401, 82},
		{strings.Repeat("A10' ", 198) + "A10'", 994, 200},
	} {
		if len(c.text) != c.length {
			t.Fatalf("%q has %d bytes", c.text, len(c.text))
		}
		nodes := treeOf("A", c.text)
		if len(nodes) != c.nodes {
			t.Fatalf("%q has %d nodes", c.text, len(nodes))
		}
		requireTree(t, 1, nodes, c.nodes <= 200)
		switch {
		case c.length > 400:
			requireNotParsed(t, "A", c.text, -2)
			requireFormatted(t, "A", nodes, "")
		case c.nodes > 200:
			requireNotParsed(t, "A", c.text, -3)
			requireFormatted(t, "A", nodes, "")
			requireExpanded(t, "A", c.text, nil, false)
		default:
			requireNotation(t, "A", c.text)
		}
	}
}

// TestOrderOfErrors has texts that are refused for more than one reason.
func TestOrderOfErrors(t *testing.T) {
	for _, c := range []struct {
		text string
		at   int64
	}{
		{flat(200) + " ", 400},
		{flat(200) + "1", 400},
		{flat(200) + "C", 399},
		{"C" + flat(200), 0},
		{"(" + flat(199) + "]", 398},
		{"(" + flat(199) + " ", 399},
		{nested("(", ")", 199) + ")", 399},
		{nested("(", ")", 199)[:398], 398},
		{nested("(", "]", 199), 200},
		{strings.Repeat("(", 400), 400},
		{strings.Repeat("[", 400), 400},
		{strings.Repeat("[A:", 133), 399},
		{strings.Repeat(" ", 400), 0},
		{strings.Repeat("A", 400), 1},
		{strings.Repeat("(", 401), -2},
		{strings.Repeat(" ", 401), -2},
		{strings.Repeat("C", 401), -2},
		{flat(200) + "  ", -2},
		{flat(201) + " ", -2},
		{strings.Repeat("(", 1<<20), -2},
	} {
		requireNotParsed(t, "AB", c.text, c.at)
		requireNotParsed(t, "AA", c.text, -2)
		requireNotParsed(t, "", c.text, -2)
	}
}

// smallTrees calls visit with all lists of up to four nodes whose last one is a sequence, with up to two
// children each; only the numbers of the children may be wrong, and how many there are.
func smallTrees(visit func(nodes []impl.NotationNode)) {
	for size := 1; size <= 4; size++ {
		var roots, others []impl.NotationNode
		for length := range 3 {
			for _, children := range childrenBelow(size, length) {
				roots = append(roots, impl.NotationNode{Kind: 2, Count: 1, Children: children})
				if length == 0 {
					others = append(others, impl.NotationNode{Kind: 1, Count: 1})
				} else {
					others = append(others, impl.NotationNode{Kind: 2, Count: 2, Children: children})
				}
				if length == 2 {
					others = append(others, impl.NotationNode{Kind: 4, Count: 1, Inverse: 1, Split: 1, Children: children})
				}
			}
		}
		nodes := make([]impl.NotationNode, size)
		var choose func(i int)
		choose = func(i int) {
			choices := others
			if i == size-1 {
				choices = roots
			}
			for _, choice := range choices {
				nodes[i] = choice
				if i == size-1 {
					visit(nodes)
				} else {
					choose(i + 1)
				}
			}
		}
		choose(0)
	}
}

// childrenBelow returns all lists of that many numbers less than size, none of which is negative.
func childrenBelow(size int, length int) [][]int64 {
	var all [][]int64
	for _, list := range sequencesOver(identityOf(size), length) {
		if len(list) == length {
			all = append(all, list)
		}
	}
	return all
}

func TestIsValidNotationOfAllSmallTrees(t *testing.T) {
	valid := 0
	smallTrees(func(nodes []impl.NotationNode) {
		want := isSyntaxTree(1, nodes)
		requireTree(t, 1, nodes, want)
		if want {
			valid++
			requireNotation(t, "A", textOf("A", nodes))
			requireFormatted(t, "A", nodes, textOf("A", nodes))
		}
	})
	if valid != 9 {
		t.Error("so many lists are trees:", valid)
	}
}

// fieldValues are numbers just below, at and above the bounds of the fields of a node, and such as a narrower type
// would take for one of them.
func fieldValues() []int64 {
	all := []int64{math.MinInt64, math.MinInt64 + 1, math.MaxInt64 - 1, math.MaxInt64, 98, 99, 100, 101, 127, 128, 199, 200, 201}
	for x := int64(-5); x <= 12; x++ {
		all = append(all, x, x+1<<8, x+1<<16, x+1<<32, x-1<<32)
	}
	return all
}

// changedNodes returns the node with one of its fields changed, in all ways of interest.
func changedNodes(node impl.NotationNode, size int) []impl.NotationNode {
	var all []impl.NotationNode
	for _, x := range fieldValues() {
		for _, change := range []func(n *impl.NotationNode){
			func(n *impl.NotationNode) { n.Kind = x },
			func(n *impl.NotationNode) { n.Move = x },
			func(n *impl.NotationNode) { n.Count = x },
			func(n *impl.NotationNode) { n.Inverse = x },
			func(n *impl.NotationNode) { n.Split = x },
			func(n *impl.NotationNode) { n.Children = []int64{x} },
			func(n *impl.NotationNode) { n.Children = append(slices.Clone(n.Children), x) },
			func(n *impl.NotationNode) { n.Children = append([]int64{x}, n.Children...) },
		} {
			changed := node
			change(&changed)
			all = append(all, changed)
		}
		for i := range node.Children {
			changed := node
			changed.Children = slices.Clone(node.Children)
			changed.Children[i] = x
			all = append(all, changed)
		}
	}
	for kind := range int64(6) {
		for split := int64(-1); split <= int64(len(node.Children))+1; split++ {
			for inverse := range int64(2) {
				all = append(all, impl.NotationNode{Kind: kind, Split: split, Count: 1, Inverse: inverse, Children: node.Children})
			}
		}
	}
	for i := range node.Children {
		fewer, swapped, twice := node, node, node
		fewer.Children = slices.Delete(slices.Clone(node.Children), i, i+1)
		twice.Children = slices.Insert(slices.Clone(node.Children), i, node.Children[i])
		swapped.Children = slices.Clone(node.Children)
		swapped.Children[i], swapped.Children[0] = swapped.Children[0], swapped.Children[i]
		all = append(all, fewer, twice, swapped)
	}
	none, every, reversed := node, node, node
	none.Children = nil
	every.Children = identityOf(size)
	reversed.Children = slices.Clone(node.Children)
	slices.Reverse(reversed.Children)
	return append(all, none, every, reversed, impl.NotationNode{})
}

// requireNodes holds every function that takes a tree against nodes that may or may not be one.
func requireNodes(t *testing.T, nodes []impl.NotationNode) {
	t.Helper()
	for _, moveCount := range []int64{0, 1, 2, 3, 7, 8, 9, -1, math.MinInt64, math.MaxInt64, 1<<32 + 2} {
		requireTree(t, moveCount, nodes, isSyntaxTree(moveCount, nodes))
	}
	for _, names := range []string{"A", "AB", "ABCDEFGH"} {
		want := ""
		if isSyntaxTree(int64(len(names)), nodes) {
			want = textOf(names, nodes)
		}
		requireFormatted(t, names, nodes, want)
	}
	var want []int64
	fits := isSyntaxTree(8, nodes)
	if fits {
		want, fits = expansionOf("ABCDEFGH", textOf("ABCDEFGH", nodes))
	}
	if got, ok := impl.ExpandNotation(nodes); ok != fits || !slices.Equal(got, want) {
		t.Fatalf("ExpandNotation(%v) = %v, %v, want %v, %v", nodes, got, ok, want, fits)
	}
}

// TestTreesWithOneNodeChanged changes, takes out, doubles and moves nodes of trees.
func TestTreesWithOneNodeChanged(t *testing.T) {
	for _, text := range []string{"", "A", "A B", "(A)", "((A)2)'", "[A:B2] A'", "[A,B]'", "(A B')2 [A:B]", "[A B,(B A)3']99", "[[A:B A],B]", "H [G B:C] (D E F)", "A [(A B) A':(B) B (A)]2"} {
		nodes := treeOf("ABCDEFGH", text)
		requireNodes(t, nodes)
		for i, node := range nodes {
			for _, changed := range changedNodes(node, len(nodes)) {
				list := slices.Clone(nodes)
				list[i] = changed
				requireNodes(t, list)
			}
			requireNodes(t, nodes[:i])
			requireNodes(t, nodes[i:])
			requireNodes(t, slices.Concat(nodes[:i], nodes[i+1:]))
			requireNodes(t, slices.Concat(nodes[:i+1], nodes[i:]))
			requireNodes(t, slices.Insert(slices.Clone(nodes), i, impl.NotationNode{Kind: 1, Count: 1}))
			requireNodes(t, slices.Insert(slices.Clone(nodes), i, impl.NotationNode{Kind: 2, Count: 1}))
			for j := range i {
				list := slices.Clone(nodes)
				list[i], list[j] = list[j], list[i]
				requireNodes(t, list)
			}
		}
		requireNodes(t, append(slices.Clone(nodes), impl.NotationNode{Kind: 2, Count: 1}))
		requireNodes(t, append(slices.Clone(nodes), impl.NotationNode{Kind: 1, Count: 1}))
		requireNodes(t, append(slices.Clone(nodes), impl.NotationNode{Kind: 2, Count: 1, Children: []int64{int64(len(nodes) - 1)}}))
		requireNodes(t, append(slices.Clone(nodes), nodes...))
	}
}

// TestTreesOfSelfishNodes has lists of nodes in circles, which no walk along the children would leave.
func TestTreesOfSelfishNodes(t *testing.T) {
	for size := 1; size <= 201; size++ {
		for _, step := range []int{0, 1, size - 1, size + 1} {
			nodes := make([]impl.NotationNode, size)
			for i := range nodes {
				nodes[i] = impl.NotationNode{Kind: 2, Count: 1, Children: []int64{int64((i + step) % size)}}
			}
			requireTree(t, 8, nodes, false)
			requireFormatted(t, "A", nodes, "")
			if got, ok := impl.ExpandNotation(nodes); ok || len(got) != 0 {
				t.Fatalf("ExpandNotation(%v) = %v, %v", nodes, got, ok)
			}
		}
	}
	for _, size := range []int{201, 256, 1 << 16} {
		requireNodes(t, make([]impl.NotationNode, size))
		requireNodes(t, slices.Repeat([]impl.NotationNode{{Kind: 2, Count: 1}}, size))
	}
	requireNodes(t, nil)
	requireNodes(t, []impl.NotationNode{})
	requireNodes(t, []impl.NotationNode{{Kind: 2, Count: 1, Children: identityOf(1 << 16)}})
}

// TestFormatNotationAroundItsLimit has trees of long notations.
func TestFormatNotationAroundItsLimit(t *testing.T) {
	for count := 60; count <= 199; count++ {
		for _, item := range []string{"A ", "A' ", "A2 ", "A10 ", "A2' ", "A99' "} {
			for _, last := range []string{"A", "A'", "A2'", "A10'"} {
				text := strings.Repeat(item, count-1) + last
				nodes := treeOf("A", text)
				requireTree(t, 1, nodes, true)
				if len(text) > 400 {
					requireFormatted(t, "A", nodes, "")
				} else {
					requireFormatted(t, "A", nodes, text)
				}
			}
		}
	}
}

func TestExpansionsAroundTheirLimit(t *testing.T) {
	for _, c := range []struct {
		text   string
		length int
	}{
		{"A99 A99 A2", 200}, {"A99 A99 A3", 201}, {"A99 A99 A2'", 200}, {"A99 A99 A3'", 201}, {"A99 A99 A2 A", 201},
		{"(A50)4", 200}, {"(A67)3", 201}, {"(A50)4'", 200}, {"(A67)3'", 201}, {"(A3)67", 201}, {"(A2)99 A2", 200}, {"(A2)99 A3", 201},
		{"((A5)4)10", 200}, {"((A5)4)10 B", 201}, {"(((A5)4)10 B)", 201}, {"(((A2)4)5)5", 200}, {"(A99 A99 A3)", 201}, {"(A99 A99 A3)'", 201},
		{"[A50,B50]", 200}, {"[A50,B51]", 202}, {"[A51,B50]", 202}, {"[A50,B50] A", 201}, {"[A50,B50]'", 200}, {"[A,B]50", 200}, {"[A,B]50 A", 201}, {"[A,B]51", 204},
		{"[A50:B99 B]", 200}, {"[A50:B99 B2]", 201}, {"[A99:B2]", 200}, {"[A99:B3]", 201}, {"[A99 A:B]", 201}, {"[A:B99 B99]", 200}, {"[A:B99 B99 B]", 201},
		{"[A:B]66 A2", 200}, {"[A:B]67", 201}, {"[A99 A99 A3,B]", 604}, {"[A:B99 B99 B3]", 203}, {"[B,A99 A99 A3]", 604}, {"[A99 A99 A3:B]", 403}, {"[(A67)3:B]'", 403}, {"[B:(A67)3]", 203},
		{"(((((A99)99)99)99)99)99", math.MaxInt}, {nested("(", ")99", 66), math.MaxInt}, {"[[[[[[[[A,B],B],B],B],B],B],B],B]", math.MaxInt},
	} {
		w, fits := expansionOf("AB", c.text)
		if fits != (c.length <= 200) || fits && len(w) != c.length {
			t.Fatalf("%q expands to %d letters", c.text, len(w))
		}
		requireNotation(t, "AB", c.text)
	}
}

func TestExpansions(t *testing.T) {
	for _, c := range []struct {
		text string
		want []int64
	}{
		{"", nil}, {"A", []int64{1}}, {"B'", []int64{-2}}, {"A3", []int64{1, 1, 1}}, {"B2'", []int64{-2, -2}},
		{"A B A'", []int64{1, 2, -1}}, {"(A B)", []int64{1, 2}}, {"(A B)'", []int64{-2, -1}}, {"(A B')2'", []int64{2, -1, 2, -1}},
		{"[A B,C]", []int64{1, 2, 3, -2, -1, -3}}, {"[A,B C]", []int64{1, 2, 3, -1, -3, -2}}, {"[A,B]'", []int64{2, 1, -2, -1}}, {"[A',B']2", []int64{-1, -2, 1, 2, -1, -2, 1, 2}},
		{"[A B:C]", []int64{1, 2, 3, -2, -1}}, {"[A:B C]", []int64{1, 2, 3, -1}}, {"[A:B]'", []int64{1, -2, -1}}, {"[A:B]2", []int64{1, 2, -1, 1, 2, -1}}, {"[A:B2]'", []int64{1, -2, -2, -1}},
		{"A A'", []int64{1, -1}}, {"[A,A]", []int64{1, 1, -1, -1}}, {"[[A:B],C]", []int64{1, 2, -1, 3, 1, -2, -1, -3}}, {"[A:[B,C]']", []int64{1, 3, 2, -3, -2, -1}},
		{"H (G F)2", []int64{8, 7, 6, 7, 6}},
	} {
		requireExpanded(t, "ABCDEFGH", c.text, c.want, true)
	}
}

// writtenRuns writes a word letter by letter: each one begins a run or makes the one before it longer.
func writtenRuns(names string, w []int64) string {
	var runs []string
	length := 0
	for i, letter := range w {
		if i > 0 && letter == w[i-1] && length < 99 {
			length++
			runs = runs[:len(runs)-1]
		} else {
			length = 1
		}
		run := string(names[max(letter, -letter)-1])
		if length > 1 {
			run += strconv.Itoa(length)
		}
		if letter < 0 {
			run += "'"
		}
		runs = append(runs, run)
	}
	return strings.Join(runs, " ")
}

// requireWordRead fails unless FormatWord writes the word as it should, and ParseWord reads it again, if a notation
// may be so long.
func requireWordRead(t *testing.T, names string, w []int64) {
	t.Helper()
	text := writtenRuns(names, w)
	requireWordFormatted(t, names, w, text)
	nodes := treeOf(names, text)
	switch {
	case len(text) > 400:
		requireNotParsed(t, names, text, -2)
	case len(nodes) > 200:
		requireNotParsed(t, names, text, -3)
	default:
		requireNotation(t, names, text)
		requireExpanded(t, names, text, w, true)
	}
}

// TestP10WordsAreReadAgain has all short words, and random ones of all lengths with runs of all lengths.
func TestP10WordsAreReadAgain(t *testing.T) {
	for _, w := range slices.Concat(sequencesOver(allLetters(), 3), sequencesOver([]int64{1, -1, 2}, 6)) {
		requireWordRead(t, "ABCDEFGH", w)
		requireWordRead(t, "ZYXWVUTS", w)
	}
	random := rand.New(rand.NewSource(102))
	for length := range 201 {
		for _, longest := range []int{1, 2, 10, 110, 250} {
			var w []int64
			for len(w) < length {
				run := slices.Repeat([]int64{allLetters()[random.Intn(16)]}, 1+random.Intn(longest))
				w = append(w, run[:min(len(run), length-len(w))]...)
			}
			requireWordRead(t, "HGFEDCBA", w)
		}
	}
}

func TestRunsOfFormattedWords(t *testing.T) {
	for length := range 201 {
		for _, letter := range allLetters() {
			w := slices.Repeat([]int64{letter}, length)
			requireWordRead(t, "ABCDEFGH", w)
			if length < 200 {
				requireWordRead(t, "ABCDEFGH", append(w, -letter))
				requireWordRead(t, "ABCDEFGH", append([]int64{-letter}, w...))
				requireWordRead(t, "ABCDEFGH", append(w, max(letter, -letter)%8+1))
			}
		}
	}
	for _, c := range []struct {
		letter int64
		length int
		want   string
	}{
		{1, 1, "A"}, {-1, 1, "A'"}, {1, 2, "A2"}, {-2, 2, "B2'"}, {1, 9, "A9"}, {1, 10, "A10"}, {1, 98, "A98"}, {1, 99, "A99"}, {-1, 99, "A99'"},
		{1, 100, "A99 A"}, {-1, 100, "A99' A'"}, {2, 101, "B99 B2"}, {1, 197, "A99 A98"}, {1, 198, "A99 A99"}, {-1, 198, "A99' A99'"}, {1, 199, "A99 A99 A"}, {-2, 200, "B99' B99' B2'"},
	} {
		requireWordFormatted(t, "AB", slices.Repeat([]int64{c.letter}, c.length), c.want)
	}
	requireWordFormatted(t, "AB", nil, "")
	requireWordFormatted(t, "AB", []int64{}, "")
	requireWordFormatted(t, "AB", []int64{1, -1, 1, 1, -1, -1}, "A A' A2 A2'")
	alternating := slices.Repeat([]int64{-1, -2}, 100)
	requireWordFormatted(t, "AB", alternating, strings.Repeat("A' B' ", 99)+"A' B'")
	alternating = slices.Repeat([]int64{1, 2}, 100)
	requireWordFormatted(t, "AB", alternating, strings.Repeat("A B ", 99)+"A B")
}

func TestFormatWordRefusesOtherWords(t *testing.T) {
	for _, w := range notWords() {
		for count := 1; count <= 8; count++ {
			requireWordFormatted(t, alphabet[:count], w, "")
		}
	}
	for count := 1; count <= 8; count++ {
		for _, letter := range allLetters() {
			want := ""
			if max(letter, -letter) <= int64(count) {
				want = "X"
			}
			if got := impl.FormatWord(alphabet[:count], []int64{1, letter}); (got == "") != (want == "") {
				t.Errorf("FormatWord(%q, [1 %d]) = %q", alphabet[:count], letter, got)
			}
			if want == "" {
				requireWordFormatted(t, alphabet[:count], []int64{letter}, "")
			}
		}
	}
}

// ofOrder returns a move of twenty points with cycles of these lengths.
func ofOrder(lengths ...int) []int64 {
	move := identityOf(20)
	start := 0
	for _, length := range lengths {
		for i := range length {
			move[start+i] = int64(start + (i+1)%length)
		}
		start += length
	}
	return move
}

// shortestOfRun returns the shortest word that has the effect of w, all of whose letters are of one move.
func shortestOfRun(p impl.Puzzle, w []int64) []int64 {
	want := evaluationOf(generatedBy(p), w)
	positive := max(w[0], -w[0])
	for length := 0; ; length++ {
		for _, letter := range []int64{positive, -positive} {
			shorter := slices.Repeat([]int64{letter}, length)
			if slices.Equal(evaluationOf(generatedBy(p), shorter), want) {
				return shorter
			}
		}
	}
}

// simplifiedFromLeft replaces the first run that is not the shortest one, until there is none.
func simplifiedFromLeft(p impl.Puzzle, w []int64) []int64 {
	for start := 0; start < len(w); {
		end := start + 1
		for end < len(w) && (w[end] == w[start] || w[end] == -w[start]) {
			end++
		}
		shortest := shortestOfRun(p, w[start:end])
		if slices.Equal(shortest, w[start:end]) {
			start = end
			continue
		}
		w = slices.Concat(w[:start], shortest, w[end:])
		start = 0
	}
	return w
}

// puzzleOfOrders returns a puzzle with moves of the orders 1 to 6, 30 and 210, each on points of their own or not.
func puzzleOfOrders() impl.Puzzle {
	return lettered(generated{20, [][]int64{ofOrder(), ofOrder(2, 2), ofOrder(1, 3), ofOrder(4, 2), ofOrder(5), ofOrder(2, 3), ofOrder(2, 3, 5), ofOrder(2, 3, 5, 7)}})
}

// TestSimplifiedRuns has runs of one move whose number is around the multiples of half its order.
func TestSimplifiedRuns(t *testing.T) {
	p := puzzleOfOrders()
	for k, order := range []int{1, 2, 3, 4, 5, 6, 30, 210} {
		letter := int64(k + 1)
		for n := -200; n <= 200; n++ {
			run := slices.Repeat([]int64{letter}, max(n, 0))
			if n < 0 {
				run = slices.Repeat([]int64{-letter}, -n)
			}
			var want []int64
			if rest := (n%order + order) % order; 2*rest <= order {
				want = slices.Repeat([]int64{letter}, rest)
			} else {
				want = slices.Repeat([]int64{-letter}, order-rest)
			}
			requireSimplified(t, p, run, want)
			if n != 0 && len(run) < 50 {
				requireSimplified(t, p, run, shortestOfRun(p, run))
			}
			if len(run) <= 198 {
				requireSimplified(t, p, slices.Concat(run, []int64{letter, -letter}), want)
				requireSimplified(t, p, slices.Concat([]int64{-letter}, run, []int64{letter}), want)
			}
		}
	}
}

// TestSimplifiedRunsHaveNoShorterOnes tries all words of one move that are shorter than the simplified one.
func TestSimplifiedRunsHaveNoShorterOnes(t *testing.T) {
	p := puzzleOfOrders()
	for letter := int64(1); letter <= 8; letter++ {
		for _, w := range sequencesOver([]int64{letter, -letter}, 8) {
			simplified := impl.SimplifyWord(p, w)
			want := evaluationOf(generatedBy(p), w)
			if !slices.Equal(evaluationOf(generatedBy(p), simplified), want) {
				t.Fatalf("SimplifyWord(%v) = %v has another effect", w, simplified)
			}
			for _, shorter := range sequencesOver([]int64{letter, -letter}, max(len(simplified), 1)-1) {
				if len(shorter) < len(simplified) && slices.Equal(evaluationOf(generatedBy(p), shorter), want) {
					t.Fatalf("SimplifyWord(%v) = %v, but %v is shorter", w, simplified, shorter)
				}
			}
			opposite := inverseOf(simplified)
			if len(simplified) > 0 && simplified[0] < 0 && slices.Equal(evaluationOf(generatedBy(p), opposite), want) {
				t.Fatalf("SimplifyWord(%v) = %v, but %v has the same effect", w, simplified, opposite)
			}
		}
	}
}

func TestSimplifiedWords(t *testing.T) {
	p := puzzleOfOrders()
	for _, c := range []struct{ w, want []int64 }{
		{nil, nil}, {[]int64{1}, nil}, {[]int64{-1}, nil}, {[]int64{2}, []int64{2}}, {[]int64{-2}, []int64{2}}, {[]int64{2, 2}, nil}, {[]int64{2, -2}, nil}, {[]int64{-2, -2, -2}, []int64{2}},
		{[]int64{3, 3}, []int64{-3}}, {[]int64{-3, -3}, []int64{3}}, {[]int64{3, 3, 3}, nil}, {[]int64{4, 4}, []int64{4, 4}}, {[]int64{-4, -4}, []int64{4, 4}}, {[]int64{4, 4, 4}, []int64{-4}}, {[]int64{-4, -4, -4}, []int64{4}},
		// Runs that meet once the run between them is gone.
		{[]int64{3, 1, 3}, []int64{-3}}, {[]int64{3, 2, 2, 3}, []int64{-3}}, {[]int64{3, 4, -4, -3}, nil}, {[]int64{2, 3, 4, 4, 4, 4, -3, 2}, nil}, {[]int64{4, 4, 1, -1, 4, 2, 1, 2, 4}, nil},
		{[]int64{3, 5, 4, 1, -4, -5, 3, 3}, nil}, {[]int64{2, 1, 2, 3, 1, 1, 3, 2, 1, 2, 3}, nil}, {[]int64{4, 1, 4, 1, 4}, []int64{-4}}, {[]int64{3, 4, -3, 3, 4, -3}, []int64{3, 4, 4, -3}},
		// Inverse letters are not all there is: 4, 4 stays, and so does what only looks like its own inverse.
		{[]int64{4, 4, 3, 4, 4}, []int64{4, 4, 3, 4, 4}}, {[]int64{2, 3, 2, 3}, []int64{2, 3, 2, 3}}, {[]int64{-2, 3, -2, -3}, []int64{2, 3, 2, -3}},
	} {
		requireSimplified(t, p, c.w, c.want)
	}
	known := knownRows()[2].puzzle()
	requireSimplified(t, known, []int64{-1, -1, 2}, []int64{1, 1, 2})
	requireSimplified(t, known, []int64{1, 2, -2, -1}, nil)
}

// requireSameEffect asks for the simplified word and plays both words on the states.
func requireSameEffect(t *testing.T, p impl.Puzzle, w []int64, states [][]int64) {
	t.Helper()
	want := simplifiedFromLeft(p, w)
	requireSimplified(t, p, w, want)
	requireSimplified(t, p, want, want)
	simplified := impl.SimplifyWord(p, w)
	for _, s := range states {
		if !slices.Equal(stateAfter(p, s, simplified), stateAfter(p, s, w)) {
			t.Fatalf("SimplifyWord(%v, %v) = %v has another effect on %v", p, w, simplified, s)
		}
	}
}

// TestP10EffectOnAllStates has all states and short words of small puzzles.
func TestP10EffectOnAllStates(t *testing.T) {
	for _, p := range append(letteredAll(smallGroups()), rowOfFour()) {
		letters := lettersInOrder(generatedBy(p))
		words := sequencesOver(letters[:min(len(letters), 6)], 4)
		words = append(words, sequencesOver(letters[len(letters)-2:], 6)...)
		states := permutationsOf(int(p.Points))
		for _, w := range words {
			requireSameEffect(t, p, w, states)
		}
	}
}

// TestP10EffectOfLongWords has random states and words of all lengths up to the greatest one.
func TestP10EffectOfLongWords(t *testing.T) {
	random := rand.New(rand.NewSource(103))
	puzzles := append(allPuzzles(), puzzleOfOrders())
	for i, p := range puzzles {
		letters := lettersInOrder(generatedBy(p))
		for _, length := range []int{2, 20, i % 201, 200 - i%2} {
			states := [][]int64{identityOf(int(p.Points)), int64s(random.Perm(int(p.Points)))}
			requireSameEffect(t, p, randomWord(random, letters, length), states)
			requireSameEffect(t, p, randomWord(random, letters[:2], length), states)
			half := randomWord(random, letters, length/2)
			requireSimplified(t, p, slices.Concat(half, inverseOf(half)), nil)
		}
	}
}

func TestSimplifyWordRefusesOtherArguments(t *testing.T) {
	for _, p := range notPuzzles() {
		for _, w := range [][]int64{nil, {1}, {-1, 2}, {0}, {9}} {
			requireSimplified(t, p, w, nil)
		}
	}
	for _, p := range []impl.Puzzle{rowOfFour(), puzzleOfOrders(), lettered(generated{1, [][]int64{{0}}})} {
		for _, w := range notWords() {
			requireSimplified(t, p, w, nil)
		}
	}
	for count := 1; count <= 8; count++ {
		p := lettered(generated{20, slices.Repeat([][]int64{ofOrder(2, 3, 5, 7)}, count)})
		for _, letter := range allLetters() {
			var want []int64
			if max(letter, -letter) <= int64(count) {
				want = []int64{letter}
			}
			requireSimplified(t, p, []int64{letter}, want)
			if want == nil {
				requireSimplified(t, p, []int64{1, letter}, nil)
			}
		}
	}
}

// withSpareNodes returns a copy of the nodes in which every slice has spare capacity that holds fillers.
func withSpareNodes(nodes []impl.NotationNode) []impl.NotationNode {
	long := append(copyOfNodes(nodes), impl.NotationNode{Kind: filler}, impl.NotationNode{Kind: filler})
	for i := range nodes {
		long[i].Children = withSpare(nodes[i].Children)
	}
	return long[:len(nodes)]
}

func requireNodesUnchanged(t *testing.T, what string, nodes []impl.NotationNode, want []impl.NotationNode) {
	t.Helper()
	if !areSameNodes(nodes, want) {
		t.Fatalf("%s changed the nodes %v to %v", what, want, nodes)
	}
	for i, node := range nodes {
		requireUnchanged(t, what, node.Children, want[i].Children)
	}
	for _, node := range nodes[len(nodes):min(len(nodes)+2, cap(nodes))] {
		if node.Kind != filler || node.Children != nil {
			t.Errorf("%s changed memory beyond the end of the nodes %v", what, want)
		}
	}
}

// TestNotationKeepsItsNodes calls every function that takes nodes, and writes to what it returns.
func TestNotationKeepsItsNodes(t *testing.T) {
	var lists [][]impl.NotationNode
	for _, text := range someNotations() {
		nodes := treeOf("AB", text)
		lists = append(lists, nodes, nodes[:len(nodes)-1], append(copyOfNodes(nodes), nodes[len(nodes)-1]))
		for i := range nodes {
			broken := copyOfNodes(nodes)
			broken[i].Count = 100
			lists = append(lists, broken)
			broken = copyOfNodes(nodes)
			broken[i].Children = append(broken[i].Children, 0)
			lists = append(lists, broken)
		}
	}
	for _, text := range []string{"A99 A99 A2", "A99 A99 A3", flat(199), flat(200), nested("(", ")", 198)} {
		lists = append(lists, treeOf("A", text))
	}
	for _, nodes := range lists {
		kept := withSpareNodes(nodes)
		impl.IsValidNotation(8, kept)
		impl.IsValidNotation(0, kept)
		requireNodesUnchanged(t, "IsValidNotation", kept, nodes)
		impl.FormatNotation("AB", kept)
		impl.FormatNotation("A", kept)
		impl.FormatNotation("", kept)
		requireNodesUnchanged(t, "FormatNotation", kept, nodes)
		first, ok := impl.ExpandNotation(kept)
		second, _ := impl.ExpandNotation(kept)
		requireNodesUnchanged(t, "ExpandNotation", kept, nodes)
		want, _ := impl.ExpandNotation(nodes)
		requireEqualResults(t, fmt.Sprint("ExpandNotation of ", nodes, ok), map[string][]int64{"first": first, "second": second}, map[string][]int64{"first": want, "second": want})
		requireApart(t, "ExpandNotation", map[string][]int64{"first": first, "second": second})
		requireNodesUnchanged(t, "a write to a result", kept, nodes)
	}
}

// TestParsedNotationsAreNewMemory writes to the children of every node of two calls.
func TestParsedNotationsAreNewMemory(t *testing.T) {
	for _, text := range append(someNotations(), flat(199), nested("[", ",A]", 99)) {
		first, _ := impl.ParseNotation("AB", text)
		second, _ := impl.ParseNotation("AB", text)
		children := map[string][]int64{}
		for i := range first {
			children[fmt.Sprint("node ", i, " of the first call")] = first[i].Children
			children[fmt.Sprint("node ", i, " of the second call")] = second[i].Children
		}
		requireApart(t, fmt.Sprintf("ParseNotation(%q)", text), children)
		for i := range first[:cap(first)] {
			first[:cap(first)][i] = impl.NotationNode{}
		}
		for i, node := range second {
			if node.Count == 0 {
				t.Errorf("ParseNotation(%q): node %d is in memory that two calls share", text, i)
			}
		}
		requireNotation(t, "AB", text)
	}
}

// TestNotationWordsAreNewMemory has words that are changed by a simplification and words that are not.
func TestNotationWordsAreNewMemory(t *testing.T) {
	for _, p := range []impl.Puzzle{rowOfFour(), puzzleOfOrders(), {}} {
		for _, w := range wordsToKeep() {
			resultsOf := func(p impl.Puzzle, w []int64) map[string][]int64 {
				parsed, _ := impl.ParseWord("ABCDEFGH", impl.FormatWord("ABCDEFGH", w))
				impl.FormatWord("", w)
				return map[string][]int64{"SimplifyWord": impl.SimplifyWord(p, w), "SimplifyWord again": impl.SimplifyWord(p, w), "ParseWord": parsed}
			}
			want := resultsOf(p, w)
			keptGens, kept := withSpareGenerators(generatedBy(p)), withSpare(w)
			keptPuzzle := impl.Puzzle{Points: p.Points, Names: p.Names, Moves: keptGens.gens}
			requireKept := func(what string) {
				requireUnchanged(t, what, kept, w)
				requireGeneratorsUnchanged(t, what, keptGens, generatedBy(p))
			}
			results := resultsOf(keptPuzzle, kept)
			requireKept("a function of chapter 10")
			requireEqualResults(t, fmt.Sprint("a second call with ", w), results, want)
			requireApart(t, fmt.Sprint("chapter 10 with ", w), results)
			requireKept("a write to a result")
			results = resultsOf(keptPuzzle, kept)
			overwrite(kept)
			for _, move := range keptGens.gens {
				overwrite(move)
			}
			requireEqualResults(t, fmt.Sprint("after a write to the arguments with ", w), results, want)
		}
	}
	for _, p := range notPuzzles() {
		kept := withSpareGenerators(generatedBy(p))
		impl.SimplifyWord(impl.Puzzle{Points: p.Points, Names: p.Names, Moves: kept.gens}, []int64{1})
		requireGeneratorsUnchanged(t, "SimplifyWord", kept, generatedBy(p))
	}
}
