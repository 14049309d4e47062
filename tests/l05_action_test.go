package tests

import (
	"math"
	"math/big"
	"slices"
	"strings"
	"testing"

	"loop.example/g00928/impl"
)

// letterFunctions are the functions of single letters.
var letterFunctions = map[string]func(impl.Surface) (impl.Surface, bool){
	"T": impl.ShearSurface, "t": impl.UnshearSurface, "S": impl.TurnSurface, "s": impl.UnturnSurface,
}

var inverseLetters = map[string]string{"T": "t", "t": "T", "S": "s", "s": "S"}

// letterSlowly looks for the squares to the left and below.
func letterSlowly(s impl.Surface, letter string) impl.Surface {
	var after impl.Surface
	for i := range s.Right {
		left, below := slices.Index(s.Right, i), slices.Index(s.Up, i)
		right, up := s.Right[i], s.Up[i]
		switch letter {
		case "T":
			up = s.Up[left]
		case "t":
			up = s.Up[right]
		case "S":
			right, up = below, right
		case "s":
			right, up = up, left
		}
		after.Right, after.Up = append(after.Right, right), append(after.Up, up)
	}
	return after
}

func runSlowly(s impl.Surface, word string) impl.Surface {
	for _, letter := range strings.Split(word, "") {
		s = letterSlowly(s, letter)
	}
	return s
}

// matrixSlowly leads the two unit vectors, the columns of the matrix, along
// the word without a product of matrices.
func matrixSlowly(word string) impl.Matrix {
	a, c := vectorAfter(word, 1, 0)
	b, d := vectorAfter(word, 0, 1)
	return impl.Matrix{A: a, B: b, C: c, D: d}
}

func vectorAfter(word string, x int, y int) (int, int) {
	for _, letter := range strings.Split(word, "") {
		switch letter {
		case "T":
			x += y
		case "t":
			x -= y
		case "S":
			x, y = -y, x
		case "s":
			x, y = y, -x
		}
	}
	return x, y
}

// longWords returns words of 20 to 40 letters.
func longWords() []string {
	return []string{
		strings.Repeat("T", 40), strings.Repeat("t", 40), strings.Repeat("S", 40), strings.Repeat("s", 40),
		strings.Repeat("T", 39), strings.Repeat("TtSs", 10), strings.Repeat("sStT", 10), strings.Repeat("TS", 20),
		strings.Repeat("tTTsSTst", 5), strings.Repeat("T", 20) + "S" + strings.Repeat("t", 19),
		strings.Repeat("TTTStttS", 5), strings.Repeat("TTSttS", 6) + "TTTT", "STTsTStTTsSSTsTTTSst", strings.Repeat("TsTTs", 5),
	}
}

// validWords returns all words of at most 4 letters and some long ones.
func validWords() []string { return append(wordsOver("TtSs", 4), longWords()...) }

// invalidWords returns words for which WordOk is false.
func invalidWords() []string {
	list := []string{
		strings.Repeat("T", 41), strings.Repeat("TtSs", 10) + "S", "s" + strings.Repeat("TtSs", 10), strings.Repeat("Ts", 50),
		strings.Repeat("S", 256), strings.Repeat("t", 1<<16), strings.Repeat("T", 40) + "x", "x" + strings.Repeat("T", 40),
		// Runes of several bytes whose low byte is a letter.
		"\u0154", "\u0174", "\u0153", "\u0173", "\u5454", "\U00010054",
		// 40 runes, but more bytes; and 40 bytes, but fewer runes.
		strings.Repeat("T", 39) + "\u0154", strings.Repeat("\u0154", 20), strings.Repeat("\u0154", 40),
		// Letters of other alphabets that look alike.
		"\u0422", "\uff34", "\u0405\u0405",
		"TT\xff", "\xe2\x82TT", "T\x00", "T T", " T", "T ", "T\n", "TtSsR", "1", "TSTS,TS",
	}
	for b := range 256 {
		bad := byteText(b)
		if strings.Contains("TtSs", bad) {
			continue
		}
		list = append(list, bad, bad+"TS", "T"+bad+"S", "Ts"+bad, strings.Repeat("s", 39)+bad, bad+strings.Repeat("t", 39))
	}
	return list
}

func TestConstantsOfTheAction(t *testing.T) {
	if impl.MaxWord != 40 || impl.MaxEntry != 1000000000 {
		t.Errorf("MaxWord = %d and MaxEntry = %d", impl.MaxWord, impl.MaxEntry)
	}
}

func TestLetters(t *testing.T) {
	cases := []struct {
		s, shear, unshear, turn, unturn impl.Surface
	}{
		{
			surfaceWith([]int{0}, []int{0}), surfaceWith([]int{0}, []int{0}), surfaceWith([]int{0}, []int{0}),
			surfaceWith([]int{0}, []int{0}), surfaceWith([]int{0}, []int{0}),
		},
		{
			surfaceWith([]int{1, 0}, []int{0, 1}), surfaceWith([]int{1, 0}, []int{1, 0}), surfaceWith([]int{1, 0}, []int{1, 0}),
			surfaceWith([]int{0, 1}, []int{1, 0}), surfaceWith([]int{0, 1}, []int{1, 0}),
		},
		{
			surfaceWith([]int{1, 0, 2}, []int{2, 1, 0}), surfaceWith([]int{1, 0, 2}, []int{1, 2, 0}), surfaceWith([]int{1, 0, 2}, []int{1, 2, 0}),
			surfaceWith([]int{2, 1, 0}, []int{1, 0, 2}), surfaceWith([]int{2, 1, 0}, []int{1, 0, 2}),
		},
		// Right and Up are both different from their inverses.
		{
			surfaceWith([]int{1, 2, 0, 4, 5, 3}, []int{3, 4, 5, 0, 1, 2}), surfaceWith([]int{1, 2, 0, 4, 5, 3}, []int{5, 3, 4, 2, 0, 1}), surfaceWith([]int{1, 2, 0, 4, 5, 3}, []int{4, 5, 3, 1, 2, 0}),
			surfaceWith([]int{3, 4, 5, 0, 1, 2}, []int{1, 2, 0, 4, 5, 3}), surfaceWith([]int{3, 4, 5, 0, 1, 2}, []int{2, 0, 1, 5, 3, 4}),
		},
		{
			surfaceWith([]int{1, 2, 0, 3, 4}, []int{3, 1, 2, 4, 0}), surfaceWith([]int{1, 2, 0, 3, 4}, []int{2, 3, 1, 4, 0}), surfaceWith([]int{1, 2, 0, 3, 4}, []int{1, 2, 3, 4, 0}),
			surfaceWith([]int{4, 1, 2, 0, 3}, []int{1, 2, 0, 3, 4}), surfaceWith([]int{3, 1, 2, 4, 0}, []int{2, 0, 1, 3, 4}),
		},
		{
			surfaceWith(circling(24, 1), counting(24)), surfaceWith(circling(24, 1), circling(24, 23)), surfaceWith(circling(24, 1), circling(24, 1)),
			surfaceWith(counting(24), circling(24, 1)), surfaceWith(counting(24), circling(24, 23)),
		},
		{
			surfaceWith(circling(24, 8), circling(24, 9)), surfaceWith(circling(24, 8), circling(24, 1)), surfaceWith(circling(24, 8), circling(24, 17)),
			surfaceWith(circling(24, 15), circling(24, 8)), surfaceWith(circling(24, 9), circling(24, 16)),
		},
	}
	for _, c := range cases {
		for letter, want := range map[string]impl.Surface{"T": c.shear, "t": c.unshear, "S": c.turn, "s": c.unturn} {
			if got, ok := letterFunctions[letter](c.s); !equalSurfaces(got, want) || !ok {
				t.Errorf("%s of %v = %v, %t, want %v", letter, c.s, got, ok, want)
			}
		}
	}
}

func TestLettersOfManySurfaces(t *testing.T) {
	for _, s := range cornerSurfaces() {
		for letter, function := range letterFunctions {
			want := letterSlowly(s, letter)
			if got, ok := function(s); !equalSurfaces(got, want) || !ok {
				t.Errorf("%s of %v = %v, %t, want %v", letter, s, got, ok, want)
			}
			if got, ok := impl.RunWord(s, letter); !equalSurfaces(got, want) || !ok {
				t.Errorf("RunWord(%v, %s) = %v, %t, want %v", s, letter, got, ok, want)
			}
		}
	}
}

// TestLettersByThePermutations has the words of the chapter, in the functions
// of chapter 3.
func TestLettersByThePermutations(t *testing.T) {
	for _, s := range cornerSurfaces() {
		left, down := impl.InversePerm(s.Right), impl.InversePerm(s.Up)
		for letter, want := range map[string]impl.Surface{
			"T": surfaceWith(s.Right, impl.ThenPerm(left, s.Up)), "t": surfaceWith(s.Right, impl.ThenPerm(s.Right, s.Up)),
			"S": surfaceWith(down, s.Right), "s": surfaceWith(s.Up, left),
		} {
			if got, _ := letterFunctions[letter](s); !equalSurfaces(got, want) {
				t.Errorf("%s of %v = %v, want %v", letter, s, got, want)
			}
		}
	}
}

func checkNoAction(t *testing.T, s impl.Surface) {
	t.Helper()
	for letter, function := range letterFunctions {
		if got, ok := function(s); !isNoSurface(got) || ok {
			t.Errorf("%s of %v = %v, %t", letter, s, got, ok)
		}
	}
	for _, word := range []string{"", "T", "t", "S", "s", "TtSs", "SSSS", strings.Repeat("T", 40), strings.Repeat("T", 41), "x", "Tx"} {
		if got, ok := impl.RunWord(s, word); !isNoSurface(got) || ok {
			t.Errorf("RunWord(%v, %q) = %v, %t", s, word, got, ok)
		}
	}
}

func TestInvalidSurfacesHaveNoAction(t *testing.T) {
	for _, s := range invalidSurfaces() {
		checkNoAction(t, s)
	}
}

func TestActionOfAllShortLists(t *testing.T) {
	for _, s := range shortSurfaces() {
		if !isSurfaceSlowly(s) {
			checkNoAction(t, s)
		} else if got, ok := impl.RunWord(s, "TSts"); !equalSurfaces(got, runSlowly(s, "TSts")) || !ok {
			t.Errorf("RunWord(%v, TSts) = %v, %t", s, got, ok)
		}
	}
}

func TestWordOk(t *testing.T) {
	for _, word := range append(wordsOver("TtSs", 5), longWords()...) {
		if !impl.WordOk(word) {
			t.Errorf("WordOk(%q) = false", word)
		}
	}
	for _, word := range invalidWords() {
		if impl.WordOk(word) {
			t.Errorf("WordOk(%q) = true", word)
		}
	}
}

func TestWordOkOfEachLength(t *testing.T) {
	for n := range 100 {
		for _, letter := range []string{"T", "t", "S", "s"} {
			if got := impl.WordOk(strings.Repeat(letter, n)); got != (n <= 40) {
				t.Errorf("WordOk of %d times %s = %t", n, letter, got)
			}
		}
	}
}

// TestWordsWithOneOtherByte has each other byte at each place of a word.
func TestWordsWithOneOtherByte(t *testing.T) {
	word := []byte(strings.Repeat("TtsS", 10))
	for place := range word {
		for b := range 256 {
			changed := slices.Clone(word)
			changed[place] = byte(b)
			want := strings.IndexByte("TtSs", byte(b)) >= 0
			if got := impl.WordOk(string(changed)); got != want {
				t.Errorf("WordOk(%q) = %t", changed, got)
			}
		}
	}
}

func TestInvalidWords(t *testing.T) {
	surfaces := append(longSurfaces(), surfaceWith([]int{0}, []int{0}), surfaceWith([]int{1, 0, 2}, []int{2, 1, 0}))
	for _, word := range invalidWords() {
		for _, s := range surfaces {
			if got, ok := impl.RunWord(s, word); !isNoSurface(got) || ok {
				t.Errorf("RunWord(%v, %q) = %v, %t", s, word, got, ok)
			}
		}
		if got, ok := impl.MatrixOf(word); got != (impl.Matrix{}) || ok {
			t.Errorf("MatrixOf(%q) = %v, %t", word, got, ok)
		}
		if got := impl.InverseWord(word); got != "" {
			t.Errorf("InverseWord(%q) = %q", word, got)
		}
	}
}

func TestRunWord(t *testing.T) {
	s := surfaceWith([]int{1, 2, 0, 3, 4}, []int{3, 1, 2, 4, 0})
	cases := []struct {
		word string
		want impl.Surface
	}{
		{"", s},
		{"T", surfaceWith([]int{1, 2, 0, 3, 4}, []int{2, 3, 1, 4, 0})},
		// The first letter is performed first: ST and TS differ.
		{"ST", surfaceWith([]int{4, 1, 2, 0, 3}, []int{3, 2, 0, 4, 1})},
		{"TS", surfaceWith([]int{4, 2, 0, 1, 3}, []int{1, 2, 0, 3, 4})},
		{"SS", surfaceWith([]int{2, 0, 1, 3, 4}, []int{4, 1, 2, 0, 3})},
		{"TTT", s},
		{"TtSs", s},
		{strings.Repeat("T", 39), s},
		{strings.Repeat("T", 40), surfaceWith([]int{1, 2, 0, 3, 4}, []int{2, 3, 1, 4, 0})},
		{strings.Repeat("S", 40), s},
	}
	for _, c := range cases {
		if got, ok := impl.RunWord(s, c.word); !equalSurfaces(got, c.want) || !ok {
			t.Errorf("RunWord(%v, %q) = %v, %t, want %v", s, c.word, got, ok, c.want)
		}
	}
}

func TestRunWordPerformsTheLettersInOrder(t *testing.T) {
	for _, s := range validSurfaces() {
		for _, word := range append(wordsOver("TtSs", 2), "TStS", "sTTSt") {
			if got, ok := impl.RunWord(s, word); !equalSurfaces(got, runSlowly(s, word)) || !ok {
				t.Errorf("RunWord(%v, %q) = %v, %t, want %v", s, word, got, ok, runSlowly(s, word))
			}
		}
	}
	for _, s := range append(longSurfaces(), surfaceWith([]int{1, 2, 0, 3, 4}, []int{3, 1, 2, 4, 0}), surfaceWith([]int{0}, []int{0})) {
		for _, word := range validWords() {
			if got, ok := impl.RunWord(s, word); !equalSurfaces(got, runSlowly(s, word)) || !ok {
				t.Errorf("RunWord(%v, %q) = %v, %t, want %v", s, word, got, ok, runSlowly(s, word))
			}
		}
	}
}

// mustRun returns the surface after a valid word.
func mustRun(t *testing.T, s impl.Surface, word string) impl.Surface {
	t.Helper()
	after, ok := impl.RunWord(s, word)
	if !ok {
		t.Fatalf("RunWord(%v, %q) fails", s, word)
	}
	return after
}

func TestEachLetterIsUndoneByItsInverse(t *testing.T) {
	for _, s := range cornerSurfaces() {
		for letter, inverse := range inverseLetters {
			after, _ := letterFunctions[letter](s)
			if back, ok := letterFunctions[inverse](after); !equalSurfaces(back, s) || !ok {
				t.Errorf("%s and then %s of %v = %v, %t", letter, inverse, s, back, ok)
			}
			if back := mustRun(t, s, letter+inverse); !equalSurfaces(back, s) {
				t.Errorf("RunWord(%v, %s) = %v", s, letter+inverse, back)
			}
		}
	}
}

func TestRelationsOfTheMatricesHoldForSurfaces(t *testing.T) {
	for _, s := range cornerSurfaces() {
		for _, word := range []string{"SSSS", "ssss"} {
			if got := mustRun(t, s, word); !equalSurfaces(got, s) {
				t.Errorf("RunWord(%v, %s) = %v", s, word, got)
			}
		}
		for _, pair := range [][2]string{
			{"STSTST", "SS"}, {"TSTSTS", "SS"}, {"ststst", "SS"}, {"STS", "tSt"}, {"SST", "TSS"}, {"SSt", "tss"}, {"STSTSTSTSTST", ""},
		} {
			a, b := mustRun(t, s, pair[0]), mustRun(t, s, pair[1])
			if !impl.AreIsomorphic(a, b) {
				t.Errorf("%q and %q of %v give %v and %v, which are not isomorphic", pair[0], pair[1], s, a, b)
			}
		}
	}
}

// TestWordsOfOneMatrixGiveIsomorphicSurfaces compares all words of at most 5
// letters, whose matrices are made without a product.
func TestWordsOfOneMatrixGiveIsomorphicSurfaces(t *testing.T) {
	surfaces := append(longSurfaces(), surfaceWith([]int{1, 0, 2}, []int{2, 1, 0}), surfaceWith([]int{1, 2, 0, 3, 4}, []int{3, 1, 2, 4, 0}))
	for _, s := range surfaces {
		forms := map[impl.Matrix]impl.Surface{}
		for _, word := range wordsOver("TtSs", 5) {
			form, _ := impl.CanonOf(mustRun(t, s, word))
			m := matrixSlowly(word)
			if first, met := forms[m]; met && !equalSurfaces(first, form) {
				t.Errorf("%q of %v has the canonical form %v, another word of the matrix %v has %v", word, s, form, m, first)
			}
			forms[m] = form
		}
	}
}

func TestLettersKeepAnglesAndGenus(t *testing.T) {
	for _, s := range cornerSurfaces() {
		for _, word := range []string{"T", "t", "S", "s", "TTSTs", "tStSSTTs"} {
			after := mustRun(t, s, word)
			if got := impl.CountSquares(after); got != len(s.Right) {
				t.Errorf("%s of %v has %d squares", word, s, got)
			}
			checkSameCorners(t, s, after)
			if got, want := impl.CountSymmetries(after), impl.CountSymmetries(s); got != want {
				t.Errorf("%s of %v has %d symmetries, want %d", word, s, got, want)
			}
		}
	}
	for _, s := range longSurfaces() {
		for _, word := range longWords() {
			checkSameCorners(t, s, mustRun(t, s, word))
		}
	}
}

// TestRenamingsGoWithTheLetters gives the same names before and after a word.
func TestRenamingsGoWithTheLetters(t *testing.T) {
	for _, s := range validSurfaces() {
		for _, names := range someNames(len(s.Right)) {
			for _, word := range []string{"T", "t", "S", "s", "TTSts"} {
				got := mustRun(t, renamedSlowly(s, names), word)
				if want := renamedSlowly(mustRun(t, s, word), names); !equalSurfaces(got, want) {
					t.Errorf("%s of %v with the names %v = %v, want %v", word, s, names, got, want)
				}
			}
		}
	}
}

func TestWordsAfterEachOther(t *testing.T) {
	for _, s := range longSurfaces() {
		for _, v := range wordsOver("TtSs", 2) {
			for _, w := range append(wordsOver("TtSs", 2), strings.Repeat("TTSt", 9)) {
				got := mustRun(t, s, v+w)
				if want := mustRun(t, mustRun(t, s, v), w); !equalSurfaces(got, want) {
					t.Errorf("RunWord(%v, %q) = %v, but %q and then %q give %v", s, v+w, got, v, w, want)
				}
			}
		}
	}
}

func TestTheInverseWordGivesBackTheSurface(t *testing.T) {
	for _, s := range append(longSurfaces(), surfaceWith([]int{1, 0, 2}, []int{2, 1, 0}), surfaceWith([]int{0}, []int{0})) {
		for _, word := range validWords() {
			inverse := impl.InverseWord(word)
			if got := mustRun(t, mustRun(t, s, word), inverse); !equalSurfaces(got, s) {
				t.Errorf("%q and then %q of %v = %v", word, inverse, s, got)
			}
			if got := mustRun(t, mustRun(t, s, inverse), word); !equalSurfaces(got, s) {
				t.Errorf("%q and then %q of %v = %v", inverse, word, s, got)
			}
		}
	}
}

func TestInverseWord(t *testing.T) {
	cases := map[string]string{
		"": "", "T": "t", "t": "T", "S": "s", "s": "S", "TS": "st", "TSs": "Sst", "TTTs": "Sttt", "TtSs": "SsTt",
		strings.Repeat("TTSt", 10): strings.Repeat("Tstt", 10), strings.Repeat("T", 39) + "S": "s" + strings.Repeat("t", 39),
	}
	for word, want := range cases {
		if got := impl.InverseWord(word); got != want {
			t.Errorf("InverseWord(%q) = %q, want %q", word, got, want)
		}
	}
	for _, word := range validWords() {
		want := ""
		for _, letter := range strings.Split(word, "") {
			want = inverseLetters[letter] + want
		}
		if got := impl.InverseWord(word); got != want || !impl.WordOk(got) {
			t.Errorf("InverseWord(%q) = %q, want %q", word, got, want)
		}
		if got := impl.InverseWord(impl.InverseWord(word)); got != word {
			t.Errorf("InverseWord of InverseWord(%q) = %q", word, got)
		}
	}
}

func TestMatrixOf(t *testing.T) {
	cases := map[string]impl.Matrix{
		"":  {A: 1, D: 1},
		"T": {A: 1, B: 1, D: 1},
		"t": {A: 1, B: -1, D: 1},
		"S": {B: -1, C: 1},
		"s": {B: 1, C: -1},
		// The later letter stands on the left of the product.
		"TS":                  {B: -1, C: 1, D: 1},
		"ST":                  {A: 1, B: -1, C: 1},
		"TSt":                 {A: -1, B: -2, C: 1, D: 1},
		"TTTs":                {B: 1, C: -1, D: -3},
		"sTS":                 {A: 1, C: -1, D: 1},
		"SS":                  {A: -1, D: -1},
		"STSTST":              {A: -1, D: -1},
		"SSSS":                {A: 1, D: 1},
		"TtSs":                {A: 1, D: 1},
		longWords()[0]:        {A: 1, B: 40, D: 1},
		longWords()[1]:        {A: 1, B: -40, D: 1},
		"STTsTStTTsSSTsTTTSs": matrixSlowly("STTsTStTTsSSTsTTTSs"),
	}
	for word, want := range cases {
		if got, ok := impl.MatrixOf(word); got != want || !ok {
			t.Errorf("MatrixOf(%q) = %v, %t, want %v", word, got, ok, want)
		}
	}
	for _, word := range append(wordsOver("TtSs", 6), longWords()...) {
		want := matrixSlowly(word)
		got, ok := impl.MatrixOf(word)
		if got != want || !ok {
			t.Errorf("MatrixOf(%q) = %v, %t, want %v", word, got, ok, want)
		}
		if d := impl.DeterminantOf(got); d != 1 {
			t.Errorf("MatrixOf(%q) = %v has the determinant %d", word, got, d)
		}
	}
}

// greatestEntry returns the greatest entry of a matrix of a word of n letters.
// But for their signs, a letter adds a coordinate of a vector to the other one
// (or takes it away), or exchanges both; as the shears add in one sign and its
// inverse in the other, each sequence of adding and exchanging is that of a
// word. Only vectors with no greater one in both coordinates can become the
// greatest.
func greatestEntry(n int) int {
	vectors := [][2]int{{1, 0}, {0, 1}}
	for range n {
		next := slices.Clone(vectors)
		for _, v := range vectors {
			next = append(next, [2]int{v[0] + v[1], v[1]}, [2]int{v[1], v[0]})
		}
		slices.SortFunc(next, func(a, b [2]int) int { return slices.Compare(b[:], a[:]) })
		vectors = nil
		for _, v := range next {
			if len(vectors) == 0 || v[1] > vectors[len(vectors)-1][1] {
				vectors = append(vectors, v)
			}
		}
	}
	return vectors[0][0]
}

func TestTheGreatestEntriesOfWords(t *testing.T) {
	if got := greatestEntry(40); got != 184318 {
		t.Fatalf("the greatest entry is %d", got)
	}
	up := "TTTT" + strings.Repeat("StttSTTT", 4) + "Sttt"
	down := "tttt" + strings.Repeat("STTTSttt", 4) + "STTT"
	for word, want := range map[string]impl.Matrix{
		up:                   {A: -42837, B: -184318, C: 12970, D: 55807},
		down:                 {A: 42837, B: -184318, C: 12970, D: -55807},
		impl.InverseWord(up): {A: 55807, B: 184318, C: -12970, D: -42837},
		up[:39] + "S":        {A: -12970, B: -55807, C: -29867, D: -128511},
	} {
		got, ok := impl.MatrixOf(word)
		if got != want || !ok {
			t.Errorf("MatrixOf(%q) = %v, %t, want %v", word, got, ok, want)
		}
	}
}

func TestMatrixOfWordsAfterEachOther(t *testing.T) {
	words := append(wordsOver("TtSs", 3), "TTTStttSTTTStttS")
	for _, v := range words {
		for _, w := range words {
			first, _ := impl.MatrixOf(v)
			second, _ := impl.MatrixOf(w)
			want, ok := impl.TimesMatrix(second, first)
			if got, fine := impl.MatrixOf(v + w); got != want || !ok || !fine {
				t.Errorf("MatrixOf(%q) = %v, but the product is %v", v+w, got, want)
			}
		}
	}
}

func TestMatrixOfTheInverseWord(t *testing.T) {
	one := impl.Matrix{A: 1, D: 1}
	for _, word := range validWords() {
		m, _ := impl.MatrixOf(word)
		inverse, _ := impl.MatrixOf(impl.InverseWord(word))
		if want := (impl.Matrix{A: m.D, B: -m.B, C: -m.C, D: m.A}); inverse != want {
			t.Errorf("MatrixOf the inverse of %q = %v, want %v", word, inverse, want)
		}
		if got, ok := impl.TimesMatrix(m, inverse); got != one || !ok {
			t.Errorf("%q and its inverse have the product %v, %t", word, got, ok)
		}
		if got, ok := impl.TimesMatrix(inverse, m); got != one || !ok {
			t.Errorf("the inverse of %q and the word have the product %v, %t", word, got, ok)
		}
	}
}

// entriesOf returns the addresses of the entries.
func entriesOf(m *impl.Matrix) [4]*int { return [4]*int{&m.A, &m.B, &m.C, &m.D} }

func entryOk(x int) bool { return x >= -1000000000 && x <= 1000000000 }

// boundaryEntries returns numbers at the bounds of the entries and far beyond.
func boundaryEntries() []int {
	return []int{
		1000000000, -1000000000, 999999999, -999999999, 1000000001, -1000000001,
		math.MaxInt32, math.MinInt32, 1 << 32, -1 << 32, 1 << 62, math.MaxInt, math.MinInt, math.MinInt + 1,
	}
}

func someMatrices() []impl.Matrix {
	const most = 1000000000
	return []impl.Matrix{
		{}, {A: 1, D: 1}, {A: 1, B: 1, C: 1, D: 1}, {A: 1, B: 2, C: 3, D: 4}, {A: 5, B: 6, C: 7, D: 8}, {A: -3, B: 7, C: 11, D: -13},
		{A: most, B: most, C: most, D: most}, {A: -most, B: -most, C: -most, D: -most},
		{A: most, B: -most, C: most, D: most}, {A: most, B: most, C: -most, D: most},
		{A: -most, B: most, C: most, D: most}, {A: most, B: most, C: most, D: -most},
	}
}

// sumOfProducts returns a * b + c * d, and whether it is an int.
func sumOfProducts(a, b, c, d int) (int, bool) {
	product := func(x, y int) *big.Int { return new(big.Int).Mul(big.NewInt(int64(x)), big.NewInt(int64(y))) }
	sum := new(big.Int).Add(product(a, b), product(c, d))
	return int(sum.Int64()), sum.IsInt64()
}

func timesSlowly(t *testing.T, m impl.Matrix, n impl.Matrix) impl.Matrix {
	t.Helper()
	a, aOk := sumOfProducts(m.A, n.A, m.B, n.C)
	b, bOk := sumOfProducts(m.A, n.B, m.B, n.D)
	c, cOk := sumOfProducts(m.C, n.A, m.D, n.C)
	d, dOk := sumOfProducts(m.C, n.B, m.D, n.D)
	if !aOk || !bOk || !cOk || !dOk {
		t.Fatalf("the product of %v and %v does not fit", m, n)
	}
	return impl.Matrix{A: a, B: b, C: c, D: d}
}

func TestTimesMatrix(t *testing.T) {
	const most = 1000000000
	cases := []struct{ m, n, want impl.Matrix }{
		{impl.Matrix{}, impl.Matrix{A: 1, B: 2, C: 3, D: 4}, impl.Matrix{}},
		{impl.Matrix{A: 1, D: 1}, impl.Matrix{A: 1, B: 2, C: 3, D: 4}, impl.Matrix{A: 1, B: 2, C: 3, D: 4}},
		{impl.Matrix{A: 1, B: 2, C: 3, D: 4}, impl.Matrix{A: 5, B: 6, C: 7, D: 8}, impl.Matrix{A: 19, B: 22, C: 43, D: 50}},
		{impl.Matrix{A: 5, B: 6, C: 7, D: 8}, impl.Matrix{A: 1, B: 2, C: 3, D: 4}, impl.Matrix{A: 23, B: 34, C: 31, D: 46}},
		{impl.Matrix{B: -1, C: 1, D: 1}, impl.Matrix{B: -1, C: 1, D: 1}, impl.Matrix{A: -1, B: -1, C: 1}},
		// The product itself is not bound by MaxEntry.
		{impl.Matrix{A: most, B: most, C: -most, D: -most}, impl.Matrix{A: most, B: -most, C: most, D: -most}, impl.Matrix{A: 2 * most * most, B: -2 * most * most, C: -2 * most * most, D: 2 * most * most}},
	}
	for _, c := range cases {
		if got, ok := impl.TimesMatrix(c.m, c.n); got != c.want || !ok {
			t.Errorf("TimesMatrix(%v, %v) = %v, %t, want %v", c.m, c.n, got, ok, c.want)
		}
	}
	for _, m := range someMatrices() {
		for _, n := range someMatrices() {
			if got, ok := impl.TimesMatrix(m, n); got != timesSlowly(t, m, n) || !ok {
				t.Errorf("TimesMatrix(%v, %v) = %v, %t, want %v", m, n, got, ok, timesSlowly(t, m, n))
			}
		}
	}
}

func TestAProductBeyondTheBoundIsRefusedAsAnArgument(t *testing.T) {
	one := impl.Matrix{A: 1, D: 1}
	great := impl.Matrix{A: 40000, D: 40000}
	product, ok := impl.TimesMatrix(great, great)
	if want := (impl.Matrix{A: 1600000000, D: 1600000000}); product != want || !ok {
		t.Errorf("TimesMatrix(%v, %v) = %v, %t, want %v", great, great, product, ok, want)
	}
	for _, pair := range [][2]impl.Matrix{{product, one}, {one, product}} {
		if got, ok := impl.TimesMatrix(pair[0], pair[1]); got != (impl.Matrix{}) || ok {
			t.Errorf("TimesMatrix(%v, %v) = %v, %t", pair[0], pair[1], got, ok)
		}
	}
	if got := impl.DeterminantOf(product); got != 0 {
		t.Errorf("DeterminantOf(%v) = %d", product, got)
	}
}

func TestTimesMatrixWithEachEntryAtTheBounds(t *testing.T) {
	for _, base := range someMatrices() {
		for _, x := range boundaryEntries() {
			for place := range 4 {
				changed := base
				*entriesOf(&changed)[place] = x
				for _, pair := range [][2]impl.Matrix{{changed, base}, {base, changed}, {changed, changed}, {changed, {}}, {{}, changed}} {
					got, ok := impl.TimesMatrix(pair[0], pair[1])
					want := impl.Matrix{}
					if entryOk(x) {
						want = timesSlowly(t, pair[0], pair[1])
					}
					if got != want || ok != entryOk(x) {
						t.Errorf("TimesMatrix(%v, %v) = %v, %t, want %v", pair[0], pair[1], got, ok, want)
					}
				}
			}
		}
	}
}

func TestDeterminantOf(t *testing.T) {
	const most = 1000000000
	cases := []struct {
		m    impl.Matrix
		want int
	}{
		{impl.Matrix{}, 0},
		{impl.Matrix{A: 1, D: 1}, 1},
		{impl.Matrix{B: 1, C: 1}, -1},
		{impl.Matrix{B: -1, C: 1}, 1},
		{impl.Matrix{A: 1, B: 2, C: 3, D: 4}, -2},
		{impl.Matrix{A: 2, B: 3, C: 5, D: 11}, 7},
		{impl.Matrix{A: 2, D: 3}, 6},
		{impl.Matrix{A: most, B: -most, C: most, D: most}, 2 * most * most},
		{impl.Matrix{A: -most, B: most, C: most, D: most}, -2 * most * most},
	}
	for _, c := range cases {
		if got := impl.DeterminantOf(c.m); got != c.want {
			t.Errorf("DeterminantOf(%v) = %d, want %d", c.m, got, c.want)
		}
	}
}

func TestDeterminantOfEachEntryAtTheBounds(t *testing.T) {
	for _, base := range someMatrices() {
		for _, x := range boundaryEntries() {
			for place := range 4 {
				m := base
				*entriesOf(&m)[place] = x
				want := 0
				if entryOk(x) {
					want, _ = sumOfProducts(m.A, m.D, -m.B, m.C)
				}
				if got := impl.DeterminantOf(m); got != want {
					t.Errorf("DeterminantOf(%v) = %d, want %d", m, got, want)
				}
			}
		}
	}
}

func TestDeterminantOfAProduct(t *testing.T) {
	for _, v := range longWords() {
		for _, m := range []impl.Matrix{{A: 1, B: 2, C: 3, D: 4}, {A: -3, B: 7, C: 11, D: -13}, {A: 1, B: 1, C: 1, D: 1}} {
			n, _ := impl.MatrixOf(v)
			product, ok := impl.TimesMatrix(m, n)
			if got := impl.DeterminantOf(product); got != impl.DeterminantOf(m) || !ok {
				t.Errorf("DeterminantOf(%v) = %d, want that of %v", product, got, m)
			}
		}
	}
}

// actionCalls makes the calls of the layer with a surface, as Right and Up.
func actionCalls(lists [][]int) map[string]func() [][]int {
	s := surfaceWith(lists[0], lists[1])
	calls := map[string]func() [][]int{}
	call := func(name string, function func(impl.Surface) (impl.Surface, bool)) {
		calls[name] = func() [][]int {
			after, _ := function(s)
			return [][]int{after.Right, after.Up}
		}
	}
	call("ShearSurface", impl.ShearSurface)
	call("UnshearSurface", impl.UnshearSurface)
	call("TurnSurface", impl.TurnSurface)
	call("UnturnSurface", impl.UnturnSurface)
	for _, word := range []string{"", "T", "S", "SSSS", "Tt", "TsTS", "x", strings.Repeat("T", 41)} {
		call("RunWord "+word, func(s impl.Surface) (impl.Surface, bool) { return impl.RunWord(s, word) })
	}
	return calls
}

func TestTheActionKeepsTheRulesOfMemory(t *testing.T) {
	surfaces := append(longSurfaces(), invalidSurfaces()...)
	surfaces = append(surfaces, surfaceWith([]int{0}, []int{0}), surfaceWith([]int{1, 0, 2}, []int{2, 1, 0}), surfaceWith([]int{1, 2, 0}, []int{1, 2, 0}))
	for _, s := range surfaces {
		checkMemory(t, [][]int{s.Right, s.Up}, actionCalls)
	}
}

// TestTheActionOnOneListAsRightAndUp gives the same memory twice: the result
// must still have two lists of its own.
func TestTheActionOnOneListAsRightAndUp(t *testing.T) {
	list := []int{2, 0, 1}
	s := surfaceWith(list, list)
	for _, c := range []struct {
		word      string
		right, up []int
	}{
		{"", []int{2, 0, 1}, []int{2, 0, 1}},
		{"T", []int{2, 0, 1}, []int{0, 1, 2}},
		{"t", []int{2, 0, 1}, []int{1, 2, 0}},
		{"S", []int{1, 2, 0}, []int{2, 0, 1}},
		{"s", []int{2, 0, 1}, []int{1, 2, 0}},
		{"SS", []int{1, 2, 0}, []int{1, 2, 0}},
	} {
		got := mustRun(t, s, c.word)
		if !equalSurfaces(got, surfaceWith(c.right, c.up)) {
			t.Errorf("RunWord(%v, %q) = %v, want %v and %v", s, c.word, got, c.right, c.up)
		}
		spoil(got.Right, -1)
		if !slices.Equal(got.Up, c.up) || !slices.Equal(list, []int{2, 0, 1}) {
			t.Errorf("a change of Right after %q changed Up, %v, or the argument, %v", c.word, got.Up, list)
		}
	}
}
