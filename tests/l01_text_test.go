package tests

import (
	"bytes"
	"math"
	"math/big"
	"regexp"
	"slices"
	"strings"
	"testing"

	"loop.example/g00928/impl"
)

func TestFormatInt(t *testing.T) {
	cases := []struct {
		n    int
		want string
	}{
		{0, "0"},
		{7, "7"},
		{-7, "-7"},
		{10, "10"},
		{-100, "-100"},
		{1234567890, "1234567890"},
		{math.MaxInt, "9223372036854775807"},
		{math.MinInt, "-9223372036854775808"},
	}
	for _, c := range cases {
		if got := impl.FormatInt(c.n); got != c.want {
			t.Errorf("FormatInt(%d) = %q, want %q", c.n, got, c.want)
		}
	}
}

// edgeInts returns the neighbours of all powers of 2 and 10, where the number
// of digits or bits changes, with both signs.
func edgeInts() []int {
	var list []int
	for _, base := range []int{2, 10} {
		for power := 1; ; power *= base {
			for d := -1; d <= 1; d++ {
				list = append(list, power+d, -(power + d))
			}
			if power > math.MaxInt/base {
				break
			}
		}
	}
	return append(list, math.MaxInt, math.MaxInt-1, math.MinInt, math.MinInt+1)
}

func TestIntsAreRecoveredFromTheirText(t *testing.T) {
	for _, n := range edgeInts() {
		text := impl.FormatInt(n)
		if want := big.NewInt(int64(n)).String(); text != want {
			t.Errorf("FormatInt(%d) = %q, want %q", n, text, want)
		}
		if got, ok := impl.ParseInt(text); got != n || !ok {
			t.Errorf("ParseInt(%q) = %d, %t, want %d, true", text, got, ok, n)
		}
	}
}

func TestParseIntRefusesWhatFormatIntNeverWrites(t *testing.T) {
	texts := []string{
		"", "-", "+", "-0", "+0", "+1", "--1", "-+1", "1-", "00", "01", "-01", "007",
		"9223372036854775808", "-9223372036854775809", "9223372036854775810", "-9223372036854775810",
		"18446744073709551615", "18446744073709551616", "18446744073709551617", "-18446744073709551616",
		"09223372036854775807", "99999999999999999999", strings.Repeat("9", 3000), strings.Repeat("0", 3000) + "1",
		" 1", "1 ", "1\n", "\t1", "1_000", "1,000", "0x1", "1e3", "1.0", "a", "1a", "a1",
		"\x00", "1\x00", "\xff", "1\xff", "\xff1", "\xb1", "é",
		"\u0663", "\uff11", "\u22121", "/", ":", "1/", "1:",
	}
	for _, s := range texts {
		if n, ok := impl.ParseInt(s); n != 0 || ok {
			t.Errorf("ParseInt(%q) = %d, %t, want 0, false", s, n, ok)
		}
	}
}

func TestParseIntOfAllShortTexts(t *testing.T) {
	form := regexp.MustCompile(`^(0|-?[1-9][0-9]*)$`)
	for _, s := range wordsOver("-+019_ a\xff", 4) {
		n, ok := impl.ParseInt(s)
		if ok != form.MatchString(s) {
			t.Errorf("ParseInt(%q) reports %t", s, ok)
		}
		if ok && impl.FormatInt(n) != s || !ok && n != 0 {
			t.Errorf("ParseInt(%q) = %d, %t", s, n, ok)
		}
	}
}

func TestIsDigits(t *testing.T) {
	for _, s := range []string{"0", "9", "09", "0123456789", strings.Repeat("5", 1000)} {
		if !impl.IsDigits(s) {
			t.Errorf("IsDigits(%q) = false", s)
		}
	}
	for _, s := range []string{"", "-1", "+1", " 1", "1 ", "1.5", "1a2", "a", "/", ":", "1\n", "1\x00", "\u0663", "1\uff11", "\xff", "12\xff", "1\xb1"} {
		if impl.IsDigits(s) {
			t.Errorf("IsDigits(%q) = true", s)
		}
	}
}

func TestIsDigitsOfEachByte(t *testing.T) {
	for b := range 256 {
		want := b >= 48 && b <= 57
		for _, s := range []string{byteText(b), "7" + byteText(b), byteText(b) + "7"} {
			if got := impl.IsDigits(s); got != want {
				t.Errorf("IsDigits(%q) = %t", s, got)
			}
		}
	}
}

func TestIsName(t *testing.T) {
	for _, s := range []string{"a", "z", "x1", "a0", "z9", "torus", "abcdefgh", "a1234567", "z9z9z9z9"} {
		if !impl.IsName(s) {
			t.Errorf("IsName(%q) = false", s)
		}
	}
	for _, s := range []string{
		"", "1", "1x", "0abc", "A", "aB", "x_", "x-1", "x 1", " x", "x ", "x\n", "x\x00",
		"abcdefghi", "a12345678", strings.Repeat("a", 1000),
		"é", "aé", "a\xff", "\xff", "ab\xc3", "abcdefg\xff", "abcdefgé", "a\u0663",
	} {
		if impl.IsName(s) {
			t.Errorf("IsName(%q) = true", s)
		}
	}
}

func TestIsNameOfEachByte(t *testing.T) {
	for b := range 256 {
		letter := b >= 97 && b <= 122
		digit := b >= 48 && b <= 57
		if got := impl.IsName(byteText(b) + "x"); got != letter {
			t.Errorf("IsName of the byte %d and x = %t", b, got)
		}
		for _, s := range []string{"x" + byteText(b), "x" + byteText(b) + "x", "xxxxxxx" + byteText(b)} {
			if got := impl.IsName(s); got != (letter || digit) {
				t.Errorf("IsName(%q) = %t", s, got)
			}
		}
	}
}

func TestIsNameOfEachLength(t *testing.T) {
	for n := range 20 {
		want := n >= 1 && n <= 8
		if got := impl.IsName(strings.Repeat("k", n)); got != want {
			t.Errorf("IsName of %d letters = %t", n, got)
		}
	}
}

func TestSplitAny(t *testing.T) {
	cases := []struct {
		s, by string
		want  []string
	}{
		{"a,b c", ", ", []string{"a", "b", "c"}},
		{"abc", ",", []string{"abc"}},
		{"", "", []string{""}},
		{"", ",", []string{""}},
		{"a,b", "", []string{"a,b"}},
		{",", ",", []string{"", ""}},
		{",a", ",", []string{"", "a"}},
		{"a,", ",", []string{"a", ""}},
		{"a,,b", ",", []string{"a", "", "b"}},
		{"a, b", ", ", []string{"a", "", "b"}},
		{",,,", ",", []string{"", "", "", ""}},
		{"a,b", ",,,", []string{"a", "b"}},
		{"a\x00b\nc", "\x00\n", []string{"a", "b", "c"}},
		{"aba", "a", []string{"", "b", ""}},
		{"a", "a", []string{"", ""}},
	}
	for _, c := range cases {
		if got := impl.SplitAny(c.s, c.by); !slices.Equal(got, c.want) {
			t.Errorf("SplitAny(%q, %q) = %q, want %q", c.s, c.by, got, c.want)
		}
	}
}

func TestSplitAnySplitsAtBytesAndNotAtRunes(t *testing.T) {
	cases := []struct {
		s, by string
		want  []string
	}{
		{"a\xffb\xfec", "\xff\xfe", []string{"a", "b", "c"}},
		{"a\xffb\xfec", "\xff", []string{"a", "b\xfec"}},
		{"a\xffb", "\ufffd", []string{"a\xffb"}},
		{"a\ufffdb", "\xff", []string{"a\ufffdb"}},
		{"é", "\xc3", []string{"", "\xa9"}},
		{"é", "\xa9", []string{"\xc3", ""}},
		{"aéb", "é", []string{"a", "", "b"}},
		{"a\xa9b\xc3c", "é", []string{"a", "b", "c"}},
		{"aèb", "é", []string{"a", "\xa8b"}},
		{"é,日", ",", []string{"é", "日"}},
		{"\xe2\n\xe2\x82", "\n", []string{"\xe2", "\xe2\x82"}},
		{"\xe2\x82,\xac", ",", []string{"\xe2\x82", "\xac"}},
	}
	for _, c := range cases {
		if got := impl.SplitAny(c.s, c.by); !slices.Equal(got, c.want) {
			t.Errorf("SplitAny(%q, %q) = %q, want %q", c.s, c.by, got, c.want)
		}
	}
}

// splitSlowly is SplitAny byte by byte, for comparison.
func splitSlowly(s string, by string) []string {
	parts := []string{""}
	for _, b := range []byte(s) {
		if bytes.IndexByte([]byte(by), b) >= 0 {
			parts = append(parts, "")
		} else {
			parts[len(parts)-1] += string([]byte{b})
		}
	}
	return parts
}

func TestSplitAnyAtEachByte(t *testing.T) {
	for b := range 256 {
		for c := range 256 {
			s := "(" + byteText(c) + ")"
			want := splitSlowly(s, byteText(b))
			if got := impl.SplitAny(s, byteText(b)); !slices.Equal(got, want) {
				t.Errorf("SplitAny(%q, %q) = %q, want %q", s, byteText(b), got, want)
			}
		}
	}
}

func TestSplitAnyOfAllShortTexts(t *testing.T) {
	letters := "a,\xc3\xa9\xff"
	for _, s := range wordsOver(letters, 4) {
		for _, by := range wordsOver(letters, 2) {
			want := splitSlowly(s, by)
			if got := impl.SplitAny(s, by); !slices.Equal(got, want) {
				t.Errorf("SplitAny(%q, %q) = %q, want %q", s, by, got, want)
			}
		}
	}
}

func TestSplitLines(t *testing.T) {
	cases := []struct {
		s    string
		want []string
	}{
		{"", nil},
		{"\n", []string{""}},
		{"\n\n", []string{"", ""}},
		{"a", []string{"a"}},
		{"a\n", []string{"a"}},
		{"a\nb", []string{"a", "b"}},
		{"a\nb\n", []string{"a", "b"}},
		{"a\n\nb", []string{"a", "", "b"}},
		{"a\n\n", []string{"a", ""}},
		{"\na", []string{"", "a"}},
		{"a\n ", []string{"a", " "}},
		{"a\r\nb\rc", []string{"a\r", "b\rc"}},
		{"a\u2028b\vc\fd", []string{"a\u2028b\vc\fd"}},
		{"\xe2\n\xff\n\x82", []string{"\xe2", "\xff", "\x82"}},
		{"\x00\n", []string{"\x00"}},
	}
	for _, c := range cases {
		if got := impl.SplitLines(c.s); !slices.Equal(got, c.want) {
			t.Errorf("SplitLines(%q) = %q, want %q", c.s, got, c.want)
		}
	}
}

func TestTextIsRecoveredFromItsLines(t *testing.T) {
	for _, s := range wordsOver("a\n\r\xff", 5) {
		var closed strings.Builder
		for _, line := range impl.SplitLines(s) {
			if strings.Contains(line, "\n") {
				t.Errorf("SplitLines(%q) has the line %q", s, line)
			}
			closed.WriteString(line + "\n")
		}
		want := s
		if s != "" && !strings.HasSuffix(s, "\n") {
			want += "\n"
		}
		if closed.String() != want {
			t.Errorf("the lines of %q make %q", s, closed.String())
		}
	}
}

func TestJoin(t *testing.T) {
	cases := []struct {
		l    []string
		by   string
		want string
	}{
		{nil, ",", ""},
		{[]string{}, ",", ""},
		{[]string{"a"}, ",", "a"},
		{[]string{""}, ",", ""},
		{[]string{"a", "b", "c"}, "-", "a-b-c"},
		{[]string{"a", "b", "c"}, "", "abc"},
		{[]string{"a", "b"}, ", ", "a, b"},
		{[]string{"", ""}, ",", ","},
		{[]string{"", "a", ""}, "-", "-a-"},
		{[]string{"\xff", "\xc3"}, "\xa9", "\xff\xa9\xc3"},
		{[]string{"\xc3", "x"}, "\x00", "\xc3\x00x"},
	}
	for _, c := range cases {
		if got := impl.Join(c.l, c.by); got != c.want {
			t.Errorf("Join(%q, %q) = %q, want %q", c.l, c.by, got, c.want)
		}
	}
}

func TestJoinRecoversWhatSplitAnySplits(t *testing.T) {
	letters := "a,\xc3\xa9"
	for _, s := range wordsOver(letters, 5) {
		for i := range len(letters) {
			by := letters[i : i+1]
			if got := impl.Join(impl.SplitAny(s, by), by); got != s {
				t.Errorf("Join(SplitAny(%q, %q)) = %q", s, by, got)
			}
		}
	}
}

func TestPadZeros(t *testing.T) {
	zeros := func(n int) string { return strings.Repeat("0", n) }
	cases := []struct {
		s    string
		n    int
		want string
	}{
		{"7", 3, "007"},
		{"7", 2, "07"},
		{"7", 1, "7"},
		{"7", 0, "7"},
		{"7", -1, "7"},
		{"7", math.MinInt, "7"},
		{"123", 2, "123"},
		{"123", 3, "123"},
		{"123", 4, "0123"},
		{"", 0, ""},
		{"", -5, ""},
		{"", 1, "0"},
		{"", 4, "0000"},
		{"-7", 4, "00-7"},
		{"é", 2, "é"},
		{"é", 3, "0é"},
		{"\xff", 2, "0\xff"},
		{"x", 1999, zeros(1998) + "x"},
		{"x", 2000, zeros(1999) + "x"},
		{"", 2000, zeros(2000)},
		{"x", 2001, "x"},
		{"", 2001, ""},
		{"x", math.MaxInt, "x"},
		{zeros(1999) + "1", 2000, zeros(1999) + "1"},
		{zeros(2100), 2000, zeros(2100)},
		{zeros(2100), 2101, zeros(2100)},
	}
	for _, c := range cases {
		if got := impl.PadZeros(c.s, c.n); got != c.want {
			t.Errorf("PadZeros of %d bytes to %d has %d bytes: %.20q", len(c.s), c.n, len(got), got)
		}
	}
}

func TestJoinKeepsItsList(t *testing.T) {
	whole := []string{"a", "b", "c", "behind", "the list"}
	list := whole[:3]
	before := slices.Clone(whole)
	joined := impl.Join(list, "-")
	if !slices.Equal(whole, before) {
		t.Errorf("Join changed its list or the capacity behind it: %q", whole)
	}
	clear(whole)
	if joined != "a-b-c" {
		t.Errorf("the joined text changed with the list: %q", joined)
	}
}

func TestSplitResultsAreNewEachTime(t *testing.T) {
	splits := []struct {
		name string
		do   func() []string
		want []string
	}{
		{"SplitAny", func() []string { return impl.SplitAny("a,b c", ", ") }, []string{"a", "b", "c"}},
		{"SplitAny without a separator", func() []string { return impl.SplitAny("abc", "") }, []string{"abc"}},
		{"SplitLines", func() []string { return impl.SplitLines("a\nb\n") }, []string{"a", "b"}},
		{"SplitLines without a last newline", func() []string { return impl.SplitLines("a\nb") }, []string{"a", "b"}},
	}
	for _, c := range splits {
		first, second := c.do(), c.do()
		spoil(first, "spoilt")
		if !slices.Equal(second, c.want) {
			t.Errorf("%s: two results share memory: %q", c.name, second)
		}
		if third := c.do(); !slices.Equal(third, c.want) {
			t.Errorf("%s: a changed result comes back: %q", c.name, third)
		}
	}
}

func TestSplitArgumentsStay(t *testing.T) {
	s, by := "a,b\xffc\n", ",\xff\n"
	spoil(impl.SplitAny(s, by), "spoilt")
	spoil(impl.SplitLines(s), "spoilt")
	if s != "a,b\xffc\n" || by != ",\xff\n" {
		t.Errorf("the arguments became %q and %q", s, by)
	}
}
