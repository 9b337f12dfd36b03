package tests

import (
	"fmt"
	"iter"
	"math"
	"math/rand"
	"regexp"
	"slices"
	"strconv"
	"strings"
	"sync"
	"testing"

	"loop.example/g00044/impl"
)

// widePlainly asks the written rows for the first point of each character.
func widePlainly(text string) (wide int64) {
	for _, char := range charsPlainly(text) {
		wide += charWidePlainly(readPlainly(char)[0])
	}
	return wide
}

// writtenWides has how wide each point up to LastKnown is, by the written rows.
var writtenWides = sync.OnceValue(func() []int64 {
	wides := slices.Repeat([]int64{1}, impl.LastKnown+1)
	for _, row := range writtenRows() {
		for p := row.first; p <= row.last; p++ {
			if row.category == impl.CatControl || row.category == impl.CatFormat || row.category == impl.CatMark {
				wides[p] = 0
			}
		}
	}
	for p := int64(0x1000); p <= 0x103F; p++ {
		wides[p] = 0
	}
	for _, double := range [][2]int64{{0x3000, 0x5BA3}, {0x6000, 0x67FF}, {0x1E00, 0x1E3F}} {
		for p := double[0]; p <= double[1]; p++ {
			wides[p] = 2
		}
	}
	return wides
})

func charWidePlainly(p int64) int64 {
	if p > impl.LastKnown {
		return 1
	}
	return writtenWides()[p]
}

func isWide(t *testing.T, text string, want int64) {
	t.Helper()
	if got := impl.WideOf(text); got != want {
		t.Errorf("WideOf of %+.100q: got %d, want %d", text, got, want)
	}
}

func TestNumbersOfParagraphs(t *testing.T) {
	if impl.MaxWide != 200 {
		t.Errorf("MaxWide: got %d", impl.MaxWide)
	}
}

func TestWidesByHand(t *testing.T) {
	for _, row := range []struct {
		text string
		want int64
	}{
		{"", 0}, {"a", 1}, {"abc", 3}, {" ", 1}, {"\u00A0", 1}, {"\u1F80", 1}, {"A1-.", 4}, {"\u00A1", 1}, {"\u0220", 1}, {"\u0500", 1}, {"\u0800\u0801", 2}, {"\u2000", 1}, {"\u2720", 1}, {"\u2730", 1},
		// syllables
		{"\u3000", 2}, {"\u3001", 2}, {"\u5BA3", 2}, {"\u2FFF", 1}, {"\u5BA4", 1}, {"\u3000\u3001", 4}, {"\u3000\u0741", 2}, {"\u3000\u0720\u0741", 2}, {"\u3000\u1000", 2}, {"\u3000\u1000\u1010a", 3},
		{"\u0700", 1}, {"\u0700\u0720", 1}, {"\u0700\u0720\u0741", 1}, {"\u0700\u3000", 1}, {"\u0720", 1}, {"\u0741", 1}, {"\u0741\u3000", 3},
		// ideographs
		{"\u6000", 2}, {"\u67FF", 2}, {"\u5FFF", 1}, {"\u6800", 1}, {"a\u6000", 3}, {"\u6000\u6001", 4}, {"\u6000\u1000", 2}, {"\u6000\u1000\u1001\u1F00", 2}, {"\u6000\u1E40", 2},
		// pictures, their tones, letters of flags
		{"\u1E00", 2}, {"\u1E3F", 2}, {"\u1DFF", 1}, {"\u1E00\u1E40", 2}, {"\u1E00\u1F00\u1E01", 2}, {"\u1E00\u1000\u1F00\u1E01", 2}, {"\u1E00\u1E01", 4}, {"a\u1F00\u1E01", 3},
		{"\u1E40", 1}, {"\u1E44", 1}, {"a\u1E40", 1}, {"\n\u1E40", 1}, {"\u1E45", 1}, {"\u1E50", 1}, {"\u1E50\u1E51", 1}, {"\u1E50\u1E51\u1E52", 2}, {"\u1E50\u1E51\u1E52\u1E53", 2}, {"\u1E69", 1},
		// controls
		{"\n", 0}, {"\r", 0}, {"\r\n", 0}, {"\n\r", 0}, {"\x00", 0}, {"\x1F", 0}, {"\x7F", 0}, {"\u0080", 0}, {"\u009F", 0}, {"\t", 0}, {"a\tb", 2}, {"a\r\nb", 2},
		// formats
		{"\u00AD", 0}, {"a\u00ADb", 2}, {"\u1F00", 0}, {"\u1F01", 0}, {"\u1F0B", 0}, {"\u1F11", 0}, {"\u1F12", 0}, {"\u1F0C", 1}, {"\u1F10", 1}, {"\u1F13", 1}, {"a\u1F00b", 2}, {"a\u1F01b", 2}, {"\u1F01\u1000", 0}, {"\u00AD\u1000", 0},
		// marks
		{"\u1000", 0}, {"\u103F", 0}, {"\u0620", 0}, {"\u062B", 0}, {"\u0630", 0}, {"\u0631", 0}, {"\u1000\u1001", 0}, {"a\u1000", 1}, {"a\u1000b\u1001", 2}, {"\n\u1000", 0}, {"\n\u1000a", 1}, {" \u1000", 1}, {"\u1F12\u1000", 0}, {"\u1000\u6000", 2},
		{"\u0600", 1}, {"\u0600\u0620", 1}, {"\u0600\u0630\u0601", 1}, {"\u0600\u0601", 2}, {"\u0630\u0600", 0}, {"\n\u0630\u0600", 0}, {"\u062C", 1}, {"\u1040", 1},
		// no points
		{"\xFF", 1}, {"\xE2\x80", 2}, {"a\xFFb", 3}, {"\xFF\u1000", 1}, {"\u6000\xFF", 3}, {"\xED\xA0\x80", 3}, {"\uFFFD", 1}, {"\u8000", 1}, {"\U00010000", 1}, {"\U0010FFFF", 1}, {"\U00013000", 1}, {"\U00016000\u1000", 1},
	} {
		isWide(t, row.text, row.want)
		if got := widePlainly(row.text); got != row.want {
			t.Errorf("read plainly %+q is %d wide, want %d", row.text, got, row.want)
		}
	}
}

func TestWidesOfAllPoints(t *testing.T) {
	for _, p := range allPoints() {
		text := writtenBytes(p)
		want := charWidePlainly(p)
		if got := impl.WideOf(text); got != want {
			t.Fatalf("WideOf of U+%X: got %d, want %d", p, got, want)
		}
		if p <= impl.LastKnown {
			isWide(t, text+"\u1000", want)
			isWide(t, text+"\u1000\u1001b", want+1)
		}
	}
}

func TestWidesOfTexts(t *testing.T) {
	eachRandomText(220, 300, cutAlphabet(), func(text string) { isWide(t, text, widePlainly(text)) })
	eachCutRow(cutAlphabet(), 2, func(text string) { isWide(t, text, widePlainly(text)) })
}

func TestSizesOfWides(t *testing.T) {
	for _, row := range []struct {
		text string
		wide int64
	}{
		{strings.Repeat("a", 65536), 65536}, {strings.Repeat("a", 65537), 0}, {strings.Repeat("\u6000", 21845), 43690}, {strings.Repeat("\u6000", 21845) + "a", 43691}, {strings.Repeat("\u6000", 21845) + "ab", 0}, {strings.Repeat("\xFF", 65536), 65536}, {strings.Repeat("a", 1<<20), 0}, {"a" + strings.Repeat("\u1000", 20000), 1},
	} {
		isWide(t, row.text, row.wide)
	}
}

// patternWritten has a digit perhaps ahead of each letter and behind the last one.
var patternWritten = regexp.MustCompile(`^([1-9]?[a-z.])+[1-9]?$`)

func isRightPatternPlainly(pattern string) bool {
	letters := strings.Trim(regexp.MustCompile("[1-9]").ReplaceAllString(pattern, ""), "\n")
	within := letters
	if len(within) > 0 {
		within = within[1:]
	}
	if len(within) > 0 {
		within = within[:len(within)-1]
	}
	return patternWritten.MatchString(pattern) && strings.ContainsAny(pattern, "123456789") && len(letters) <= 20 && !strings.Contains(within, ".")
}

func areRightPatternsPlainly(patterns []string) bool {
	for i, pattern := range patterns {
		if !isRightPatternPlainly(pattern) || i > 0 && strings.Compare(patterns[i-1], pattern) >= 0 {
			return false
		}
	}
	return len(patterns) <= 1000
}

// arePatterns asks all calls that take patterns whether these are right.
func arePatterns(t *testing.T, patterns []string, right bool) {
	t.Helper()
	what := fmt.Sprintf("%.300s", fmt.Sprintf("%+q", patterns))
	if areRightPatternsPlainly(patterns) != right {
		t.Errorf("read plainly the patterns are right: %t: %s", !right, what)
	}
	want := int64(impl.ErrForm)
	if right {
		want = impl.OK
	}
	if got := impl.PatternsFault(patterns); got != want {
		t.Errorf("PatternsFault: got %d, want %d: %s", got, want, what)
	}
	if got := impl.StyleFault(impl.Style{Width: 1, Patterns: patterns}); got != want {
		t.Errorf("StyleFault: got %d, want %d: %s", got, want, what)
	}
	for _, hyphen := range []int64{0, 1} {
		if got := impl.BreakParagraph(impl.Style{Width: 9, Hyphen: hyphen, Patterns: patterns}, "a b"); got.Code != want || (len(got.Lines) == 1) != right {
			t.Errorf("BreakParagraph: got %+v, want the code %d: %s", got, want, what)
		}
	}
	if !right && len(patterns) > 0 {
		for _, word := range []string{"aaaaaa", "abababab", "zzzzzzz"} {
			if got := impl.HyphensOf(patterns, word); len(got) != 0 {
				t.Errorf("HyphensOf of %s by %s: got %d", word, what, got)
			}
		}
	}
}

func TestHyphenPatternsByHand(t *testing.T) {
	for row, right := range map[string]bool{
		"": false, "a": false, "1": false, "a1": true, "1a": true, "1a1": true, "a1b": true, "9z": true, "z9": true, "0a": false, "a0": false, "a0b": false, "a0b1": false, "1a0b": false,
		"ab": false, "abc": false, ".": false, "..": false, ".a.": false,
		"11a": false, "a11": false, "a12b": false, "12ab": false, "ab12": false, "1a2b3": true, "1a2b34": false, "a1b2c3d4": true, "a111b": false, "99": false, "9": false,
		".1": true, "1.": true, "1.1": true, "1.2.3": true, ".1.": true, "..1": true, "1..": true, "...1": false, "1...": false, ".a1": true, "a1.": true, ".a1.": true, "1.a": true, "a.1": true, "a.1b": false, "a1.b": false, "1a.b": false, ".a.1b": false, ".a1b.": true, "a..1": false, "1..a": false, "..a1": false, ".1.a": false, "a1..": false, "a.1.": false, ".1a1.1": true, "1.1a": true,
		"A1": false, "a1B": false, "1Z": false, "a1 ": false, " a1": false, "a 1": false, "a-1": false, "a1-": false, "1`": false, "1{": false, "/a1": false, "a1:": false, "a1\n": false, "\na1": false, "a1\x00": false, "a1\xFF": false, "\u0220a1": false, "a1\u0661": false, "a1\u0251": false, "a1,": false, "a1..b": false, "+1a": false, "-1a": false,
		strings.Repeat("a", 19) + "1a":                                true,
		strings.Repeat("a", 20) + "1":                                 true,
		"1" + strings.Repeat("a", 20):                                 true,
		strings.Repeat("a", 20):                                       false,
		strings.Repeat("a", 21) + "1":                                 false,
		strings.Repeat("a", 20) + "1a":                                false,
		strings.Repeat("1a", 20):                                      true,
		strings.Repeat("1a", 20) + "1":                                true,
		strings.Repeat("1a", 20) + "11":                               false,
		strings.Repeat("1a", 21):                                      false,
		strings.Repeat("1a", 21) + "1":                                false,
		"." + strings.Repeat("a", 18) + ".1":                          true,
		"." + strings.Repeat("a", 19) + ".1":                          false,
		"." + strings.Repeat("a", 19) + "1":                           true,
		"." + strings.Repeat("a", 20) + "1":                           false,
		"1" + strings.Repeat("a", 40):                                 false,
		strings.Repeat("a1", 70000):                                   false,
		strings.Repeat("a", 65537) + "1":                              false,
		strings.Repeat("1", 41):                                       false,
		strings.Repeat("a", 20) + strings.Repeat("1", 21):             false,
		"a1" + strings.Repeat(" ", 10):                                false,
		strings.Repeat("a", 10) + "0" + strings.Repeat("a", 9) + "1b": false,
	} {
		arePatterns(t, []string{row}, right)
	}
}

func TestListsOfHyphenPatterns(t *testing.T) {
	numbered := func(count int) (patterns []string) {
		for i := range count {
			patterns = append(patterns, fmt.Sprintf("%c%c%c1", 'a'+i/676%26, 'a'+i/26%26, 'a'+i%26))
		}
		return patterns
	}
	changed := func(count int, at int, pattern string) []string {
		patterns := numbered(count)
		patterns[at] = pattern
		return patterns
	}
	for name, row := range map[string]struct {
		patterns []string
		right    bool
	}{
		"none": {nil, true}, "an empty list": {[]string{}, true}, "one": {numbered(1), true}, "two": {numbered(2), true}, "999": {numbered(999), true}, "1000": {numbered(1000), true}, "1001": {numbered(1001), false}, "5000": {numbered(5000), false},
		"alike": {[]string{"a1", "a1"}, false}, "alike behind others": {[]string{"a1", "b1", "b1", "c1"}, false}, "falling": {[]string{"b1", "a1"}, false}, "falling at the end": {[]string{"a1", "c1", "b1"}, false}, "falling at the beginning": {[]string{"b1", "a1", "c1"}, false}, "alike, not side by side": {[]string{"a1", "b1", "a1"}, false},
		"like letters": {[]string{"1a", "1a1", "1a2", "2a", "a1", "a2"}, true}, "digits ahead of letters": {[]string{".a1", "1a", "a1"}, true}, "letters ahead of digits": {[]string{"a1", "1a"}, false}, "a beginning ahead": {[]string{"a1", "a1b"}, true}, "a beginning behind": {[]string{"a1b", "a1"}, false},
		"an empty one first": {[]string{"", "a1"}, false}, "a wrong one first": {[]string{"a", "b1"}, false}, "a wrong one last": {[]string{"a1", "b"}, false}, "a wrong one between": {[]string{"a1", "b0", "c1"}, false},
		"1000 with a wrong last": {changed(1000, 999, "zzzz"), false}, "1000 with a wrong first": {changed(1000, 0, "aaa"), false}, "1000 with a twin": {changed(1000, 500, numbered(500)[499]), false}, "1000 that fall once": {changed(1000, 500, "zzz1"), false},
	} {
		t.Run(name, func(t *testing.T) { arePatterns(t, row.patterns, row.right) })
	}
}

func TestAllShortHyphenPatterns(t *testing.T) {
	right := 0
	eachRow([]string{"a", "z", ".", "1", "9", "0", "A"}, 5, func(text string) {
		isRight := isRightPatternPlainly(text)
		if isRight {
			right++
		}
		want := int64(impl.ErrForm)
		if isRight {
			want = impl.OK
		}
		if got := impl.PatternsFault([]string{text}); got != want {
			t.Errorf("PatternsFault of %+q: got %d, want %d", text, got, want)
		}
	})
	if right < 500 {
		t.Errorf("only %d are right", right)
	}
	for b := range 256 {
		for _, row := range []string{"?", "?a1", "a?1", "a1?", "a?b1", "1?"} {
			text := strings.ReplaceAll(row, "?", string([]byte{byte(b)}))
			arePatterns(t, []string{text}, isRightPatternPlainly(text))
		}
	}
}

// hyphensPlainly goes through all places at which each pattern may stand, sentence by sentence of chapter 23.
func hyphensPlainly(patterns []string, word string) (places []int64) {
	if !areRightPatternsPlainly(patterns) || len(word) > 65536 || regexp.MustCompile("[^a-z]").MatchString(word) {
		return nil
	}
	dotted := "." + word + "."
	greatest := map[int]int{}
	for _, pattern := range patterns {
		letters := regexp.MustCompile("[1-9]").ReplaceAllString(pattern, "")
		for at := range len(dotted) {
			if !strings.HasPrefix(dotted[at:], letters) {
				continue
			}
			place := at
			for _, sign := range pattern {
				if digit, err := strconv.Atoi(string(sign)); err == nil {
					greatest[place] = max(greatest[place], digit)
				} else {
					place++
				}
			}
		}
	}
	for place := range len(word) {
		if place >= 2 && len(word)-place >= 3 && greatest[place+1]%2 == 1 {
			places = append(places, int64(place))
		}
	}
	return places
}

func areHyphens(t *testing.T, patterns []string, word string, want []int64) {
	t.Helper()
	if got := impl.HyphensOf(patterns, word); !slices.Equal(got, want) {
		t.Errorf("HyphensOf of %+.60q by %+.200q: got %d, want %d", word, patterns, got, want)
	}
	// P55
	last := int64(1)
	for _, place := range impl.HyphensOf(patterns, word) {
		if place <= last || place > int64(len(word))-3 {
			t.Errorf("HyphensOf of %+.60q by %+.200q: %d is not within, or not rising", word, patterns, place)
		}
		last = place
	}
}

func TestHyphensByHand(t *testing.T) {
	for _, row := range []struct{ patterns, word, want string }{
		{"", "abcdef", ""}, {"a1b", "aabab", "2"}, {"a1b", "", ""},
		// words of all short lengths: a hyphen may stand ahead of each letter, but for the ends
		{"1a", "", ""}, {"1a", "a", ""}, {"1a", "aa", ""}, {"1a", "aaa", ""}, {"1a", "aaaa", ""}, {"1a", "aaaaa", "2"}, {"1a", "aaaaaa", "2 3"}, {"1a", "aaaaaaa", "2 3 4"},
		{"a1", "aaaa", ""}, {"a1", "aaaaa", "2"}, {"a1", "aaaaaa", "2 3"},
		// 1, 2 and 3 letters from both ends
		{"1x", "axaaaa", ""}, {"1x", "aaxaaa", "2"}, {"1x", "aaaxaa", "3"}, {"1x", "aaaaxa", ""}, {"1x", "aaaaax", ""}, {"1x", "xaaaaa", ""}, {"x1", "xaaaaa", ""}, {"x1", "axaaaa", "2"}, {"x1", "aaxaaa", "3"}, {"x1", "aaaxaa", ""}, {"x1", "aaaaax", ""},
		// odd, even and greater digits
		{"1x", "aaxaa", "2"}, {"2x", "aaxaa", ""}, {"3x", "aaxaa", "2"}, {"4x", "aaxaa", ""}, {"5x", "aaxaa", "2"}, {"6x", "aaxaa", ""}, {"7x", "aaxaa", "2"}, {"8x", "aaxaa", ""}, {"9x", "aaxaa", "2"},
		{"1x a2x", "aaxaa", ""}, {"2x a1x", "aaxaa", ""}, {"2x a3x", "aaxaa", "2"}, {"3x a2x", "aaxaa", "2"}, {"1x a1x", "aaxaa", "2"}, {"1x aa2xa aa3x", "aaxaa", "2"}, {"1x 2x", "aaxaa", ""}, {"2x 3x", "aaxaa", "2"}, {"1x 2x 3x 4x", "aaxaa", ""}, {"8xa 9x", "aaxaa", "2"}, {"8x 9xa", "aaxaa", "2"}, {"2xb 3xa", "aaxaa", "2"}, {"2xa 3xb", "aaxaa", ""}, {"1x a2", "aaxaa", ""}, {"2x a1", "aaxaa", ""}, {"2x a3", "aaxaa", "2"},
		{"1x 1x2", "aaxaa", "2"}, {"1x 1x1", "aaxaaa", "2 3"}, {"1x 1x3 x2", "aaxaaa", "2 3"}, {"1x x2 x3", "aaxaaa", "2 3"}, {"1x1 2x", "aaxaaa", "3"}, {"2x 1x1", "aaxaaa", ""},
		// . at either end
		{".aa1", "aaaaaa", "2"}, {".aaa1", "aaaaaa", "3"}, {".a1", "aaaaaa", ""}, {"1aaa.", "aaaaaa", "3"}, {"1aaaa.", "aaaaaa", "2"}, {"1aa.", "aaaaaa", ""}, {".aa1aaaa.", "aaaaaa", "2"}, {".aa1aaa.", "aaaaaa", ""}, {".aa1aaaaa.", "aaaaaa", ""}, {".1", "aaaaaa", ""}, {"1.", "aaaaaa", ""}, {"1.1", "aaaaaa", ""}, {"..1", "aaaaaa", ""}, {"1.aa", "aaaaaa", ""}, {"aa.1", "aaaaaa", ""}, {".ba1", "aabaaa", ""}, {"1ba.", "aabaaa", ""}, {"1baaa.", "aabaaa", "2"}, {".1", "", ""}, {".1.", "", ""}, {".a1.", "a", ""},
		{".aa1 1a", "aaaaaaa", "2 3 4"}, {".aa2 1a", "aaaaaaa", "3 4"}, {"1a 2aaa.", "aaaaaaa", "2 3"},
		// patterns that overlap themselves
		{"a1a", "aaaaaa", "2 3"}, {"aa1a", "aaaaaa", "2 3"}, {"aa1aa", "aaaaaa", "2 3"}, {"aaa1aa", "aaaaaa", "3"}, {"aaa1aaa", "aaaaaa", "3"}, {"aaaa1aaa", "aaaaaa", ""}, {"a1a2a", "aaaaaaa", ""}, {"a2a1a", "aaaaaaa", ""}, {"a3a2a", "aaaaaaa", "2 3 4"}, {"ab1ab", "ababababa", "2 4 6"}, {"ab1ab2ab", "ababababab", "2"}, {"ab3ab2ab", "ababababab", "2 4 6"},
		// longer than the word, as long as it
		{"aaaaaa1", "aaaaa", ""}, {"aa1aaa", "aaaaa", "2"}, {".aa1aaa.", "aaaaa", "2"}, {"aa1aaaa", "aaaaa", ""}, {"aaaaaaaaaaaaaaaaaa1aa", "aaaaa", ""}, {"aa1aaaaaaaaaaaaaaaaaa", "aaaaaaaaaaaaaaaaaaaa", "2"}, {"aa1aaaaaaaaaaaaaaaaaa", "aaaaaaaaaaaaaaaaaaa", ""},
		// others
		{"a1b b1c", "aabcabcaa", "2 3 5 6"}, {"1b 1c", "abcabcabc", "2 4 5"}, {"z1z", "zzzzzz", "2 3"}, {"1x", "aaaaaa", ""}, {"a1b", "bbbbaaaa", ""}, {"b1a", "bbbbaaaa", "4"}, {"1h hy1p", "hyphenation", "2 3"}, {".hy1p 1h1e 1t", "hyphenation", "2 3 4 7"}, {"1i 1o 2io e1n", "hyphenation", "5"},
	} {
		areHyphens(t, strings.Fields(row.patterns), row.word, numbersIn(row.want))
		if got := hyphensPlainly(strings.Fields(row.patterns), row.word); !slices.Equal(got, numbersIn(row.want)) {
			t.Errorf("read plainly, %q by %q: %d, want %s", row.word, row.patterns, got, row.want)
		}
	}
}

func TestHyphensOfWrongInputs(t *testing.T) {
	patterns := []string{"1a", "1b", "1z"}
	for _, word := range []string{"aaaaaaA", "Aaaaaaa", "aaa aaa", "aaa-aaa", "aaa.aaa", ".aaaaaa", "aaaaaa.", ".", "..", "aaa1aaa", "aaa\u00ADaaa", "aaa\u1000aaa", "aaa\xFFaaa", "\xFF", "aaaaaa\n", "aaa`aaa", "aaa{aaa", "aaa\u0220aaa", "aaaaaa\x00", "\u6000", "aaa@aaa"} {
		areHyphens(t, patterns, word, nil)
	}
	for _, wrong := range [][]string{{"1b", "1a"}, {"1a", "1a"}, {""}, {"a"}, {"1a", "b"}, {"a11"}, {"0a"}, {"1A"}, {"1a.b"}, slices.Repeat([]string{"1a"}, 1001)} {
		areHyphens(t, wrong, "aaaaaa", nil)
	}
}

func TestAllShortHyphens(t *testing.T) {
	var patterns []string
	eachRow([]string{"a", "b", ".", "1", "2"}, 4, func(text string) {
		if isRightPatternPlainly(text) {
			patterns = append(patterns, text)
		}
	})
	some := 0
	eachRow([]string{"a", "b"}, 6, func(word string) {
		for _, pattern := range patterns {
			want := hyphensPlainly([]string{pattern}, word)
			areHyphens(t, []string{pattern}, word, want)
			some += len(want)
		}
	})
	if len(patterns) < 100 || some < 1000 {
		t.Errorf("%d patterns, %d places", len(patterns), some)
	}
}

// randomPatterns are right ones, rising.
func randomPatterns(r *rand.Rand, letters string, count int) (patterns []string) {
	for range count {
		size := 1 + r.Intn(4)
		pattern := ""
		for i := range size {
			if r.Intn(2) == 0 {
				pattern += strconv.Itoa(1 + r.Intn(5))
			}
			if (i == 0 || i == size-1) && r.Intn(8) == 0 {
				pattern += "."
			} else {
				pattern += letters[r.Intn(len(letters)):][:1]
			}
		}
		if r.Intn(3) == 0 {
			pattern += strconv.Itoa(1 + r.Intn(5))
		}
		if isRightPatternPlainly(pattern) {
			patterns = append(patterns, pattern)
		}
	}
	slices.Sort(patterns)
	return slices.Compact(patterns)
}

func randomWord(r *rand.Rand, letters string, most int) (word string) {
	for range r.Intn(most + 1) {
		word += letters[r.Intn(len(letters)):][:1]
	}
	return word
}

func TestHyphensPlainly(t *testing.T) {
	r := rand.New(rand.NewSource(222))
	some := 0
	for range 4000 {
		patterns, word := randomPatterns(r, "abc", r.Intn(8)), randomWord(r, "abc", 14)
		want := hyphensPlainly(patterns, word)
		areHyphens(t, patterns, word, want)
		if len(want) > 0 {
			some++
		}
	}
	if some < 800 {
		t.Errorf("only %d words have hyphens", some)
	}
	for range 100 {
		patterns := randomPatterns(r, "abcdefghijklmnopqrstuvwxyz", 1000)
		word := randomWord(r, "abcdefghijklmnopqrstuvwxyz", 200)
		areHyphens(t, patterns, word, hyphensPlainly(patterns, word))
	}
}

func TestSizesOfHyphens(t *testing.T) {
	all := func(count int) (places []int64) {
		for place := int64(2); place <= int64(count)-3; place++ {
			places = append(places, place)
		}
		return places
	}
	for _, count := range []int{1000, 1001, 65535, 65536} {
		if got := impl.HyphensOf([]string{"1a"}, strings.Repeat("a", count)); !slices.Equal(got, all(count)) {
			t.Errorf("%d letters: got %d places", count, len(got))
		}
	}
	for _, count := range []int{65537, 1 << 20} {
		areHyphens(t, []string{"1a"}, strings.Repeat("a", count), nil)
	}
	// Patterns of all lengths at all places of the longest word.
	var patterns []string
	for size := range 20 {
		patterns = append(patterns, strings.Repeat("a", size)+"1a")
	}
	slices.Sort(patterns)
	if got := impl.HyphensOf(patterns, strings.Repeat("a", 65536)); !slices.Equal(got, all(65536)) {
		t.Errorf("patterns of all lengths: got %d places", len(got))
	}
}

func isStyle(t *testing.T, s impl.Style, right bool) {
	t.Helper()
	want := int64(impl.ErrForm)
	if right {
		want = impl.OK
	}
	if got := impl.StyleFault(s); got != want {
		t.Errorf("StyleFault of %+.200v: got %d, want %d", s, got, want)
	}
	for _, text := range []string{"", "a"} {
		got := impl.BreakParagraph(s, text)
		if got.Code != want || (len(got.Lines) > 0) != (right && text != "") || !right && got.Cost != 0 {
			t.Errorf("BreakParagraph of %q by %+.200v: got %+v, want the code %d", text, s, got, want)
		}
	}
}

func TestStyles(t *testing.T) {
	numbers := []int64{math.MinInt64, math.MinInt64 + 1, -1 << 32, -1000001, -201, -1, 0, 1, 2, 100, 199, 200, 201, 202, 999999, 1000000, 1000001, 1 << 32, 1<<32 + 1, 1<<32 + 100, math.MaxInt64 - 1, math.MaxInt64}
	for _, width := range numbers {
		for _, least := range numbers {
			for _, hyphen := range numbers {
				right := width >= 1 && width <= 200 && least >= 0 && least <= width && hyphen >= 0 && hyphen <= 1000000
				isStyle(t, impl.Style{Width: width, Least: least, Hyphen: hyphen}, right)
			}
		}
	}
	for width := int64(1); width <= 200; width++ {
		for _, least := range []int64{-1, 0, width, width + 1} {
			isStyle(t, impl.Style{Width: width, Least: least, Hyphen: 3}, least >= 0 && least <= width)
		}
	}
	isStyle(t, impl.Style{}, false)
	for _, patterns := range [][]string{{""}, {"b1", "a1"}, {"a1", "a1"}, {"a"}, {"a1", "B1"}, slices.Repeat([]string{"a1"}, 1001)} {
		for _, hyphen := range []int64{0, 1} {
			isStyle(t, impl.Style{Width: 5, Hyphen: hyphen, Patterns: patterns}, false)
		}
	}
	isStyle(t, impl.Style{Width: 5, Patterns: []string{"a1", "b1"}}, true)
}

// plainParaCut is a place at which a text may be cut.
type plainParaCut struct {
	at       int64
	must     bool
	isHyphen bool
}

func paraCutsPlainly(s impl.Style, text string) (cuts []plainParaCut) {
	for _, cut := range impl.LineCuts(text) {
		cuts = append(cuts, plainParaCut{at: cut.At, must: cut.Must})
	}
	if s.Hyphen == 0 {
		return cuts
	}
	for _, row := range regexp.MustCompile("[a-z]+").FindAllStringIndex(text, -1) {
		for _, place := range hyphensPlainly(s.Patterns, text[row[0]:row[1]]) {
			cuts = append(cuts, plainParaCut{at: int64(row[0]) + place, isHyphen: true})
		}
	}
	slices.SortFunc(cuts, func(a plainParaCut, b plainParaCut) int { return int(a.at - b.at) })
	return cuts
}

// lineTailless goes by points written whole: broken bytes at the end are none of these.
func lineTailless(piece string) string {
	for {
		shorter := piece
		for _, tail := range []string{" ", "\n", "\r", "\u00A0", "\u1F80"} {
			shorter = strings.TrimSuffix(shorter, tail)
		}
		if shorter == piece {
			return piece
		}
		piece = shorter
	}
}

func linePlainly(s impl.Style, text string, from plainParaCut, to plainParaCut) impl.ParaLine {
	line := lineTailless(text[from.at:to.at])
	put := to.isHyphen
	if strings.HasSuffix(line, "\u00AD") && to.at < int64(len(text)) {
		line, put = strings.TrimSuffix(line, "\u00AD"), true
	}
	if put {
		line += "-"
	}
	wide, cost := impl.WideOf(line), int64(0)
	switch isEnd := to.must || to.at == int64(len(text)); {
	case wide > s.Width:
		cost = 1000000 * (wide - s.Width)
	case !isEnd:
		cost = (s.Width - wide) * (s.Width - wide)
	case wide < s.Least:
		cost = (s.Least - wide) * (s.Least - wide)
	}
	if put {
		cost += s.Hyphen
	}
	return impl.ParaLine{Text: line, Wide: wide, Cost: cost}
}

// eachWayOfLines hands on all ways to cut a text, those with a longer first line first, and so on, so that of several
// that cost the same the first one is told.
func eachWayOfLines(s impl.Style, text string, cuts []plainParaCut) iter.Seq[impl.Paragraph] {
	return func(yield func(impl.Paragraph) bool) {
		if len(cuts) < 2 {
			yield(impl.Paragraph{})
			return
		}
		most := 1 + slices.IndexFunc(cuts[1:], func(cut plainParaCut) bool { return cut.must })
		for to := most; to > 0; to-- {
			line := linePlainly(s, text, cuts[0], cuts[to])
			for rest := range eachWayOfLines(s, text, cuts[to:]) {
				whole := impl.Paragraph{Lines: append([]impl.ParaLine{line}, rest.Lines...), Cost: line.Cost + rest.Cost}
				if !yield(whole) {
					return
				}
			}
		}
	}
}

// paragraphOfAllWays tries all ways, paragraphPlainly the best ways of what is left alone.
func paragraphOfAllWays(s impl.Style, text string) (best impl.Paragraph) {
	some := false
	for way := range eachWayOfLines(s, text, paraCutsPlainly(s, text)) {
		if !some || way.Cost < best.Cost {
			best, some = way, true
		}
	}
	return best
}

func paragraphPlainly(s impl.Style, text string) impl.Paragraph {
	cuts := paraCutsPlainly(s, text)
	bests := make([]impl.Paragraph, len(cuts)+1)
	for from := len(cuts) - 2; from >= 0; from-- {
		most := from + 1 + slices.IndexFunc(cuts[from+1:], func(cut plainParaCut) bool { return cut.must })
		for to := most; to > from; to-- {
			line := linePlainly(s, text, cuts[from], cuts[to])
			if cost := line.Cost + bests[to].Cost; to == most || cost < bests[from].Cost {
				bests[from] = impl.Paragraph{Lines: append([]impl.ParaLine{line}, bests[to].Lines...), Cost: cost}
			}
		}
	}
	return bests[0]
}

func sameParagraph(a impl.Paragraph, b impl.Paragraph) bool {
	return a.Code == b.Code && a.Cost == b.Cost && slices.Equal(a.Lines, b.Lines)
}

func paragraphTold(p impl.Paragraph) string {
	return fmt.Sprintf("%.900s", fmt.Sprintf("%+q", fmt.Sprintf("%.3000s", fmt.Sprintf("%+v", p))))
}

// isParagraph asks, too, for what P53 says of all lines.
func isParagraph(t *testing.T, s impl.Style, text string, want impl.Paragraph) {
	t.Helper()
	got := impl.BreakParagraph(s, text)
	if !sameParagraph(got, want) {
		t.Errorf("BreakParagraph of %+.100q by %+.200v: got %s, want %s", text, s, paragraphTold(got), paragraphTold(want))
	}
	if got.Code != impl.OK {
		return
	}
	told, cost := "", int64(0)
	for _, line := range got.Lines {
		told, cost = told+line.Text, cost+line.Cost
		if line.Wide != impl.WideOf(line.Text) {
			t.Errorf("BreakParagraph of %+.100q by %+.200v: a line of %d, as if %d wide", text, s, impl.WideOf(line.Text), line.Wide)
		}
		if lineTailless(line.Text) != line.Text || strings.ContainsAny(line.Text, "\r\n") {
			t.Errorf("BreakParagraph of %+.100q by %+.200v: a line %+q", text, s, line.Text)
		}
	}
	bare := strings.NewReplacer(" ", "", "\n", "", "\r", "", "\u00A0", "", "\u1F80", "", "\u00AD", "", "-", "")
	if bare.Replace(told) != bare.Replace(text) || cost != got.Cost || (len(got.Lines) == 0) != (text == "") {
		t.Errorf("BreakParagraph of %+.100q by %+.200v: not that text, or not that cost: %s", text, s, paragraphTold(got))
	}
}

// styleFrom reads Width, Least, Hyphen and the patterns.
func styleFrom(row string) impl.Style {
	words := strings.Fields(row)
	return impl.Style{Width: numberFrom(words[0]), Least: numberFrom(words[1]), Hyphen: numberFrom(words[2]), Patterns: words[3:]}
}

// paragraphFrom has the lines with a / between, each with its Cost behind a =.
func paragraphFrom(row string) (p impl.Paragraph) {
	for word := range strings.SplitSeq(row, "/") {
		if row == "" {
			break
		}
		at := strings.LastIndex(word, "=")
		line := impl.ParaLine{Text: word[:at], Wide: widePlainly(word[:at]), Cost: numberFrom(word[at+1:])}
		p.Lines, p.Cost = append(p.Lines, line), p.Cost+line.Cost
	}
	return p
}

func TestParagraphsByHand(t *testing.T) {
	for _, row := range []struct{ style, text, want string }{
		{"5 0 0", "", ""}, {"5 5 9 1a", "", ""},
		// one line
		{"5 0 0", "a", "a=0"}, {"5 0 0", "abcd", "abcd=0"}, {"5 0 0", "abcde", "abcde=0"}, {"5 0 0", "abcdef", "abcdef=1000000"}, {"5 0 0", "abcdefgh", "abcdefgh=3000000"}, {"5 0 0", "\u6000\u6001a", "\u6000\u6001a=0"}, {"1 0 0", "\u6000", "\u6000=1000000"}, {"200 0 0", strings.Repeat("a", 200), strings.Repeat("a", 200) + "=0"}, {"200 0 0", strings.Repeat("a", 201), strings.Repeat("a", 201) + "=1000000"},
		{"5 0 0", "ab cd", "ab cd=0"}, {"5 0 0", "abc de", "abc=4/de=0"}, {"6 0 0", "abc de", "abc de=0"}, {"5 0 0", "a\xFFb cd", "a\xFFb=4/cd=0"},
		// several lines
		{"5 0 0", "aa bb cc", "aa bb=0/cc=0"}, {"5 0 0", "aa bb cc dd", "aa bb=0/cc dd=0"}, {"3 0 0", "a b c", "a b=0/c=0"}, {"4 0 0", "a b c", "a b=1/c=0"}, {"4 0 0", "a b cccc", "a b=1/cccc=0"}, {"6 0 0", "aaa bb cc ddddd", "aaa=9/bb cc=1/ddddd=0"}, {"1 0 0", "a b c", "a=0/b=0/c=0"}, {"1 0 0", "aa b", "aa=1000000/b=0"}, {"4 0 0", "\u6000\u6001\u6002", "\u6000\u6001=0/\u6002=0"}, {"3 0 0", "\u6000\u6001\u6002", "\u6000=1/\u6001=1/\u6002=0"},
		{"3 0 0", "\u6000a\u6001", "\u6000a=0/\u6001=0"}, {"3 0 0", "a-b c", "a-b=0/c=0"}, {"2 0 0", "a-bb", "a-=0/bb=0"}, {"2 0 7", "a-bb", "a-=0/bb=0"}, {"3 0 0", "(ab) c", "(ab)=1000000/c=0"}, {"5 0 0", "aaaaaaa bb", "aaaaaaa=2000000/bb=0"}, {"5 0 0", "bb aaaaaaa", "bb=9/aaaaaaa=2000000"},
		// two ways that cost the same
		{"5 0 0", "aa b aa ccccc", "aa b=1/aa=9/ccccc=0"}, {"5 4 0", "aa bb c", "aa bb=0/c=9"}, {"5 5 0", "aa bb c", "aa=9/bb c=1"}, {"2 0 1000000 b1c", "abcde", "abcde=3000000"}, {"2 0 999999 b1c", "abcde", "ab-=1999999/cde=1000000"}, {"1 0 0", "\u00ADaa", "\u00ADaa=1000000"}, {"6 0 0", "a bb a bb aaaaaa", "a bb=4/a bb=4/aaaaaa=0"},
		// ends of lines
		{"5 0 0", "a\nb", "a=0/b=0"}, {"5 0 0", "a\rb", "a=0/b=0"}, {"5 0 0", "a\r\nb", "a=0/b=0"}, {"5 0 0", "a\n\rb", "a=0/=0/b=0"}, {"5 0 0", "a\n\nb", "a=0/=0/b=0"}, {"5 0 0", "a\r\rb", "a=0/=0/b=0"}, {"5 0 0", "a\n", "a=0"}, {"5 0 0", "a\r", "a=0"}, {"5 0 0", "a\r\n", "a=0"}, {"5 0 0", "a\n\n", "a=0/=0"}, {"5 0 0", "\n", "=0"}, {"5 0 0", "\r\n", "=0"}, {"5 0 0", "\r\r\n\n", "=0/=0/=0"}, {"5 0 0", "\na", "=0/a=0"}, {"5 3 0", "\n\na", "=9/=9/a=4"},
		{"5 0 0", "aa bb\ncc", "aa bb=0/cc=0"}, {"5 0 0", "aa b\ncc", "aa b=0/cc=0"}, {"4 0 0", "aa bb\ncc", "aa=4/bb=0/cc=0"}, {"1 0 0", "aa\nbbb", "aa=1000000/bbb=2000000"}, {"5 0 0", "a\nb\nc\nd", "a=0/b=0/c=0/d=0"},
		// spaces at the end
		{"5 0 0", "aa ", "aa=0"}, {"5 0 0", "aa   ", "aa=0"}, {"2 0 0", "aa   ", "aa=0"}, {"5 0 0", "aa\u00A0", "aa=0"}, {"5 0 0", "aa\u1F80", "aa=0"}, {"2 0 0", "aa\u1F80 \u1F80", "aa=0"}, {"5 0 0", "aa \n", "aa=0"}, {"5 0 0", "aa\u00A0\n", "aa=0"}, {"5 0 0", "aa\u1F80 \r\nb", "aa=0/b=0"}, {"5 0 0", "aa \u00A0\rb", "aa=0/b=0"}, {"2 0 0", "aa bb", "aa=0/bb=0"}, {"2 0 0", "aa   bb", "aa=0/bb=0"}, {"2 0 0", "aa\u1F80bb", "aa=0/bb=0"}, {"2 0 0", "aa \u1F80 bb", "aa=0/bb=0"}, {"2 0 0", "aa\u00A0bb", "aa\u00A0bb=3000000"}, {"2 0 0", "aa\u1F11bb", "aa\u1F11bb=2000000"},
		{"5 0 0", " ", "=0"}, {"5 2 0", "   ", "=4"}, {"5 0 0", "\u00A0", "=0"}, {"5 0 0", " \n ", "=0/=0"}, {"5 0 0", " a", " a=0"}, {"1 0 0", " a", "=1/a=0"}, {"2 0 0", "  a", "=4/a=0"}, {"5 0 0", "b\n a", "b=0/ a=0"}, {"5 0 0", "aa \u1000", "aa \u1000=0"}, {"5 0 0", "aa\u1F12", "aa\u1F12=0"}, {"5 0 0", "aa\u1F12 ", "aa\u1F12=0"}, {"2 0 0", "aa\u1F12bb", "aa\u1F12=0/bb=0"}, {"5 0 0", "a\t", "a\t=0"}, {"5 0 0", "a\x00 ", "a\x00=0"},
		{"1 0 0", "ab \u00A0", "ab=1000000"}, {"1 1 0", "ab \u00A0", "ab=1000000"}, {"2 0 0", "ab \u00A0cd", "ab=0/\u00A0cd=1000000"},
		// soft hyphens
		{"6 0 7", "aaa\u00ADbbb", "aaa\u00ADbbb=0"}, {"4 0 7", "aaa\u00ADbbb", "aaa-=7/bbb=0"}, {"5 0 7", "aaa\u00ADbbb", "aaa-=8/bbb=0"}, {"3 0 7", "aaa\u00ADbbb", "aaa-=1000007/bbb=0"}, {"4 0 0", "aaa\u00ADbbb", "aaa-=0/bbb=0"}, {"4 0 1000000", "aaa\u00ADbbb", "aaa-=1000000/bbb=0"}, {"5 0 1000000", "aaa\u00ADbbb", "aaa\u00ADbbb=1000000"}, {"5 0 999999", "aaa\u00ADbbb", "aaa\u00ADbbb=1000000"}, {"5 0 999998", "aaa\u00ADbbb", "aaa-=999999/bbb=0"},
		{"5 0 7", "aaa\u00AD", "aaa\u00AD=0"}, {"3 0 7", "aaa\u00AD", "aaa\u00AD=0"}, {"5 0 7", "aaa\u00AD ", "aaa\u00AD=0"}, {"5 0 7", "aaa\u00AD\n", "aaa\u00AD=0"}, {"5 0 7", "aaa\u00AD \u00A0\r\n", "aaa\u00AD=0"}, {"5 0 7", "\u00AD", "\u00AD=0"}, {"5 0 7", "\u00AD\n\u00AD", "-=7/\u00AD=0"}, {"4 0 7", "aaa\u00AD bbb", "aaa-=7/bbb=0"}, {"4 0 7", "aaa\u00AD   bbb", "aaa-=7/bbb=0"}, {"4 0 7", "aaa\u00AD\u1F80bbb", "aaa-=7/bbb=0"}, {"7 0 7", "aaa\u00AD bbb", "aaa\u00AD bbb=0"}, {"5 0 7", "aaa\u00AD\nbbb", "aaa-=7/bbb=0"}, {"5 0 7", "aaa\u00AD \r\nbbb", "aaa-=7/bbb=0"}, {"5 5 7", "aa\u00AD\nbbb", "aa-=11/bbb=4"}, {"3 0 7", "aaa\u00AD\nbbb", "aaa-=1000007/bbb=0"},
		{"2 0 7", "a\u00AD\u00ADb", "a\u00AD\u00ADb=0"}, {"2 0 7", "a\u00AD\u00ADbb", "a\u00AD-=7/bb=0"}, {"3 0 0", "aaa\u00AD1", "aaa\u00AD1=1000000"}, {"3 0 0", "aaa\u00AD\u1000bbb", "aaa\u00AD\u1000=0/bbb=0"}, {"3 0 7", "aaa-\u00ADbb", "aaa--=2000007/bb=0"}, {"4 0 7", "a\u00ADa\u00ADa bb\u00ADb", "a\u00ADa\u00ADa=1/bb\u00ADb=0"}, {"3 0 7", "a\u00ADb\u00ADc\u00ADd", "a\u00ADb-=7/c\u00ADd=0"}, {"2 0 7", "\u6000\u00AD\u6001", "\u6000-=1000007/\u6001=0"},
		// A - makes a line too wide, and what follows does not
		{"5 0 0", "abcde\u00AD\x01\x01 x", "abcde\u00AD\x01\x01=0/x=0"}, {"5 0 9", "abcde\u00AD\x01\u00AD\x02 x", "abcde\u00AD\x01\u00AD\x02=0/x=0"}, {"3 0 0", "abc\u00AD\u1F01 d", "abc\u00AD\u1F01=0/d=0"}, {"1 0 5 1a", "aaaaa", "aaaaa=4000000"}, {"1 0 1 1a", "aaaaaaaa", "aaaaaaaa=7000000"},
		// hyphens
		{"3 0 5 b1c", "abcde", "ab-=5/cde=0"}, {"3 0 0 b1c", "abcde", "abcde=2000000"}, {"4 0 5 b1c", "abcde", "ab-=6/cde=0"}, {"5 0 5 b1c", "abcde", "abcde=0"}, {"3 0 5", "abcde", "abcde=2000000"}, {"3 0 5 1b", "abcde", "abcde=2000000"}, {"3 0 5 c1d", "abcde", "abcde=2000000"}, {"3 0 5 b2c", "abcde", "abcde=2000000"}, {"4 0 5 c1d", "abcdef", "abc-=5/def=0"}, {"3 0 1000000 b1c", "abcde", "ab-=1000000/cde=0"},
		{"4 0 5 b1c", "Xabcde", "Xab-=5/cde=0"}, {"4 0 5 b1c", "1abcde", "1ab-=5/cde=0"}, {"4 0 5 b1c", "abcde\u0220", "ab-=6/cde\u0220=0"}, {"4 0 5 b1c", "abcdeX", "ab-=6/cdeX=0"}, {"4 0 5 b1c", "\u0220abcde\u0220", "\u0220ab-=5/cde\u0220=0"}, {"4 0 5 b1c", "abXcde", "abXcde=2000000"}, {"4 0 5 b1c", "abc\u1000de", "abc\u1000de=1000000"}, {"3 0 5 b1c", "abcde\u1000", "ab-=5/cde\u1000=0"}, {"3 0 5 b1c", "ab\u1000cde", "ab\u1000cde=2000000"}, {"3 0 5 .ab1 b1c", "xxabcde", "xxab-=2000005/cde=0"}, {"3 0 5 .ab1", "xxabcde", "xxabcde=4000000"}, {"5 0 5 .ab1", "Xabcde", "Xab-=6/cde=0"}, {"4 0 5 b1cde.", "abcdeX", "ab-=6/cdeX=0"}, {"3 0 5 b1c", "abcde abcde", "ab-=5/cde=0/ab-=5/cde=0"}, {"6 0 5 b1c", "abcde abcde", "abcde=1/abcde=0"}, {"9 0 5 b1c", "abcde abcde", "abcde ab-=5/cde=0"}, {"3 0 5 b1c", "abcde\nabcde", "ab-=5/cde=0/ab-=5/cde=0"}, {"3 0 5 b1c", "'abcde'", "'ab-=1000005/cde'=1000000"},
		{"4 0 5 1a", "aaaaaaaa", "aaa-=5/aa-=6/aaa=0"}, {"5 0 5 1a", "aaaaaaaa", "aaaa-=5/aaaa=0"}, {"3 0 5 b1c", "abc\u00ADde", "abc-=1000005/de=0"}, {"3 0 5 b1c", "abcde-abcde", "ab-=5/cde-=1000000/ab-=5/cde=0"}, {"3 0 5 b1c", "ABCDE", "ABCDE=2000000"}, {"4 0 5 b1c", "\u6000abcde", "\u6000=4/ab-=6/cde=0"}, {"4 4 5 b1c", "abcde", "ab-=6/cde=1"}, {"5 5 5 b1c", "abcde", "abcde=0"},
		// Least
		{"5 0 0", "aa", "aa=0"}, {"5 1 0", "aa", "aa=0"}, {"5 2 0", "aa", "aa=0"}, {"5 3 0", "aa", "aa=1"}, {"5 5 0", "aa", "aa=9"}, {"5 3 0", "aa\nbbb", "aa=1/bbb=0"}, {"5 3 0", "bbb\naa", "bbb=0/aa=1"}, {"5 3 0", "aaaaa b", "aaaaa=0/b=4"}, {"5 5 0", "aaaaaa", "aaaaaa=1000000"}, {"5 5 0", "a\r\nb\rc\nd", "a=16/b=16/c=16/d=16"}, {"200 200 0", "a", "a=39601"}, {"9 9 0", "aaaa bbbb c dd", "aaaa bbbb=0/c dd=25"},
	} {
		s, want := styleFrom(row.style), paragraphFrom(row.want)
		isParagraph(t, s, row.text, want)
		if plain := paragraphOfAllWays(s, row.text); !sameParagraph(plain, want) {
			t.Errorf("read plainly, %+q by %s: %s, want %+q", row.text, row.style, paragraphTold(plain), row.want)
		}
	}
}

// paraAlphabet has letters that rows of a to z are made of, and a point of each kind that lines ask for.
func paraAlphabet() []int64 {
	return []int64{'a', 'b', 'a', 'b', 'a', 'b', ' ', ' ', 0xAD, '-', '\n', '\r', 0xA0, 0x1F80, 0x6000, 0x1000, 0x01, 'A', '1', '"', 0x1F12, 0x1F01}
}

func randomStyle(r *rand.Rand, letters string) impl.Style {
	width := 1 + r.Int63n(9)
	if r.Intn(5) == 0 {
		width = 1 + r.Int63n(3)
	}
	s := impl.Style{Width: width, Least: r.Int63n(width + 1), Hyphen: []int64{0, 1, 2, 5, 30, 999999, 1000000}[r.Intn(7)]}
	if r.Intn(2) == 0 {
		s.Least = 0
	}
	if r.Intn(4) > 0 {
		s.Patterns = randomPatterns(r, letters, 1+r.Intn(5))
	}
	return s
}

func TestParagraphsOfAllWays(t *testing.T) {
	r := rand.New(rand.NewSource(223))
	puts, wides, several := 0, 0, 0
	for range 12000 {
		s := randomStyle(r, "ab")
		text := randomNormText(r, paraAlphabet(), 11)
		if r.Intn(10) == 0 {
			text = cutBytes(r, text)
		}
		if r.Intn(3) == 0 {
			text += randomWord(r, "ab", 6)
		}
		want := paragraphOfAllWays(s, text)
		isParagraph(t, s, text, want)
		if plain := paragraphPlainly(s, text); !sameParagraph(plain, want) {
			t.Fatalf("both plain readings of %+q by %+v: %s and %s", text, s, paragraphTold(plain), paragraphTold(want))
		}
		if len(want.Lines) > 2 {
			several++
		}
		for _, line := range want.Lines {
			if strings.HasSuffix(line.Text, "-") && !strings.Contains(text, "-") {
				puts++
			}
			if line.Wide > s.Width {
				wides++
			}
		}
	}
	if puts < 400 || wides < 1000 || several < 2000 {
		t.Errorf("%d put hyphens, %d lines too wide, %d of three lines or more", puts, wides, several)
	}
}

func TestAllShortParagraphs(t *testing.T) {
	styles := []impl.Style{styleFrom("1 0 0"), styleFrom("1 1 1"), styleFrom("2 0 3"), styleFrom("2 2 1000000"), styleFrom("3 2 0"), styleFrom("4 3 2")}
	eachRow([]string{"a", " ", "\u00AD", "\n", "\u6000", "\x01"}, 5, func(text string) {
		for _, s := range styles {
			isParagraph(t, s, text, paragraphPlainly(s, text))
		}
	})
	styles = []impl.Style{styleFrom("1 0 1 1a"), styleFrom("2 0 1000000 1a"), styleFrom("3 2 4 1a b1"), styleFrom("3 0 0 1a"), styleFrom("4 4 9 2a a1b")}
	eachRow([]string{"a", "b", " "}, 7, func(text string) {
		for _, s := range styles {
			isParagraph(t, s, text, paragraphPlainly(s, text))
		}
	})
}

func TestParagraphsOfTexts(t *testing.T) {
	r := rand.New(rand.NewSource(224))
	eachRandomText(225, 500, paraAlphabet(), func(text string) {
		s := randomStyle(r, "ab")
		isParagraph(t, s, text, paragraphPlainly(s, text))
	})
	for range 150 {
		words := []string{}
		for range r.Intn(30) {
			words = append(words, randomWord(r, "abc", 9))
		}
		text := strings.Join(words, []string{" ", " ", "  ", "\n", "-"}[r.Intn(5)])
		s := impl.Style{Width: 1 + r.Int63n(40), Hyphen: r.Int63n(200), Patterns: randomPatterns(r, "abc", 6)}
		s.Least = r.Int63n(s.Width + 1)
		isParagraph(t, s, text, paragraphPlainly(s, text))
	}
}

func TestParagraphsOfAllPoints(t *testing.T) {
	styles := []impl.Style{styleFrom("2 0 3"), styleFrom("1 1 3")}
	for p := int64(0); p <= impl.LastKnown; p++ {
		if p > 0x2100 && p < 0x7FF0 && p%61 > 0 {
			continue
		}
		for _, row := range [][]int64{{'a', p}, {'a', p, 'b'}, {'a', ' ', p, ' ', 'b'}, {'a', 0xAD, p}} {
			for _, s := range styles {
				isParagraph(t, s, textWritten(row...), paragraphPlainly(s, textWritten(row...)))
			}
		}
	}
}

// hasLines asks of texts that the plain reading takes too long for.
func hasLines(t *testing.T, what string, s impl.Style, text string, lines int, cost int64) {
	t.Helper()
	got := impl.BreakParagraph(s, text)
	if got.Code != impl.OK || len(got.Lines) != lines || got.Cost != cost {
		t.Errorf("BreakParagraph of %s by %+.60v: got the code %d, %d lines of %d, want %d lines of %d", what, s, got.Code, len(got.Lines), got.Cost, lines, cost)
	}
	isParagraph(t, s, text, got)
}

func TestSizesOfParagraphs(t *testing.T) {
	s := styleFrom("9 0 1 1a")
	for _, row := range []struct {
		what, text string
		lines      int // by a right style; -1 of what is refused
		cost       int64
		wrongCode  int64 // by a wrong style
	}{
		{"no points", "", 0, 0, impl.ErrForm},
		{"999 points", strings.Repeat("a", 999), 125, 124, impl.ErrForm},
		{"1000 points", strings.Repeat("a", 1000), 125, 124, impl.ErrForm},
		{"1001 points", strings.Repeat("a", 1001), -1, 0, impl.ErrForm},
		{"1000 points of four bytes", strings.Repeat("\U00010000", 1000), 1, 991000000, impl.ErrForm},
		{"1001 points of four bytes", strings.Repeat("\U00010000", 1001), -1, 0, impl.ErrForm},
		{"1000 marks", strings.Repeat("\u1000", 1000), 1, 0, impl.ErrForm},
		{"1001 marks", strings.Repeat("\u1000", 1001), -1, 0, impl.ErrForm},
		{"1000 broken bytes", strings.Repeat("\xFF", 1000), 1, 991000000, impl.ErrForm},
		{"1001 broken bytes", strings.Repeat("\xFF", 1001), -1, 0, impl.ErrForm},
		{"1000 ends of lines", strings.Repeat("\n", 1000), 1000, 0, impl.ErrForm},
		{"1001 ends of lines", strings.Repeat("\n", 1001), -1, 0, impl.ErrForm},
		{"1000 blanks", strings.Repeat(" ", 1000), 1, 0, impl.ErrForm},
		{"1001 blanks", strings.Repeat(" ", 1001), -1, 0, impl.ErrForm},
		{"65536 bytes", strings.Repeat("a", 65536), -1, 0, impl.ErrForm},
		{"65537 bytes", strings.Repeat("a", 65537), -1, 0, impl.ErrSize},
		{"very many bytes", strings.Repeat("a", 1<<20), -1, 0, impl.ErrSize},
	} {
		if row.lines < 0 {
			isParagraph(t, s, row.text, impl.Paragraph{Code: impl.ErrSize})
		} else {
			hasLines(t, row.what, s, row.text, row.lines, row.cost)
		}
		for _, wrong := range []impl.Style{{}, {Width: 201}, {Width: 5, Least: 6}, {Width: 5, Hyphen: -1}, {Width: 5, Patterns: []string{"a"}}, {Width: 5, Patterns: slices.Repeat([]string{"1a"}, 1001)}} {
			isParagraph(t, wrong, row.text, impl.Paragraph{Code: row.wrongCode})
		}
	}
}

func TestLongParagraphs(t *testing.T) {
	r := rand.New(rand.NewSource(226))
	long := func(pieces ...string) string {
		text := ""
		for len(text) < 90 {
			text += pieces[r.Intn(len(pieces))]
		}
		return text
	}
	for name, text := range map[string]string{
		"words": long("a ", "ab ", "abc ", "abcde ", "abcdefgh ", "aaaaaaaa "), "ideographs": strings.Repeat("\u6000", 50), "lines": long("ab\n", "a ", "b "), "no cuts": strings.Repeat("a", 100), "nothing wide": strings.Repeat("\u00AD\x01", 40), "soft hyphens": long("a\u00AD", "b\u00AD", "c "), "blanks": long("a", "  ", "   "),
	} {
		for _, row := range []string{"1 0 0", "1 1 1000000 1a b1", "2 1 3 1a", "17 5 10 1a b1c c2", "60 20 50 1a", "200 0 0", "200 200 1000000 1a", "99 50 1 1a"} {
			s := styleFrom(row)
			t.Run(name+" by "+row, func(t *testing.T) { isParagraph(t, s, text, paragraphPlainly(s, text)) })
		}
	}
	hasLines(t, "ideographs", styleFrom("1 0 0"), strings.Repeat("\u6000", 1000), 1000, 1000000000)
	hasLines(t, "ideographs", styleFrom("4 0 0"), strings.Repeat("\u6000", 1000), 500, 0)
	hasLines(t, "ideographs", styleFrom("200 200 0"), strings.Repeat("\u6000", 1000), 10, 0)
	hasLines(t, "ends of lines", styleFrom("1 1 0"), strings.Repeat("\n", 1000), 1000, 1000)
	hasLines(t, "soft hyphens", styleFrom("3 0 2"), strings.Repeat("a\u00AD", 500), 250, 498)
	hasLines(t, "words", styleFrom("7 0 0"), strings.Repeat("a ", 500), 125, 0)
	hasLines(t, "hyphens that cost too much", styleFrom("1 0 1 1a"), strings.Repeat("a", 1000), 1, 999000000)
	hasLines(t, "nothing wide", styleFrom("200 0 0"), strings.Repeat("\u00AD\x01", 500), 1, 0)
}

// justifiedPlainly puts one blank after the other, to each row of blanks in turn.
func justifiedPlainly(line string, width int64) string {
	if width < 0 || width > 1000 || len(readPlainly(line)) > 1000 {
		return ""
	}
	pieces := []string{} // rows of blanks and what is between, in turn
	for at := range len(line) {
		if at == 0 || (line[at] == ' ') != (line[at-1] == ' ') {
			pieces = append(pieces, "")
		}
		pieces[len(pieces)-1] += line[at : at+1]
	}
	inner := []int{}
	for i, piece := range pieces {
		if i > 0 && i < len(pieces)-1 && piece[0] == ' ' {
			inner = append(inner, i)
		}
	}
	wide := impl.WideOf(line)
	if len(inner) == 0 || wide > width {
		return line
	}
	for i := 0; wide < width; i, wide = i+1, wide+1 {
		pieces[inner[i%len(inner)]] += " "
	}
	return strings.Join(pieces, "")
}

func isJustified(t *testing.T, line string, width int64, want string) {
	t.Helper()
	got := impl.Justified(line, width)
	if got != want {
		t.Errorf("Justified of %+.100q to %d: got %+.200q, want %+.200q", line, width, got, want)
	}
	// P54
	words := strings.FieldsFunc(line, func(point rune) bool { return point == ' ' })
	if len(words) > 1 && len(readPlainly(line)) <= 1000 && width >= 0 && width <= 1000 && impl.WideOf(line) <= width && impl.WideOf(got) != width {
		t.Errorf("Justified of %+.100q to %d is %d wide", line, width, impl.WideOf(got))
	}
}

func TestJustifiedByHand(t *testing.T) {
	for _, row := range []struct {
		line  string
		width int64
		want  string
	}{
		{"", 0, ""}, {"", 5, ""}, {"a", 5, "a"}, {"abc", 5, "abc"}, {" ", 5, " "}, {"   ", 5, "   "}, {" a", 5, " a"}, {"a ", 5, "a "}, {"  a  ", 9, "  a  "}, {" ", 1, " "}, {"a", 0, "a"},
		// rows of one and of several blanks
		{"a b", 3, "a b"}, {"a b", 4, "a  b"}, {"a b", 5, "a   b"}, {"a  b", 5, "a   b"}, {"a   b", 5, "a   b"}, {"a b c", 6, "a  b c"}, {"a b c", 7, "a  b  c"}, {"a b c", 8, "a   b  c"}, {"a  b c", 7, "a   b c"}, {"a b  c", 7, "a  b  c"}, {"a b  c", 8, "a  b   c"}, {"a b c d", 8, "a  b c d"}, {"a b c d", 9, "a  b  c d"}, {"a b c d", 10, "a  b  c  d"}, {"a b c d", 11, "a   b  c  d"}, {"aa bb cc dd ee", 17, "aa  bb  cc  dd ee"}, {"aa bb cc dd ee", 23, "aa    bb   cc   dd   ee"},
		// blanks at the ends, too
		{" a b", 6, " a   b"}, {"a b ", 6, "a   b "}, {"  a b  ", 9, "  a   b  "}, {" a b c ", 8, " a  b c "}, {"  a   b  c ", 12, "  a    b  c "},
		// too wide, as wide, narrower
		{"a b", 2, "a b"}, {"a b", 1, "a b"}, {"a b", 0, "a b"}, {"aa bb", 5, "aa bb"}, {"aa bb", 6, "aa  bb"}, {"\u6000 \u6001", 5, "\u6000 \u6001"}, {"\u6000 \u6001", 6, "\u6000  \u6001"}, {"\u6000 \u6001", 4, "\u6000 \u6001"}, {"\u1000 a\u1001", 4, "\u1000   a\u1001"},
		// other spaces, marks, controls, broken bytes
		{"a\u00A0b", 9, "a\u00A0b"}, {"a\u1F80b", 9, "a\u1F80b"}, {"a\tb", 9, "a\tb"}, {"a\nb", 9, "a\nb"}, {"\u00A0 \u00A0", 5, "\u00A0   \u00A0"}, {"a \u00A0", 5, "a   \u00A0"}, {"\u1F80 a", 5, "\u1F80   a"}, {"a \u00A0 b", 7, "a  \u00A0  b"}, {"\n \n", 3, "\n   \n"}, {"a \n", 3, "a  \n"}, {"a \u1000", 4, "a   \u1000"}, {"a \u1000b c", 7, "a  \u1000b  c"}, {"a \u1F00\u1E00", 5, "a  \u1F00\u1E00"}, {"\xFF \xFF", 5, "\xFF   \xFF"}, {"\xE2\x80 \x80", 5, "\xE2\x80  \x80"}, {"a\u00AD b", 4, "a\u00AD  b"}, {"\r \n", 4, "\r    \n"}, {"a- b", 5, "a-  b"},
		// widths
		{"a b", -1, ""}, {"a b", 1001, ""}, {"a", -1, ""}, {"a", 1001, ""}, {"", -1, ""}, {"a b", math.MinInt64, ""}, {"a b", math.MaxInt64, ""}, {"a b", 1 << 32, ""}, {"a b", 1<<32 + 5, ""}, {"a", 1000, "a"}, {"a b", 1000, "a" + strings.Repeat(" ", 998) + "b"}, {"a b c", 1000, "a" + strings.Repeat(" ", 499) + "b" + strings.Repeat(" ", 498) + "c"}, {"a b", 999, "a" + strings.Repeat(" ", 997) + "b"},
	} {
		isJustified(t, row.line, row.width, row.want)
		if got := justifiedPlainly(row.line, row.width); got != row.want {
			t.Errorf("read plainly, %+q to %d is %+.100q, want %+.100q", row.line, row.width, got, row.want)
		}
	}
}

func TestJustifiedPlainly(t *testing.T) {
	eachRow([]string{"a", " ", "  ", "\u6000", "\u1000"}, 5, func(text string) {
		for width := int64(-1); width < 12; width++ {
			isJustified(t, text, width, justifiedPlainly(text, width))
		}
	})
	r := rand.New(rand.NewSource(227))
	eachRandomText(228, 150, []int64{'a', ' ', ' ', ' ', 0xA0, 0x6000, 0x1000, '\n'}, func(text string) {
		for range 3 {
			width := r.Int63n(40)
			isJustified(t, text, width, justifiedPlainly(text, width))
		}
	})
	for range 300 {
		text := strings.Repeat("a ", r.Intn(200)) + randomWord(r, "ab ", 300)
		width := r.Int63n(1010)
		isJustified(t, text, width, justifiedPlainly(text, width))
	}
}

func TestSizesOfJustified(t *testing.T) {
	marks := strings.Repeat("\u1000", 997)
	for _, row := range []struct {
		line  string
		width int64
		want  string
	}{
		{"a b" + marks, 5, "a   b" + marks}, {"a b" + marks + "\u1000", 5, ""}, {"a b" + marks + "\u1000", 1, ""}, {"a  b" + marks[3:], 3, "a  b" + marks[3:]}, {marks + "a  b", 9, ""},
		{strings.Repeat("a", 1000), 1000, strings.Repeat("a", 1000)}, {strings.Repeat("a", 1001), 1000, ""}, {strings.Repeat("a", 1000), 5, strings.Repeat("a", 1000)}, {strings.Repeat("a", 1001), 5, ""},
		{strings.Repeat("\U00010000", 1000), 5, strings.Repeat("\U00010000", 1000)}, {strings.Repeat("\U00010000", 1001), 5, ""}, {strings.Repeat("\xFF", 1000), 5, strings.Repeat("\xFF", 1000)}, {strings.Repeat("\xFF", 1001), 5, ""},
		{strings.Repeat("a ", 499) + "a", 1000, "a  " + strings.Repeat("a ", 498) + "a"}, {strings.Repeat(" ", 1001), 5, ""}, {strings.Repeat("a", 65536), 5, ""}, {strings.Repeat("a", 65537), 5, ""}, {strings.Repeat("a ", 1<<19), 5, ""},
	} {
		isJustified(t, row.line, row.width, row.want)
	}
}

// columnsPlainly reads all cells first, then fills up column by column.
func columnsPlainly(rows []string, gap int64) (told []string) {
	if len(rows) > 1000 || gap < 0 || gap > 20 {
		return nil
	}
	var cells [][]string
	most := 0
	for _, row := range rows {
		cells = append(cells, strings.Split(row, "\t"))
		most = max(most, len(cells[len(cells)-1]))
	}
	for column := range most {
		widest := int64(0)
		for _, row := range cells {
			if column < len(row)-1 {
				widest = max(widest, impl.WideOf(row[column]))
			}
		}
		for _, row := range cells {
			if column < len(row)-1 {
				row[column] += strings.Repeat(" ", int(widest-impl.WideOf(row[column])+gap))
			}
		}
	}
	for i, row := range cells {
		told = append(told, strings.Join(row, ""))
		if len(told[i]) > 65536 || len(rows[i]) > 65536 {
			return nil
		}
	}
	return told
}

func areColumns(t *testing.T, rows []string, gap int64, want []string) {
	t.Helper()
	if got := impl.Columns(rows, gap); !slices.Equal(got, want) {
		t.Errorf("Columns of %.200s with %d: got %.200s, want %.200s", fmt.Sprintf("%+q", rows), gap, fmt.Sprintf("%+q", got), fmt.Sprintf("%+q", want))
	}
}

func TestColumnsByHand(t *testing.T) {
	for _, row := range []struct {
		rows string // with a / between; \t as a |
		gap  int64
		want string
	}{
		{"a", 0, "a"}, {"a", 20, "a"}, {"abc/a/", 5, "abc/a/"}, {"a|b", 0, "ab"}, {"a|b", 1, "a b"}, {"a|b", 20, "a                    b"},
		{"a|x/abc|y", 1, "a   x/abc y"}, {"a|x/abc|y", 0, "a  x/abcy"}, {"abc|x/a|y", 2, "abc  x/a    y"},
		// rows of different numbers of cells
		{"a|b|c/dd|ee/f", 1, "a  b c/dd ee/f"}, {"a|b/dd|ee|ff/ggg|h|i|j", 1, "a   b/dd  ee ff/ggg h  i j"}, {"a/b|c/d|e|f", 1, "a/b c/d e f"},
		// a last cell is not counted, however wide
		{"aaaaa/b|c", 1, "aaaaa/b c"}, {"b|c/aaaaa", 1, "b c/aaaaa"}, {"a|bbbbb/c|d|e", 1, "a bbbbb/c d e"}, {"aaa|b/c", 1, "aaa b/c"}, {"a|bbb|c/d|eeeeee", 1, "a bbb c/d eeeeee"}, {"aaaaa|/b|c", 1, "aaaaa /b     c"},
		// empty cells
		{"", 3, ""}, {"|", 0, ""}, {"|", 2, "  "}, {"||", 1, "  "}, {"|a", 1, " a"}, {"a|", 1, "a "}, {"|a/bb|c", 1, "   a/bb c"}, {"a||b/c|dd|e", 1, "a    b/c dd e"}, {"||/a|b|", 0, "  /ab"}, {"/|/a|b", 1, "/  /a b"}, {"/", 1, "/"}, {"//", 1, "//"},
		// wide and narrow characters
		{"\u6000|a/bbb|c", 1, "\u6000  a/bbb c"}, {"\u6000\u6001|a/bbb|c", 1, "\u6000\u6001 a/bbb  c"}, {"a\u1000\u1001|b/cc|d", 1, "a\u1000\u1001  b/cc d"}, {"\u00AD|a/b|c", 0, "\u00AD a/bc"}, {"\x01|a/b|c", 0, "\x01 a/bc"}, {"\u1000|a/b|c", 0, "\u1000 a/bc"}, {"a|\u1000/bb|c", 0, "a \u1000/bbc"}, {"\u1E50\u1E51|a/bb|c", 1, "\u1E50\u1E51  a/bb c"}, {"\u1E50|\u1E51/bb|c", 0, "\u1E50 \u1E51/bbc"}, {"\u3000|a/\u1E00|b/\u0700\u0720|c", 0, "\u3000a/\u1E00b/\u0700\u0720 c"}, {"\xFF|a/bb|c", 0, "\xFF a/bbc"}, {"\xE2|\x80/bbb|c", 0, "\xE2  \x80/bbbc"}, {"a\n|b/cc|d", 0, "a\n b/ccd"}, {" a|b/c|d ", 0, " ab/c d "}, {"a |b/c|d", 0, "a b/c d"},
	} {
		rows, want := strings.Split(strings.ReplaceAll(row.rows, "|", "\t"), "/"), strings.Split(row.want, "/")
		areColumns(t, rows, row.gap, want)
		if got := columnsPlainly(rows, row.gap); !slices.Equal(got, want) {
			t.Errorf("read plainly, %+q with %d: %+q, want %+q", rows, row.gap, got, want)
		}
	}
	areColumns(t, nil, 1, nil)
	areColumns(t, []string{}, 1, nil)
	for _, gap := range []int64{-1, 21, -20, 22, 100, math.MinInt64, math.MaxInt64, 1 << 32, 1<<32 + 1} {
		areColumns(t, []string{"a\tb"}, gap, nil)
		areColumns(t, []string{"a"}, gap, nil)
	}
}

func TestColumnsPlainly(t *testing.T) {
	r := rand.New(rand.NewSource(229))
	for range 6000 {
		rows := []string{}
		for range r.Intn(6) {
			rows = append(rows, randomNormText(r, []int64{'\t', '\t', '\t', 'a', ' ', 0x6000, 0x1000, '\n', 0x1E50}, 10))
		}
		gap := r.Int63n(23) - 1
		areColumns(t, rows, gap, columnsPlainly(rows, gap))
	}
}

func TestSizesOfColumns(t *testing.T) {
	full := strings.Repeat("a", 65536)
	wide := strings.Repeat("a", 60000)
	for what, row := range map[string]struct {
		rows []string
		gap  int64
		told bool
	}{
		"a row of 65536 bytes": {[]string{full}, 1, true}, "of 65537": {[]string{full + "a"}, 1, false}, "of 65537 with a cell behind": {[]string{full[1:] + "\ta"}, 1, false}, "of 65537 that would be one shorter": {[]string{full[1:] + "\tb"}, 0, false}, "of 65536 that is one shorter": {[]string{full[2:] + "\tb"}, 0, true}, "of 65537 last": {[]string{"a", "b\tc", full + "a"}, 1, false}, "of very many": {[]string{strings.Repeat("a\t", 1<<20)}, 1, false},
		"grows to 65536": {[]string{full[2:] + "\tb"}, 1, true}, "grows to 65537": {[]string{full[2:] + "\tb"}, 2, false}, "grows to 65536 by another": {[]string{wide + "\tb", "a\t" + full[:5534]}, 2, true}, "grows to 65537 by another": {[]string{wide + "\tb", "a\t" + full[:5535]}, 2, false}, "the first one grows too long": {[]string{"a\t" + full[:5535], wide + "\tb"}, 2, false}, "grows to 65536 in the last column but one": {[]string{"a\t" + wide + "\tb", "a\tb\t" + full[:5533]}, 1, true}, "grows to 65537 there": {[]string{"a\t" + wide + "\tb", "a\tb\t" + full[:5534]}, 1, false}, "an empty cell is filled up": {[]string{wide + "\t", "\t" + full[:5536]}, 0, true}, "an empty cell is filled up too far": {[]string{wide + "\t", "\t" + full[:5537]}, 0, false}, "two wide columns": {[]string{wide + "\t", "\t" + wide + "\t", "\t\t"}, 0, false},
		"many cells": {[]string{strings.Repeat("\t", 65536)}, 1, true}, "many cells, wide gaps": {[]string{strings.Repeat("\t", 3276)}, 20, true}, "many cells, too wide gaps": {[]string{strings.Repeat("\t", 3277)}, 20, false}, "many wide columns": {[]string{strings.Repeat("aaaaaaaa\t", 7000), strings.Repeat("\t", 7000)}, 0, true}, "too many wide columns": {[]string{strings.Repeat("aaaaaaaa\t", 7000), strings.Repeat("\t", 60000)}, 1, false}, "wide points": {[]string{strings.Repeat("\u6000", 20000) + "\t", "\t" + full[:25536]}, 0, true}, "too wide points": {[]string{strings.Repeat("\u6000", 20000) + "\t", "\t" + full[:25537]}, 0, false},
		"1000 rows": {slices.Repeat([]string{"a\tb", "cc\td"}, 500), 1, true}, "1001 rows": {slices.Repeat([]string{"a\tb"}, 1001), 1, false}, "1000 empty rows": {make([]string, 1000), 1, true}, "1001 empty rows": {make([]string, 1001), 1, false}, "the last of 1000 is too long": {append(make([]string, 999), full+"a"), 1, false},
	} {
		want := columnsPlainly(row.rows, row.gap)
		if (len(want) > 0) != row.told {
			t.Errorf("%s: read plainly %d rows are told", what, len(want))
		}
		if got := impl.Columns(row.rows, row.gap); !slices.Equal(got, want) {
			t.Errorf("%s: got %d rows, want %d", what, len(got), len(want))
		}
	}
}

// TestParagraphsAtOnce asks from many goroutines, as nothing is kept between calls.
func TestParagraphsAtOnce(t *testing.T) {
	s := styleFrom("7 3 5 1a b1c")
	asked := func() string {
		return fmt.Sprint(impl.WideOf("a\u6000"), impl.PatternsFault(s.Patterns), impl.HyphensOf(s.Patterns, "aaaabcaaa"), impl.StyleFault(s), impl.BreakParagraph(s, "aaaaa bbcccbc\u00ADaa aabcccc"), impl.Justified("a b c", 9), impl.Columns([]string{"a\tb", "cc\td"}, 2))
	}
	want := asked()
	got := make([]string, 64)
	var workers sync.WaitGroup
	for i := range got {
		workers.Go(func() { got[i] = asked() })
	}
	workers.Wait()
	for _, text := range got {
		if text != want {
			t.Errorf("asked at once: %s, want %s", text, want)
		}
	}
}

func TestParagraphsAreNewMemory(t *testing.T) {
	own := strings.Clone
	text, line := own("abcde abcde\nabcd\u00ADabcd  abc"), own("abc def")
	s := impl.Style{Width: 6, Least: 2, Hyphen: 3, Patterns: spare([]string{own("a1b"), own("b1c"), own("c1")})}
	rows := spare([]string{own("abc\tde"), own("a\tb\tc"), own("abcd"), own("")})
	told := func() string {
		return fmt.Sprint(text, line, s, s.Patterns[:cap(s.Patterns)], rows[:cap(rows)])
	}
	before, given := told(), append(append([]string{text, line}, s.Patterns...), rows...)
	asked := func() (p impl.Paragraph, places []int64, texts []string) {
		p, places = impl.BreakParagraph(s, text), impl.HyphensOf(s.Patterns, "abcabcabc")
		texts = append(impl.Columns(rows, 1), impl.Columns(rows[2:3], 1)...)
		return p, places, append(texts, impl.Justified(line, 9), impl.Justified(line, 7), impl.Justified(line, 3), impl.Justified(line[:3], 9))
	}
	wantP, wantPlaces, wantTexts := asked()
	want := fmt.Sprint(wantP, wantPlaces, wantTexts)
	for range 2 {
		p, places, texts := asked()
		if got := fmt.Sprint(p, places, texts); got != want {
			t.Errorf("asked again: %s, want %s", got, want)
		}
		for _, line := range p.Lines {
			texts = append(texts, line.Text)
		}
		isOwnMemory(t, "lines and rows", texts, given)
		for i := range p.Lines {
			p.Lines[i] = impl.ParaLine{Wide: -7}
		}
		for i := range places {
			places[i] = -7
		}
		_, _ = append(p.Lines, impl.ParaLine{Wide: -8}), append(places, -8)
		if told() != before {
			t.Errorf("what was handed in became %s, it was %s", told(), before)
		}
	}
	for _, whole := range []string{"abcde", "abcde ", "abcde\n"} {
		isOwnMemory(t, "a whole line", []string{impl.BreakParagraph(impl.Style{Width: 9}, whole).Lines[0].Text}, []string{whole})
	}
}
