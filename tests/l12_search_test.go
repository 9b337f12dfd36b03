package tests

import (
	"fmt"
	"math"
	"math/rand"
	"runtime"
	"slices"
	"strings"
	"sync"
	"testing"
	"time"
	"unicode/utf8"

	"loop.example/g00044/impl"
)

// upToThird has the strength at which windows are held against what is looked for.
func (c plainCollation) upToThird() plainCollation {
	c.Strength = min(c.Strength, 3)
	return c
}

func (c plainCollation) hasElements(text string) bool {
	return len(c.elements(text)) > 0
}

// fitsPlainly looks at the characters of a window one by one, as the chapter tells it.
func (c plainCollation) fitsPlainly(chars []string, what string) bool {
	window := strings.Join(chars, "")
	if len(chars) > 100 || !c.hasElements(window) || !c.hasElements(chars[0]) || !c.hasElements(chars[len(chars)-1]) {
		return false
	}
	isOne := plainNormalText(impl.NormD, window) == plainNormalText(impl.NormD, what)
	return c.upToThird().key(window) == c.upToThird().key(what) && (c.Strength < 4 || isOne)
}

// findPlainly tries all windows, those that begin first ahead, and of these those that end first.
func (c plainCollation) findPlainly(text string, what string, from int64) impl.Found {
	cuts := plainCharCuts(text)
	chars := piecesPlainly(text, cuts)
	for first := range chars {
		for last := first + 1; last <= len(chars) && cuts[first] >= from; last++ {
			if c.fitsPlainly(chars[first:last], what) {
				return impl.Found{First: cuts[first], Last: cuts[last]}
			}
		}
	}
	return impl.Found{First: -1, Last: -1}
}

func (c plainCollation) findAllPlainly(text string, what string) []impl.Found {
	var all []impl.Found
	next := c.findPlainly(text, what, 0)
	for next.First >= 0 {
		all = append(all, next)
		next = c.findPlainly(text, what, next.Last)
	}
	return all
}

func (c plainCollation) beginsPlainly(text string, what string) bool {
	chars := piecesPlainly(text, plainCharCuts(text))
	for last := 1; last <= len(chars); last++ {
		if c.fitsPlainly(chars[:last], what) {
			return true
		}
	}
	return !c.hasElements(what)
}

func (c plainCollation) fencePlainly(what string) string {
	c.Strength = 1
	key := []byte(c.key(what))
	for at := len(key) - 1; at >= 0; at-- {
		key[at]++
		if key[at] != 0 {
			break
		}
	}
	return string(key)
}

// headPlainly tells the first character with an element; whether there is one.
func (c plainCollation) headPlainly(text string) (string, bool) {
	for _, char := range piecesPlainly(text, plainCharCuts(text)) {
		if c.hasElements(text) && c.hasElements(char) {
			return char, true
		}
	}
	return "", false
}

func (c plainCollation) groupsPlainly(texts []string) []impl.Group {
	var groups []impl.Group
	last := ""
	for at, text := range texts {
		char, found := c.headPlainly(text)
		firsts := fmt.Sprint(found, slices.DeleteFunc(firstsOf(c.elements(char)), func(first int64) bool { return first == 0 }))
		if at == 0 || firsts != last {
			label := textWritten(plainUpper(readPlainly(plainNormalText(impl.NormC, char)))...)
			groups = append(groups, impl.Group{Label: label})
		}
		groups[len(groups)-1].Count++
		last = firsts
	}
	return groups
}

func firstsOf(elements []impl.Element) []int64 {
	firsts := []int64{}
	for _, element := range elements {
		firsts = append(firsts, element.First)
	}
	return firsts
}

func isFirst(t *testing.T, c impl.Collator, text string, what string, from int64, want impl.Found) {
	t.Helper()
	if got := impl.FindFirst(c, text, what, from); got != want {
		t.Errorf("FindFirst of %+q in %+q from %d by %+v: got %v, want %v", what, text, from, c, got, want)
	}
}

func areFound(t *testing.T, c impl.Collator, text string, what string, want []impl.Found) {
	t.Helper()
	if got := impl.FindAll(c, text, what); !slices.Equal(got, want) {
		t.Errorf("FindAll of %+q in %+q by %+v: got %v, want %v", what, text, c, got, want)
	}
}

func isBegun(t *testing.T, c impl.Collator, text string, what string, want bool) {
	t.Helper()
	if got := impl.BeginsWith(c, text, what); got != want {
		t.Errorf("BeginsWith of %+q by %+q by %+v: got %t", text, what, c, got)
	}
}

func isRange(t *testing.T, c impl.Collator, texts []string, low string, high string, first int64, last int64) {
	t.Helper()
	if got, want := impl.RangeOf(c, texts, low, high), (impl.Found{First: first, Last: last}); got != want {
		t.Errorf("RangeOf of %d texts from %+q to %+q by %+v: got %v, want %v", len(texts), low, high, c, got, want)
	}
}

func isFence(t *testing.T, c impl.Collator, what string, want string) {
	t.Helper()
	isText(t, fmt.Sprintf("FenceOf by %+v", c), what, impl.FenceOf(c, what), want)
}

func areGroups(t *testing.T, c impl.Collator, texts []string, want []impl.Group) {
	t.Helper()
	if got := impl.GroupsOf(c, texts); !slices.Equal(got, want) {
		t.Errorf("GroupsOf of %d texts by %+v: got %+v, want %+v", len(texts), c, got, want)
	}
}

// foundAt reads First and Last, one found behind the other; nothing is -1 and -1.
func foundAt(row string) []impl.Found {
	numbers := numbersOf(row)
	var all []impl.Found
	for at := 0; at+1 < len(numbers); at += 2 {
		all = append(all, impl.Found{First: numbers[at], Last: numbers[at+1]})
	}
	return all
}

func firstAt(row string) impl.Found {
	return append(foundAt(row), impl.Found{First: -1, Last: -1})[0]
}

// byStrength is a collator with entries as entriesFrom reads them.
func byStrength(strength int64, entries string) impl.Collator {
	return impl.Collator{Entries: entriesFrom(entries), Strength: strength}
}

func skippingBy(strength int64, entries string) impl.Collator {
	return impl.Collator{Entries: entriesFrom(entries), Strength: strength, Skip: true}
}

func TestFirstByStrengths(t *testing.T) {
	rows := []struct {
		text  string
		what  string
		wants [4]string
	}{
		{"", "", [4]string{}}, {"", "a", [4]string{}}, {"a", "", [4]string{}}, {"a", "b", [4]string{}}, {"abc", "", [4]string{}},
		{"a", "a", [4]string{"0 1", "0 1", "0 1", "0 1"}}, {"xab", "ab", [4]string{"1 3", "1 3", "1 3", "1 3"}}, {"abx", "ab", [4]string{"0 2", "0 2", "0 2", "0 2"}}, {"xabx", "abc", [4]string{}}, {"ba", "ab", [4]string{}},
		{"xAb", "ab", [4]string{"1 3", "1 3", "", ""}}, {"aAa", "A", [4]string{"0 1", "0 1", "1 2", "1 2"}}, {"\u2700", "a", [4]string{"0 3", "0 3", "", ""}}, {"\u2600", "A", [4]string{"0 3", "0 3", "0 3", "0 3"}},
		{"a\u1000", "a", [4]string{"0 4", "", "", ""}}, {"a\u1000a", "a", [4]string{"0 4", "4 5", "4 5", "4 5"}}, {"aa\u1000", "a\u1010", [4]string{"0 1", "", "", ""}}, {"xa\u1000", "\u20D0", [4]string{"1 5", "1 5", "1 5", "1 5"}}, {"\u20D0", "a\u1000", [4]string{"0 3", "0 3", "0 3", "0 3"}}, {"a\u1000\u1010", "\u20D0\u1010", [4]string{"0 7", "0 7", "0 7", "0 7"}},
		{"xa\u1F00", "a", [4]string{"1 5", "1 5", "1 5", ""}}, {"xa\u1F00", "a\u1F00", [4]string{"1 5", "1 5", "1 5", "1 5"}}, {"xa", "a\u1F00", [4]string{"1 2", "1 2", "1 2", ""}}, {"a\x01b", "ab", [4]string{"0 3", "0 3", "0 3", ""}}, {"a\x01b", "a\x01b", [4]string{"0 3", "0 3", "0 3", "0 3"}}, {"a\x01b", "a\x02b", [4]string{"0 3", "0 3", "0 3", ""}},
		{"\x01a\x01b\x01", "ab", [4]string{"1 4", "1 4", "1 4", ""}}, {"\x01a\x01b\x01", "\x01ab\x01", [4]string{"1 4", "1 4", "1 4", ""}}, {"\x01a\x01b\x01", "a", [4]string{"1 2", "1 2", "1 2", "1 2"}}, {"\x01a\x01", "\x01a", [4]string{"1 2", "1 2", "1 2", ""}}, {"\x01\x02", "\x01", [4]string{}}, {"\x01\x02", "", [4]string{}},
		{"a\xFFb", "ab", [4]string{"0 3", "0 3", "0 3", ""}}, {"a\xFFb", "a\uFFFDb", [4]string{"0 3", "0 3", "0 3", "0 3"}}, {"a\xFF", "a\xFF", [4]string{"0 1", "0 1", "0 1", ""}}, {"\xE2\x80a\x80b", "a\x80b", [4]string{"2 5", "2 5", "2 5", "2 5"}}, {"\xE2\x80a\x80b", "ab", [4]string{"2 5", "2 5", "2 5", ""}},
		{"\x01\u1000", "", [4]string{"1 4", "", "", ""}}, {"\x01\u1000", "\u1000", [4]string{"1 4", "1 4", "1 4", "1 4"}}, {"\x01\u1000", "\u1001", [4]string{"1 4", "", "", ""}}, {"\x01\u1000", "\x02", [4]string{"1 4", "", "", ""}}, {"a\u1000", "\u1000", [4]string{}},
		{"a\x01\u1000", "a", [4]string{"0 1", "0 1", "0 1", "0 1"}}, {"a\x01\u1000", "a\u1000", [4]string{"0 1", "0 5", "0 5", ""}}, {"\u1000\x01a", "a", [4]string{"0 5", "4 5", "4 5", "4 5"}}, {"\u1000\x01\u1000\x01a", "a", [4]string{"0 9", "8 9", "8 9", "8 9"}},
		{"\u0260", "\u0232\u0232", [4]string{"0 2", "0 2", "", ""}}, {"\u0260", "\u0232", [4]string{}}, {"\u0232\u0232", "\u0260", [4]string{"0 4", "0 4", "", ""}}, {"\u3000", "\u0700\u0720", [4]string{"0 3", "0 3", "0 3", "0 3"}}, {"\u3000", "\u0700", [4]string{}}, {"\u0700\u0720\u0700", "\u3000", [4]string{"0 4", "0 4", "0 4", "0 4"}},
		{"a b", "ab", [4]string{}}, {"a b", "a b", [4]string{"0 3", "0 3", "0 3", "0 3"}}, {"1\u0251", "\u0251", [4]string{"0 1", "0 1", "1 3", "1 3"}},
	}
	for _, row := range rows {
		for at, want := range row.wants {
			c := impl.Collator{Strength: int64(1 + at)}
			isFirst(t, c, row.text, row.what, 0, firstAt(want))
			isFirst(t, c, row.text, row.what, 0, collatedPlainly(c).findPlainly(row.text, row.what, 0))
		}
	}
}

func TestFirstBySkipAndEntries(t *testing.T) {
	rows := []struct {
		c    impl.Collator
		text string
		what string
		want string
	}{
		{skippingBy(3, ""), " a-b ", "ab", "1 4"}, {skippingBy(3, ""), " a-b ", " a b", "1 4"}, {skippingBy(3, ""), "ab", "-a-b-", "0 2"}, {skippingBy(4, ""), " a-b ", "ab", ""}, {skippingBy(4, ""), " a-b ", "a-b", "1 4"}, {skippingBy(4, ""), " a-b ", " a-b ", ""}, {skippingBy(1, ""), " - ", " ", ""}, {skippingBy(1, ""), " - ", "", ""}, {skippingBy(1, ""), "-\u1000", "", "0 4"},
		{skippingBy(3, "-:5/5/5"), "a-b", "ab", ""}, {skippingBy(3, "-:5/5/5"), " - ", "-", "1 2"}, {skippingBy(3, "- :5/5/5"), "a- b", "a- b", "0 4"}, {skippingBy(3, "- :5/5/5"), "a- b", "- ", ""},
		{byStrength(1, "ab:5/5/5"), "xaby", "ab", "1 3"}, {byStrength(1, "ab:5/5/5"), "xaby", "a", "1 2"}, {byStrength(1, "ab:5/5/5"), "xaby", "b", "2 3"}, {byStrength(1, "ab:5/5/5"), "xaby", "xa", "0 2"}, {byStrength(1, "ab:5/5/5"), "xaby", "xaby", "0 4"}, {byStrength(1, "ab:5/5/5"), "xaBy", "ab", ""}, {byStrength(1, "ab:5/5/5"), "aab", "aab", "0 3"}, {byStrength(1, "ab:5/5/5"), "aab", "aa", "0 2"},
		{byStrength(1, "ab:5/5/5|abc:7/7/7|b:6/6/6"), "abc", "ab", "0 2"}, {byStrength(1, "ab:5/5/5|abc:7/7/7|b:6/6/6"), "abc", "abc", "0 3"}, {byStrength(1, "ab:5/5/5|abc:7/7/7|b:6/6/6"), "abcabd", "abd", "3 6"}, {byStrength(1, "ab:5/5/5|abc:7/7/7|b:6/6/6"), "abc", "bc", "1 3"}, {byStrength(1, "abc:7/7/7"), "xabcx", "abc", "1 4"}, {byStrength(1, "abc:7/7/7"), "xabcx", "ab", "1 3"}, {byStrength(1, "abc:7/7/7"), "xabx", "abc", ""},
		{byStrength(1, "b:5/1/1|c:5/1/1"), "ac", "ab", "0 2"}, {byStrength(1, "ab:200120000/1/1"), "xab", "xx", "0 3"}, {byStrength(1, "ab:200120000/1/1"), "abab", "xx", "0 4"}, {byStrength(1, "ab:200120000/1/1"), "ab", "x", "0 2"},
		{byStrength(1, "a\x01:5/5/5"), "a\x01b", "a\x01", ""}, {byStrength(1, "a\x01:5/5/5"), "a\x01b", "a\x01b", "0 3"}, {byStrength(1, "a\x01:5/5/5"), "a\x01b", "a", "0 1"}, {byStrength(1, "\x01a:5/5/5"), "\x01ab", "\x01a", ""}, {byStrength(1, "\x01\x02:5/5/5"), "\x01\x02", "\x01\x02", ""}, {byStrength(1, "\x01:5/5/5"), "\x01\x02", "\x01", "0 1"}, {byStrength(1, "\x01:5/5/5"), "a\x01b", "ab", ""},
		{byStrength(1, "ab:"), "ab", "", ""}, {byStrength(1, "ab:"), "abx", "x", "0 3"}, {byStrength(1, "ab:"), "xab", "x", "0 1"}, {byStrength(1, "ab:"), "xaby", "xy", "0 4"}, {byStrength(4, "ab:"), "xaby", "xy", ""}, {byStrength(1, "a:"), "ab", "b", "1 2"}, {byStrength(1, "a:"), "bac", "bc", "0 3"}, {byStrength(1, "a:"), "aa", "a", ""},
		{byStrength(3, "x:0/0/0"), "axa", "a", "0 1"}, {byStrength(3, "x:0/0/0"), "xax", "a", "0 2"}, {byStrength(3, "x:0/0/0"), "bxax", "a", "1 3"}, {byStrength(3, "x:0/0/0"), "axa", "", "1 2"}, {byStrength(3, "x:0/0/0"), "axa", "xx", "1 2"}, {byStrength(4, "x:0/0/0"), "axa", "", ""}, {byStrength(4, "x:0/0/0"), "axxa", "xx", "1 3"}, {byStrength(3, "x:0/0/0"), "axa", "aa", "0 3"}, {byStrength(4, "x:0/0/0"), "xax", "a", "1 2"},
		{byStrength(2, "x:0/7/0"), "xa", "a", "1 2"}, {byStrength(1, "x:0/7/0"), "xa", "a", "0 2"}, {byStrength(2, "x:0/0/7"), "xa", "a", "0 2"}, {byStrength(3, "x:0/0/7"), "xa", "a", "1 2"}, {byStrength(3, "x:4/5/6 4/5/6"), "yxy", "x", "1 2"}, {byStrength(3, "x:4/5/6 4/5/6|z:4/5/6"), "zz", "x", "0 2"}, {byStrength(3, "x:4/5/6 4/5/6|z:4/5/6"), "x", "z", ""}, {byStrength(3, "x:4/0/6 0/5/0"), "x", "x", "0 1"},
		{byStrength(1, "\uFFFD:9/9/9"), "a\xFF", "\x80", "1 2"}, {byStrength(4, "\uFFFD:9/9/9"), "a\xFF", "\uFFFD", "1 2"},
	}
	for _, row := range rows {
		isFirst(t, row.c, row.text, row.what, 0, firstAt(row.want))
		isFirst(t, row.c, row.text, row.what, 0, collatedPlainly(row.c).findPlainly(row.text, row.what, 0))
	}
}

func TestFirstFrom(t *testing.T) {
	rows := []struct {
		text  string
		what  string
		wants []string
	}{
		{"ab ab", "ab", []string{"0 2", "3 5", "3 5", "3 5", "", "", ""}},
		{"aa", "a", []string{"0 1", "1 2", "", ""}},
		{"a\u1000a\u1010", "a", []string{"0 4", "4 8", "4 8", "4 8", "4 8", "", "", "", "", ""}},
		{"\u1E50\u1E51\u1E52", "\u1E52", []string{"6 9", "6 9", "6 9", "6 9", "6 9", "6 9", "6 9", "", "", "", ""}},
		{"", "a", []string{"", ""}},
	}
	for _, row := range rows {
		c := impl.Collator{Strength: 1}
		for from, want := range row.wants {
			isFirst(t, c, row.text, row.what, int64(from), firstAt(want))
		}
		for _, from := range []int64{-1, -100, math.MinInt64} {
			isFirst(t, c, row.text, row.what, from, firstAt(row.wants[0]))
		}
		for _, from := range []int64{100, 1 << 40, math.MaxInt64} {
			isFirst(t, c, row.text, row.what, from, firstAt(""))
		}
	}
}

// TestLongestWindows has windows of 100 characters and of one more.
func TestLongestWindows(t *testing.T) {
	c, d := impl.Collator{Strength: 3}, impl.Collator{Strength: 4}
	a := func(count int) string { return strings.Repeat("a", count) }
	isFirst(t, c, a(100), a(100), 0, firstAt("0 100"))
	isFirst(t, c, "b"+a(100)+"b", a(100), 0, firstAt("1 101"))
	isFirst(t, c, a(101), a(101), 0, firstAt(""))
	isFirst(t, d, a(100), a(100), 0, firstAt("0 100"))
	isFirst(t, d, a(101), a(101), 0, firstAt(""))
	isFirst(t, c, "a"+strings.Repeat("\x01", 98)+"b", "ab", 0, firstAt("0 100"))
	isFirst(t, c, "a"+strings.Repeat("\x01", 99)+"b", "ab", 0, firstAt(""))
	isFirst(t, c, "a"+strings.Repeat("\x01", 99)+"bab", "ab", 0, firstAt("101 103"))
	isFirst(t, c, strings.Repeat("\x01", 200)+"ab", "ab", 0, firstAt("200 202"))
	isFirst(t, c, strings.Repeat("a\u1000\u1010", 100), strings.Repeat("\u24D0", 100), 0, firstAt("0 700"))
	isFirst(t, c, strings.Repeat("a\u1000\u1010", 101), strings.Repeat("\u24D0", 101), 0, firstAt(""))
	isFirst(t, c, "a"+strings.Repeat("\u1000", 999), "a"+strings.Repeat("\u1000", 999), 0, firstAt("0 2998"))
	isFirst(t, byStrength(3, "ab:"), strings.Repeat("ab", 49)+"xab", "x", 0, firstAt("0 99"))
	areFound(t, c, a(250), a(100), foundAt("0 100 100 200"))
	isBegun(t, c, a(100), a(100), true)
	isBegun(t, c, a(101), a(100), true)
	isBegun(t, c, a(101), a(101), false)
}

func TestFoundByHand(t *testing.T) {
	rows := []struct {
		c    impl.Collator
		text string
		what string
		want string
	}{
		{byStrength(1, ""), "", "a", ""}, {byStrength(1, ""), "", "", ""}, {byStrength(1, ""), "a", "", ""}, {byStrength(1, ""), "xyz", "a", ""}, {byStrength(1, ""), "a", "a", "0 1"}, {byStrength(1, ""), "xax", "a", "1 2"}, {byStrength(1, ""), "aAb", "a", "0 1 1 2"}, {byStrength(3, ""), "aAb", "A", "1 2"},
		{byStrength(1, ""), "aaaa", "aa", "0 2 2 4"}, {byStrength(1, ""), "aaaaa", "aa", "0 2 2 4"}, {byStrength(1, ""), "aaa", "aa", "0 2"}, {byStrength(1, ""), "ababa", "aba", "0 3"}, {byStrength(1, ""), "abaaba", "aba", "0 3 3 6"}, {byStrength(1, ""), "ab ab-ab", "ab", "0 2 3 5 6 8"}, {byStrength(1, ""), "abcabc", "c", "2 3 5 6"},
		{byStrength(1, ""), "a\u1000a\u1010a", "a", "0 4 4 8 8 9"}, {byStrength(2, ""), "a\u1000a\u1010a\u1000", "\u20D0", "0 4 8 12"}, {byStrength(1, ""), "\u1000\x01\u1000", "", "0 3 4 7"}, {byStrength(1, ""), "\u1000\x01a\x01\u1000a", "a", "0 5 6 10"},
		{skippingBy(3, ""), "a b-a--b", "ab", "0 3 4 8"}, {byStrength(1, "ab:5/5/5"), "abaab", "a", "0 1 2 3 3 4"}, {byStrength(1, "ab:5/5/5"), "abaab", "ab", "0 2 3 5"}, {byStrength(3, "x:0/0/0"), "xxx", "", "0 1 1 2 2 3"}, {byStrength(3, "x:0/0/0"), "xaxa", "a", "0 2 2 4"}, {byStrength(4, "x:0/0/0"), "xaxa", "a", "1 2 3 4"},
		{byStrength(1, ""), "a\xFFa\xE2\x80a", "a", "0 1 2 3 5 6"}, {byStrength(1, ""), "a\xFFb", "ab", "0 3"},
	}
	for _, row := range rows {
		areFound(t, row.c, row.text, row.what, foundAt(row.want))
		areFound(t, row.c, row.text, row.what, collatedPlainly(row.c).findAllPlainly(row.text, row.what))
	}
}

func TestBegunByHand(t *testing.T) {
	rows := []struct {
		c    impl.Collator
		text string
		what string
		want bool
	}{
		{byStrength(1, ""), "", "", true}, {byStrength(1, ""), "", "a", false}, {byStrength(1, ""), "", "\x01", true}, {byStrength(4, ""), "", "\x01\x02", true}, {byStrength(4, ""), "a", "", true}, {byStrength(4, ""), "\x01", "\x02", true}, {skippingBy(1, ""), "a", " -", true}, {byStrength(1, ""), "a", " -", false},
		{byStrength(1, ""), "a", "a", true}, {byStrength(1, ""), "abc", "ab", true}, {byStrength(1, ""), "abc", "abc", true}, {byStrength(1, ""), "abc", "abcd", false}, {byStrength(1, ""), "abc", "b", false}, {byStrength(1, ""), "xa", "a", false}, {byStrength(1, ""), "Abc", "aB", true}, {byStrength(3, ""), "Abc", "ab", false}, {byStrength(3, ""), "Abc", "Ab", true},
		{byStrength(1, ""), "a\u1000b", "a", true}, {byStrength(2, ""), "a\u1000b", "a", false}, {byStrength(2, ""), "a\u1000b", "\u20D0", true}, {byStrength(4, ""), "a\u1000b", "\u20D0", true}, {byStrength(3, ""), "a\u1F00b", "a", true}, {byStrength(4, ""), "a\u1F00b", "a", false},
		{byStrength(1, ""), "\x01a", "a", false}, {byStrength(1, ""), "a\x01b", "ab", true}, {byStrength(1, ""), "\u1000a", "a", true}, {byStrength(2, ""), "\u1000a", "a", false}, {byStrength(1, ""), "abc", "\u1000", false}, {byStrength(1, ""), "\u1000", "\u1001", true}, {byStrength(2, ""), "\u1000", "\u1001", false},
		{skippingBy(1, ""), " a", "a", false}, {skippingBy(1, ""), "a b", "ab", true}, {byStrength(1, "ab:5/5/5"), "abc", "a", true}, {byStrength(1, "ab:5/5/5"), "abc", "ab", true}, {byStrength(1, "ab:5/5/5"), "xabc", "ab", false}, {byStrength(1, "ab:"), "xyz", "ab", true}, {byStrength(1, "\x01\x02:5/5/5"), "\x01\x02", "\x01\x02", false}, {byStrength(3, "x:0/0/0"), "xa", "a", true}, {byStrength(3, "x:0/0/0"), "xa", "x", true}, {byStrength(3, "x:0/0/0"), "ya", "x", false},
		{byStrength(1, ""), "a\xFF", "a", true}, {byStrength(1, ""), "\xFFa", "a", false}, {byStrength(1, ""), "a", "\xFF", true},
	}
	for _, row := range rows {
		isBegun(t, row.c, row.text, row.what, row.want)
		isBegun(t, row.c, row.text, row.what, collatedPlainly(row.c).beginsPlainly(row.text, row.what))
	}
}

func searchAlphabet() []int64 {
	return []int64{'a', 'b', 'A', ' ', '\x01', 0x1000, 0x1010, 0x20D0, 0x1F00}
}

// eachSearch hands on short texts and what is looked for in them, often a piece of them, by collators of
// which the entries are of the same points.
func eachSearch(seed int64, count int, look func(c plainCollation, text string, what string)) {
	r := rand.New(rand.NewSource(seed))
	c := collatedPlainly(impl.Collator{Strength: 1})
	one := func(text string) {
		c.Collator = randomCollator(r)
		cuts := append([]int64{0}, plainCharCuts(text)...)
		first, last := r.Intn(len(cuts)), r.Intn(len(cuts))
		look(c, text, text[cuts[min(first, last)]:cuts[max(first, last)]])
		look(c, text, randomNormText(r, searchAlphabet(), 3))
	}
	for length := range 4 {
		eachCutRow(searchAlphabet(), length, one)
	}
	for range count {
		one(randomNormText(r, searchAlphabet(), 12))
		one(randomNormText(r, []int64{'a', 'b'}, 12))
		one(randomNormText(r, cutAlphabet(), 8))
		one(cutBytes(r, randomNormText(r, searchAlphabet(), 8)))
	}
}

func TestSearches(t *testing.T) {
	r := rand.New(rand.NewSource(120))
	eachSearch(121, 1500, func(c plainCollation, text string, what string) {
		from := int64(r.Intn(len(text)+3) - 1)
		isFirst(t, c.Collator, text, what, from, c.findPlainly(text, what, from))
		areFound(t, c.Collator, text, what, c.findAllPlainly(text, what))
		isBegun(t, c.Collator, text, what, c.beginsPlainly(text, what))
	})
}

// TestFoundAreAlike is the twenty-ninth promise.
func TestFoundAreAlike(t *testing.T) {
	count := 0
	eachSearch(122, 3000, func(c plainCollation, text string, what string) {
		cuts, last := impl.CharCuts(text), int64(0)
		third := c.Collator
		third.Strength = min(third.Strength, 3)
		for _, found := range impl.FindAll(c.Collator, text, what) {
			if found.First < last || found.Last <= found.First || !slices.Contains(cuts, found.First) || !slices.Contains(cuts, found.Last) {
				t.Errorf("%+q in %+q: found %v behind %d", what, text, found, last)
				return
			}
			if impl.CompareTexts(third, text[found.First:found.Last], what) != 0 {
				t.Errorf("%+q in %+q: %v is another text by %+v", what, text, found, c.Collator)
			}
			last = found.Last
			count++
		}
	})
	if count < 5000 {
		t.Errorf("%d were found", count)
	}
}

// TestSizesOfSearches has texts of 1000 points and of one more, of 65536 bytes and of one more.
func TestSizesOfSearches(t *testing.T) {
	c, none := impl.Collator{Strength: 1}, impl.Found{First: -1, Last: -1}
	for _, filling := range []string{"\x01", "\u1F01", "\U0010FFFF", "\xFF", "\xE2"} {
		fill := strings.Repeat(filling, impl.MaxList-1)
		size := int64(len(fill))
		isFirst(t, c, fill+"a", "a", 0, impl.Found{First: size, Last: size + 1})
		areFound(t, c, fill+"a", "a", []impl.Found{{First: size, Last: size + 1}})
		isFirst(t, c, "xa", fill+"a", 0, impl.Found{First: 1, Last: 2})
		areFound(t, c, "xa", fill+"a", []impl.Found{{First: 1, Last: 2}})
		isBegun(t, c, "a"+fill, fill+"a", true)
		isBegun(t, c, "a"+fill, fill+filling, true)
		for _, long := range []string{"a" + fill + "a", fill + "a" + filling, strings.Repeat(filling, impl.MaxList+1)} {
			isFirst(t, c, long, "a", 0, none)
			isFirst(t, c, "a", long, 0, none)
			areFound(t, c, long, "a", nil)
			areFound(t, c, "a", long, nil)
			isBegun(t, c, long, "a", false)
			isBegun(t, c, long, "", false)
			isBegun(t, c, "a", long, false)
		}
	}
	for _, bytes := range []int{impl.MaxBytes, impl.MaxBytes + 1} {
		for _, long := range []string{strings.Repeat("a", bytes), strings.Repeat("a", bytes-1) + "b", "a" + strings.Repeat("\x01", bytes-1)} {
			isFirst(t, c, long, "a", 0, none)
			isFirst(t, c, "a", long, 0, none)
			isFirst(t, c, "", long, 0, none)
			areFound(t, c, long, "a", nil)
			areFound(t, c, long, long, nil)
			isBegun(t, c, long, "a", false)
			isBegun(t, c, "a", long, false)
		}
	}
}

func TestManyFound(t *testing.T) {
	many := func(count int, size int64) []impl.Found {
		var all []impl.Found
		for n := range int64(count) {
			all = append(all, impl.Found{First: n * size, Last: (n + 1) * size})
		}
		return all
	}
	for strength := int64(1); strength <= 4; strength++ {
		c := byStrength(strength, "a:"+strings.Repeat("1/2/3 ", 20)+"|abc:1/1/1")
		areFound(t, c, strings.Repeat("a", 1000), "a", many(1000, 1))
		areFound(t, c, strings.Repeat("\u24D0", 1000), "\u24D0", many(1000, 3))
		areFound(t, c, strings.Repeat("ab", 500), "ab", many(500, 2))
		areFound(t, c, strings.Repeat("ab", 500), strings.Repeat("ab", 50), many(10, 100))
		areFound(t, c, strings.Repeat("a", 1000), strings.Repeat("a", 101), nil)
		areFound(t, c, strings.Repeat("a", 1000), "b", nil)
	}
}

func TestRangesByHand(t *testing.T) {
	texts := []string{"b", "d", "d", "f"}
	rows := []struct {
		low   string
		high  string
		first int64
		last  int64
	}{
		{"b", "d", 0, 1}, {"b", "f", 0, 3}, {"b", "g", 0, 4}, {"a", "z", 0, 4}, {"", "\u67FF", 0, 4}, {"d", "f", 1, 3}, {"d", "e", 1, 3}, {"c", "e", 1, 3}, {"c", "d", 1, 1}, {"d", "da", 1, 3}, {"da", "f", 3, 3}, {"da", "fa", 3, 4}, {"f", "fa", 3, 4},
		{"b", "b", 0, 0}, {"d", "d", 1, 1}, {"f", "f", 3, 3}, {"e", "e", 3, 3}, {"a", "a", 0, 0}, {"", "", 0, 0}, {"g", "g", 4, 4},
		{"d", "b", 1, 1}, {"f", "b", 3, 3}, {"g", "a", 4, 4}, {"c", "", 1, 1}, {"", "a", 0, 0}, {"a", "b", 0, 0}, {"g", "z", 4, 4}, {"d", "g", 1, 4}, {"e", "g", 3, 4},
	}
	for strength := int64(1); strength <= 4; strength++ {
		for _, row := range rows {
			isRange(t, impl.Collator{Strength: strength}, texts, row.low, row.high, row.first, row.last)
		}
	}
	c := impl.Collator{Strength: 1}
	for _, row := range rows {
		isRange(t, c, nil, row.low, row.high, 0, 0)
	}
	isRange(t, c, []string{}, "a", "b", 0, 0)
	isRange(t, c, []string{"b"}, "a", "c", 0, 1)
	isRange(t, c, []string{"b"}, "b", "b", 0, 0)
	isRange(t, c, []string{"b"}, "c", "a", 1, 1)
	isRange(t, c, []string{""}, "", "a", 0, 1)
	isRange(t, c, []string{""}, "", "", 0, 0)
	alike := []string{"", "\x01", "a", "A", "\u20D0", "a", "b", "B"}
	isRange(t, c, alike, "A", "B", 2, 6)
	isRange(t, c, alike, "a\u1010", "a\u1000", 2, 2)
	isRange(t, c, alike, "\x02", "a", 0, 2)
	isRange(t, impl.Collator{Strength: 3}, []string{"a", "a", "A", "A", "\u20D0", "b"}, "A", "a\u1000", 2, 4)
	isRange(t, impl.Collator{Strength: 4}, []string{"a", "a", "a\u1F00", "b"}, "a\x01", "a\uFFFD", 2, 3)
	isRange(t, skippingBy(3, ""), []string{"-a", "a b", "ab", "b"}, "ab", " b", 1, 3)
	isRange(t, byStrength(1, "b:300000000/1/1"), []string{"c", "b", "\u0500"}, "d", "\u0500", 1, 2)
	isRange(t, c, []string{"\xFF", "a\xFF", "b"}, "a", "b\x80", 1, 2)
}

func TestRangesOfNoOrder(t *testing.T) {
	c := impl.Collator{Strength: 3}
	for _, texts := range [][]string{{"b", "a"}, {"a", "c", "b"}, {"b", "a", "c"}, {"A", "a"}, {"a", "b", "c", "d", "c"}, {"a", ""}, {"a", "b", "a", "b"}} {
		isRange(t, c, texts, "a", "z", 0, 0)
		isRange(t, c, texts, "z", "z", 0, 0)
		areGroups(t, c, texts, nil)
	}
	isRange(t, impl.Collator{Strength: 2}, []string{"A", "a"}, "", "b", 0, 2)
	isRange(t, impl.Collator{Strength: 1}, []string{"\u20D0", "a"}, "", "b", 0, 2)
	isRange(t, impl.Collator{Strength: 2}, []string{"\u20D0", "a"}, "", "b", 0, 0)
	isRange(t, impl.Collator{Strength: 4}, []string{"a\u1F00", "a"}, "", "b", 0, 0)
}

// sortedTexts are random texts in their order by a collator.
func sortedTexts(r *rand.Rand, c impl.Collator, most int) []string {
	var texts, sorted []string
	for range r.Intn(most + 1) {
		texts = append(texts, randomNormText(r, append(searchAlphabet(), 0x260, 0x232, 0x24D0), 3))
		if r.Intn(8) == 0 {
			texts = append(texts, cutBytes(r, texts[r.Intn(len(texts))]))
		}
	}
	for _, place := range impl.SortTexts(c, texts) {
		sorted = append(sorted, texts[place])
	}
	return sorted
}

// TestRangesHaveTheTextsBetween is the thirtieth promise.
func TestRangesHaveTheTextsBetween(t *testing.T) {
	r := rand.New(rand.NewSource(123))
	for range 3000 {
		c := randomCollator(r)
		texts := sortedTexts(r, c, 20)
		low, high := randomNormText(r, searchAlphabet(), 3), randomNormText(r, searchAlphabet(), 3)
		if len(texts) > 0 && r.Intn(2) == 0 {
			low, high = texts[r.Intn(len(texts))], texts[r.Intn(len(texts))]
		}
		got := impl.RangeOf(c, texts, low, high)
		if got.First < 0 || got.Last < got.First || got.Last > int64(len(texts)) {
			t.Errorf("RangeOf of %+q: got %v", texts, got)
		}
		for at, text := range texts {
			isIn := got.First <= int64(at) && int64(at) < got.Last
			if isIn != (impl.CompareTexts(c, text, low) >= 0 && impl.CompareTexts(c, text, high) < 0) {
				t.Errorf("RangeOf of %+q from %+q to %+q by %+v: got %v, which is wrong of %d", texts, low, high, c, got, at)
			}
			if (impl.CompareTexts(c, text, low) < 0) != (int64(at) < got.First) {
				t.Errorf("RangeOf of %+q from %+q to %+q by %+v: got %v", texts, low, high, c, got)
			}
		}
		mixed := slices.Clone(texts)
		r.Shuffle(len(mixed), func(a int, b int) { mixed[a], mixed[b] = mixed[b], mixed[a] })
		inOrder := slices.IsSortedFunc(mixed, func(a string, b string) int { return int(impl.CompareTexts(c, a, b)) })
		if inOrder {
			isRange(t, c, mixed, low, high, got.First, got.Last)
		} else {
			isRange(t, c, mixed, low, high, 0, 0)
			areGroups(t, c, mixed, nil)
		}
	}
}

// ideographs have one stroke each, so that they rise by their numbers.
func ideographs(count int) []string {
	var texts []string
	for n := range int64(count) {
		texts = append(texts, textWritten(0x6000+24*(n/20)))
	}
	return texts
}

func TestSizesOfRangesAndGroups(t *testing.T) {
	c := impl.Collator{Strength: 3}
	most := ideographs(impl.MaxList)
	isRange(t, c, most, "\u6018", "\u6030", 20, 40)
	isRange(t, c, most, "\u6018", "z", 20, 20)
	isRange(t, c, most, "", "\u67FF", 0, 1000)
	isRange(t, c, append(most, "\u67FF"), "\u6018", "\u6030", 0, 0)
	groups := impl.GroupsOf(c, most)
	if len(groups) != 50 || groups[0] != (impl.Group{Label: "\u6000", Count: 20}) || groups[49] != (impl.Group{Label: textWritten(0x6000 + 24*49), Count: 20}) {
		t.Errorf("GroupsOf of 1000 texts: %d groups", len(groups))
	}
	areGroups(t, c, append(most, "\u67FF"), nil)
	long := strings.Repeat("a", impl.MaxBytes)
	isRange(t, c, []string{"a", long, "b"}, "aa", "b", 1, 2)
	isRange(t, c, []string{"a", "b"}, long, "b", 1, 1)
	isRange(t, c, []string{"a", "b"}, "a", long, 0, 1)
	isRange(t, c, slices.Repeat([]string{long}, impl.MaxList), long, "b", 0, 1000)
	areGroups(t, c, slices.Repeat([]string{long}, impl.MaxList), []impl.Group{{Label: "A", Count: 1000}})
	areGroups(t, c, []string{long[1:], long}, []impl.Group{{Label: "A", Count: 2}})
	for _, longer := range []string{long + "a", long + "\x01", long + "b"} {
		isRange(t, c, []string{"a", "b"}, longer, "b", 0, 0)
		isRange(t, c, []string{"b", "c"}, "c", longer, 0, 0)
		for at := range 3 {
			isRange(t, c, slices.Insert([]string{"a", "b"}, at, longer), "b", "c", 0, 0)
			areGroups(t, c, slices.Insert([]string{"a", "b"}, at, longer), nil)
		}
		areGroups(t, c, []string{longer}, nil)
		isFence(t, c, longer, "")
	}
}

func TestFencesByHand(t *testing.T) {
	rows := []struct {
		c    impl.Collator
		what string
		want string
	}{
		{byStrength(1, ""), "", ""}, {byStrength(1, ""), "a", "200097001"}, {byStrength(1, ""), "A", "200097001"}, {byStrength(1, ""), "ab", "200097000 200098001"}, {byStrength(1, ""), "aa", "200097000 200097001"}, {byStrength(1, ""), "a\u1000", "200097001"}, {byStrength(1, ""), "\u1000a\u1010", "200097001"}, {byStrength(1, ""), "\u1000", ""}, {byStrength(1, ""), "\x01", ""}, {byStrength(1, ""), "\xFF", ""}, {byStrength(1, ""), "\xFFa\xE2", "200097001"},
		{byStrength(1, ""), "\u0260", "200562000 200562001"}, {byStrength(1, ""), "\u3000", "301792000 301824001"}, {byStrength(1, ""), "a b", "200097000 10032000 200098001"}, {skippingBy(1, ""), "a b", "200097000 200098001"}, {skippingBy(1, ""), " ", ""},
		{byStrength(1, "x:0/1/1"), "x", ""}, {byStrength(1, "x:0/1/1"), "ax", "200097001"}, {byStrength(1, "x:0/0/0|y:7/0/0 0/0/0"), "xyx", "8"}, {byStrength(1, "x:0/0/0|y:7/0/0 0/0/0 9/0/0"), "xyx", "7 10"}, {byStrength(1, "x:"), "x", ""}, {byStrength(1, "x:1/1/1"), "x", "2"}, {byStrength(1, "x:255/1/1"), "xx", "255 256"}, {byStrength(1, "x:65535/1/1"), "x", "65536"}, {byStrength(1, "x:4294967295/1/1"), "x", "4294967296"}, {byStrength(1, "x:1000000000000/1/1"), "xx", "1000000000000 1000000000001"}, {byStrength(1, "ab:5/5/5"), "abb", "5 200098001"},
	}
	for _, row := range rows {
		for strength := int64(1); strength <= 4; strength++ {
			row.c.Strength = strength
			isFence(t, row.c, row.what, weights(row.want))
			isFence(t, row.c, row.what, collatedPlainly(row.c).fencePlainly(row.what))
		}
	}
}

func TestSizesOfFences(t *testing.T) {
	c, many := impl.Collator{Strength: 4}, byStrength(1, "a:"+strings.Repeat("7/0/0 ", 20))
	a := func(count int) string { return strings.Repeat("a", count) }
	firsts := func(count int) string { return strings.Repeat(weights("200097000"), count-1) + weights("200097001") }
	isFence(t, c, a(10922), firsts(10922))
	isFence(t, c, a(10923), "")
	isFence(t, c, a(10922)+strings.Repeat("\x01", impl.MaxBytes-10922), firsts(10922))
	isFence(t, c, a(10922)+strings.Repeat("\x01", impl.MaxBytes-10921), "")
	isFence(t, c, strings.Repeat("\xFF", impl.MaxBytes-1)+"a", firsts(1))
	isFence(t, c, strings.Repeat("\xFF", impl.MaxBytes)+"a", "")
	isFence(t, c, a(impl.MaxBytes), "")
	isFence(t, many, a(546), strings.Repeat(weights("7"), 10919)+weights("8"))
	isFence(t, many, a(547), "")
	isFence(t, many, a(546)+"bb", strings.Repeat(weights("7"), 10920)+weights("200098000 200098001"))
	isFence(t, many, a(546)+"bbb", "")
}

// TestFencesAreAbove is the thirty-first promise; and what is below a fence, but not below its text, begins
// with it.
func TestFencesAreAbove(t *testing.T) {
	r, plain := rand.New(rand.NewSource(124)), collatedPlainly(impl.Collator{})
	count := 0
	for range 30000 {
		c := randomCollator(r)
		plain.Collator = c
		what, text := randomNormText(r, searchAlphabet(), 3), randomNormText(r, searchAlphabet(), 4)
		if r.Intn(2) == 0 {
			text = what + text
		}
		fence := impl.FenceOf(c, what)
		isFence(t, c, what, plain.fencePlainly(what))
		c.Strength = 1
		key, begin := impl.KeyOf(c, text), impl.KeyOf(c, what)
		if begin == "" {
			isText(t, "FenceOf", what, fence, "")
			continue
		}
		if strings.HasPrefix(key, begin) != (key >= begin && key < fence) {
			t.Errorf("%+q begins by %+q: %t, its key is %q, the fence %q", text, what, strings.HasPrefix(key, begin), key, fence)
		}
		if strings.HasPrefix(key, begin) {
			count++
		}
	}
	if count < 5000 {
		t.Errorf("%d began with what was asked for", count)
	}
}

// groupsFrom reads groups, each a Label, an = and its Count, with a bar between them.
func groupsFrom(row string) []impl.Group {
	var groups []impl.Group
	for _, piece := range strings.Split(row, "|") {
		if label, count, found := strings.Cut(piece, "="); found {
			groups = append(groups, impl.Group{Label: label, Count: numbersOf(count)[0]})
		}
	}
	return groups
}

func TestGroupsByHand(t *testing.T) {
	rows := []struct {
		c     impl.Collator
		texts []string
		want  string
	}{
		{byStrength(1, ""), nil, ""}, {byStrength(1, ""), []string{}, ""}, {byStrength(1, ""), []string{""}, "=1"}, {byStrength(1, ""), []string{"", "\x01", "\xFF"}, "=3"}, {byStrength(4, ""), []string{"", "\x01", "\x02\x03"}, "=3"}, {byStrength(1, ""), []string{"a"}, "A=1"}, {byStrength(1, ""), []string{"ab", "Ac", "b"}, "A=2|B=1"},
		{byStrength(3, ""), []string{"", "\x01", "a", "A", "a\u1000", "ab", "b", "\u0500", "\u6000x"}, "=2|A=4|B=1|\u0500=1|\u6000=1"}, {byStrength(1, ""), []string{"", "a", "A", "b", "c", "C"}, "=1|A=2|B=1|C=2"}, {byStrength(1, ""), []string{" ", "-", "1", "\u0251", "2", "a"}, " =1|-=1|1=2|2=1|A=1"},
		{byStrength(1, ""), []string{"a\u1000", "a"}, "\u2000=2"}, {byStrength(1, ""), []string{"\u20D0x"}, "\u2000=1"}, {byStrength(1, ""), []string{"a\u1000\u1010b"}, "\u2400=1"}, {byStrength(1, ""), []string{"x\u1020\u1000"}, "\u20B8\u1020=1"}, {byStrength(1, ""), []string{"a\u1020"}, "A\u1020=1"}, {byStrength(1, ""), []string{"\u2600"}, "A=1"}, {byStrength(1, ""), []string{"\u0700\u0720", "\u3000a"}, "\u3000=2"}, {byStrength(1, ""), []string{"\u0700", "\u3000"}, "\u0700=1|\u3000=1"},
		{byStrength(1, ""), []string{"\u2700", "a"}, "\u2700=2"}, {byStrength(3, ""), []string{"a", "\u2700", "b"}, "A=2|B=1"}, {byStrength(1, ""), []string{"\u0220", "\u0248", "\u0244x"}, "\u0200=1|\u0240=2"}, {byStrength(3, ""), []string{"\u0232\u0232", "\u0260", "\u0260a"}, "\u0212=1|\u0212\u0212=2"}, {byStrength(1, ""), []string{"\u0261", "\u0232", "\u0212"}, "\u0212=3"}, {byStrength(1, ""), []string{"\u0244"}, "\u0240=1"},
		{byStrength(1, ""), []string{"\x01b", "b", "\u1F01\u1F01B"}, "B=3"}, {byStrength(1, ""), []string{"\xFFb", "\xE2\x80b"}, "B=2"}, {byStrength(1, ""), []string{"\x01b\u1000"}, "\u2008=1"}, {skippingBy(1, ""), []string{" -", " b", "-B", "c"}, "=1|B=2|C=1"}, {byStrength(1, ""), []string{" b", " c", "b"}, " =2|B=1"},
		{byStrength(2, ""), []string{"", "\u1000", "\u1001"}, "=1|\u1000=2"}, {byStrength(1, ""), []string{"\u1000", "", "\u1000", "\x01\u1001"}, "\u1000=1|=1|\u1000=2"}, {byStrength(1, ""), []string{"\u1000", "\u1000a", "a"}, "\u1000=2|A=1"}, {byStrength(1, ""), []string{"a", "\u1000a", "A"}, "A=1|\u1000=1|A=1"},
		{byStrength(3, "ch:200099001/1/1"), []string{"ca", "cz", "ch", "d"}, "C=3|D=1"}, {byStrength(3, "c:5/1/1|d:5/1/1"), []string{"d", "c", "ca", "da"}, "D=4"}, {byStrength(3, "a\u1000:200122000/1/1"), []string{"a", "b", "\u20D0", "z", "za"}, "A=1|B=1|\u2000=3"}, {byStrength(1, "x:0/0/0"), []string{"", "x", "xa"}, "=1|X=2"}, {byStrength(1, "x:0/0/0|y:0/1/0 7/0/0|z:7/0/0"), []string{"y", "z"}, "Y=2"},
		{byStrength(1, "a:"), []string{"a", "ab", "b"}, "=1|B=2"}, {byStrength(1, "ab:"), []string{"ab", "abab", "a", "abb"}, "=2|A=2"}, {byStrength(1, "\x01\x02:5/5/5"), []string{"", "\x01\x02", "a"}, "=2|A=1"},
	}
	for _, row := range rows {
		areGroups(t, row.c, row.texts, groupsFrom(row.want))
		areGroups(t, row.c, row.texts, collatedPlainly(row.c).groupsPlainly(row.texts))
	}
}

// TestLongLabels has a first character of which Upper has more bytes than a text may have.
func TestLongLabels(t *testing.T) {
	c := impl.Collator{Strength: 1}
	marks := strings.Repeat("\u1020", 21844)
	areGroups(t, c, []string{"\u0260" + marks}, []impl.Group{{Label: "\u0212\u0212" + marks, Count: 1}})
	areGroups(t, c, []string{"\u0260\u0630" + marks}, []impl.Group{{Count: 1}})
	areGroups(t, c, []string{"\u0260\u0630" + marks, "\u0260"}, []impl.Group{{Count: 2}})
}

// TestGroupsCountAll is the thirty-second promise.
func TestGroupsCountAll(t *testing.T) {
	r, plain := rand.New(rand.NewSource(125)), collatedPlainly(impl.Collator{})
	for range 3000 {
		c := randomCollator(r)
		plain.Collator = c
		texts := sortedTexts(r, c, 20)
		groups := impl.GroupsOf(c, texts)
		count := int64(0)
		for _, group := range groups {
			if group.Count < 1 || !utf8.ValidString(group.Label) {
				t.Errorf("a group of %+q is %+v", texts, group)
			}
			count += group.Count
		}
		if count != int64(len(texts)) {
			t.Errorf("%d of %d texts are counted: %+q", count, len(texts), texts)
		}
		areGroups(t, c, texts, plain.groupsPlainly(texts))
	}
}

func TestRightCollatorsSearch(t *testing.T) {
	for what, c := range rightCollators() {
		if impl.FindFirst(c, "yz", "z", 0) != (impl.Found{First: 1, Last: 2}) || len(impl.FindAll(c, "zz", "z")) != 2 || !impl.BeginsWith(c, "zy", "z") {
			t.Errorf("%s: not all is found", what)
		}
		if impl.RangeOf(c, []string{"x", "y", "z"}, "y", "z") != (impl.Found{First: 1, Last: 2}) || impl.FenceOf(c, "z") != weights("200122001") || len(impl.GroupsOf(c, []string{"y", "z"})) != 2 {
			t.Errorf("%s: not all calls answer", what)
		}
	}
}

func TestWrongCollatorsFindNothing(t *testing.T) {
	for what, c := range wrongCollators() {
		first, all := impl.FindFirst(c, "za", "z", 0), impl.FindAll(c, "za", "z")
		if first != (impl.Found{First: -1, Last: -1}) || len(all) != 0 || impl.BeginsWith(c, "z", "z") || impl.BeginsWith(c, "", "") {
			t.Errorf("%s: found %v, %v, or it begins so", what, first, all)
		}
		texts := []string{"x", "y", "z"}
		if impl.RangeOf(c, texts, "y", "z") != (impl.Found{}) || impl.FenceOf(c, "z") != "" || len(impl.GroupsOf(c, texts)) != 0 || len(impl.GroupsOf(c, nil)) != 0 {
			t.Errorf("%s: a range, a fence or groups are told", what)
		}
	}
}

func TestSearchedAreNewMemory(t *testing.T) {
	entries := spare(entriesFrom("a:1/2/3 4/5/6|ab:7/8/9|b:"))
	for at := range entries {
		entries[at].Elements = spare(entries[at].Elements)
	}
	c := impl.Collator{Entries: entries, Strength: 4}
	texts := spare([]string{"", "b", "a", "\u20D0", "ab", "c", "\u0500", "\u6000"})
	text, what := strings.Clone("xa abca"), strings.Clone("a")
	told := func() string {
		row := fmt.Sprint(c, texts[:cap(texts)], entries[:cap(entries)], text, what)
		for _, entry := range entries {
			row += fmt.Sprint(entry.Elements[:cap(entry.Elements)])
		}
		return row
	}
	given := told()
	asked := func() (string, []impl.Found, []impl.Group) {
		all, groups := impl.FindAll(c, text, what), impl.GroupsOf(c, texts)
		fence := impl.FenceOf(c, what)
		row := fmt.Sprint(all, groups, fence, impl.FindFirst(c, text, what, 2), impl.BeginsWith(c, text, "x"), impl.RangeOf(c, texts, what, "c"))
		return row, all, groups
	}
	first, all, groups := asked()
	if len(all) != 3 || len(groups) != 5 {
		t.Errorf("found %v, groups %+v", all, groups)
	}
	for range 3 {
		again, all, groups := asked()
		if again != first {
			t.Errorf("asked again: %s, want %s", again, first)
		}
		for _, group := range groups {
			if slices.ContainsFunc(texts, func(text string) bool { return sharesMemory(group.Label, text) }) {
				t.Errorf("the Label %+q is a piece of a text", group.Label)
			}
		}
		clear(all[:cap(all)])
		clear(groups[:cap(groups)])
		if got := told(); got != given {
			t.Errorf("what was given became %s, it was %s", got, given)
		}
	}
}

// haveEnded waits a while for goroutines that are about to end.
func haveEnded(t *testing.T, before int) {
	t.Helper()
	after := runtime.NumGoroutine()
	for wait := 0; wait < 100 && after > before; wait++ {
		time.Sleep(10 * time.Millisecond)
		after = runtime.NumGoroutine()
	}
	if after > before {
		t.Errorf("%d goroutines were there, now %d", before, after)
	}
}

// TestSearchersHaveEnded looks for goroutines that would go on behind their calls, whether they found
// something or not.
func TestSearchersHaveEnded(t *testing.T) {
	c := impl.Collator{Strength: 1}
	text := strings.Repeat("ab", 500)
	before := runtime.NumGoroutine()
	for range 200 {
		impl.FindFirst(c, text, "ab", 0)
		impl.FindFirst(c, text, "b", 998)
		impl.FindAll(c, text[:50], "ba")
		impl.BeginsWith(c, text, "ab")
		impl.BeginsWith(c, text, "c")
		impl.FindFirst(c, text[:20], "c", 0)
	}
	haveEnded(t, before)
}

// TestSearchesAtOnce asks from many goroutines, whose answers may not mind each other.
func TestSearchesAtOnce(t *testing.T) {
	c := byStrength(1, "ab:5/5/5")
	answers := make([]string, 16)
	var askers sync.WaitGroup
	for n := range answers {
		askers.Go(func() {
			answers[n] = fmt.Sprint(impl.FindAll(c, "xabaabbA", "a"), impl.FindFirst(c, "xabab", "ab", 2), impl.BeginsWith(c, "abc", "ab"))
		})
	}
	askers.Wait()
	for _, answer := range answers {
		if answer != answers[0] {
			t.Errorf("asked at once: %s and %s", answer, answers[0])
		}
	}
}
