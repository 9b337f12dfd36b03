package tests

import (
	"math"
	"math/rand"
	"slices"
	"strings"
	"sync"
	"testing"

	"loop.example/g00044/impl"
)

// trio is an upper letter, the title one and the lower one.
type trio struct {
	upper int64
	title int64
	lower int64
}

// casedScripts are the three b of chapter 2.
func casedScripts() []int64 {
	return []int64{0x200, 0x300, 0x400}
}

// trioOfPoints says once more which points belong together, and what else chapter 7 has of one point.
var trioOfPoints = func() map[int64]trio {
	trios := map[int64]trio{}
	pairs := func(upper int64, count int64, distance int64) {
		for p := upper; p < upper+count; p++ {
			trios[p], trios[p+distance] = trio{p, p, p + distance}, trio{p, p, p + distance}
		}
	}
	pairs(0x41, 26, 0x20)
	for _, b := range casedScripts() {
		pairs(b, 0x20, 0x20)
		for p := b + 0x40; p < b+0x44; p++ {
			trios[p], trios[p+4], trios[p+8] = trio{p, p + 4, p + 8}, trio{p, p + 4, p + 8}, trio{p, p + 4, p + 8}
		}
		trios[b+0x61] = trio{b + 0x12, b + 0x12, b + 0x61}
	}
	for _, first := range []int64{0x2000, 0x2200, 0x2400} {
		pairs(first, 26*8, 0xD0)
	}
	for i := int64(0); i < 26; i++ {
		trios[0x2600+i] = trio{0x2600 + i, 0x2600 + i, 0x61 + i}
	}
	return trios
}()

func plainTrio(p int64) trio {
	if told, found := trioOfPoints[p]; found {
		return told
	}
	return trio{p, p, p}
}

// isAny tells whether p is b + place for one of the three b.
func isAny(p int64, place int64) bool {
	return p == 0x200+place || p == 0x300+place || p == 0x400+place
}

func isCased(p int64) bool {
	category := impl.Category(p)
	return category == impl.CatUpper || category == impl.CatLower || category == impl.CatTitle
}

func withoutMarks(points []int64) []int64 {
	return slices.DeleteFunc(slices.Clone(points), func(p int64) bool { return impl.Category(p) == impl.CatMark })
}

func plainUpper(points []int64) []int64 {
	told := []int64{}
	for _, p := range points {
		if isAny(p, 0x60) {
			told = append(told, p-0x60+0x12, p-0x60+0x12)
			continue
		}
		told = append(told, plainTrio(p).upper)
	}
	return told
}

func plainLower(points []int64) []int64 {
	told := []int64{}
	for at, p := range points {
		told = append(told, plainTrio(p).lower)
		ahead, behind := withoutMarks(points[:at]), withoutMarks(points[at+1:])
		if isAny(p, 0x12) && len(ahead) > 0 && isCased(ahead[len(ahead)-1]) && (len(behind) == 0 || !isCased(behind[0])) {
			told[at] = p - 0x12 + 0x61
		}
	}
	return told
}

func plainFold(points []int64) []int64 {
	told := []int64{}
	for _, p := range points {
		switch {
		case isAny(p, 0x60):
			told = append(told, p-0x60+0x32, p-0x60+0x32)
		case isAny(p, 0x61):
			told = append(told, p-0x61+0x32)
		default:
			told = append(told, plainTrio(p).lower)
		}
	}
	return told
}

func isWordPoint(p int64) bool {
	category := impl.Category(p)
	return category == impl.CatMark || category == impl.CatOther || category == impl.CatDigit || isCased(p) || p == 0x27
}

// plainTitle cuts the points into words first, and looks into each then.
func plainTitle(points []int64) []int64 {
	lower := plainLower(points)
	told := []int64{}
	for at := 0; at < len(points); {
		end := at
		for end < len(points) && isWordPoint(points[end]) {
			end++
		}
		first := slices.IndexFunc(points[at:end], isCased)
		switch {
		case end == at:
			end++
			told = append(told, points[at])
		case first < 0:
			told = append(told, points[at:end]...)
		default:
			told = append(told, points[at:at+first]...)
			if p := points[at+first]; isAny(p, 0x60) {
				told = append(told, p-0x60+0x12, p-0x60+0x32)
			} else {
				told = append(told, plainTrio(p).title)
			}
			told = append(told, lower[at+first+1:end]...)
		}
		at = end
	}
	return told
}

func plainCaseless(text string) string {
	return textWritten(plainNormal(impl.NormD, plainFold(plainNormal(impl.NormD, readPlainly(text))))...)
}

// plainCases are the rows of CasesOf by what they are told by: the lower letter, or b+32.
var plainCases = func() map[int64][]int64 {
	rows := map[int64][]int64{}
	for p := int64(0); p <= impl.LastKnown; p++ {
		lower := caseKey(p)
		rows[lower] = append(rows[lower], p)
	}
	return rows
}()

func caseKey(p int64) int64 {
	if isAny(p, 0x61) {
		return p - 0x61 + 0x32
	}
	return plainTrio(p).lower
}

// noPoints are numbers of no point, some of which become a letter in fewer bits.
func noPoints() []int64 {
	return []int64{
		-1, -0x41, -0x60, -0x2000, 0xD800, 0xDBFF, 0xDC00, 0xDFFF, impl.MaxPoint + 1, 1<<21 + 'a', 1<<32 + 'A', 1<<32 + 0x212,
		-1<<32 + 'a', math.MaxInt64, math.MinInt64, math.MinInt64 + 'A', math.MinInt64 + 0x20,
	}
}

func isTrio(t *testing.T, p int64, want trio) {
	t.Helper()
	isNumber(t, "SimpleUpper", p, impl.SimpleUpper(p), want.upper)
	isNumber(t, "SimpleTitle", p, impl.SimpleTitle(p), want.title)
	isNumber(t, "SimpleLower", p, impl.SimpleLower(p), want.lower)
}

func TestSimpleCasesByHand(t *testing.T) {
	same := func(points ...int64) {
		t.Helper()
		for _, p := range points {
			isTrio(t, p, trio{p, p, p})
		}
	}
	pair := func(upper int64, lower int64) {
		t.Helper()
		isTrio(t, upper, trio{upper, upper, lower})
		isTrio(t, lower, trio{upper, upper, lower})
	}
	pair('A', 'a')
	pair('Z', 'z')
	same(0, ' ', '0', '9', 0x27, 0x40, 0x5B, 0x60, 0x7B, 0xFF, 0x1FF, 0x2FF, 0x3FF, 0x4FF)
	for _, b := range casedScripts() {
		pair(b, b+0x20)
		pair(b+0x12, b+0x32)
		pair(b+0x1F, b+0x3F)
		for _, n := range []int64{0, 3} {
			two := trio{b + 0x40 + n, b + 0x44 + n, b + 0x48 + n}
			isTrio(t, two.upper, two)
			isTrio(t, two.title, two)
			isTrio(t, two.lower, two)
		}
		same(b+0x4C, b+0x4F, b+0x50, b+0x59, b+0x5F, b+0x60, b+0x62, b+0x72, b+0x80, b+0xFF)
		isTrio(t, b+0x61, trio{b + 0x12, b + 0x12, b + 0x61})
	}
	same(0x500, 0x512, 0x532, 0x560, 0x561, 0x600, 0x620, 0x631, 0x700, 0x800, 0x1000, 0x103F)
	for _, first := range []int64{0x2000, 0x2200, 0x2400} {
		pair(first, first+0xD0)
		pair(first+0x07, first+0xD7)
		pair(first+0x08, first+0xD8)
		pair(first+0xCF, first+0x19F)
		same(first-1, first+0x1A0, first+0x1FF)
	}
	isTrio(t, 0x2600, trio{0x2600, 0x2600, 'a'})
	isTrio(t, 0x2601, trio{0x2601, 0x2601, 'b'})
	isTrio(t, 0x2619, trio{0x2619, 0x2619, 'z'})
	same(0x25FF, 0x261A, 0x2620, 0x2639, 0x2700, 0x2719, 0x2730, 0x3000, 0x6000, 0x67FF, 0xFFFD, 0x10041, 0x10212, impl.MaxPoint)
}

func TestSimpleCasesOfAllPoints(t *testing.T) {
	for _, p := range allPoints() {
		isTrio(t, p, plainTrio(p))
	}
	for _, p := range unknownPoints() {
		want := trio{p, p, p}
		if p < 0 || p > impl.MaxPoint || p >= 0xD800 && p <= 0xDFFF {
			want = trio{}
		}
		isTrio(t, p, want)
	}
}

func TestSimpleCasesOfWhatIsNone(t *testing.T) {
	for _, p := range noPoints() {
		isTrio(t, p, trio{})
	}
}

// textCase is a text with its upper, lower, title and folded one.
type textCase struct {
	text  string
	upper string
	lower string
	title string
	fold  string
}

func isTextCase(t *testing.T, want textCase) {
	t.Helper()
	got := textCase{want.text, impl.Upper(want.text), impl.Lower(want.text), impl.Title(want.text), impl.Fold(want.text)}
	if got != want {
		t.Errorf("cases of %+q:\n got %+q\nwant %+q", want.text, got, want)
	}
}

// upperTitle is a row of texts whose upper and title ones are alike.
func upperTitle(text string, upper string, lower string, fold string) textCase {
	return textCase{text, upper, lower, upper, fold}
}

func TestTextCasesByHand(t *testing.T) {
	for _, row := range []textCase{
		upperTitle("", "", "", ""),
		upperTitle("a", "A", "a", "a"),
		{"aBc", "ABC", "abc", "Abc", "abc"},
		{"\u0240\u0240", "\u0240\u0240", "\u0248\u0248", "\u0244\u0248", "\u0248\u0248"},
		{"\u0347\u0347", "\u0343\u0343", "\u034B\u034B", "\u0347\u034B", "\u034B\u034B"},
		{"\u0448\u0440", "\u0440\u0440", "\u0448\u0448", "\u0444\u0448", "\u0448\u0448"},
		{"\u2000\u22D0\u24CF", "\u2000\u2200\u24CF", "\u20D0\u22D0\u259F", "\u2000\u22D0\u259F", "\u20D0\u22D0\u259F"},
		{"\u2600\u2619", "\u2600\u2619", "az", "\u2600z", "az"},
		{"\u0260", "\u0212\u0212", "\u0260", "\u0212\u0232", "\u0232\u0232"},
		{"\u0360\u0360", "\u0312\u0312\u0312\u0312", "\u0360\u0360", "\u0312\u0332\u0360", "\u0332\u0332\u0332\u0332"},
		{"x\u0460 \u0460x", "X\u0412\u0412 \u0412\u0412X", "x\u0460 \u0460x", "X\u0460 \u0412\u0432x", "x\u0432\u0432 \u0432\u0432x"},
		{"\u0261", "\u0212", "\u0261", "\u0212", "\u0232"},
		{"a\u0361\u0461", "A\u0312\u0412", "a\u0361\u0461", "A\u0361\u0461", "a\u0332\u0432"},
		{"\u0500\u3000\u6000", "\u0500\u3000\u6000", "\u0500\u3000\u6000", "\u0500\u3000\u6000", "\u0500\u3000\u6000"},
		{"\u2700\u2730\u00A0", "\u2700\u2730\u00A0", "\u2700\u2730\u00A0", "\u2700\u2730\u00A0", "\u2700\u2730\u00A0"},
		{"a\U0001F600B", "A\U0001F600B", "a\U0001F600b", "A\U0001F600B", "a\U0001F600b"},
		// A broken byte is U+FFFD, which is of no word.
		{"a\xFFB", "A\uFFFDB", "a\uFFFDb", "A\uFFFDB", "a\uFFFDb"},
		{"\xE2\x98", "\uFFFD\uFFFD", "\uFFFD\uFFFD", "\uFFFD\uFFFD", "\uFFFD\uFFFD"},
		{"a\u0212\xC2", "A\u0212\uFFFD", "a\u0261\uFFFD", "A\u0261\uFFFD", "a\u0232\uFFFD"},
	} {
		isTextCase(t, row)
	}
}

func isText(t *testing.T, what string, given string, got string, want string) {
	t.Helper()
	if got != want {
		t.Errorf("%s of %+q: got %+q, want %+q", what, given, got, want)
	}
}

// TestEndsOfWords looks at b+12 (S here), which is e where it ends a word, else s, for each of the b.
func TestEndsOfWords(t *testing.T) {
	for _, row := range [][2]string{
		{"S", "s"}, {"aS", "ae"}, {"AS", "ae"}, {"Sa", "sa"}, {"aSa", "asa"}, {"aSA", "asa"}, {"SS", "se"}, {"SSS", "sse"},
		{" S", " s"}, {"aS ", "ae "}, {"aS a", "ae a"}, {"a S", "a s"}, {"a S ", "a s "}, {"aSS a", "ase a"}, {"S S", "s s"},
		{"S\u1000", "s\u1000"}, {"\u1000S", "\u1000s"}, {"a\u1000S", "a\u1000e"}, {"aS\u1000", "ae\u1000"},
		{"a\u1000\u0620\u0631S\u1020\u103F", "a\u1000\u0620\u0631e\u1020\u103F"}, {"aS\u1000a", "as\u1000a"},
		{"aS\u1000\u0630\u1038a", "as\u1000\u0630\u1038a"}, {"aS\u1000 ", "ae\u1000 "}, {"aS\u1000 a", "ae\u1000 a"},
		{"a \u1000S", "a \u1000s"}, {"\u1000\u1000S\u1000", "\u1000\u1000s\u1000"}, {"aS1", "ae1"}, {"aS1a", "ae1a"}, {"1S", "1s"},
		{"a1S", "a1s"}, {"aS\u0500", "ae\u0500"}, {"\u0500S", "\u0500s"}, {"aS\u3000", "ae\u3000"}, {"\u6000S", "\u6000s"},
		{"aS'", "ae'"}, {"aS'a", "ae'a"}, {"a'S", "a's"}, {"aS-a", "ae-a"}, {"aS\u1F00a", "ae\u1F00a"}, {"a\u1F00S", "a\u1F00s"},
		{"aS\u00AD", "ae\u00AD"}, {"aS\u2700", "ae\u2700"}, {"aS\xFF", "ae\uFFFD"}, {"\xFFS", "\uFFFDs"}, {"aS\U0001F600", "ae\U0001F600"},
		{"\u0244S", "\u0248e"}, {"aS\u0244", "as\u0248"}, {"\u2600S", "ae"}, {"aS\u2600", "asa"}, {"\u0260S", "\u0260e"}, {"aS\u0261", "as\u0261"},
		{"\u0261S", "\u0261e"}, {"aS\u0260", "as\u0260"}, {"\u2000S", "\u20D0e"}, {"aS\u259F", "as\u259F"}, {"\u0420S\u1000\u1000", "\u0420e\u1000\u1000"},
	} {
		for _, b := range casedScripts() {
			text := strings.ReplaceAll(row[0], "S", writtenBytes(b+0x12))
			want := strings.NewReplacer("s", writtenBytes(b+0x32), "e", writtenBytes(b+0x61)).Replace(row[1])
			isText(t, "Lower", text, impl.Lower(text), want)
		}
	}
}

func TestEndsOfTitleWords(t *testing.T) {
	for _, row := range [][2]string{
		{"S", "S"}, {"aS", "Ae"}, {"Sa", "Sa"}, {"SS", "Se"}, {"SSS", "Sse"}, {"SS SS", "Se Se"}, {"aSa", "Asa"},
		{"a\u1000S\u1000", "A\u1000e\u1000"}, {"aS\u1000a", "As\u1000a"}, {"aS1", "Ae1"}, {"a1S", "A1s"}, {"aS\u0500", "Ae\u0500"},
		{"a\u0500S", "A\u0500s"}, {"aS ", "Ae "}, {"a S", "A S"}, {" S", " S"}, {"1S", "1S"}, {"1SS", "1Se"}, {"a'S", "A's"},
		{"aS'", "Ae'"}, {"\u0260S", "Sse"}, {"S\u0260", "S\u0260"}, {"aSS-a", "Ase-A"}, {"\u1000SS\u1000", "\u1000Se\u1000"}, {"aS\xFF", "Ae\uFFFD"},
	} {
		for _, b := range casedScripts() {
			given := strings.NewReplacer("S", writtenBytes(b+0x12), "\u0260", writtenBytes(b+0x60))
			told := strings.NewReplacer("S", writtenBytes(b+0x12), "s", writtenBytes(b+0x32), "e", writtenBytes(b+0x61), "\u0260", writtenBytes(b+0x60))
			text := given.Replace(row[0])
			isText(t, "Title", text, impl.Title(text), told.Replace(row[1]))
		}
	}
}

func TestWordsOfTitles(t *testing.T) {
	for _, row := range [][2]string{
		{"ab cd", "Ab Cd"}, {"AB CD", "Ab Cd"}, {"  ab  ", "  Ab  "}, {"don't", "Don't"}, {"'ab'CD'", "'Ab'cd'"}, {"''", "''"},
		{"1ab2CD", "1Ab2cd"}, {"\u0500aB", "\u0500Ab"}, {"\u0500\u3000\u6000aB", "\u0500\u3000\u6000Ab"}, {"a\u0500B", "A\u0500b"},
		{"\u1000aB", "\u1000Ab"}, {"a\u1000B", "A\u1000b"}, {"a\u0620\u0631B", "A\u0620\u0631b"}, {"ab-CD", "Ab-Cd"}, {"ab.CD", "Ab.Cd"},
		{"a_B", "A_B"}, {"a\u00ADB", "A\u00ADB"}, {"a\u1F00B", "A\u1F00B"}, {"a\u00A0B", "A\u00A0B"}, {"a\u1F80b", "A\u1F80B"},
		{"a\nb\tc", "A\nB\tC"}, {"a\u2700B", "A\u2700B"}, {"a\u2720B", "A\u2720b"}, {"\u2720aB", "\u2720Ab"}, {"a\u0250B", "A\u0250b"},
		{"a\u2730B", "A\u2730B"}, {"a\u1E00B", "A\u1E00B"}, {"a\u7000B", "A\u7000B"}, {"a\xFFB", "A\uFFFDB"}, {"a\u0500 \u0500b 1c 'd", "A\u0500 \u0500B 1C 'D"},
		{"\u0248\u0240 \u0244\u0244", "\u0244\u0248 \u0244\u0248"}, {"\u2600\u2600 \u2619", "\u2600a \u2619"}, {"\u0261\u0261", "\u0212\u0261"},
		{"\u0360\u0360 \u0460a", "\u0312\u0332\u0360 \u0412\u0432a"}, {"1\u0260'\u0260", "1\u0212\u0232'\u0260"}, {"\u20D0\u2000 \u24D0", "\u2000\u20D0 \u2400"},
		{"12 34", "12 34"}, {"\u1000 \u1000", "\u1000 \u1000"}, {"aBC dEF GHi", "Abc Def Ghi"},
	} {
		isText(t, "Title", row[0], impl.Title(row[0]), row[1])
	}
}

// caseAlphabet are a few points that meet in all ways.
func caseAlphabet() []int64 {
	return []int64{
		'a', 'B', 0x212, 0x232, 0x260, 0x261, 0x312, 0x240, 0x244, 0x248, '1', 0x27, ' ', 0x1000, 0x620, 0x500, 0x2600, 0x2000, 0x22D0,
		0x24CF, 0x2700, 0x1F00, 0xFFFD,
	}
}

// eachCaseText hands on all texts of up to three points of the alphabet, and random longer ones.
func eachCaseText(look func(text string)) {
	texts, all := []string{""}, []string{""}
	for range 3 {
		longer := []string{}
		for _, text := range texts {
			for _, p := range caseAlphabet() {
				longer = append(longer, text+writtenBytes(p))
			}
		}
		texts = longer
		all = append(all, longer...)
	}
	r := rand.New(rand.NewSource(6))
	known := allPoints()[:impl.LastKnown]
	for range 4000 {
		all = append(all, randomNormText(r, caseAlphabet(), 14), randomNormText(r, known[:0x500], 9), randomNormText(r, normEdges(), 7))
		all = append(all, randomNormText(r, caseAlphabet(), 3)+"\xE2\x80"+randomNormText(r, caseAlphabet(), 3))
	}
	for _, text := range all {
		look(text)
	}
}

func TestTextCases(t *testing.T) {
	eachCaseText(func(text string) {
		points := readPlainly(text)
		isTextCase(t, textCase{
			text, textWritten(plainUpper(points)...), textWritten(plainLower(points)...), textWritten(plainTitle(points)...),
			textWritten(plainFold(points)...),
		})
	})
}

func TestTextCasesOfAllPoints(t *testing.T) {
	for _, p := range allPoints() {
		points := []int64{p}
		isTextCase(t, textCase{
			textWritten(p), textWritten(plainUpper(points)...), textWritten(plainLower(points)...), textWritten(plainTitle(points)...),
			textWritten(plainFold(points)...),
		})
	}
}

// TestFoldedTexts holds promise 13.
func TestFoldedTexts(t *testing.T) {
	look := func(text string) {
		t.Helper()
		fold := impl.Fold(text)
		isText(t, "Fold of Fold", text, impl.Fold(fold), fold)
		isText(t, "Fold of Upper", text, impl.Fold(impl.Upper(text)), fold)
		isText(t, "Fold of Lower", text, impl.Fold(impl.Lower(text)), fold)
		isText(t, "Fold of Title", text, impl.Fold(impl.Title(text)), fold)
	}
	eachCaseText(look)
	for p := int64(0); p <= impl.LastKnown; p++ {
		look(writtenBytes(p) + "a" + writtenBytes(p))
	}
}

// TestCaselessSameOfCases holds promise 14.
func TestCaselessSameOfCases(t *testing.T) {
	look := func(text string) {
		t.Helper()
		for _, other := range []string{
			text, impl.Upper(text), impl.Lower(text), impl.Title(text), impl.Fold(text), impl.Normalize(impl.NormD, text),
			impl.Upper(impl.Normalize(impl.NormD, text)), impl.Normalize(impl.NormD, impl.Lower(text)), impl.Normalize(impl.NormC, text),
		} {
			if !impl.CaselessSame(text, other) || !impl.CaselessSame(other, text) {
				t.Errorf("%+q and %+q: not the same but for case", text, other)
			}
		}
	}
	eachCaseText(look)
	for p := int64(0); p <= impl.LastKnown; p++ {
		look("\u1000" + writtenBytes(p) + "\u1010\u1000")
	}
}

func isCaseless(t *testing.T, a string, b string, want bool) {
	t.Helper()
	if impl.CaselessSame(a, b) != want || impl.CaselessSame(b, a) != want {
		t.Errorf("%+q and %+q the same but for case: got %t and %t, want %t", a, b, impl.CaselessSame(a, b), impl.CaselessSame(b, a), want)
	}
}

func TestCaselessSameByHand(t *testing.T) {
	for _, row := range [][2]string{
		{"", ""}, {"a", "A"}, {"aB", "Ab"}, {"\u2600", "a"}, {"\u2600", "A"}, {"\u2000", "A\u1000"}, {"\u2000", "a\u1000"}, {"\u20D0", "A\u1000"},
		{"\u24D0", "\u2000\u1010"}, {"\u24D0", "A\u1000\u1010"}, {"\u2400", "\u2600\u1010\u1000"}, {"a\u1000\u1010", "A\u1010\u1000"},
		{"\u0260", "\u0212\u0212"}, {"\u0260", "\u0232\u0261"}, {"\u0360\u0360", "\u0312\u0332\u0361\u0312"}, {"\u0212", "\u0261"}, {"\u0232", "\u0261"},
		{"\u0240", "\u0244"}, {"\u0244", "\u0248"}, {"\u3001A", "\u0700\u0720\u0741a"}, {"\u0260\u1000", "\u0212\u0212\u1000"}, {"\xFF", "\uFFFD"},
		{"a\xE2\x98", "A\uFFFD\uFFFD"}, {"\u2600\u1000", "\u20D0"}, {"\u1010\u1000", "\u1010\u1000"},
	} {
		isCaseless(t, row[0], row[1], true)
	}
	for _, row := range [][2]string{
		{"", "a"}, {"a", "b"}, {"a", "aa"}, {"A ", "a"}, {"\u0212", "\u0312"}, {"\u0260", "\u0212"}, {"\u0260", "\u0360"}, {"\u0260", "\u0261\u0261\u0261"},
		{"\u2700", "A"}, {"\u2700", "a"}, {"\u2731", "fi"}, {"\u00A0", " "}, {"\u2720", "0"}, {"\u2000", "\u2001"}, {"\u2000", "A\u1010"}, {"\u2000", "A"},
		{"a\u1000\u1008", "a\u1008\u1000"}, {"\u0240", "\u0241"}, {"\u0260", "\u0262"}, {"a\u1000b", "ab\u1000"}, {"@", "`"}, {"[", "{"}, {"\x00", "\x20"},
		{"\u0500", "\u0520"}, {"\u24D0", "A\u1000"},
	} {
		isCaseless(t, row[0], row[1], false)
	}
}

func TestCaselessSameOfTexts(t *testing.T) {
	r := rand.New(rand.NewSource(14))
	few := []int64{'a', 'A', 0x2600, 0x1000, 0x1010, 0x2000, 0x20D0, 0x2200, 0x24D0, 0x212, 0x260, 0x261}
	texts := []string{}
	for range 500 {
		texts = append(texts, randomNormText(r, few, 3))
	}
	for _, a := range texts {
		for _, b := range texts[:250] {
			isCaseless(t, a, b, plainCaseless(a) == plainCaseless(b))
		}
	}
}

func isCases(t *testing.T, p int64, want ...int64) {
	t.Helper()
	if got := impl.CasesOf(p); !slices.Equal(got, want) {
		t.Errorf("CasesOf U+%X: got %x, want %x", p, got, want)
	}
}

func TestCasesByHand(t *testing.T) {
	row := func(points ...int64) {
		t.Helper()
		for _, p := range points {
			isCases(t, p, points...)
		}
	}
	row('A', 'a', 0x2600)
	row('M', 'm', 0x260C)
	row('Z', 'z', 0x2619)
	for _, b := range casedScripts() {
		row(b, b+0x20)
		row(b+0x11, b+0x31)
		row(b+0x12, b+0x32, b+0x61)
		row(b+0x13, b+0x33)
		row(b+0x1F, b+0x3F)
		row(b+0x40, b+0x44, b+0x48)
		row(b+0x43, b+0x47, b+0x4B)
		for _, p := range []int64{0x4C, 0x50, 0x5F, 0x60, 0x62, 0xFF} {
			row(b + p)
		}
	}
	row(0x2000, 0x20D0)
	row(0x20CF, 0x219F)
	row(0x2200, 0x22D0)
	row(0x24CF, 0x259F)
	for _, p := range []int64{0, ' ', '1', 0x40, 0x5B, 0x60, 0x7B, 0x500, 0x532, 0x1000, 0x21A0, 0x25FF, 0x261A, 0x2700, 0x3000, 0x7000, 0xFFFD, impl.MaxPoint} {
		row(p)
	}
	for _, p := range noPoints() {
		isCases(t, p)
	}
}

// TestCasesOfAllPoints holds promise 15.
func TestCasesOfAllPoints(t *testing.T) {
	for _, p := range allPoints() {
		want, known := plainCases[caseKey(p)]
		if !known {
			want = []int64{p}
		}
		isCases(t, p, want...)
		if !slices.Contains(want, p) {
			t.Fatalf("U+%X is not of its row %x", p, want)
		}
		for _, q := range impl.CasesOf(p) {
			isCases(t, q, impl.CasesOf(p)...)
		}
	}
}

func TestCasesAreNewMemory(t *testing.T) {
	for _, p := range []int64{'a', 0x212, 0x240, '1'} {
		want := impl.CasesOf(p)
		impl.CasesOf(p)[0] = -1
		isCases(t, p, want...)
	}
}

func TestSizesOfCases(t *testing.T) {
	sizes := func(text string, upper int, lower int, title int, fold int) {
		t.Helper()
		got := [4]int{len(impl.Upper(text)), len(impl.Lower(text)), len(impl.Title(text)), len(impl.Fold(text))}
		if want := [4]int{upper, lower, title, fold}; got != want {
			t.Errorf("%d bytes, %+q ..: upper, lower, title and folded have %d bytes, want %d", len(text), text[:min(len(text), 9)], got, want)
		}
	}
	most := impl.MaxBytes
	sizes(strings.Repeat("a", most), most, most, most, most)
	sizes(strings.Repeat("a", most+1), 0, 0, 0, 0)
	sizes(strings.Repeat("A", 10*most), 0, 0, 0, 0)
	sharp := strings.Repeat("\u0260", most/4)
	sizes(sharp, most, most/2, most/2+2, most)
	sizes(sharp+"a", 0, most/2+1, most/2+3, 0)
	sizes(sharp[2:]+"aa", most-2, most/2, most/2+2, most-2)
	sizes(sharp[2:]+"aaaa", most, most/2+2, most/2+4, most)
	sizes(sharp[2:]+"aaaaa", 0, most/2+3, most/2+5, 0)
	sizes(sharp+sharp, 0, most, 0, 0)
	sizes(strings.Repeat("\u0260 ", most/3), 0, most-1, 0, 0)
	sizes(strings.Repeat("\u0260 ", most/5), most-1, most/5*3, most-1, most-1)
	sizes(strings.Repeat("\u0260 ", most/5)+" ", most, most/5*3+1, most, most)
	sizes(strings.Repeat("\u0260 ", most/5)+"  ", 0, most/5*3+2, 0, 0)
	sizes("\u0260"+strings.Repeat("a", most-4), most, most-2, most, most)
	sizes("\u0260"+strings.Repeat("a", most-3), 0, most-1, 0, 0)
	// What is too long is refused though its case would fit.
	sizes(strings.Repeat("\u2600", most/3), most-1, most/3, most/3+2, most/3)
	sizes(strings.Repeat("\u2600", most/3+1), 0, 0, 0, 0)
	// A broken byte has three bytes where it is told.
	sizes(strings.Repeat("\xFF", most/3), most-1, most-1, most-1, most-1)
	sizes(strings.Repeat("\xFF", most/3)+" ", most, most, most, most)
	sizes(strings.Repeat("\xFF", most/3+1), 0, 0, 0, 0)
	sizes(strings.Repeat("\xFF", most), 0, 0, 0, 0)
	sizes(strings.Repeat("\xFF", most+1), 0, 0, 0, 0)
}

func TestSizesOfCaselessSame(t *testing.T) {
	most := impl.MaxBytes
	upper, lower := strings.Repeat("A", most), strings.Repeat("a", most)
	isCaseless(t, upper, lower, true)
	isCaseless(t, upper, lower[1:], false)
	isCaseless(t, upper+"A", lower+"a", false)
	isCaseless(t, upper+"A", upper+"A", false)
	isCaseless(t, upper, lower+"a", false)
	isCaseless(t, "", upper+"A", false)
	isCaseless(t, "a", upper+"A", false)
	isCaseless(t, strings.Repeat("\u2600", most/3), strings.Repeat("a", most/3), true)
	isCaseless(t, strings.Repeat("\u2600", most/3+1), strings.Repeat("a", most/3+1), false)
	// What is made on the way has no bound.
	isCaseless(t, strings.Repeat("\u0260", most/2), strings.Repeat("\u0360", most/2), false)
	isCaseless(t, strings.Repeat("\u0260", most/2), strings.Repeat("\u0260", most/2), true)
	isCaseless(t, strings.Repeat("\u0260", most/4), strings.Repeat("\u0212", most/2), true)
	isCaseless(t, strings.Repeat("\u2400", most/3), strings.Repeat("\u24D0", most/3), true)
	isCaseless(t, strings.Repeat("\u2400", most/3), strings.Repeat("\u24D1", most/3), false)
	isCaseless(t, strings.Repeat("\xFF", most), strings.Repeat("\xFF", most), true)
	isCaseless(t, strings.Repeat("\xFF", most), strings.Repeat("\xFE", most), true)
}

func TestLongRowsOfMarks(t *testing.T) {
	marks := strings.Repeat("\u1000", 1000)
	text := strings.Repeat("\u0212"+marks, 20)
	want := strings.Repeat("\u0232"+marks, 19) + "\u0261" + marks
	isText(t, "Lower", "many marks", impl.Lower(text), want)
	isText(t, "Lower", "many marks, and a letter", impl.Lower(text+"a"), strings.Repeat("\u0232"+marks, 20)+"a")
	isText(t, "Title", "many marks", impl.Title(text), "\u0212"+want[2:])
}

func TestCasesFromManySides(t *testing.T) {
	var wait sync.WaitGroup
	for side := range 8 {
		wait.Go(func() {
			for p := int64(side); p <= impl.LastKnown; p += 8 {
				if want := plainTrio(p); impl.SimpleLower(p) != want.lower || impl.SimpleUpper(p) != want.upper {
					t.Errorf("U+%X asked from many sides: got %X and %X, want %X and %X", p, impl.SimpleLower(p), impl.SimpleUpper(p), want.lower, want.upper)
				}
			}
		})
	}
	wait.Wait()
}
