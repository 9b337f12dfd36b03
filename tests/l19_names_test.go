package tests

import (
	"fmt"
	"math/big"
	"math/rand"
	"regexp"
	"slices"
	"strings"
	"testing"

	"loop.example/g00044/impl"
)

func isAmongLetters(p int64) bool {
	return slices.Contains([]int64{impl.CatUpper, impl.CatLower, impl.CatTitle, impl.CatOther}, impl.Category(p))
}

func idPlainly(text string) int64 {
	points := readPlainly(text)
	if len(points) < 1 || len(points) > 100 || plainNormalText(impl.NormKC, text) != text {
		return impl.ErrForm
	}
	for at, p := range points {
		isBehind := impl.Category(p) == impl.CatMark || impl.Category(p) == impl.CatDigit || p == 0x5F
		if !isAmongLetters(p) && (at == 0 || !isBehind) {
			return impl.ErrForm
		}
	}
	return impl.OK
}

func isId(t *testing.T, text string, want int64) {
	t.Helper()
	if got := impl.IdFault(text); got != want {
		t.Errorf("IdFault of %d bytes, %+.100q: got %d, want %d", len(text), text, got, want)
	}
}

func TestIdsByHand(t *testing.T) {
	for _, text := range []string{
		"a", "Z", "ab", "a1", "a0", "a_", "a_1", "a__b", "zZ9_", "\u0200", "\u0240", "\u0244", "\u0248", "\u0260", "\u0261", "\u0500", "\u0600", "\u0700", "\u0741", "\u0800", "\u2000", "\u24D0", "\u3000", "\u5BA3", "\u6000", "\u67FF",
		"a\u0250", "a\u0559", "\u06001\u0650", "\u0600\u0620", "\u0600\u0630\u0601", "\u0600\u0631\u0630", "a\u1008", "a\u1018", "a\u103F", "a\u1018\u1008", "a\u1018\u1010", "a\u1008\u1000", "a\u1008\u1009", "b_\u1000", "a1\u1010", "\u0700a\u0720", "\u3000a\u0741", "a\u6000\u0200\u0500",
	} {
		isId(t, text, impl.OK)
	}
	for _, text := range []string{
		"", "1", "1a", "_", "_a", "__", "-", "-a", "a-b", "a-", ".", "a.b", " ", " a", "a ", "a b", "a\u00A0", "a\u1F80", "\u1000", "\u1000a", "\u0630", "\u0620\u0600", "\x00", "a\x00", "\n", "a\n", "a\x7F", "a\u0080", "a$", "a`", "a@", "a\u00A1", "\u00BF", "a\u1E00", "\u1E50",
		"a\u1F00", "\u1F00", "\u1F00a", "a\u1F00b", "a\u1F01", "a\u1F02b", "a\u1F0B", "a\u1F11", "a\u1F12", "a\u00AD", "\u00ADa", "a\u00ADb", "a\u0900", "\u0900", "a\uFFFD", "\uFFFD", "a\U00010041", "\U0010FFFF", "a\u0262", "a\u024C",
		"a\u1000", "A\u1010", "\u2200\u1000", "b\u1000", "\u0700\u0720", "\u3000\u0741", "a\u1008\u1018", "\u0600\u0630\u0631", "\u2600", "a\u2619", "\u2700", "a\u2700", "a\u2720", "a\u2729", "\u2730", "a\u2731", "a\u1010\u1018", "a\u1010\u1000",
		"\xFF", "a\xFF", "\xFFa", "a\xC3", "\xE2\x82", "a\xED\xA0\x80", "a\xC0\x80", "a\xF4\x90\x80\x80", "\x80",
	} {
		isId(t, text, impl.ErrForm)
	}
}

// TestIdsOfEachPoint has each point alone, behind a letter and ahead of one.
func TestIdsOfEachPoint(t *testing.T) {
	points := slices.DeleteFunc(pointsApart(), func(p int64) bool { return p <= impl.LastKnown })
	for p := int64(0); p <= impl.LastKnown; p++ {
		points = append(points, p)
	}
	first, behind := map[int64]int{}, map[int64]int{}
	for _, p := range points {
		text := textWritten(p)
		for _, row := range []string{text, "q" + text, text + "q"} {
			isId(t, row, idPlainly(row))
		}
		if impl.IdFault(text) == impl.OK {
			first[impl.Category(p)]++
		}
		if impl.IdFault("\u0800"+text) == impl.OK {
			behind[impl.Category(p)]++
		}
	}
	for category := int64(impl.CatNone); category <= impl.CatFormat; category++ {
		isLetter := category >= impl.CatUpper && category <= impl.CatOther
		if got := first[category] > 0; got != isLetter {
			t.Errorf("category %d stands first: %v, want %v", category, got, isLetter)
		}
		isBehind := isLetter || category == impl.CatMark || category == impl.CatDigit || category == impl.CatPunct
		if got := behind[category] > 0; got != isBehind {
			t.Errorf("category %d stands behind: %v, want %v", category, got, isBehind)
		}
	}
	// Of the puncts it is U+5F alone.
	if got := behind[impl.CatPunct]; got != 1 {
		t.Errorf("%d puncts stand behind, want 1", got)
	}
}

func TestSizesOfIds(t *testing.T) {
	for _, piece := range []string{"a", "\u0200", "\u6000", "a1", "a_\u1008", "\u0600\u0630"} {
		size := len(readPlainly(piece))
		for count := 1; count <= 110; count++ {
			want := int64(impl.OK)
			if count*size > 100 {
				want = impl.ErrForm
			}
			isId(t, strings.Repeat(piece, count), want)
		}
	}
	isId(t, strings.Repeat("a", 99)+"\u2000", impl.OK)
	isId(t, strings.Repeat("a", 100)+"\u2000", impl.ErrForm)
	// So many points as they are written, though KC has 100.
	isId(t, strings.Repeat("a", 99)+"A\u1000", impl.ErrForm)
	isId(t, strings.Repeat("a", 98)+"\u2731", impl.ErrForm)
	for _, size := range []int{1000, 1001, 65535, 65536, 65537, 70000} {
		isId(t, strings.Repeat("a", size), impl.ErrForm)
		isId(t, strings.Repeat("\xFF", size), impl.ErrForm)
	}
}

func scriptsPlainly(text string) []int64 {
	points := readPlainly(text)
	var scripts []int64
	for script := int64(1); script <= 9; script++ {
		if slices.ContainsFunc(points, func(p int64) bool { return isAmongLetters(p) && impl.Script(p) == script }) {
			scripts = append(scripts, script)
		}
	}
	return scripts
}

func systemsPlainly(text string) int {
	count := 0
	for _, zero := range plainSystems {
		if slices.ContainsFunc(readPlainly(text), func(p int64) bool { return p >= zero && p <= zero+9 }) {
			count++
		}
	}
	return count
}

func mixedPlainly(text string) bool {
	return len(scriptsPlainly(text)) > 1 || systemsPlainly(text) > 1
}

func isOfScripts(t *testing.T, text string, scripts []int64, mixed bool) {
	t.Helper()
	if got := impl.ScriptsOf(text); !slices.Equal(got, scripts) {
		t.Errorf("ScriptsOf of %d bytes, %+.100q: got %v, want %v", len(text), text, got, scripts)
	}
	if got := impl.IsMixed(text); got != mixed {
		t.Errorf("IsMixed of %d bytes, %+.100q: got %v, want %v", len(text), text, got, mixed)
	}
}

func isOfScriptsPlainly(t *testing.T, text string) {
	t.Helper()
	isOfScripts(t, text, scriptsPlainly(text), mixedPlainly(text))
}

func TestScriptsByHand(t *testing.T) {
	for _, row := range []struct {
		text    string
		scripts []int64
		mixed   bool
	}{
		{"", nil, false}, {" ", nil, false}, {"1", nil, false}, {"12", nil, false}, {"-_.", nil, false}, {"\u1000", nil, false}, {"\u0620\u0630\u0631", nil, false}, {"\u0250", nil, false}, {"\u2700", nil, false}, {"\u2731", nil, false}, {"\u1E00", nil, false}, {"\u1F00", nil, false}, {"\x00", nil, false}, {"\uFFFD", nil, false}, {"\u0900", nil, false},
		{"a", []int64{1}, false}, {"aZ", []int64{1}, false}, {"a1_-", []int64{1}, false}, {"\u2000\u2600b", []int64{1}, false}, {"\u0200", []int64{2}, false}, {"\u0244\u0261", []int64{2}, false}, {"\u0300", []int64{3}, false}, {"\u0400", []int64{4}, false}, {"\u0500", []int64{5}, false}, {"\u0600", []int64{6}, false}, {"\u0700\u0720\u0741\u3000", []int64{7}, false}, {"\u0800", []int64{8}, false}, {"\u6000", []int64{9}, false},
		{"a\u0200", []int64{1, 2}, true}, {"\u0200a", []int64{1, 2}, true}, {"a\u0200a\u0200", []int64{1, 2}, true}, {"\u6000\u0500a", []int64{1, 5, 9}, true}, {"\u0800\u6000", []int64{8, 9}, true}, {"\u0400\u0300\u0200", []int64{2, 3, 4}, true}, {"\u6000\u0800\u0700\u0600\u0500\u0400\u0300\u0200a", []int64{1, 2, 3, 4, 5, 6, 7, 8, 9}, true}, {"a \u0200", []int64{1, 2}, true},
		{"a\u0250", []int64{1}, false}, {"a\u0620", []int64{1}, false}, {"a\u1000\u0630", []int64{1}, false}, {"\u0250a1", []int64{1}, true}, {"1\u0250", nil, true}, {"\u02501", nil, true}, {"\u0250\u0259", nil, false}, {"\u0250\u0350", nil, true}, {"1\u2720", nil, true}, {"\u2720\u2729", nil, false}, {"\u0550\u0650", nil, true}, {"a\u0250b\u0251", []int64{1}, false}, {"\u0200\u02501", []int64{2}, true},
		{"a\xFF", []int64{1}, false}, {"\xFF\xFE", nil, false}, {"\xC8", nil, false}, {"\xC8\x80", []int64{2}, false}, {"a\xC8b\x80", []int64{1}, false}, {"\xFFa\xFF\u0200", []int64{1, 2}, true}, {"1\xFF\u0250", nil, true},
	} {
		isOfScripts(t, row.text, row.scripts, row.mixed)
		isOfScriptsPlainly(t, row.text)
	}
}

func TestScriptsOfEachPoint(t *testing.T) {
	for p := int64(0); p <= impl.LastKnown; p++ {
		text := textWritten(p)
		isOfScriptsPlainly(t, text)
		isOfScriptsPlainly(t, "a"+text)
		isOfScriptsPlainly(t, text+"\u0653")
	}
}

// TestScriptsInEachOrder has letters of up to three scripts and digits of up to two systems.
func TestScriptsInEachOrder(t *testing.T) {
	letters := []int64{'b', 0x201, 0x321, 0x444, 0x51F, 0x61F, 0x75B, 0x82F, 0x6000, ' ', 0x1000, '1', 0x2700}
	for _, a := range letters {
		for _, b := range letters {
			for _, c := range letters {
				isOfScriptsPlainly(t, textWritten(a, b, c))
			}
		}
	}
	for _, a := range plainSystems {
		for _, b := range plainSystems {
			for d := range int64(10) {
				isOfScriptsPlainly(t, textWritten(a+d, b+9-d))
				isOfScriptsPlainly(t, textWritten(a+d, 'x', b+9-d))
				isOfScripts(t, textWritten(a+d, '-', b), nil, a != b)
			}
		}
	}
}

func TestSizesOfScripts(t *testing.T) {
	for _, size := range []int{65535, 65536, 65537, 80000} {
		text := strings.Repeat("a", size-2)
		digits := strings.Repeat("1", size-2)
		if size > 65536 {
			isOfScripts(t, text+"\u0200", nil, false)
			isOfScripts(t, text+"bb", nil, false)
			isOfScripts(t, digits+"\u0250", nil, false)
			continue
		}
		isOfScripts(t, text+"\u0200", []int64{1, 2}, true)
		isOfScripts(t, "\u0200"+text, []int64{1, 2}, true)
		isOfScripts(t, text+"bb", []int64{1}, false)
		isOfScripts(t, digits+"\u0250", nil, true)
		isOfScripts(t, digits+"22", nil, false)
	}
}

// plainLooks says the rows of the chapter once more, of all points that do not look like themselves.
var plainLooks = func() map[int64]string {
	looks := map[int64]string{}
	for p := int64(0); p <= impl.LastKnown; p++ {
		switch impl.Category(p) {
		case impl.CatControl, impl.CatFormat:
			looks[p] = ""
		case impl.CatSpace:
			looks[p] = " "
		}
	}
	for _, b := range casedScripts() {
		for k, letter := range []string{"a", "b", "c", "d", "e", "f"} {
			looks[b+int64(k)], looks[b+0x20+int64(k)] = strings.ToUpper(letter), letter
		}
		looks[b+0x61] = "f"
	}
	for _, zero := range plainSystems {
		for d := range int64(10) {
			looks[zero+d] = "ol23456789"[d : d+1]
		}
	}
	looks[0x49], looks[0x501], looks[0x500] = "l", "l", "o"
	for i := range int64(26) {
		looks[0x2700+i] = "ABCDEFGHlJKLMNOPQRSTUVWXYZ"[i : i+1]
	}
	looks[0x2730], looks[0x2731], looks[0x2732], looks[0x2733] = "ff", "fi", "fl", "st"
	return looks
}()

// skeletonPlainly has no bound.
func skeletonPlainly(text string) string {
	var looks []int64
	for _, p := range plainNormal(impl.NormD, readPlainly(text)) {
		if look, found := plainLooks[p]; found {
			looks = append(looks, readPlainly(look)...)
		} else {
			looks = append(looks, p)
		}
	}
	return textWritten(plainNormal(impl.NormD, looks)...)
}

func isSkeleton(t *testing.T, text string, want string) {
	t.Helper()
	if got := impl.SkeletonOf(text); got != want {
		t.Errorf("SkeletonOf of %d bytes, %+.100q: got %d bytes, %+.100q, want %d, %+.100q", len(text), text, len(got), got, len(want), want)
	}
}

func areAlike(t *testing.T, a string, b string, want bool) {
	t.Helper()
	if got := impl.LookAlike(a, b); got != want {
		t.Errorf("LookAlike of %d bytes, %+.60q, and %d, %+.60q: got %v, want %v", len(a), a, len(b), b, got, want)
	}
	if got := impl.LookAlike(b, a); got != want {
		t.Errorf("LookAlike of %d bytes, %+.60q, and %d, %+.60q, turned round: got %v, want %v", len(a), a, len(b), b, got, want)
	}
}

func TestSkeletonsByHand(t *testing.T) {
	for _, row := range [][2]string{
		{"", ""}, {"a", "a"}, {"z", "z"}, {"A", "A"}, {"H", "H"}, {"I", "l"}, {"J", "J"}, {"i", "i"}, {"l", "l"}, {"L", "L"}, {"o", "o"}, {"O", "O"}, {"-_.|", "-_.|"},
		{"0", "o"}, {"1", "l"}, {"2", "2"}, {"9", "9"}, {"0123456789", "ol23456789"}, {"\u0250\u0251\u0252\u0259", "ol29"}, {"\u0350\u0351\u0353", "ol3"}, {"\u0450\u0451\u0454", "ol4"}, {"\u0550\u0551\u0555", "ol5"}, {"\u0650\u0651\u0656", "ol6"}, {"\u2720\u2721\u2727", "ol7"},
		{"\x00", ""}, {"a\x00b", "ab"}, {"\t\n\r\x1F\x7F\u0080\u009F", ""}, {"\u00AD", ""}, {"a\u00ADb", "ab"}, {"\u1F00\u1F01\u1F02\u1F0A\u1F0B\u1F11\u1F12", ""}, {"\u1F10", "\u1F10"}, {"\u1F13", "\u1F13"}, {"x\u1F00y", "xy"},
		{"\u0200", "A"}, {"\u0205", "F"}, {"\u0206", "\u0206"}, {"\u0220", "a"}, {"\u0225", "f"}, {"\u0226", "\u0226"}, {"\u0300", "A"}, {"\u0305", "F"}, {"\u0306", "\u0306"}, {"\u0320", "a"}, {"\u0325", "f"}, {"\u0326", "\u0326"}, {"\u0400", "A"}, {"\u0405", "F"}, {"\u0406", "\u0406"}, {"\u0420", "a"}, {"\u0425", "f"}, {"\u0426", "\u0426"},
		{"\u0208", "\u0208"}, {"\u021F\u023F", "\u021F\u023F"}, {"\u0240\u0244\u0248\u024B", "\u0240\u0244\u0248\u024B"}, {"\u0260", "\u0260"}, {"\u0261", "f"}, {"\u0361", "f"}, {"\u0461", "f"}, {"\u0262", "\u0262"}, {"\u0232\u0212", "\u0232\u0212"},
		{"\u0500", "o"}, {"\u0501", "l"}, {"\u0502", "\u0502"}, {"\u0100\u0105", "\u0100\u0105"}, {"\u0520", "\u0520"}, {"\u0600", "\u0600"},
		{" ", " "}, {"\u00A0", " "}, {"\u1F80", " "}, {"a\u00A0b", "a b"}, {"  ", "  "}, {"\u1F80\u00A0 ", "   "},
		{"\u2700", "A"}, {"\u2707", "H"}, {"\u2708", "l"}, {"\u2709", "J"}, {"\u2719", "Z"}, {"\u271A", "\u271A"}, {"\u2730", "ff"}, {"\u2731", "fi"}, {"\u2732", "fl"}, {"\u2733", "st"}, {"\u2734", "\u2734"}, {"\u1E00\u1E40", "\u1E00\u1E40"}, {"\u00A1\u00BF", "\u00A1\u00BF"},
		{"\u2600", "A"}, {"\u2608", "l"}, {"\u2619", "Z"}, {"\u2000", "A\u1000"}, {"\u2040", "l\u1000"}, {"\u2200", "A\u1010"}, {"\u2400", "A\u1010\u1000"}, {"\u2447", "l\u1017\u1000"}, {"\u3000", "\u0700\u0720"}, {"\u3001", "\u0700\u0720\u0741"},
		{"a\u1000\u1010", "a\u1010\u1000"}, {"a\u1F00\u1000", "a\u1000"}, {"a\u1000\u1F00\u1010", "a\u1010\u1000"}, {"\u1000\x00\u1010\u00AD\u1028", "\u1028\u1010\u1000"}, {"a\u1000 \u1010", "a\u1000 \u1010"}, {"\u1000\u1F80\u1010", "\u1000 \u1010"}, {"\u2000\u1F00\u1010", "A\u1010\u1000"}, {"\u0631\u1F12\u0630", "\u0631\u0630"}, {"\u0630\u1F12\u0631", "\u0631\u0630"},
		{"\u0220\u1010\u1000", "a\u1010\u1000"}, {"\u0200\u1000", "A\u1000"}, {"\u2700\u1000", "A\u1000"}, {"\u0700\u1F01\u0720", "\u0700\u0720"}, {"\u6000\u0800", "\u6000\u0800"},
		{"\xFF", "\uFFFD"}, {"a\xFFb", "a\uFFFDb"}, {"\xC8", "\uFFFD"}, {"\xE2\x82", "\uFFFD\uFFFD"}, {"\uFFFD", "\uFFFD"}, {"\u8000\U00010049\U0010FFFF", "\u8000\U00010049\U0010FFFF"}, {"1\xFF0", "l\uFFFDo"},
	} {
		isSkeleton(t, row[0], row[1])
		isSkeleton(t, row[1], row[1])
		areAlike(t, row[0], row[1], true)
		areAlike(t, row[0], row[0], true)
		if got := skeletonPlainly(row[0]); got != row[1] {
			t.Errorf("the plain skeleton of %+q: %+q", row[0], got)
		}
	}
}

func TestLookAlikeByHand(t *testing.T) {
	for _, row := range [][2]string{
		{"\u0220", "a"}, {"l1", "II"}, {"lI1", "\u0501\u0251\u2721"}, {"o0", "\u0500\u0450"}, {"\u2700\u2731", "Afi"}, {"\u2608", "\u2708"}, {"paypal", "p\u0220yp\u0320l"}, {"a b", "a\u00A0b"}, {"ab", "a\u1F00b"}, {"", "\x00"}, {"\u1F00", "\u00AD"}, {"\u2000", "\u0200\u1000"}, {"\u0261", "f"}, {"\u0225", "\u0461"}, {"\u2400", "A\u1000\u1F00\u1010"}, {"5", "\u0255"}, {"\xFF", "\xFE"}, {"\xFF", "\uFFFD"},
	} {
		areAlike(t, row[0], row[1], true)
	}
	for _, row := range [][2]string{
		{"a", "b"}, {"a", "A"}, {"", "a"}, {"", " "}, {"a", "aa"}, {"o", "O"}, {"l", "L"}, {"i", "I"}, {"2", "3"}, {"\u0206", "G"}, {"\u0226", "g"}, {"\u0220", "A"}, {"\u0200", "a"}, {"a b", "ab"}, {"\u0502", "o"}, {"a\u1000", "a"}, {"a\u1000\u1001", "a\u1001\u1000"}, {"ab", "ba"}, {"\u0232", "f"}, {"\u0500", "l"}, {"1", "i"}, {"|", "l"},
	} {
		areAlike(t, row[0], row[1], false)
	}
}

func TestSkeletonsOfEachPoint(t *testing.T) {
	for _, p := range pointsApart() {
		isSkeleton(t, textWritten(p), skeletonPlainly(textWritten(p)))
	}
	for p := int64(0); p <= impl.LastKnown; p++ {
		for _, text := range []string{textWritten(p), textWritten('x', p, 'y'), textWritten(0x1000, p, 0x1010)} {
			want := skeletonPlainly(text)
			isSkeleton(t, text, want)
			isSkeleton(t, want, want)
		}
	}
}

// lookAlphabet are points of each row of the chapter, of which many look alike.
func lookAlphabet() []int64 {
	return []int64{
		'a', 0x220, 0x420, 'A', 0x200, 0x2600, 0x2700, 'I', 'l', '1', 0x501, 0x251, 0x2608, 0x2708, '0', 'o', 0x500, 0x650, 0x2720, '2', 0x252, 'f', 0x261, 0x325, 'i', 0x2731, 0x2733,
		' ', 0xA0, 0x1F80, 0x1F00, 0xAD, 0, 0x1000, 0x1001, 0x1010, 0x1028, 0x630, 0x631, 0x20D0, 0x2000, 0x2040, 0x2400, 0x700, 0x720, 0x3000, 0x206, 0xFFFD, 0x6000,
	}
}

// TestSkeletonsAreTheirOwn is the forty-sixth promise.
func TestSkeletonsAreTheirOwn(t *testing.T) {
	looks := lookAlphabet()
	same := map[string][]int64{}
	for p := int64(0); p <= impl.LastKnown; p++ {
		same[skeletonPlainly(textWritten(p))] = append(same[skeletonPlainly(textWritten(p))], p)
	}
	alike := map[bool]int{}
	r := rand.New(rand.NewSource(46))
	for range 20000 {
		a, b := randomNormText(r, looks, 8), randomNormText(r, looks, 3)
		one, other := skeletonPlainly(a), skeletonPlainly(b)
		isSkeleton(t, a, one)
		isSkeleton(t, one, one)
		areAlike(t, a, b, one == other)
		areAlike(t, a, one, true)
		alike[one == other]++
		if impl.SkeletonOf(impl.SkeletonOf(a)) != impl.SkeletonOf(a) || impl.LookAlike(a, b) != (impl.SkeletonOf(a) == impl.SkeletonOf(b)) {
			t.Errorf("%+q and %+q: the skeletons are %+q and %+q", a, b, impl.SkeletonOf(a), impl.SkeletonOf(b))
		}
		// Each point may be another one that looks like it, with something between that shows nothing.
		var turned []int64
		for _, p := range readPlainly(a) {
			row := append(same[skeletonPlainly(textWritten(p))], p)
			turned = append(turned, row[r.Intn(len(row))])
			if r.Intn(3) == 0 {
				turned = append(turned, same[""][r.Intn(len(same[""]))])
			}
		}
		areAlike(t, a, textWritten(turned...), skeletonPlainly(textWritten(turned...)) == one)
	}
	for range 5000 {
		var bytes []byte
		for range r.Intn(6) {
			bytes = append(bytes, "a1\xC8\x80\xA0\xE1\xBC\xFF\x00I"[r.Intn(10)])
		}
		isSkeleton(t, string(bytes), skeletonPlainly(string(bytes)))
		areAlike(t, string(bytes), skeletonPlainly(string(bytes)), true)
	}
	for p := range looks {
		for q := range looks {
			a, b := textWritten(looks[p]), textWritten(looks[q])
			areAlike(t, a, b, skeletonPlainly(a) == skeletonPlainly(b))
		}
	}
	if alike[true] < 100 || alike[false] < 100 {
		t.Errorf("texts that look alike and that do not: %v", alike)
	}
}

func TestSizesOfSkeletons(t *testing.T) {
	for _, row := range []struct{ piece, look string }{
		{"a", "a"}, {"1", "l"}, {"\u0220", "a"}, {"\u6000", "\u6000"}, {"\u2731", "fi"}, {"\u2000", "A\u1000"}, {"\u2400", "A\u1010\u1000"}, {"\xFF", "\uFFFD"}, {"\u3001", "\u0700\u0720\u0741"}, {"\x00", ""},
	} {
		for _, size := range []int{9362, 16384, 21845, 21846, 28086, 28087, 28088, 32767, 32768, 49152, 49153, 65534, 65535, 65536, 65537, 65538, 70000} {
			text := strings.Repeat(row.piece, size/len(row.piece)) + strings.Repeat("b", size%len(row.piece))
			want := strings.Repeat(row.look, size/len(row.piece)) + strings.Repeat("b", size%len(row.piece))
			isTooLong := size > 65536
			if len(want) > 65536 || isTooLong {
				want = ""
			}
			isSkeleton(t, text, want)
			areAlike(t, text, text, !isTooLong)
			areAlike(t, text, text+"c", false)
			areAlike(t, text, text[:len(text)-1]+"c", false)
			areAlike(t, text, "", strings.Trim(text, "\x00") == "" && !isTooLong)
		}
	}
	// The skeleton of 65536 bytes, of 65537 and of more.
	for _, more := range []string{"", "b", "\u1000", "\u2000"} {
		text := strings.Repeat("\xFF", 21845) + "a" + more
		want := strings.Repeat("\uFFFD", 21845) + "a"
		if more != "" {
			want = ""
		}
		isSkeleton(t, text, want)
		areAlike(t, text, strings.Repeat("\xFE", 21845)+"\u0220"+more, true)
		areAlike(t, text, strings.Repeat("\xFE", 21845)+"b"+more, false)
		areAlike(t, text, "", false)
	}
	// What shows nothing counts in a text that is handed in.
	isSkeleton(t, strings.Repeat("\x00", 65535)+"1", "l")
	isSkeleton(t, strings.Repeat("\x00", 65536)+"1", "")
	areAlike(t, strings.Repeat("\x00", 65535)+"1", "I", true)
	areAlike(t, strings.Repeat("\x00", 65536)+"1", "I", false)
	areAlike(t, strings.Repeat("\x00", 65537), "", false)
	areAlike(t, strings.Repeat("a", 65537), strings.Repeat("b", 65537), false)
}

const plainDigits = "abcdefghijklmnopqrstuvwxyz0123456789"

func thresholdPlainly(k int64, bias int64) int64 {
	switch {
	case k <= bias:
		return 1
	case k >= bias+26:
		return 26
	}
	return k - bias
}

func digitsPlainly(q int64, bias int64, k int64) string {
	t := thresholdPlainly(k, bias)
	if q < t {
		return plainDigits[q : q+1]
	}
	digit := t + (q-t)%(36-t)
	return plainDigits[digit:digit+1] + digitsPlainly((q-t)/(36-t), bias, k+36)
}

func biasPlainly(delta int64, count int64, isFirst bool) int64 {
	by := int64(2)
	if isFirst {
		by = 700
	}
	delta = delta/by + delta/by/count
	k := int64(0)
	for ; delta > 455; k += 36 {
		delta /= 35
	}
	return k + 36*delta/(delta+38)
}

// labelPlainly puts the points above U+7F one by one, the least first, among those that are there already,
// and tells of each how many places and points are gone over on the way to it. It takes numbers of no point.
func labelPlainly(points []int64) string {
	text, isThere := "", make([]bool, len(points))
	var coded []int
	for place, p := range points {
		if p < 0x80 {
			text += string(rune(p))
			isThere[place] = true
		} else {
			coded = append(coded, place)
		}
	}
	if text != "" {
		text += "-"
	}
	slices.SortStableFunc(coded, func(a int, b int) int { return int(points[a] - points[b]) })
	lastPoint, lastPlace, bias := int64(0x80), int64(0), int64(72)
	for n, place := range coded {
		ahead, count := int64(0), int64(0)
		for other, there := range isThere {
			if there {
				count++
				if other < place {
					ahead++
				}
			}
		}
		delta := (points[place]-lastPoint)*(count+1) + ahead - lastPlace
		text += digitsPlainly(delta, bias, 36)
		bias = biasPlainly(delta, count+1, n == 0)
		lastPoint, lastPlace, isThere[place] = points[place], ahead+1, true
	}
	return text
}

// deltaPlainly reads a number from the digits; rest is what is behind it.
func deltaPlainly(digits string, bias int64) (delta *big.Int, rest string, right bool) {
	delta, worth := big.NewInt(0), big.NewInt(1)
	for k := int64(36); digits != ""; k += 36 {
		digit := int64(strings.IndexByte(plainDigits, digits[0]))
		if digit < 0 {
			return nil, "", false
		}
		delta.Add(delta, new(big.Int).Mul(worth, big.NewInt(digit)))
		digits = digits[1:]
		t := thresholdPlainly(k, bias)
		if digit < t {
			return delta, digits, true
		}
		worth.Mul(worth, big.NewInt(36-t))
	}
	return nil, "", false
}

// unlabelPlainly has numbers of any size, and holds what it read against labelPlainly.
func unlabelPlainly(data string) impl.HostOut {
	refused := impl.HostOut{Code: impl.ErrSyntax}
	if len(data) > 1000 {
		return impl.HostOut{Code: impl.ErrSize}
	}
	cut := strings.LastIndex(data, "-")
	var points []int64
	for _, b := range []byte(data[:max(cut, 0)]) {
		if b >= 0x80 {
			return refused
		}
		points = append(points, int64(b))
	}
	p, place, bias := int64(0x80), int64(0), int64(72)
	for n, digits := 0, data[cut+1:]; digits != ""; n++ {
		delta, rest, right := deltaPlainly(digits, bias)
		if !right || delta.Cmp(big.NewInt(1<<40)) > 0 {
			return refused
		}
		count := int64(len(points)) + 1
		p += (place + delta.Int64()) / count
		place = (place + delta.Int64()) % count
		if p > impl.MaxPoint || p >= 0xD800 && p <= 0xDFFF {
			return refused
		}
		points = slices.Insert(points, int(place), p)
		bias = biasPlainly(delta.Int64(), count, n == 0)
		digits = rest
		place++
	}
	if labelPlainly(points) != data {
		return refused
	}
	return impl.HostOut{Text: textWritten(points...)}
}

func isLabel(t *testing.T, text string, want string) {
	t.Helper()
	if got := impl.EncodeLabel(text); got != want {
		t.Errorf("EncodeLabel of %d bytes, %+.100q: got %d bytes, %+.100q, want %d, %+.100q", len(text), text, len(got), got, len(want), want)
	}
}

func isHostOut(t *testing.T, what string, given string, got impl.HostOut, want impl.HostOut) {
	t.Helper()
	if got != want {
		t.Errorf("%s of %d bytes, %+.200q: got code %d, at %d, %d bytes, %+.200q, want code %d, at %d, %d bytes, %+.200q",
			what, len(given), given, got.Code, got.At, len(got.Text), got.Text, want.Code, want.At, len(want.Text), want.Text)
	}
}

func isUnlabeled(t *testing.T, data string, want impl.HostOut) {
	t.Helper()
	isHostOut(t, "DecodeLabel", data, impl.DecodeLabel(data), want)
}

// isLabelBack is the forty-seventh promise, of labels.
func isLabelBack(t *testing.T, points ...int64) {
	t.Helper()
	text, label := textWritten(points...), labelPlainly(points)
	isLabel(t, text, label)
	want := impl.HostOut{Text: text}
	if len(label) > 1000 {
		want = impl.HostOut{Code: impl.ErrSize}
	}
	isUnlabeled(t, label, want)
}

func TestLabelsByHand(t *testing.T) {
	for _, row := range [][2]string{
		{"", ""}, {"a", "a-"}, {"A", "A-"}, {"abc", "abc-"}, {"-", "--"}, {"--", "---"}, {"a-", "a--"}, {"-a", "-a-"}, {"a-b", "a-b-"}, {"-> $1.00 <-", "-> $1.00 <--"}, {"\x00\n\x7F .", "\x00\n\x7F .-"}, {"xn--5la", "xn--5la-"},
		{"\u0080", "a"}, {"\u0220", "5la"}, {"\U0010FFFF", "dn32g"}, {"\u0220\u0220", "5laa"}, {"\u0220\u0221", "5lac"}, {"\u0221\u0220", "5lab"}, {"\u0220\u0220\u0220\u0220", "5laaaa"}, {"\u6000\u6001\u6002", "s7tcd"},
		{"\u0220a", "a-1xa"}, {"a\u0220", "a-2xa"}, {"a-\u0220", "a--z9a"}, {"-\u0220", "--2xa"}, {"b\u00FCcher", "bcher-kva"}, {"ma\u00F1ana", "maana-pta"}, {"m\u00FCnchen", "mnchen-3ya"},
		{"\u0644\u064A\u0647\u0645\u0627\u0628\u062A\u0643\u0644\u0645\u0648\u0634\u0639\u0631\u0628\u064A\u061F", "egbpdaj6bu4bxfgehfvwxn"}, {"\u4ED6\u4EEC\u4E3A\u4EC0\u4E48\u4E0D\u8BF4\u4E2D\u6587", "ihqwcrb4cv8a8dqg056pqjye"},
		{"Pro\u010Dprost\u011Bnemluv\u00ED\u010Desky", "Proprostnemluvesky-uyb24dma41a"}, {"3\u5E74B\u7D44\u91D1\u516B\u5148\u751F", "3B-ww4c5e180e575a65lsy2b"},
	} {
		isLabel(t, row[0], row[1])
		isUnlabeled(t, row[1], impl.HostOut{Text: row[0]})
		if got := labelPlainly(readPlainly(row[0])); got != row[1] {
			t.Errorf("the plain label of %+q: %+q", row[0], got)
		}
		if got := unlabelPlainly(row[1]); got != (impl.HostOut{Text: row[0]}) {
			t.Errorf("the plain text of the label %+q: %+v", row[1], got)
		}
	}
	for _, text := range []string{"\xFF", "a\xFF", "\xFFa", "\xC8", "\u0220\xC8", "a\xE2\x82", "\xED\xA0\x80", "\xC0\x80", "\xF4\x90\x80\x80", "\x80"} {
		isLabel(t, text, "")
	}
	isLabelBack(t, 0xFFFD)
	isLabelBack(t, 'a', 0xFFFD, 'b', 0xFFFD)
}

func TestLabelsOfEachPoint(t *testing.T) {
	for _, p := range allPoints() {
		text := textWritten(p)
		label := impl.EncodeLabel(text)
		if got := impl.DecodeLabel(label); got != (impl.HostOut{Text: text}) {
			t.Fatalf("U+%X is written %+q, which comes back as %+v", p, label, got)
		}
	}
	for _, p := range append(pointsApart(), 0x7F, 0x80, 0xD7FF, 0xE000, 0xFFFF, 0x10000, impl.MaxPoint) {
		isLabelBack(t, p)
		isLabelBack(t, p, p)
		isLabelBack(t, 'a', p)
		isLabelBack(t, p, 'a')
		isLabelBack(t, p, '-', 0x80, p)
		isLabelBack(t, impl.MaxPoint, p, 0x80)
	}
}

// rowsOfPoints are so many points of each kind: alike ones, rising and falling ones, such as lie far apart.
func rowsOfPoints(r *rand.Rand, count int) [][]int64 {
	rows := make([][]int64, 10)
	for n := range int64(count) {
		for at, p := range []int64{
			'a', 0x80, 0x6000, impl.MaxPoint, 0x100 + n, 0x2000 - n, []int64{0x220, 'b', 0x6000, '-'}[n%4], []int64{0x80, impl.MaxPoint}[n%2], 0xE000 + r.Int63n(0x100000), []int64{r.Int63n(0x80), 0x80 + r.Int63n(0x800), 0x10000 + r.Int63n(0x100000)}[r.Intn(3)],
		} {
			rows[at] = append(rows[at], p)
		}
	}
	return rows
}

func TestLabelsOfRows(t *testing.T) {
	r := rand.New(rand.NewSource(471))
	for _, count := range []int{1, 2, 3, 5, 10, 40, 60, 200, 499, 500, 999, 1000} {
		for _, points := range rowsOfPoints(r, count) {
			isLabelBack(t, points...)
		}
	}
	for _, count := range []int{1001, 1002, 2000, 30000} {
		for _, points := range rowsOfPoints(r, count) {
			isLabel(t, textWritten(points...), "")
		}
	}
	for range 20000 {
		points := rowsOfPoints(r, r.Intn(9))
		isLabelBack(t, points[9]...)
		isLabelBack(t, points[8]...)
	}
	// Bytes are not what is counted.
	isLabelBack(t, slices.Repeat([]int64{0x10FFFF}, 1000)...)
	isLabel(t, strings.Repeat("\xFF", 1000), "")
	for _, size := range []int{65536, 65537} {
		isLabel(t, strings.Repeat("a", size), "")
	}
}

// TestAllShortLabels has each order of a few points.
func TestAllShortLabels(t *testing.T) {
	points := []int64{'a', '-', 0x80, 0x81, 0x220, 0x6000, 0x10FFFF}
	rows := [][]int64{{}}
	for range 4 {
		var longer [][]int64
		for _, row := range rows {
			isLabelBack(t, row...)
			for _, p := range points {
				longer = append(longer, append(slices.Clone(row), p))
			}
		}
		rows = longer
	}
	eachOrder([]int64{'a', 'b', 0x80, 0x220, 0x221, 0x6000}, 0, func(points []int64) { isLabelBack(t, points...) })
}

func TestLabelsThatAreNone(t *testing.T) {
	refused := impl.HostOut{Code: impl.ErrSyntax}
	for _, data := range []string{
		"-", "-a", "-5la", "-99", "-b", "5", "5l", "b", "9", "z", "5LA", "5La", "A", "Z", "a-A", "a-5LA", "a-B", "a-_", "_", ".", " ", "a b", "5la ", " 5la", "5la.", "\x00", "a\x00", "5la\n", "a-1xa\x7F", "a-1x{", "`", "@", "/", ":", "a-:", "a-/",
		"\xFF", "\x80", "a\x80", "\x80a", "\xC8\xA0", "\u0220-", "a\u0220-", "\u0220-5la", "\x80-", "\xFF-a", "a\xFF-5la", "a-\xFF", "a-1xa\x80", "\uFFFD", "a-\u0220",
		"99999999", "9999999999999999999999", "zzzzzz", "a-99999999", strings.Repeat("9", 999) + "a", strings.Repeat("9", 1000), strings.Repeat("z", 1000), "b" + strings.Repeat("9", 60), "a-" + strings.Repeat("9", 998), "dn32h", "eo32g",
	} {
		isUnlabeled(t, data, refused)
		if got := unlabelPlainly(data); got != refused {
			t.Errorf("the plain text of the label %+q: %+v", data, got)
		}
	}
	// Numbers of no point are written as points are.
	for _, p := range []int64{0xD800, 0xD801, 0xDBFF, 0xDC00, 0xDFFF, impl.MaxPoint + 1, impl.MaxPoint + 2, 2 * impl.MaxPoint, 1 << 31, 1 << 32, 1<<32 + 0x80, 1<<32 + 0x220, 1 << 40, 1<<53 + 0x220} {
		for _, points := range [][]int64{{p}, {p, p}, {'a', p}, {p, 0x80}, {0xD7FF, p}, {p, 'a', 'b', 0x220}} {
			isUnlabeled(t, labelPlainly(points), refused)
		}
	}
	for _, p := range []int64{0xD7FF, 0xE000, impl.MaxPoint} {
		isLabelBack(t, p, 'a', p, 0x80)
	}
	// Numbers that wrap in fewer bits than they have.
	for wraps := int64(31); wraps < 63; wraps++ {
		isUnlabeled(t, digitsPlainly(1<<wraps, 72, 36), refused)
		isUnlabeled(t, digitsPlainly(1<<wraps+416, 72, 36), refused)
	}
	for _, more := range []*big.Int{new(big.Int).Lsh(big.NewInt(1), 64), new(big.Int).Lsh(big.NewInt(1), 63), new(big.Int).Lsh(big.NewInt(1), 128)} {
		data := digitsOfBig(new(big.Int).Add(more, big.NewInt(416)), 72, 36)
		if delta, rest, right := deltaPlainly(data, 72); !right || rest != "" || new(big.Int).Sub(delta, more).Int64() != 416 {
			t.Errorf("the digits %q are of %v", data, delta)
		}
		isUnlabeled(t, data, refused)
	}
	isUnlabeled(t, digitsPlainly(416, 72, 36), impl.HostOut{Text: "\u0220"})
}

// digitsOfBig is digitsPlainly of a number of any size.
func digitsOfBig(q *big.Int, bias int64, k int64) string {
	t := thresholdPlainly(k, bias)
	if q.Cmp(big.NewInt(t)) < 0 {
		return plainDigits[q.Int64() : q.Int64()+1]
	}
	rest, digit := new(big.Int).DivMod(new(big.Int).Sub(q, big.NewInt(t)), big.NewInt(36-t), new(big.Int))
	return plainDigits[t+digit.Int64():t+digit.Int64()+1] + digitsOfBig(rest, bias, k+36)
}

// TestLabelsNearlyRight cuts labels short, and takes, puts and changes a byte at each place.
func TestLabelsNearlyRight(t *testing.T) {
	codes := map[int64]int{}
	isTold := func(data string) {
		t.Helper()
		want := unlabelPlainly(data)
		isUnlabeled(t, data, want)
		codes[want.Code]++
	}
	for _, text := range []string{"\u0220", "a", "abc", "a-b", "\u0080", "\U0010FFFF", "ab\u0220", "\u0220a-\u0221b", "\u6000\u6001\u0080", "b\u00FCcher", "\u4ED6\u4EEC\u4E3A\u4EC0\u4E48\u4E0D\u8BF4\u4E2D\u6587", "A\u0220Z\U0010FFFF", strings.Repeat("\u0220", 20)} {
		label := labelPlainly(readPlainly(text))
		for at := range len(label) + 1 {
			isTold(label[:at])
			isTold(label[at:])
			for b := range 256 {
				isTold(label[:at] + string([]byte{byte(b)}) + label[at:])
				if at < len(label) {
					isTold(label[:at] + string([]byte{byte(b)}) + label[at+1:])
				}
			}
			if at < len(label) {
				isTold(label[:at] + label[at+1:])
			}
		}
		isTold(strings.ToUpper(label))
		isTold("-" + label)
		isTold(label + "-")
		isTold(label + label)
	}
	eachRow([]string{"a", "b", "5", "9", "z", "-", "A", "l", "\x80"}, 5, isTold)
	if codes[impl.OK] < 1000 || codes[impl.ErrSyntax] < 1000 {
		t.Errorf("labels that are read and that are not: %v", codes)
	}
}

// TestLabelsOfRandomDigits reads digits that nobody wrote; what is read is written so.
func TestLabelsOfRandomDigits(t *testing.T) {
	r := rand.New(rand.NewSource(472))
	right := 0
	for range 30000 {
		var data []byte
		for range r.Intn(12) {
			data = append(data, "aaabbbccdefghijklmnopqrstuvwxyz0123456789-"[r.Intn(42)])
		}
		want := unlabelPlainly(string(data))
		isUnlabeled(t, string(data), want)
		if want.Code == impl.OK {
			right++
			isLabel(t, want.Text, string(data))
		}
	}
	if right < 1000 {
		t.Errorf("%d labels were read", right)
	}
}

func TestSizesOfLabels(t *testing.T) {
	tooLong := impl.HostOut{Code: impl.ErrSize}
	for _, size := range []int{998, 999, 1000, 1001, 1002, 5000, 65535, 65536, 65537, 70000} {
		plain := strings.Repeat("b", size-1) + "-"
		digits := strings.Repeat("a", size)
		if size > 1000 {
			for _, data := range []string{plain, digits, strings.Repeat("-", size), strings.Repeat("\xFF", size), strings.Repeat("9", size)} {
				isUnlabeled(t, data, tooLong)
			}
			continue
		}
		isUnlabeled(t, plain, impl.HostOut{Text: plain[:size-1]})
		isUnlabeled(t, digits, impl.HostOut{Text: strings.Repeat("\u0080", size)})
		isUnlabeled(t, strings.Repeat("-", size), impl.HostOut{Text: strings.Repeat("-", size-1)})
		isUnlabeled(t, strings.Repeat("9", size), impl.HostOut{Code: impl.ErrSyntax})
		isUnlabeled(t, strings.Repeat("\xFF", size), impl.HostOut{Code: impl.ErrSyntax})
	}
	isLabel(t, strings.Repeat("a", 1000), strings.Repeat("a", 1000)+"-")
	isUnlabeled(t, strings.Repeat("a", 1000)+"-", tooLong)
	isLabel(t, strings.Repeat("a", 1001), "")
}

var (
	asciiLabel = regexp.MustCompile(`^[a-z0-9-]*$`)
	edgeDash   = regexp.MustCompile(`^-|-$|^..--`)
)

func hostLabelPlainly(label string) (put string, code int64) {
	bare := strings.ReplaceAll(label, "-", "")
	isSuch := asciiLabel.MatchString(label) || idPlainly(bare) == impl.OK && !mixedPlainly(bare)
	if !isSuch || edgeDash.MatchString(label) {
		return "", impl.ErrForm
	}
	if slices.Max(append(readPlainly(label), 0)) > 0x7F {
		label = "xn--" + labelPlainly(readPlainly(label))
	}
	if len(label) == 0 || len(label) > 63 {
		return "", impl.ErrCount
	}
	return label, impl.OK
}

// foldedPlainly is what a host is cut of.
func foldedPlainly(text string) string {
	return textWritten(plainNormal(impl.NormKC, plainFold(plainNormal(impl.NormKC, readPlainly(text))))...)
}

func hostPlainly(text string) impl.HostOut {
	if len(readPlainly(text)) > 1000 {
		return impl.HostOut{Code: impl.ErrSize}
	}
	var labels []string
	for at, label := range strings.Split(foldedPlainly(text), ".") {
		put, code := hostLabelPlainly(label)
		if code != impl.OK {
			return impl.HostOut{Code: code, At: int64(at)}
		}
		labels = append(labels, put)
	}
	host := strings.Join(labels, ".")
	if len(host) > 253 {
		return impl.HostOut{Code: impl.ErrCount}
	}
	return impl.HostOut{Text: host}
}

func hostBackPlainly(host string) impl.HostOut {
	if len(host) > 1000 {
		return impl.HostOut{Code: impl.ErrSize}
	}
	labels := strings.Split(host, ".")
	for at, label := range labels {
		if strings.HasPrefix(label, "xn--") {
			read := unlabelPlainly(label[4:])
			if read.Code != impl.OK {
				return impl.HostOut{Code: impl.ErrSyntax, At: int64(at)}
			}
			labels[at] = read.Text
		}
	}
	text := strings.Join(labels, ".")
	if hostPlainly(text) != (impl.HostOut{Text: host}) {
		return impl.HostOut{Code: impl.ErrForm}
	}
	return impl.HostOut{Text: text}
}

func isHost(t *testing.T, text string, want impl.HostOut) {
	t.Helper()
	isHostOut(t, "HostOf", text, impl.HostOf(text), want)
	isHostBackPlainly(t, text)
	if want.Code != impl.OK {
		return
	}
	// The forty-seventh promise, of hosts.
	back := impl.HostBack(want.Text)
	if back.Code != impl.OK || back.At != 0 || impl.HostOf(back.Text) != want {
		t.Errorf("the host %+q comes back as %+v, which is the host %+v", want.Text, back, impl.HostOf(back.Text))
	}
	isHostBackPlainly(t, want.Text)
}

func isHostPlainly(t *testing.T, text string) impl.HostOut {
	t.Helper()
	want := hostPlainly(text)
	isHost(t, text, want)
	return want
}

func isHostBack(t *testing.T, host string, want impl.HostOut) {
	t.Helper()
	isHostOut(t, "HostBack", host, impl.HostBack(host), want)
}

func isHostBackPlainly(t *testing.T, host string) {
	t.Helper()
	isHostBack(t, host, hostBackPlainly(host))
}

func TestHostsByHand(t *testing.T) {
	for _, row := range [][2]string{
		{"a", "a"}, {"A", "a"}, {"0", "0"}, {"9z", "9z"}, {"a.b", "a.b"}, {"Ab.\u0200", "ab.xn--5la"}, {"www.Example.ORG", "www.example.org"}, {"1.2.3.4", "1.2.3.4"}, {"a_b", "a_b"}, {"a_", "a_"}, {"A_1.b", "a_1.b"}, {"x-_y", "x-_y"},
		{"a-b", "a-b"}, {"a-b-c", "a-b-c"}, {"a--b", "a--b"}, {"abc--d", "abc--d"}, {"0-0", "0-0"}, {"ab-c", "ab-c"}, {"abc-d", "abc-d"}, {"1-a", "1-a"}, {"xn-a", "xn-a"}, {"xn", "xn"}, {"abc---d", "abc---d"},
		{"\u0220", "xn--5la"}, {"\u0200", "xn--5la"}, {"\u0220.\u0220", "xn--5la.xn--5la"}, {"a.\u0220.b", "a.xn--5la.b"}, {"\u0220.a", "xn--5la.a"}, {"\u02201", "xn--1-1xa"}, {"\u0220-1", "xn---1-x9a"}, {"\u0220-\u0221", "xn----1xae"}, {"\u0220_", "xn--_-1xa"}, {"\u0220\u0250", "xn--5la0h"}, {"b\u20D0", "xn--b-zrn"}, {"A1\u2000-B", "xn--a1-b-107a"}, {"\u0320", "xn--hta"}, {"\u0420", "xn--s0a"}, {"\u0206", "xn--cma"},
		{"\u2600", "a"}, {"\u2700", "a"}, {"\u2731", "fi"}, {"\u2730\u2733", "ffst"}, {"\u2720", "0"}, {"\u27211", "11"}, {"\u27200.\u2608", "00.i"}, {"A\u1000", "xn--m0g"}, {"a\u1010", "xn--8fh"}, {"A\u1000\u1010", "xn--vuh"}, {"\u2700\u1000", "xn--m0g"}, {"\u2400", "xn--vuh"}, {"\u0260", "xn--omaa"}, {"\u0212\u0261", "xn--omaa"}, {"\u0232\u0261", "xn--omaa"}, {"\u0240", "xn--bna"}, {"\u0244", "xn--bna"},
		{"\u0700\u0720\u0741", "xn--q6j"}, {"\u3001", "xn--q6j"}, {"\u0700\u0720", "xn--p6j"}, {"\u6000", "xn--s7t"}, {"\u0800\u0801", "xn--4tbc"}, {"\u0500", "xn--66a"}, {"\u0600\u0630\u0601", "xn--ifbc4l"}, {"\u0200\u1008", "xn--5la432e"},
	} {
		want := impl.HostOut{Text: row[1]}
		isHost(t, row[0], want)
		if got := hostPlainly(row[0]); got != want {
			t.Errorf("the plain host of %+q: %+v", row[0], got)
		}
	}
}

func TestHostFaultsByHand(t *testing.T) {
	const form, count = impl.ErrForm, impl.ErrCount
	long, longer := strings.Repeat("a", 63), strings.Repeat("a", 64)
	for _, row := range []struct {
		text string
		code int64
		at   int64
	}{
		{"", count, 0}, {".", count, 0}, {"..", count, 0}, {".a", count, 0}, {"a.", count, 1}, {"a..b", count, 1}, {"a.b.", count, 2}, {"a.b..c", count, 2}, {"\u0220.", count, 1}, {".\u0220", count, 0}, {longer, count, 0}, {"a." + longer, count, 1}, {longer + "." + longer, count, 0}, {long + "." + longer, count, 1}, {"a..", count, 1},
		{"-", form, 0}, {"--", form, 0}, {"---", form, 0}, {"----", form, 0}, {"-a", form, 0}, {"a-", form, 0}, {"-a-", form, 0}, {"a.-b", form, 1}, {"a.b-", form, 1}, {"a-.b", form, 0}, {"-.", form, 0}, {"a--", form, 0}, {"ab--c", form, 0}, {"ab--", form, 0}, {"a---b", form, 0}, {"ab---c", form, 0}, {"xn--5la", form, 0}, {"xn--a", form, 0}, {"XN--5la", form, 0}, {"a.xn--5la", form, 1}, {"00--0", form, 0},
		{"-\u0220", form, 0}, {"\u0220-", form, 0}, {"\u0220\u0221--\u0222", form, 0}, {"\u0220---\u0221", form, 0}, {"a.\u0220-", form, 1}, {"\u2731--a", form, 0}, {"\u0260--\u0220", form, 0},
		{" ", form, 0}, {"a b", form, 0}, {" a", form, 0}, {"a ", form, 0}, {"a\u00A0b", form, 0}, {"a\u1F80", form, 0}, {"a,b", form, 0}, {"a:80", form, 0}, {"a/b", form, 0}, {"a@b", form, 0}, {"*", form, 0}, {"a\n", form, 0}, {"a\x00", form, 0}, {"a\u00AD", form, 0}, {"a\u1F00b", form, 0}, {"\u0220\u1F00", form, 0}, {"\u1E00", form, 0}, {"a\u00A1", form, 0}, {"a.b\u1F12", form, 1},
		{"_", form, 0}, {"_a", form, 0}, {"1_", form, 0}, {"a._b", form, 1}, {"1\u0220", form, 0}, {"\u0250", form, 0}, {"\u0250\u0251", form, 0}, {"-\u0250", form, 0}, {"1\u0250", form, 0}, {"\u1000", form, 0}, {"a.\u1000", form, 1}, {"\u0630", form, 0}, {"a-\u1000", form, 0}, {"b-\u1000c", form, 0}, {"\u0700-\u0720", form, 0}, {"1\u1008", form, 0},
		{"a\u0220", form, 0}, {"\u0220a", form, 0}, {"\u0220\u0320", form, 0}, {"\u0220-a", form, 0}, {"\u6000\u0800", form, 0}, {"x.a\u0220", form, 1}, {"a1\u0250", form, 0}, {"\u0220\u02501", form, 0}, {"\u0220\u0250-\u0350", form, 0}, {"a\u0250b\u0650", form, 0}, {"\u0220\u2700", form, 0}, {"\u0220\u0250\u2720", form, 0},
		{"\xFF", form, 0}, {"a\xFF", form, 0}, {"a.\xFF", form, 1}, {"a.b\xC8", form, 1}, {"\uFFFD", form, 0}, {"a\u0900", form, 0}, {"\U0010FFFF", form, 0}, {"a.\xC8\xA0.\xC8", form, 2},
		{"-" + longer, form, 0}, {longer + "-", form, 0}, {longer + "_!", form, 0}, {"a.-", form, 1}, {"a.-.", form, 1}, {"a..-", count, 1}, {".-", count, 0}, {"-." + longer, form, 0}, {longer + ".-", count, 0}, {"a." + longer + ".", count, 1}, {"ab--" + longer, form, 0},
		{strings.Repeat("a", 100) + "_", form, 0}, {strings.Repeat("a", 99) + "_", count, 0}, {strings.Repeat("\u0220", 100), count, 0}, {strings.Repeat("\u0220", 101), form, 0}, {strings.Repeat("\u0220-", 99) + "\u0220", count, 0}, {strings.Repeat("\u0220-", 100) + "\u0220", form, 0}, {strings.Repeat("a", 101), count, 0},
	} {
		want := impl.HostOut{Code: row.code, At: row.at}
		isHost(t, row.text, want)
		if got := hostPlainly(row.text); got != want {
			t.Errorf("the plain host of %+q: %+v", row.text, got)
		}
		isHost(t, "x.y."+row.text, impl.HostOut{Code: row.code, At: row.at + 2})
		isHost(t, row.text+".z", impl.HostOut{Code: row.code, At: row.at})
		isHost(t, row.text+".-", want)
		isHost(t, row.text+"..", want)
	}
}

func TestHostsOfEachPoint(t *testing.T) {
	codes := map[int64]int{}
	for _, p := range append(pointsApart(), 0x5F, 0x60, 0x2E, 0x2D, 0x24CF, 0x24D0, 0x259F) {
		for _, text := range []string{textWritten(p), textWritten('b', p), textWritten(p, 'b'), textWritten('b', p, '.', p)} {
			codes[isHostPlainly(t, text).Code]++
		}
	}
	for p := int64(0); p <= 0x2800; p++ {
		codes[isHostPlainly(t, textWritten(p)).Code]++
		codes[isHostPlainly(t, textWritten('b', p, '1')).Code]++
	}
	for _, code := range []int64{impl.OK, impl.ErrForm, impl.ErrCount} {
		if codes[code] == 0 {
			t.Errorf("no host has the code %d: %v", code, codes)
		}
	}
}

// TestDashesOfHosts has each place of one, two and three dashes in labels of all short sizes.
func TestDashesOfHosts(t *testing.T) {
	for _, letter := range []string{"a", "\u0220", "\u6000", "1", "\u2731", "a\u1000"} {
		eachRow([]string{"-", letter}, 6, func(text string) { isHostPlainly(t, text) })
	}
	eachRow([]string{"-", ".", "b", "\u20D0", "_"}, 5, func(text string) { isHostPlainly(t, text) })
}

// TestSizesOfHostLabels has what is written for labels of all sizes about 63 bytes.
func TestSizesOfHostLabels(t *testing.T) {
	longest := map[int]int{}
	for _, row := range [][2]string{
		{"", "a"}, {"", "1"}, {"", "A"}, {"", "\u2731"}, {"a", "_"}, {"\u0220", "\u0220"}, {"\u0220", "1"}, {"\u20D0", "b"}, {"b", "\u20D0"}, {"\u6000", "\u6001"}, {"\u6000", "1\u6001"}, {"\u3000", "\u0700\u0720"}, {"\u0600", "\u0630"}, {"b\u20D0", "-b"}, {"\u0220", "\u0260"},
	} {
		most := 0
		for count := range 90 {
			text := row[0] + strings.Repeat(row[1], count)
			want := isHostPlainly(t, text)
			isHost(t, "x."+text, hostPlainly("x."+text))
			if put, code := hostLabelPlainly(foldedPlainly(text)); put != want.Text || code != want.Code {
				t.Errorf("%+q is written %+q with the code %d, but the host is %+v", text, put, code, want)
			}
			most = max(most, len(want.Text))
		}
		longest[most]++
	}
	for size := range longest {
		if size < 58 || size > 63 {
			t.Errorf("the longest labels of %d rows have %d bytes", longest[size], size)
		}
	}
	for _, row := range []struct {
		label string
		put   string
	}{
		{strings.Repeat("x", 63), strings.Repeat("x", 63)}, {strings.Repeat("x", 64), ""}, {"x" + strings.Repeat("_", 62), "x" + strings.Repeat("_", 62)}, {"x" + strings.Repeat("_", 63), ""}, {"AAA" + strings.Repeat("-", 60) + "B", ""}, {"AAA" + strings.Repeat("-", 59) + "B", "aaa" + strings.Repeat("-", 59) + "b"},
		{"\u20D0" + strings.Repeat("x", 53), "xn--" + strings.Repeat("x", 53) + "-sw87a"}, {"\u20D0" + strings.Repeat("x", 54), ""}, {strings.Repeat("\u0220", 57), "xn--5la" + strings.Repeat("a", 56)}, {strings.Repeat("\u0220", 58), ""},
	} {
		want := impl.HostOut{Text: row.put}
		if row.put == "" {
			want = impl.HostOut{Code: impl.ErrCount}
		} else if len(row.put) != 63 {
			t.Errorf("%+q has %d bytes", row.put, len(row.put))
		}
		isHost(t, row.label, want)
	}
}

func TestSizesOfHosts(t *testing.T) {
	label := strings.Repeat("a", 63) + "."
	for _, size := range []int{251, 252, 253, 254, 255} {
		for _, text := range []string{
			strings.Repeat(label, 3) + strings.Repeat("b", size-192), strings.Repeat("a.", size/2-1) + strings.Repeat("b", size-size/2*2+2), strings.Repeat("xyz.", 60) + strings.Repeat("B", size-240), strings.Repeat("\u0220.", 30) + strings.Repeat("c", size-240),
		} {
			want := hostPlainly(text)
			isHost(t, text, want)
			if (want.Code == impl.OK) != (size <= 253) || want.Code != impl.OK && want != (impl.HostOut{Code: impl.ErrCount}) || want.Code == impl.OK && len(want.Text) != size {
				t.Errorf("a host of %d bytes, %+.100q: %+v", size, text, want)
			}
			// A label that is refused is told ahead of a host that is too long.
			isHost(t, text+".-", impl.HostOut{Code: impl.ErrForm, At: int64(strings.Count(text, ".")) + 1})
			isHost(t, text+".", impl.HostOut{Code: impl.ErrCount, At: int64(strings.Count(text, ".")) + 1})
		}
	}
	tooLong := impl.HostOut{Code: impl.ErrSize}
	for _, piece := range []string{"a", "a.", ".", "-", "\u0220", "\u2731", "A\u1000\u1010.", "\xFF", "\U0010FFFF"} {
		points := len(readPlainly(piece))
		for _, count := range []int{999, 1000, 1001, 1002, 3000} {
			text := strings.Repeat(piece, count/points) + strings.Repeat("b", count%points)
			want := impl.HostOf(text)
			if (want == tooLong) != (count > 1000) || want.Code == impl.OK {
				t.Errorf("%d points, %+.30q: %+v", count, text, want)
			}
			if count <= 1000 {
				isHost(t, text, hostPlainly(text))
			}
		}
		for _, size := range []int{65535, 65536, 65537, 70000} {
			isHostOut(t, "HostOf", piece, impl.HostOf(strings.Repeat(piece, size/len(piece)+1)[:size]), tooLong)
			isHostBack(t, strings.Repeat(piece, size/len(piece)+1)[:size], tooLong)
		}
	}
	// A label of 1000 points that has more of them in KC, of which 100 are no dashes: it is too long to be written.
	many := "\u20D0\u2730" + strings.Repeat("-", 950) + strings.Repeat("\u2730", 48)
	isHost(t, many, impl.HostOut{Code: impl.ErrCount})
	isHost(t, "a."+many[:len(many)-6], impl.HostOut{Code: impl.ErrCount, At: 1})
}

func TestHostsBackByHand(t *testing.T) {
	for _, row := range [][2]string{
		{"a", "a"}, {"a.b", "a.b"}, {"xn--5la", "\u0220"}, {"ab.xn--5la", "ab.\u0220"}, {"xn--5la.xn--5la", "\u0220.\u0220"}, {"xn--5la.a.xn--m0g", "\u0220.a.\u20D0"}, {"xn---1-x9a", "\u0220-1"}, {"xn----1xae", "\u0220-\u0221"}, {"a_b", "a_b"}, {"a--b", "a--b"}, {"0", "0"}, {"xn-a", "xn-a"}, {"axn--b", "axn--b"}, {"xn--omaa", "\u0232\u0232"},
	} {
		isHostBack(t, row[0], impl.HostOut{Text: row[1]})
		isHostBackPlainly(t, row[0])
	}
	for _, row := range []struct {
		host string
		code int64
		at   int64
	}{
		{"xn---", impl.ErrSyntax, 0}, {"xn--5l", impl.ErrSyntax, 0}, {"xn--5", impl.ErrSyntax, 0}, {"xn--5LA", impl.ErrSyntax, 0}, {"xn---5la", impl.ErrSyntax, 0}, {"xn--99999999", impl.ErrSyntax, 0}, {"xn--\u0220", impl.ErrSyntax, 0}, {"xn--\xFF", impl.ErrSyntax, 0}, {"xn--a_", impl.ErrSyntax, 0}, {"xn--dn32h", impl.ErrSyntax, 0},
		{"a.xn--5l", impl.ErrSyntax, 1}, {"a.b.xn--5", impl.ErrSyntax, 2}, {"xn--5la.xn--5l", impl.ErrSyntax, 1}, {"xn--5l.xn--5", impl.ErrSyntax, 0}, {"-.xn--5l", impl.ErrSyntax, 1}, {"..xn--5l.xn--5l", impl.ErrSyntax, 2}, {"A.xn--5l", impl.ErrSyntax, 1}, {"xn--.xn--5l", impl.ErrSyntax, 1}, {"xn--a-.xn--5l.a", impl.ErrSyntax, 1},
		{"", impl.ErrForm, 0}, {".", impl.ErrForm, 0}, {"a.", impl.ErrForm, 0}, {".a", impl.ErrForm, 0}, {"a..b", impl.ErrForm, 0}, {"-", impl.ErrForm, 0}, {"-a", impl.ErrForm, 0}, {"xn-", impl.ErrForm, 0}, {"a.b-", impl.ErrForm, 0}, {"ab--c", impl.ErrForm, 0}, {"a b", impl.ErrForm, 0}, {"_a", impl.ErrForm, 0}, {strings.Repeat("a", 64), impl.ErrForm, 0}, {strings.Repeat("a.", 127) + "a", impl.ErrForm, 0},
		{"xn--", impl.ErrForm, 0}, {"a.xn--", impl.ErrForm, 0}, {"xn--.a", impl.ErrForm, 0}, {"xn--abc-", impl.ErrForm, 0}, {"xn--a-", impl.ErrForm, 0}, {"xn----", impl.ErrForm, 0}, {"xn--xn--5la-", impl.ErrForm, 0}, {"a.b.xn--c-", impl.ErrForm, 0},
		{"A", impl.ErrForm, 0}, {"aB.c", impl.ErrForm, 0}, {"XN--5la", impl.ErrForm, 0}, {"Xn--5la", impl.ErrForm, 0}, {"xN--5la", impl.ErrForm, 0}, {"xn--5la.B", impl.ErrForm, 0}, {"xn--A-zrn", impl.ErrForm, 0},
		{"\u0220", impl.ErrForm, 0}, {"\u0200", impl.ErrForm, 0}, {"a.\u6000", impl.ErrForm, 0}, {"\u2700", impl.ErrForm, 0}, {"\xFF", impl.ErrForm, 0}, {"a\u1000", impl.ErrForm, 0},
	} {
		isHostBack(t, row.host, impl.HostOut{Code: row.code, At: row.at})
		isHostBackPlainly(t, row.host)
	}
	// Labels whose text has another host: upper letters, other forms, mixed ones, ones that no identifier has.
	for _, points := range [][]int64{{0x200}, {0x260}, {0x261}, {0x240}, {0x244}, {0x2000}, {0x2600}, {0x2700}, {0x2731}, {'a', 0x1000}, {0x700, 0x720}, {'A', 0x220}, {'a', 0x220}, {0x220, 0x320}, {'1', 0x220}, {0x250}, {0x220, 0x250, '1'}, {0x220, '-'}, {'-', 0x220}, {0x220, 0x221, '-', '-', 0x222}, {0x80}, {0xAD}, {0x220, 0x1F00}, {0x1000}, {0xA0}, {0xFFFD}, {0x10FFFF}, {0x220, ' '}, {0x1008, 'a', 0x1018}} {
		for _, host := range []string{"xn--" + labelPlainly(points), "a.xn--" + labelPlainly(points), "xn--5la.xn--" + labelPlainly(points) + ".b"} {
			isHostBack(t, host, impl.HostOut{Code: impl.ErrForm})
			isHostBackPlainly(t, host)
		}
	}
}

// TestHostsNearlyRight takes, puts and changes a byte at each place of hosts.
func TestHostsNearlyRight(t *testing.T) {
	codes := map[int64]int{}
	isTold := func(host string) {
		t.Helper()
		isHostBackPlainly(t, host)
		isHostPlainly(t, host)
		codes[hostBackPlainly(host).Code]++
	}
	for _, host := range []string{"a", "a.b-c", "xn--5la", "ab.xn--5la.c", "xn--a1-b-107a", "xn---1-x9a.xn--s7t", "xn--omaa.b", "xn--4tbc"} {
		for at := range len(host) + 1 {
			isTold(host[:at])
			isTold(host[at:])
			for _, b := range []byte("a5z9-.Ax_ n\x00\x80\xC8\xFF") {
				isTold(host[:at] + string([]byte{b}) + host[at:])
				if at < len(host) {
					isTold(host[:at] + string([]byte{b}) + host[at+1:])
				}
			}
			if at < len(host) {
				isTold(host[:at] + host[at+1:])
			}
		}
	}
	for _, code := range []int64{impl.OK, impl.ErrForm, impl.ErrSyntax} {
		if codes[code] < 50 {
			t.Errorf("hosts by their codes: %v", codes)
		}
	}
	eachRow([]string{"xn--", "a", "5la", ".", "-", "A", "5l", "\u0220"}, 4, isTold)
}

func TestSizesOfHostsBack(t *testing.T) {
	for _, size := range []int{253, 254, 999, 1000, 1001, 1002} {
		want := impl.HostOut{Code: impl.ErrForm}
		if size > 1000 {
			want = impl.HostOut{Code: impl.ErrSize}
		}
		for _, text := range []string{strings.Repeat("a", size), strings.Repeat(".", size), strings.Repeat("\xFF", size), "xn--" + strings.Repeat("a", size-5) + "-", strings.Repeat("a.", 120) + strings.Repeat("b", size-240)} {
			host := impl.HostOf(text)
			if host.Code == impl.OK {
				isHostBack(t, text, impl.HostOut{Text: text})
				continue
			}
			isHostBack(t, text, want)
			isHostBackPlainly(t, text)
		}
		// What is too long is told ahead of what is wrong.
		wrong := strings.Repeat("a.", size/2-5)
		wrong += "xn--" + strings.Repeat("9", size-len(wrong)-4)
		if size <= 1000 {
			want = impl.HostOut{Code: impl.ErrSyntax, At: int64(size/2 - 5)}
		}
		isHostBack(t, wrong, want)
	}
}

// hostAlphabet are points of one script and of several, of which KC and Fold turn some.
func hostAlphabet() []int64 {
	return []int64{'a', 'B', 'f', '0', '9', '-', '-', '.', '.', '_', 0x20D0, 0x2000, 0x2600, 0x2700, 0x2720, 0x2731, 0x1000, 0x1010, 0x1008, 0x220, 0x200, 0x260, 0x261, 0x212, 0x250, 0x700, 0x720, 0x741, 0x3000, 0x6000, 0x1F00, ' ', 0xFFFD}
}

// TestHostsComeBack is the forty-seventh promise, of hosts, by labels most of which are right.
func TestHostsComeBack(t *testing.T) {
	r := rand.New(rand.NewSource(47))
	kinds := [][]int64{
		{'a', 'B', 'z', '0', '9', '-', 0x2600, 0x2700, 0x2720, 0x2731}, {'a', 'B', 0x20D0, 0x2000, 0x1000, 0x1010, 0x1008, '_', '1', '-', 0x2731}, {0x200, 0x220, 0x23F, 0x260, 0x261, 0x212, 0x240, 0x244, 0x251, '-'}, {0x700, 0x720, 0x741, 0x3000, 0x3001, '2'}, {0x6000, 0x6001, 0x67FF, '-', '3'}, {0x600, 0x601, 0x630, 0x631, 0x620, 0x650}, hostAlphabet(),
	}
	codes := map[int64]int{}
	for range 20000 {
		text := ""
		for range 1 + r.Intn(4) {
			text += "." + randomNormText(r, kinds[r.Intn(len(kinds))], 7)
		}
		codes[isHostPlainly(t, text[1:]).Code]++
	}
	for range 20000 {
		text := randomNormText(r, hostAlphabet(), 6)
		want := isHostPlainly(t, text)
		codes[want.Code]++
		if want.Code != impl.OK {
			continue
		}
		// The text of a host has that host, and is told again of it.
		back := impl.HostBack(want.Text)
		if again := impl.HostBack(impl.HostOf(back.Text).Text); again != back {
			t.Errorf("%+q has the host %+q, which comes back as %+v and then as %+v", text, want.Text, back, again)
		}
	}
	for _, code := range []int64{impl.OK, impl.ErrForm, impl.ErrCount} {
		if codes[code] < 500 {
			t.Errorf("hosts by their codes: %v", codes)
		}
	}
}

func TestNamesAreNewMemory(t *testing.T) {
	told := func(text string) string {
		return fmt.Sprint(impl.IdFault(text), impl.ScriptsOf(text), impl.SkeletonOf(text), impl.LookAlike(text, text), impl.IsMixed(text), impl.EncodeLabel(text), impl.DecodeLabel(text), impl.HostOf(text), impl.HostBack(text))
	}
	// Texts of one byte are left out: all of them are the language's own.
	for _, row := range []string{"abc", "a.b", "xn--5la", "abc-", "5la", "\u0220\u0320a1", "a\xFF", "", "\u0700\u0720"} {
		text := strings.Clone(row)
		first := told(text)
		answers := []string{impl.SkeletonOf(text), impl.EncodeLabel(text), impl.DecodeLabel(text).Text, impl.HostOf(text).Text, impl.HostBack(text).Text}
		for at, answer := range answers {
			if sharesMemory(answer, text) {
				t.Errorf("answer %d of %+q shares its memory", at, text)
			}
			for _, other := range answers[:at] {
				if sharesMemory(answer, other) {
					t.Errorf("two answers of %+q share their memory", text)
				}
			}
		}
		scripts := impl.ScriptsOf(text)
		for at := range scripts {
			scripts[at] = 99
		}
		_ = append(scripts, 98, 97)
		if got := told(text); got != first || text != row {
			t.Errorf("asked again of %+q: %s, want %s", row, got, first)
		}
	}
}
