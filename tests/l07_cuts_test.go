package tests

import (
	"math"
	"math/rand"
	"regexp"
	"slices"
	"strings"
	"testing"

	"loop.example/g00044/impl"
)

// classRange gives the points from first to last a letter, which the plain rules are written with.
type classRange struct {
	first int64
	last  int64
	class string
}

// charClasses: R U+0D, N U+0A, C other controls, J the joiner, S the stroke, D the dot, M other marks, K
// consonants, L V T leads, vowels and tails, P pictures, F flags; syllables are told by charClass.
var charClasses = []classRange{
	{0x0D, 0x0D, "R"}, {0x0A, 0x0A, "N"}, {0, 0x1F, "C"}, {0x7F, 0x9F, "C"}, {0x1F12, 0x1F12, "C"},
	{0x1F00, 0x1F00, "J"}, {0x630, 0x630, "S"}, {0x631, 0x631, "D"},
	{0x620, 0x62B, "M"}, {0x1000, 0x103F, "M"}, {0x1E40, 0x1E44, "M"},
	{0x600, 0x61F, "K"}, {0x700, 0x712, "L"}, {0x720, 0x734, "V"}, {0x741, 0x75B, "T"},
	{0x1E00, 0x1E3F, "P"}, {0x1E50, 0x1E69, "F"},
}

// charClass has O for an open syllable, E for a closed one, X for what is of no class.
func charClass(p int64) string {
	for _, row := range charClasses {
		if p >= row.first && p <= row.last {
			return row.class
		}
	}
	for first := int64(0x3000); first <= p && p <= 0x5BA3; first += 28 {
		if p == first {
			return "O"
		}
		if p < first+28 {
			return "E"
		}
	}
	return "X"
}

// writtenRule is a rule that speaks where its pattern is found in a row of classes, with / at the place.
type writtenRule struct {
	pattern *regexp.Regexp
	cut     bool
}

// writtenRules takes patterns of places without a cut, but for those that begin with a plus sign.
func writtenRules(patterns ...string) []writtenRule {
	rules := []writtenRule{}
	for _, pattern := range patterns {
		bare, cut := strings.CutPrefix(pattern, "+")
		rules = append(rules, writtenRule{regexp.MustCompile(bare), cut})
	}
	return rules
}

var charRulesWritten = writtenRules(
	"R/N", "+[RNC]/|/[RNC]",
	"L/[LVOE]", "[VO]/[VT]", "[TE]/T",
	"/[MJSD]",
	"SD*/K",
	"P[MJSD]*J/P",
	"(^|[^F])F(FF)*/F",
)

var wordRulesWritten = writtenRules(
	"+C/|/C",
	"S/S",
	"[LD]/[LD]",
	"L/[JB]L", "L[JB]/L", "D/[QB]D", "D[QB]/D",
	"[LDU]/U", "U/[LDU]",
	"P/P",
)

func cutByWritten(rules []writtenRule, ahead string, behind string) bool {
	for _, rule := range rules {
		if rule.pattern.MatchString(ahead + "/" + behind) {
			return rule.cut
		}
	}
	return true
}

// What the classes of words are told by, the first one first.
var (
	wordSigns      = map[int64]string{0x27: "J", 0x3A: "J", 0x2E: "B", 0x2C: "Q", 0x5F: "U"}
	wordScripts    = map[int64]string{8: "P", 9: "I"}
	wordCategories = map[int64]string{
		impl.CatSpace: "S", impl.CatDigit: "D",
		impl.CatUpper: "L", impl.CatLower: "L", impl.CatTitle: "L", impl.CatOther: "L",
	}
)

// wordClass: C control, S space, L letter, P part, D digit, J joint, Q point, B both, U low line, I
// ideograph, X all others.
func wordClass(p int64) string {
	if class := charClass(p); strings.Contains("RNC", class) {
		return "C"
	}
	for _, class := range []string{wordSigns[p], wordScripts[impl.Script(p)], wordCategories[impl.Category(p)]} {
		if class != "" {
			return class
		}
	}
	return "X"
}

// placesPlainly are the places at which the points begin that readPlainly tells.
func placesPlainly(text string) []int64 {
	places := []int64{}
	for at := 0; at < len(text); {
		places = append(places, int64(at))
		size := 1
		for length := 2; length <= 4 && at+length <= len(text); length++ {
			if plainPoint(text[at:at+length]) >= 0 {
				size = length
			}
		}
		at += size
	}
	return places
}

func classesOf(points []int64, tell func(p int64) string) string {
	classes := ""
	for _, p := range points {
		classes += tell(p)
	}
	return classes
}

// plainCharCuts asks the written rules at each place.
func plainCharCuts(text string) []int64 {
	if text == "" {
		return nil
	}
	classes := classesOf(readPlainly(text), charClass)
	cuts := []int64{}
	for i, place := range placesPlainly(text) {
		if i == 0 || cutByWritten(charRulesWritten, classes[:i], classes[i:]) {
			cuts = append(cuts, place)
		}
	}
	return append(cuts, int64(len(text)))
}

// belongsPlainly tells whether points[at] belongs to the one ahead of it.
func belongsPlainly(points []int64, at int) bool {
	if at == 0 || strings.Contains("CS", wordClass(points[at-1])) {
		return false
	}
	p := points[at]
	return strings.Contains("MJSD", charClass(p)) || p != 0x1F12 && p != 0xAD && impl.Category(p) == impl.CatFormat
}

func plainWordCuts(text string, tailors []impl.Tailor) []int64 {
	if text == "" {
		return nil
	}
	points, places, chars := readPlainly(text), placesPlainly(text), plainCharCuts(text)
	kept, where := []int64{}, []int64{}
	for at, p := range points {
		if !belongsPlainly(points, at) {
			kept, where = append(kept, p), append(where, places[at])
		}
	}
	classes := classesOf(kept, wordClass)
	cuts := []int64{0}
	for i := 1; i < len(kept); i++ {
		first := slices.IndexFunc(tailors, func(tailor impl.Tailor) bool {
			return [2]int64{tailor.Left, tailor.Right} == [2]int64{kept[i-1], kept[i]}
		})
		cut := slices.Contains(chars, where[i]) && cutByWritten(wordRulesWritten, classes[:i], classes[i:])
		if first >= 0 {
			cut = tailors[first].Cut
		}
		if cut {
			cuts = append(cuts, where[i])
		}
	}
	return append(cuts, int64(len(text)))
}

func piecesPlainly(text string, cuts []int64) []string {
	pieces := []string{}
	for i := range max(len(cuts), 1) - 1 {
		pieces = append(pieces, text[cuts[i]:cuts[i+1]])
	}
	return pieces
}

// plainWords keeps the pieces that have a letter, part, digit or ideograph.
func plainWords(text string, tailors []impl.Tailor) []string {
	return slices.DeleteFunc(piecesPlainly(text, plainWordCuts(text, tailors)), func(piece string) bool {
		return !strings.ContainsAny(classesOf(readPlainly(piece), wordClass), "LPDI")
	})
}

func isCharCut(t *testing.T, text string, want []int64) {
	t.Helper()
	if got := impl.CharCuts(text); !slices.Equal(got, want) {
		t.Errorf("CharCuts of %+q: %d, want %d", text, got, want)
	}
	if got, want := impl.Chars(text), piecesPlainly(text, want); !slices.Equal(got, want) {
		t.Errorf("Chars of %+q: %+q, want %+q", text, got, want)
	}
}

func isWordCut(t *testing.T, text string, tailors []impl.Tailor, want []int64) {
	t.Helper()
	if got := impl.WordCuts(text, tailors); !slices.Equal(got, want) {
		t.Errorf("WordCuts of %+q by %v: %d, want %d", text, tailors, got, want)
	}
}

// marked takes a text with | at each cut, but for the ends, to the text and its cuts.
func marked(row string) (string, []int64) {
	text, cuts := "", []int64{0}
	for _, piece := range strings.Split(row, "|") {
		text += piece
		cuts = append(cuts, int64(len(text)))
	}
	return text, cuts
}

func TestCharsByHand(t *testing.T) {
	for _, row := range []string{
		"a", "\x00", "\u1000", "\U0010FFFF", "a|b", "a|\U0010FFFF|b", "\u0800|\u0801",
		// ends of lines and controls
		"\r\n", "\n|\r", "\n|\n", "\r|\r", "\r|\r\n|\n", "a|\r\n|b", "\r|\u1000", "\r\n|\u1000", "\n|\u1000\u1001|a",
		"\x0C|\n", "\x0E|\n", "\r|\x09", "\r|\x0B", "\x00|\x00", "\x1F| ", " |\x1F", "~|\x7F", "\u009F|\u00A0", "\u00A0\u1000",
		"\x00|\u1000", "\x1F|\u1000", " \u1000", "~\u1000", "\x7F|\u1000", "\u009F|\u1000",
		"\u1F12|\u1000", "a\u1000|\u1F12|\u1000|\u1F12", "\u1F11\u1000", "a|\u1F11|a", "\u1F13\u1000",
		// marks
		"a\u1000\u103F|b", "a\u103F|\u1040", "a|\u0FFF", "a\u0620\u062B|\u062C", "a|\u061F", "a\u0630\u0631|\u0632", "a|\u062F",
		"a\u1F00|b", "a|\u1EFF", "a|\u1F01", "a\u1E40\u1E44|\u1E45", "a|\u1E3F", "\u1000|a", "\u1F00|a", "\u1E44|a", "\u1000\u1F00\u1E40|a",
		" \u1F00|a", "\x01|\u1F00|a", "\x01|\u1E40|a", "\r\n|\u1E40",
		// consonants behind the stroke
		"\u0630\u0600", "\u0600\u0630\u061F", "\u0600\u0630|\u05FF", "\u0600\u0630\u0620|\u0600", "\u0600\u0631|\u0600", "\u0631|\u0600",
		"\u0600\u0630\u0631\u0600", "\u0630\u0631\u0631\u0600", "\u0600\u0630\u0631\u0631\u0631\u061F", "\u0600\u0631\u0631|\u0600", "\u0631\u0631\u0631|\u0600",
		"\u0600\u0631\u0630\u0600", "\u0600\u0630\u0631\u0630\u0600", "\u0600\u0630\u1000|\u0600", "\u0600\u0630\u0631\u1000|\u0600", "\u0600\u0630\u1000\u0631|\u0600",
		"\u0600\u0630|a", "a\u0630\u0600", "\n|\u0630\u0600", "\n|\u0631|\u0600", "\u0600\u0630|\u0650", "\u0600|\u0601", "\u0600|\u062F|\u0600",
		// joined pictures
		"\u1E00\u1F00\u1E3F", "\u1E3F\u1F00\u1E00", "\u1E00|\u1E00", "\u1E00\u1000\u1F00\u1E00", "\u1E00\u1E44\u1000\u1F00\u1E00", "\u1E00\u1F00\u1F00\u1E00",
		"\u1E00\u1F00\u1000\u1F00\u1E00", "\u1E00\u1F00\u1000|\u1E00", "\u1E00\u1000|\u1E00", "a\u1F00|\u1E00", "a\u1000\u1F00|\u1E00", "\u1E00|a\u1000\u1F00|\u1E00",
		"\u1F00|\u1E00", "\u1000\u1F00|\u1E00", "\u1E00\u1F00|a", "\u1E00\u1F00\u1E01\u1F00\u1E02", "\u1E00\u1F00|\u1E50", "\u1E50\u1F00|\u1E00",
		"\u1DFF\u1F00|\u1E00", "\u1E45\u1F00|\u1E00", "\u1E00\u1F00\u1E40", "\u1E00\u1F00|\u1DFF", "\n|\u1F00|\u1E00", "\u1E00|\u1F12|\u1F00|\u1E00", "\u1E00|\u1F01\u1F00|\u1E00",
		// flags
		"\u1E50", "\u1E50\u1E51", "\u1E50\u1E51|\u1E52", "\u1E50\u1E51|\u1E52\u1E53", "\u1E50\u1E51|\u1E52\u1E53|\u1E54", "a|\u1E50\u1E69", "a|\u1E50\u1E51|\u1E52|b",
		"\u1E50\u1E51|\u1E52|\n|\u1E50\u1E51|\u1E52", "\u1E4F|\u1E50", "\u1E4F|\u1E50\u1E69|\u1E6A", "\u1E69|\u1E6A", "\u1E50\u1000|\u1E51", "\u1E50\u1000|\u1E51\u1E52",
		"\u1E50\u1E51\u1000|\u1E52\u1E53|\u1E54", "\u1000|\u1E50\u1E51", "\u1E00|\u1E50\u1E51",
		// broken bytes
		"\xFF|\xFE", "a|\xE2|\x82", "\xE2|\x82\u1000|b", "\xE2\u1000|b", "\uFFFD\u1000|\uFFFD", "\xC3\u1000|\xA9", "\xF0|\x9F|\x98|a", "\xED|\xA0|\x80", "\xC0|\x80\u1F00",
		"\u1E50|\xFF|\u1E51", "\r|\xFF|\n", "\u0630|\xFF|\u0600", "\u1E50\u1E51|\x80|\u1E52\u1E53",
	} {
		text, cuts := marked(row)
		isCharCut(t, text, cuts)
	}
}

func TestTextsWithoutCuts(t *testing.T) {
	long := strings.Repeat("a", impl.MaxBytes+1)
	for _, text := range []string{"", long} {
		isCharCut(t, text, nil)
		isWordCut(t, text, nil, nil)
		if got := impl.Words(text, nil); len(got) > 0 {
			t.Errorf("Words of %d bytes: %d of them, want none", len(text), len(got))
		}
	}
}

func TestSyllablesEachBehindEach(t *testing.T) {
	classes := map[string][]int64{
		"lead": {0x700, 0x712}, "vowel": {0x720, 0x734}, "tail": {0x741, 0x75B},
		"open": {0x3000, 0x301C, 0x5B88}, "closed": {0x3001, 0x301B, 0x5BA3},
		"other": {0x6FF, 0x713, 0x71F, 0x735, 0x740, 0x75C, 0x2FFF, 0x5BA4, 'a'},
	}
	stays := map[string]string{"lead": "lead vowel open closed", "vowel": "vowel tail", "open": "vowel tail", "tail": "tail", "closed": "tail", "other": ""}
	for left, lefts := range classes {
		for right, rights := range classes {
			for _, a := range lefts {
				for _, b := range rights {
					text, size := textWritten(a, b), int64(len(writtenBytes(a)))
					want := []int64{0, size, int64(len(text))}
					if slices.Contains(strings.Fields(stays[left]), right) {
						want = []int64{0, int64(len(text))}
					}
					isCharCut(t, text, want)
				}
			}
		}
	}
}

// cutEdges are the points at both ends of each class, and those beside them.
func cutEdges() []int64 {
	edges := []int64{0x20, 0x21, 0x27, 0x2C, 0x2E, 0x3A, 0x5F, 0x26, 0x2D, 0x2F, 0x30, 0x39, 0x5E, 0x60, 0xA0, 0xAD, 0xAC, 0xAE}
	for _, row := range charClasses {
		edges = append(edges, row.first-1, row.first, row.last, row.last+1)
	}
	edges = append(edges, 0x2FFF, 0x3000, 0x3001, 0x301B, 0x301C, 0x5B88, 0x5BA3, 0x5BA4)
	edges = append(edges, 0x7FF, 0x800, 0x82F, 0x830, 0x5FFF, 0x6000, 0x67FF, 0x6800, 0x1F01, 0x1F0B, 0x1F0C, 0x1F10, 0x1F11, 0x1F13, 0x1F80)
	edges = append(edges, 0x41, 0x240, 0x244, 0x248, 0x250, 0x500, 0x550, 0x650, 0x2720, 0xFFFD, 0xD7FF, 0xE000, impl.MaxPoint)
	edges = slices.DeleteFunc(edges, func(p int64) bool { return p < 0 })
	slices.Sort(edges)
	return slices.Compact(edges)
}

// cutAlphabet has a point of each class of characters and words.
func cutAlphabet() []int64 {
	return []int64{0x0D, 0x0A, 0x1F12, 0x1000, 0x1F00, 0x1F01, 0x600, 0x630, 0x631, 0x700, 0x720, 0x741, 0x3000, 0x3001,
		0x1E00, 0x1E50, 'a', '1', '\'', '.', ',', '_', ' ', 0x800, 0x6000, '!'}
}

// eachCutRow hands on all texts of so many points of an alphabet.
func eachCutRow(alphabet []int64, count int, look func(text string)) {
	texts := []string{""}
	for range count {
		longer := []string{}
		for _, text := range texts {
			for _, p := range alphabet {
				longer = append(longer, text+writtenBytes(p))
			}
		}
		texts = longer
	}
	for _, text := range texts {
		look(text)
	}
}

// eachCutText hands on short texts of all classes, longer ones of those that make rows, and random ones.
func eachCutText(look func(text string)) {
	for count := range 4 {
		eachCutRow(cutAlphabet(), count, look)
	}
	eachCutRow(cutEdges(), 2, look)
	eachCutRow([]int64{0x1E00, 0x1F00, 0x1000, 'a'}, 5, look)
	eachCutRow([]int64{0x600, 0x630, 0x631, 0x0A}, 5, look)
	eachCutRow([]int64{0x1E50, 0x1000, 'a'}, 6, look)
	eachCutRow([]int64{'a', '1', '.', 0x1000, ' '}, 5, look)
	eachCutRow([]int64{'a', '\'', '_', 0x1F01}, 5, look)
	r := rand.New(rand.NewSource(7))
	known := allPoints()[:impl.LastKnown]
	for range 1500 {
		look(randomNormText(r, cutAlphabet(), 14))
		look(randomNormText(r, cutEdges(), 12))
		look(randomNormText(r, known, 6))
		look(randomNormText(r, cutAlphabet(), 4) + "\xE2\x80" + randomNormText(r, cutAlphabet(), 4))
		look(cutBytes(r, randomNormText(r, cutAlphabet(), 8)))
	}
}

// cutBytes takes a byte out of a text, so that what is left may be broken.
func cutBytes(r *rand.Rand, text string) string {
	if text == "" {
		return ""
	}
	at := r.Intn(len(text))
	return text[:at] + text[at+1:]
}

func TestCharsOfTexts(t *testing.T) {
	eachCutText(func(text string) { isCharCut(t, text, plainCharCuts(text)) })
}

func TestCharsAreTheText(t *testing.T) {
	eachCutText(func(text string) {
		chars := impl.Chars(text)
		if strings.Join(chars, "") != text {
			t.Errorf("Chars of %+q: %+q", text, chars)
		}
		for _, char := range chars {
			if got := impl.Chars(char); len(got) != 1 || got[0] != char {
				t.Errorf("%+q, one of the Chars of %+q, has %+q", char, text, got)
			}
		}
	})
}

func TestCharsOfAllPoints(t *testing.T) {
	for _, p := range allPoints() {
		text := writtenBytes(p)
		if got := impl.CharCuts(text); len(got) != 2 || got[0] != 0 || got[1] != int64(len(text)) {
			t.Fatalf("CharCuts of U+%X: %d", p, got)
		}
	}
	// What is of which class is seen from the sides on which it keeps with others.
	for p := int64(0); p <= impl.LastKnown; p++ {
		for _, row := range [][]int64{{'a', p}, {p, 0x1000}, {0x700, p}, {p, 0x741}, {0x630, p}, {0x1E00, 0x1F00, p}, {p, 0x1E50}, {'\r', p}} {
			if text := textWritten(row...); !slices.Equal(impl.CharCuts(text), plainCharCuts(text)) {
				t.Fatalf("CharCuts of %X: %d, want %d", row, impl.CharCuts(text), plainCharCuts(text))
			}
		}
	}
}

func TestWordsByHand(t *testing.T) {
	for _, row := range []string{
		"a", "1", " ", "ab", "ab|,| |c", "c's", "12.5", "ab12", "12ab", "a1\u0250\u0550b", "aA\u0200\u0500\u0600\u0700\u3000",
		// joints and points
		"a.b", "a:b", "a'b", "a|,|b", "1.2", "1,2", "1|'|2", "1|:|2", "a|.|1", "1|.|a", "a|'|1", "1|,|a",
		"a|.", ".|a", "1|.", ".|1", "'|a|'", "a|'", ",|1|,", ".", "'|'", ".|.", "a|'|'|b", "a|.|.|b", "1|.|.|2", "1|.|,|2", "a|'|.|b", "a|'|\u00AD|b",
		"a.b.c", "1.2,3", "a'b'c.d", "a.b|'| ", "1.2|.|a", "\u0200'\u0500", "\u0250.\u0650", "a|&|b", "a|(|b", "1|-|2", "a|;|b",
		"a|'|\u0800", "\u0800|'|\u0801", "\u6000|.|\u6001", "a|'|\u6000", " |'|a",
		// low lines
		"_", "__", "a_", "_a", "1_", "_1", "a_1", "a__b", "_|.", ".|_", "_|'|a", "a|'|_", " |_| ", "_|\u0800", "\u0800|_", "_|\u6000", "a|^|b", "a|`|b",
		// spaces, parts, ideographs, others
		"  ", " \u00A0\u1F80", " |a|  |b", "a| |1", "\u0800\u0801\u082F", "a|\u0800|1|\u0801", "\u0800|\u07FF", "\u082F|\u0830", "\u6000|\u6001", "\u6000|a", "\u67FF|\u6800",
		"!|!", "\u00A1|\u00A2", "a|\u00AD|b", "\u00AD|\u00AD", "\u1E00|\u1E01", "\U0010FFFF|\U0010FFFF",
		// controls
		"\r\n", "\n|\r", "\r|\r\n", "a|\n|b", "1|\x00|2", " |\n| ", " |\r\n| ", "a|\u1F12|b", " |\u1F12| ", "_|\u1F12|_", "\u0800|\x7F|\u0800", "a|\n|'|\n|b",
		// what belongs to others
		"a\u1000b", "a\u1F01b", "a\u1F0Bb", "a\u1F11b", "a\u1F001", "a\u1E40b", "a\u1F01\u1000\u1F02b", "a|\u1F0C|b", "a|\u1F10|b", "a|\u1F13|b",
		"a\u1000'b", "a'\u1000b", "a\u1F01'\u1F02b\u1F03", "1\u1000.\u10002", "1\u1F01,2", "a\u1000|,|b", "a\u1000|'\u1000", "a\u1000_\u1000b", "_\u1000_",
		"\u0800\u1000\u0801", "\u6000\u1000|\u6001", "!\u1000|!\u1F01|!",
		"\u1000|a", "\u1F01|a", "\u1000\u1001|a", "\u1F01\u1000\u1F02|a", "\u1000|'|a", "\u1000|_", "\u1F00|\u1F12|\u1F00",
		"\n|\u1000|a", "\r\n|\u1F01|a", "\n|\u1000\u1001|a", "\u1F12|\u1000|a", "\u1F12|\u1F01\u1F02|a",
		" \u1000|a", " \u1000\u1001|a", " \u1000| ", " \u1000\u1001| ", " |\u1F01|a", " |\u1F01\u1F02|a", " |\u1F01\u1000| ", " \u1F00|\u1E00", "  \u1000|a",
		"a|\u00AD\u1000|b", "a\u1000|\u1F12|\u1000|b",
		// what no cut of characters parts
		"\u1E50\u1E51|\u1E52", "\u1E50\u1F01|\u1E51", "\u1E00\u1F00\u1E01", "\u1E00\u1F00|a", "a\u1F00|\u1E00", "\u1E00\u1F01|\u1E01", "\u1E00\u1F00\u1F01|\u1E01", "!\u0630\u0600a",
		// broken bytes
		"a|\xFF|b", "\xFF\u1000|a", "\xE2|\x82", "1|\x80|2", "a\u1000|\xFF", "_|\xFF",
	} {
		text, cuts := marked(row)
		isWordCut(t, text, nil, cuts)
	}
}

func TestWordsThatAreTold(t *testing.T) {
	for _, row := range []struct {
		text string
		want []string
	}{
		{"ab, c's 12.5", []string{"ab", "c's", "12.5"}},
		{"_ __ _a _1", []string{"_a", "_1"}},
		{" \t!?\u1E00\u1E50\u1F01\u00AD\u1000", nil},
		{"\u0800\u0801 \u6000\u6001", []string{"\u0800\u0801", "\u6000", "\u6001"}},
		{"\u3000\u0700", []string{"\u3000\u0700"}},
		{"a\u1000-\u0200\u1F01", []string{"a\u1000", "\u0200\u1F01"}},
		{"\u2720 \u2700 \u2731 \u2000 \u2600", []string{"\u2720", "\u2000", "\u2600"}},
		{"\xFFa\xFF1\xE2\x82", []string{"a", "1"}},
		{"\u0630\u0600", []string{"\u0630\u0600"}},
		{"!\u0630\u0600", []string{"!\u0630\u0600"}},
		{"\u1000", nil}, {"\u0620", nil}, {"\u0631", nil}, {"\uFFFD", nil}, {"\U0010FFFF", nil},
		{"\u07FF\u0830\u5FFF\u6800", nil},
	} {
		if got := impl.Words(row.text, nil); !slices.Equal(got, row.want) {
			t.Errorf("Words of %+q: %+q, want %+q", row.text, got, row.want)
		}
	}
}

// cutTailors are tailors of the alphabet, some of one Left and Right.
func cutTailors(r *rand.Rand, count int) []impl.Tailor {
	tailors := []impl.Tailor{}
	for range count {
		left, right := cutAlphabet()[r.Intn(len(cutAlphabet()))], cutAlphabet()[r.Intn(len(cutAlphabet()))]
		tailors = append(tailors, impl.Tailor{Left: left, Right: right, Cut: r.Intn(2) == 0})
	}
	return tailors
}

func TestWordsOfTexts(t *testing.T) {
	r := rand.New(rand.NewSource(8))
	many := cutTailors(r, 400)
	eachCutText(func(text string) {
		for _, tailors := range [][]impl.Tailor{nil, many} {
			isWordCut(t, text, tailors, plainWordCuts(text, tailors))
			if got, want := impl.Words(text, tailors), plainWords(text, tailors); !slices.Equal(got, want) {
				t.Errorf("Words of %+q: %+q, want %+q", text, got, want)
			}
		}
	})
	for range 1000 {
		text, tailors := randomNormText(r, cutAlphabet(), 12), cutTailors(r, r.Intn(200))
		isWordCut(t, text, tailors, plainWordCuts(text, tailors))
	}
}

func TestWordsOfAllPoints(t *testing.T) {
	for p := int64(0); p <= impl.LastKnown; p++ {
		for _, row := range [][]int64{{p}, {'a', p}, {p, 'a'}, {p, '1'}, {'_', p}, {0x800, p}, {' ', p}, {'a', p, 'a'}, {'1', p, '1'}, {p, 0x1F01, 'a'}} {
			text := textWritten(row...)
			if got, want := impl.WordCuts(text, nil), plainWordCuts(text, nil); !slices.Equal(got, want) {
				t.Fatalf("WordCuts of %X: %d, want %d", row, got, want)
			}
			if got, want := impl.Words(text, nil), plainWords(text, nil); !slices.Equal(got, want) {
				t.Fatalf("Words of %X: %+q, want %+q", row, got, want)
			}
		}
	}
}

func TestCutsOfWordsAreCutsOfCharacters(t *testing.T) {
	eachCutText(func(text string) {
		chars := impl.CharCuts(text)
		for _, cut := range impl.WordCuts(text, nil) {
			if _, found := slices.BinarySearch(chars, cut); !found {
				t.Errorf("WordCuts of %+q has %d, CharCuts is %d", text, cut, chars)
			}
		}
	})
}

// cutting and keeping are the two kinds of tailors.
func cutting(left int64, right int64) impl.Tailor {
	return impl.Tailor{Left: left, Right: right, Cut: true}
}

func keeping(left int64, right int64) impl.Tailor {
	return impl.Tailor{Left: left, Right: right}
}

func TestTailorsByHand(t *testing.T) {
	for _, row := range []struct {
		tailors []impl.Tailor
		want    string
	}{
		{[]impl.Tailor{cutting('a', 'b')}, "a|b"},
		{[]impl.Tailor{cutting('a', 'b')}, "ba|ba|b"},
		{[]impl.Tailor{cutting('a', 'b')}, "a\u1000|b"},
		{[]impl.Tailor{cutting('a', 'b')}, "a\u1F01\u1000|b\u1000"},
		{[]impl.Tailor{cutting('b', 'a')}, "ab"},
		{[]impl.Tailor{keeping(',', ' ')}, "a|, |b"},
		{[]impl.Tailor{cutting('a', '\'')}, "a|'b"},
		{[]impl.Tailor{cutting('\'', 'b')}, "a'|b"},
		{[]impl.Tailor{keeping('a', '\'')}, "a'| "},
		// of two the first one counts
		{[]impl.Tailor{cutting('a', 'b'), keeping('a', 'b')}, "a|b"},
		{[]impl.Tailor{keeping('a', 'b'), cutting('a', 'b')}, "ab"},
		{[]impl.Tailor{keeping('x', 'b'), cutting('a', 'b'), keeping('a', 'b')}, "a|b"},
		{[]impl.Tailor{keeping('!', '?'), cutting('!', '?')}, "!?"},
		// within a character
		{[]impl.Tailor{cutting(0x1E50, 0x1E51)}, "\u1E50|\u1E51|\u1E52"},
		{[]impl.Tailor{keeping(0x1E50, 0x1E51)}, "\u1E50\u1E51|\u1E52"},
		{[]impl.Tailor{keeping(0x1E51, 0x1E52)}, "\u1E50\u1E51\u1E52"},
		{[]impl.Tailor{cutting('\r', '\n')}, "\r|\n"},
		{[]impl.Tailor{keeping('\r', '\n')}, "\r\n"},
		{[]impl.Tailor{cutting(0x700, 0x720)}, "\u0700|\u0720\u0741"},
		{[]impl.Tailor{cutting(0x1E00, 0x1E01)}, "\u1E00\u1F00|\u1E01"},
		{[]impl.Tailor{keeping(0x1E00, 0x1E01)}, "\u1E00\u1E01"},
		{[]impl.Tailor{cutting(0x1F00, 0x1E01)}, "\u1E00\u1F00\u1E01"},
		// ahead of a point that belongs to the one ahead, and of one that does not
		{[]impl.Tailor{cutting('a', 0x1000)}, "a\u1000b"},
		{[]impl.Tailor{cutting('a', 0x1F01)}, "a\u1F01b"},
		{[]impl.Tailor{cutting(0x1000, 0x1001)}, "\u1000\u1001|a"},
		{[]impl.Tailor{cutting(0x1000, 'b')}, "a\u1000b"},
		{[]impl.Tailor{cutting(' ', 0x1000)}, " |\u1000|a"},
		{[]impl.Tailor{keeping(' ', 0x1F01)}, " \u1F01|a"},
		{[]impl.Tailor{keeping('\n', 0x1000)}, "\n\u1000|a"},
		{[]impl.Tailor{keeping(0x1000, 'a')}, "\u1000a"},
		{[]impl.Tailor{keeping(0x1000, 'a')}, " \u1000a"},
		// beside controls
		{[]impl.Tailor{keeping('a', '\n')}, "a\n|b"},
		{[]impl.Tailor{keeping('\n', 'b')}, "a|\nb"},
		{[]impl.Tailor{keeping(0x1F12, 0x1F12)}, "a|\u1F12\u1F12|b"},
		{[]impl.Tailor{cutting('a', 'b')}, "a|\n|b"},
		// numbers that are no points, and the point of broken bytes
		{[]impl.Tailor{keeping(-1, 'a'), keeping('a', -1), cutting(-1, -1)}, "ab"},
		{[]impl.Tailor{keeping(0xD800, 'a'), keeping(math.MinInt64, 'a'), keeping(math.MaxInt64, 'a'), keeping(0x110000, 'a')}, "!|a"},
		{[]impl.Tailor{cutting('a'+1<<32, 'b'), cutting('a', 'b'+1<<32)}, "ab"},
		{[]impl.Tailor{keeping(0xDFFF, 0xDFFF), keeping(0xFF, 0xFE)}, "\xFF|\xFE"},
		{[]impl.Tailor{keeping(impl.Broken, impl.Broken)}, "\xFF\xFE|a"},
		{[]impl.Tailor{keeping(0, 0)}, "a|\x00\x00|b"},
		{[]impl.Tailor{}, "ab|,"},
	} {
		text, cuts := marked(row.want)
		isWordCut(t, text, row.tailors, cuts)
	}
}

func TestWordsByTailors(t *testing.T) {
	tailors := []impl.Tailor{cutting('a', 'b'), keeping('-', 'c'), keeping('!', '?'), keeping('(', '1')}
	got := impl.Words("ab -c !? (1 (2", tailors)
	if want := []string{"a", "b", "-c", "(1", "2"}; !slices.Equal(got, want) {
		t.Errorf("Words by tailors: %+q, want %+q", got, want)
	}
}

func TestLongListsOfTailors(t *testing.T) {
	tailors := make([]impl.Tailor, impl.MaxList-1, impl.MaxList+1)
	tailors = append(tailors, cutting('a', 'b'))
	isWordCut(t, "ab", tailors, []int64{0, 1, 2})
	if got := impl.Words("ab", tailors); !slices.Equal(got, []string{"a", "b"}) {
		t.Errorf("Words by %d tailors: %+q", len(tailors), got)
	}
	tailors = append(tailors, impl.Tailor{})
	for _, text := range []string{"", "ab", strings.Repeat("a", impl.MaxBytes+1)} {
		isWordCut(t, text, tailors, nil)
		if got := impl.Words(text, tailors); len(got) > 0 {
			t.Errorf("Words of %d bytes by %d tailors: %+q", len(text), len(tailors), got)
		}
	}
}

func isBeside(t *testing.T, text string, at int64, next int64, last int64) {
	t.Helper()
	if got := impl.NextChar(text, at); got != next {
		t.Errorf("NextChar of %d bytes at %d: %d, want %d", len(text), at, got, next)
	}
	if got := impl.LastChar(text, at); got != last {
		t.Errorf("LastChar of %d bytes at %d: %d, want %d", len(text), at, got, last)
	}
}

func TestCharsBesidePlaces(t *testing.T) {
	text := "ab\u1000\r\n\xE2\x82" // cuts: 0 1 5 7 8 9
	for _, row := range [][3]int64{
		{math.MinInt64, 0, -1}, {-2, 0, -1}, {-1, 0, -1}, {0, 1, -1}, {1, 5, 0}, {2, 5, 1}, {3, 5, 1}, {4, 5, 1}, {5, 7, 1}, {6, 7, 5},
		{7, 8, 5}, {8, 9, 7}, {9, -1, 8}, {10, -1, 9}, {math.MaxInt64 - 1, -1, 9}, {math.MaxInt64, -1, 9},
	} {
		isBeside(t, text, row[0], row[1], row[2])
	}
	long := strings.Repeat("a", impl.MaxBytes)
	for _, at := range []int64{math.MinInt64, -1, 0, 1, 65536, 65537, math.MaxInt64} {
		isBeside(t, "", at, -1, -1)
		isBeside(t, long+"a", at, 0, 0)
	}
	isBeside(t, long, 65534, 65535, 65533)
	isBeside(t, long, 65535, 65536, 65534)
	isBeside(t, long, 65536, -1, 65535)
	isBeside(t, long, 65537, -1, 65536)
}

func TestCharsBesideAllPlaces(t *testing.T) {
	r := rand.New(rand.NewSource(9))
	for range 1000 {
		text := cutBytes(r, randomNormText(r, cutAlphabet(), 9))
		cuts := plainCharCuts(text)
		for at := int64(-1); at <= int64(len(text))+1; at++ {
			next, last := int64(-1), int64(-1)
			for _, cut := range cuts {
				if cut < at {
					last = cut
				}
				if cut > at && next < 0 {
					next = cut
				}
			}
			isBeside(t, text, at, next, last)
		}
	}
}

// isLongCut holds how many cuts and pieces long texts have.
func isLongCut(t *testing.T, text string, chars int, wordCuts int, words int) {
	t.Helper()
	got := [4]int{len(impl.CharCuts(text)), len(impl.Chars(text)), len(impl.WordCuts(text, nil)), len(impl.Words(text, nil))}
	if want := [4]int{chars + 1, chars, wordCuts, words}; got != want {
		t.Errorf("%d bytes of %+q ..: cuts, characters, cuts of words, words are %d, want %d", len(text), text[:min(len(text), 9)], got, want)
	}
}

func TestSizesOfCuts(t *testing.T) {
	most := impl.MaxBytes
	isLongCut(t, strings.Repeat("a", most), most, 2, 1)
	isLongCut(t, strings.Repeat("\xFF", most), most, most+1, 0)
	isLongCut(t, "\xFF"+strings.Repeat("\u1000", most/3), 1, 2, 0)
	isLongCut(t, "a"+strings.Repeat("\u1E50", most/3), 1+(most/3+1)/2, 2+(most/3+1)/2, 1)
	isLongCut(t, "a"+strings.Repeat("\u0630\u0600", most/4-1), 1, 2, 1)
	isLongCut(t, strings.Repeat("\u1E00\u1F00", most/6), 1, 2, 0)
	isLongCut(t, strings.Repeat("\u0631", most/2-1)+"\u0600", 2, 3, 1)
	isLongCut(t, strings.Repeat("a'", most/2), most, 3, 1)
	isLongCut(t, strings.Repeat("\r\n", most/2), most/2, most/2+1, 0)
	tailors := make([]impl.Tailor, impl.MaxList)
	if got := impl.WordCuts(strings.Repeat("ab", most/2), tailors); len(got) != 2 {
		t.Errorf("a long text by many tailors: %d cuts, want 2", len(got))
	}
}

func TestCutsAreNewMemory(t *testing.T) {
	tailors := []impl.Tailor{cutting('b', 'c'), cutting('a', 'b'), keeping('a', 'b')}
	given := slices.Clone(tailors)
	for range 2 {
		cuts, wordCuts := impl.CharCuts("ab c"), impl.WordCuts("ab c", tailors)
		chars, words := impl.Chars("ab c"), impl.Words("ab c", tailors)
		if !slices.Equal(cuts, []int64{0, 1, 2, 3, 4}) || !slices.Equal(wordCuts, []int64{0, 1, 2, 3, 4}) {
			t.Errorf("cuts: %d and %d", cuts, wordCuts)
		}
		if !slices.Equal(chars, []string{"a", "b", " ", "c"}) || !slices.Equal(words, []string{"a", "b", "c"}) {
			t.Errorf("pieces: %+q and %+q", chars, words)
		}
		if !slices.Equal(tailors, given) {
			t.Errorf("the tailors became %v", tailors)
		}
		clear(cuts)
		clear(wordCuts)
		clear(chars)
		clear(words)
	}
}
