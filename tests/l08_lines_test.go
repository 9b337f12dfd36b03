package tests

import (
	"fmt"
	"math/rand"
	"regexp"
	"slices"
	"strings"
	"testing"
	"unsafe"

	"loop.example/g00044/impl"
)

// lineClasses: N U+0A, R U+0D, S space, G glue, A gap, H hyphen, O open, P comma and dot, C other closes,
// Q quote, D digit, B block, W part, F flag, T tone; m marks and j the joiner take a class; all others
// are L, letter.
var lineClasses = []classRange{
	{0x0A, 0x0A, "N"}, {0x0D, 0x0D, "R"},
	{0x20, 0x20, "S"}, {0x1F80, 0x1F80, "S"},
	{0xA0, 0xA0, "G"}, {0x1F11, 0x1F11, "G"},
	{0x1F12, 0x1F12, "A"},
	{0x2D, 0x2D, "H"}, {0xAD, 0xAD, "H"},
	{'(', '(', "O"}, {'[', '[', "O"}, {'{', '{', "O"}, {'<', '<', "O"},
	{',', ',', "P"}, {'.', '.', "P"},
	{')', ')', "C"}, {']', ']', "C"}, {'}', '}', "C"}, {'>', '>', "C"}, {'!', '!', "C"}, {'?', '?', "C"}, {':', ';', "C"},
	{'"', '"', "Q"}, {'\'', '\'', "Q"},
	{0x30, 0x39, "D"}, {0x250, 0x259, "D"}, {0x350, 0x359, "D"}, {0x450, 0x459, "D"}, {0x550, 0x559, "D"}, {0x650, 0x659, "D"}, {0x2720, 0x2729, "D"},
	{0x700, 0x712, "B"}, {0x720, 0x734, "B"}, {0x741, 0x75B, "B"}, {0x3000, 0x5BA3, "B"}, {0x6000, 0x67FF, "B"}, {0x1E00, 0x1E3F, "B"},
	{0x800, 0x82F, "W"},
	{0x1E50, 0x1E69, "F"},
	{0x1E40, 0x1E44, "T"},
	{0x620, 0x62B, "m"}, {0x630, 0x631, "m"}, {0x1000, 0x103F, "m"},
	{0x1F00, 0x1F00, "j"},
}

func lineClass(p int64) string {
	for _, row := range lineClasses {
		if p >= row.first && p <= row.last {
			return row.class
		}
	}
	return "L"
}

// lineRow has a class for each point: those that take one are m and j, those that have none to take are L
// and J.
func lineRow(points []int64) string {
	row := ""
	for i, p := range points {
		class := lineClass(p)
		if i == 0 || strings.Contains("NRSA", row[i-1:]) {
			class = strings.NewReplacer("m", "L", "j", "J").Replace(class)
		}
		row += class
	}
	return row
}

var lineRulesWritten = writtenRules(
	"+N/|R/[^N]", "/[NR]",
	"/[SA]", "+AS*/",
	"[jJ]/",
	"G[mj]*/", "[^SHmj][mj]*/G",
	"/[CPT]", "[^S]/H", "O[mj]*S*/",
	"+S/", "Q[mj]*/|/Q",
	"H[mj]*/D", "+H[mj]*/",
	"[LJD][mj]*/[LD]", "W[mj]*/W", "D[mj]*P/D", "(^|[^Fmj][mj]*)F[mj]*(F[mj]*F[mj]*)*/F",
)

var mustWritten = regexp.MustCompile("N/|R/[^N]")

func plainLineCuts(text string) []impl.LineCut {
	if text == "" {
		return nil
	}
	row, chars := lineRow(readPlainly(text)), plainCharCuts(text)
	cuts := []impl.LineCut{{}}
	for i, place := range placesPlainly(text) {
		if i == 0 || !slices.Contains(chars, place) || strings.Contains("mj", row[i:i+1]) {
			continue
		}
		if cutByWritten(lineRulesWritten, row[:i], row[i:]) {
			cuts = append(cuts, impl.LineCut{At: place, Must: mustWritten.MatchString(row[i-1:i] + "/" + row[i:])})
		}
	}
	return append(cuts, impl.LineCut{At: int64(len(text)), Must: true})
}

// sentenceClass: N U+0A, R U+0D, p dot, e the other signs, Q what closes behind them, S space, m mark, l
// lower, u upper and title, o letter without case, d digit, x all others.
func sentenceClass(p int64) string {
	switch p {
	case 0x0A:
		return "N"
	case 0x0D:
		return "R"
	case '.':
		return "p"
	case '!', '?':
		return "e"
	case ')', ']', '}', '"', 0x27:
		return "Q"
	}
	categories := map[int64]string{
		impl.CatSpace: "S", impl.CatMark: "m", impl.CatLower: "l", impl.CatUpper: "u", impl.CatTitle: "u",
		impl.CatOther: "o", impl.CatDigit: "d",
	}
	if class := categories[impl.Category(p)]; class != "" {
		return class
	}
	return "x"
}

// The first three are places within a close.
var sentenceRulesWritten = writtenRules(
	"[pe]/[peQS]", "[pe]Q+/[QS]", "[pe]Q*S+/S",
	"+N/|R/[^N]",
	"(^|[^pe])p+Q*S*/m*l", "(^|[^pe])p+Q*/m*[luod]",
	"+[pe]Q*S*/",
	"/",
)

func plainSentenceCuts(text string) []int64 {
	if text == "" {
		return nil
	}
	row, chars := classesOf(readPlainly(text), sentenceClass), plainCharCuts(text)
	cuts := []int64{0}
	for i, place := range placesPlainly(text) {
		if i > 0 && slices.Contains(chars, place) && cutByWritten(sentenceRulesWritten, row[:i], row[i:]) {
			cuts = append(cuts, place)
		}
	}
	return append(cuts, int64(len(text)))
}

// plainFewest tries all cuts of a row of points, of which each is a text; those with a longer first piece
// come first, and so on, so that of those that cost the same the first one is told.
func plainFewest(words []string, points []string) ([]string, int) {
	if len(points) == 0 {
		return []string{}, 0
	}
	var best []string
	least := 0
	for size := len(points); size > 0; size-- {
		piece := strings.Join(points[:size], "")
		cost := 2
		if !slices.Contains(words, piece) {
			cost = 3
		}
		if cost == 3 && size > 1 {
			continue
		}
		rest, more := plainFewest(words, points[size:])
		if best == nil || cost+more < least {
			best, least = append([]string{piece}, rest...), cost+more
		}
	}
	return best, least
}

func pointTexts(text string) []string {
	return piecesPlainly(text, append(placesPlainly(text), int64(len(text))))
}

var rowOfParts = regexp.MustCompile("W[Wmj]*")

// plainLineCutsBy adds the cuts between the words of each row of parts to those of plainLineCuts.
func plainLineCutsBy(words []string, text string) []impl.LineCut {
	cuts, places, texts := plainLineCuts(text), placesPlainly(text), pointTexts(text)
	row := lineRow(readPlainly(text))
	for _, ends := range rowOfParts.FindAllStringIndex(row, -1) {
		parts, where := []string{}, []int64{}
		for i := ends[0]; i < ends[1]; i++ {
			if row[i] == 'W' {
				parts, where = append(parts, texts[i]), append(where, places[i])
			}
		}
		pieces, _ := plainFewest(words, parts)
		at := 0
		for _, piece := range pieces[:len(pieces)-1] {
			at += len(piece) / 3
			cuts = append(cuts, impl.LineCut{At: where[at]})
		}
	}
	slices.SortFunc(cuts, func(a, b impl.LineCut) int { return int(a.At - b.At) })
	return slices.Compact(cuts)
}

func isSentenceCut(t *testing.T, text string, want []int64) {
	t.Helper()
	if got := impl.SentenceCuts(text); !slices.Equal(got, want) {
		t.Errorf("SentenceCuts of %+q: %d, want %d", text, got, want)
	}
}

func isLineCut(t *testing.T, text string, want []impl.LineCut) {
	t.Helper()
	if got := impl.LineCuts(text); !slices.Equal(got, want) {
		t.Errorf("LineCuts of %+q: %v, want %v", text, got, want)
	}
}

func isLineCutBy(t *testing.T, words []string, text string, want []impl.LineCut) {
	t.Helper()
	if got := impl.LineCutsBy(words, text); !slices.Equal(got, want) {
		t.Errorf("LineCutsBy of %+q by %+q: %v, want %v", text, words, got, want)
	}
}

func isFewest(t *testing.T, words []string, text string, want []string) {
	t.Helper()
	if got := impl.FewestWords(words, text); !slices.Equal(got, want) {
		t.Errorf("FewestWords of %+q by %+q: %+q, want %+q", text, words, got, want)
	}
}

// markedLines takes a text with | at each cut, and # at each that must be, but for the ends, to the text
// and its cuts.
func markedLines(row string) (string, []impl.LineCut) {
	text, cuts := "", []impl.LineCut{{}}
	for i := range len(row) {
		if row[i] == '|' || row[i] == '#' {
			cuts = append(cuts, impl.LineCut{At: int64(len(text)), Must: row[i] == '#'})
		} else {
			text += row[i : i+1]
		}
	}
	return text, append(cuts, impl.LineCut{At: int64(len(text)), Must: true})
}

func TestSentencesByHand(t *testing.T) {
	for _, row := range []string{
		"a", ".", " ", "\n", "\r", "\r\n", "\u1000", "\xFF", "Hi. |No.", "e.g. x",
		// ends of lines
		"a\n|b", "a\r|b", "a\r\n|b", "a\n|\r|b", "\n|\n|\n", "\r|\r", "\r|\r\n", "\r\n|\n", "\r\n|\r\n", "\n|\r\n", "\n|a", "a\n", "a\r", "a\r\n",
		"a\x0Bb", "a\x0Cb", "a\x09b", "a\x0Eb", "a\u0085b", "a\u1F12b", "\n|\u1000b", "\r|\u1000", "\r\n|\u1000",
		// the first row of none, one and several
		"a B", "a) B", "a)B", "a\"' B", ") B", "a, B", "a: B", "a; B", "a\u00A1 B",
		"a. |B", "a! |B", "a? |B", "a.. |B", "a... |B", "a!! |B", "a?! |B", "a.!.? |B", "! |B", "... |B",
		// the second row of none, one and several
		"a.) |B", "a.] |B", "a.} |B", "a.\" |B", "a.' |B", "a.)) |B", "a.)]}\"' |B", "a.'\"}]) |B", "a!)]|B",
		"a.|( B", "a.|> B", "a.|[B", "a.|{B", "a.|<B", "a.|, B", "a!)|( B", "a.)|, B",
		// the third row of none, one and several
		"a!|B", "a!)|B", "a. |B", "a.\u00A0|B", "a.\u1F80|B", "a.   |B", "a. \u00A0\u1F80|B", "a!?)'  |B", "a.|\tB", "a!|\tB", "a. |\t B",
		// one row behind a later one
		"a. |) B", "a. |\" B", "a.)|.) |B", "a.)|!|B", "a. |. |B", "a! |!|b", "a. |.b", "a.)|.b", "a. |. b", "a! |. b", "a!)|. b", "a. |? |b",
		// dots alone, and what follows
		"a.b", "a.B", "a.\u0244", "a.\u0500", "a.1", "a.\u0600", "a.\u0800", "a.\u6000", "a.\u3000", "a.\u0700", "a.\u0550", "a.\u2729", "a.\u0260", "a.\u2600",
		"a.)b", "a.)B", "a.)\u0347", "a.)\u051F", "a.)9", "a...b", "a...B", "a..)\"1", ".a", ".1",
		"a. b", "a.  b", "a.) b", "a.. \u023F", "a.\u00A0\u0248", "a.' \u20D0", ". b",
		"a. |B", "a. |\u0244", "a. |\u0500", "a. |1", "a.) |B", "a.)  |\u0447", "a.. |\u6000", "a.\u1F80|\u0659", "a. |\u0600", "a. |\u0800", "a. |\u2019",
		"a.|-b", "a. |-b", "a.|\u00ABb", "a. |\u00ABb", "a.|_b", "a.|\u00ADb", "a.|\u1E00", "a. |\u2700", "a.|\u1F01b", "a.|\U0010FFFF", "a. |\U0010FFFF",
		// another sign among the dots
		"a!|b", "a!|1", "a?|\u0500", "a!|\u0244", "a! |b", "a?! |b", "a.!|b", "a!.|b", "a..?.|b", "a.?..) |b", "a!)|b", "a.?)|\u0500", "!|b", "a?|b?|c",
		// marks
		"a.\u1000b", "a.\u1000B", "a.\u1000\u1001B", "a.\u10001", "a.\u1000\u0500", "a.\u1000\u0244", "a.\u1000 B", "a.)\u1000B", "a.)\u1000 B",
		"a. \u1000b", "a. \u1000B", "a. \u1000\u0244", "a. \u1000\u0500", "a. \u10001", "a. \u1000", "a.\u1000", "a.\u0630\u0600", "a. \u0631b",
		"a!\u1000b", "a!\u1000 B", "a! \u1000B", "a!)\u1000B", "a!\u1F00B", "a! \u1E40B", "a.\u1F00-", "a.\u1E44-",
		"a\u1000. |B", "a.\u1000. |B", "a!\u1000. b", "a!\u1000.b", "a.\u1000!|b", "a.\u1000! |b", "a.\u1000)\u1000 B", "a.\u1000\n|B",
		// the end of the text, and ends of lines behind a close
		"a.", "a!", "a.)", "a. ", "a.) ", "a.|\n", "a.|\n|b", "a. |\n|b", "a.|\r\n|b", "a!)|\r|b", "a.|\x00b", "a! |\u1F12b",
		// broken bytes
		"a.|\xFF", "a.|\xE2\x82b", "a. |\xFFb", "\xFF. |B", "\xFF.b", "a!|\x80", "a.\xC2\xA0|B", "a.|\xC2", "a. |\xC2B",
	} {
		text, cuts := marked(row)
		isSentenceCut(t, text, cuts)
	}
}

func TestLinesByHand(t *testing.T) {
	for _, row := range []string{
		"a", " ", "\n", "\r", "\r\n", "\u1000", "\u1F00", "\xFF", "ab", "a |b\n#c",
		// 1: ends
		"\n#\r", "\r#\r", "\n#\n#\n", "\r\n#a", "\r#\r\n#a", "\n#\r\n", "a\r\n#b\n#c\r#d", "a \n#b", "-\n#b", "a\u1F12\n#b", "\n# |a", "\n#\u1F12|a", "\r#)", "\n#\u00A0a", "\n#-|a", "\n#\"a",
		"a\x0Bb", "a\x0Cb", "a\x09b", "a\x0Eb", "a\u0085b",
		// 2: spaces and gaps
		"a  |b", "a \u1F80|b", "\u1F80|b", "a\u1F12|b", "a\u1F12 |b", "a\u1F12  \u1F80|b", "a\u1F12\u1F12|b", "a\u1F12 \u1F12|b", "a \u1F12|b", "\u1F12|)", "\u1F12 |)", "\u1F12  |.",
		"\u1F12|\u00A0a", "\u1F12 |\u00A0a", "\u1F12|-", "\u1F12 |-", "\u1F12|\"", "\u1F12 |\"a", "(\u1F12|a", "( \u1F12 |a", "(\u1F12 |)", "\u1F12|\u1E40", "\u1F12 \u1E40|a", "\u1F12|a)|\u6000",
		"\u1F11\u1F12|a", "\u1F12|( a", "a\u1F13b", "a\u1F10b", "\u1F12\u1F12 \u1F12\n#a",
		// 3: the joiner
		"\u6000\u1F00\u6000", "-\u1F00a", ")\u1F00(", "1\u1F00\u6000", "\u1E00\u1F00\u1E00", "\u1E40\u1F00a", "\u0800\u1F00a", "\u6000\u1F00\u1000|\u6000", "\u6000\u1F00\u1F00\u6000", "\u6000\u1000\u1F00\u6000",
		"\u6000|\u1F01|\u6000", "\u1F00 |a", "\u1F00\u1F12|a", "\u1F00\n#a", "\u1F00\u00A0", " \u1F00(", "\u1F12|\u1F00(",
		// 4: glue
		"a\u00A0b", "\u6000\u1F11\u6000", "a\u1F11\u00A0b", ")\u00A0(", "a |\u00A0b", "a \u1F80|\u1F11b", "a-|\u00A0b", "\u00AD|\u1F11b", "-\u1000|\u00A0b", "a\u00A0 |b", "\u00A0-|a", "\u00A0)|a", "( \u00A0a", "\u00A0\u1000\u6000", "\"\u00A0\"",
		// 5: closes, tones, hyphens, opens
		"a)", "a ]", "a  }|b", "a >|b", "a:|b", "a ;|b", "a !|b", "a ?|b", "a ,|b", "a .|b", ")]}>,.!?:;|a", "\x00\u1E40|a", "a\u1E40|b", "\u1E00\u1E40|\u1E00", " \u1E40|a", "-\u1E44|a", "\u1E40\u1E41|a",
		"a-|b", "a |-|b", "a  |-|b", "a--|b", "a |--|b", "a\u00AD|b", "a |\u00AD|b", "\u6000-|\u6000", ")-|a", "a\u1000-|b",
		"(a", "( a", "(  a", "[ \u1F80\u6000", "{a", "< a", "((a", "( (a", "( -|a", "( \u00A0a", "( \"a", "( 1", "( \n#a", "(\n#(", "(a |b", "( a |b", "(\u1000\u6000", "(\u1000  \u6000", "( \u1000|\u6000", "a|(b", "1|[2", "\u6000|{\u6000", "a |<b", "(\u1F00 a",
		// 6: behind spaces, and quotes
		"a |\u6000", "a |\u0800", "a |\u1E50", "a |1", "a |(", ") |a", "1. |2", "a- |b", "a-- |1", "a\"b", "\u6000'\u6000", "''\"\"", "a |\"b", "\" |a", ") |'", "-'a", ")\"(", "\"(\"", "\u0800\"\u0801", "\u1E50'\u1E51", "1'2", "\"\u1000\u6000", "\u6000\u1000\"", "\u00AD\"a",
		// 7: hyphens
		"-1", "a-1", "a |-1", "\u00AD9", "-\u0250", "-\u2729", "--1", "-\u10001", "-|\u6000", "-|(", "-|\u1E50", "-|\u0800", "-\u1000|a", "-\u1000\u1001|a", "-)|a", "-|a1",
		// 8: letters, digits, parts, numbers
		"a1b2", "1\u0250a", "a_b", "\u0200\u0500\u0600\u2000\u2700", "a\u1000b\u10001", "\u0800\u0801\u082F", "\u0800\u1000\u0801", "\u0800|a", "a|\u0800", "\u0800|1", "1|\u0800", "\u0800|\u6000", "\u0830\u07FF", "\u082F|\u0830", "\u0800 |\u0801",
		"1,2", "1.2", "1,2.3", "\u0250,\u0659", "1\u1000.2", "1\u1000\u1001,2", "1\u1F00.2", "1.\u1000|2", "1,\u1000\u1001|2", "1.\u1F002", "1..|2", "1,.|2", "1.,|2", "1:|2", "1;|2", "1!|2", "1?|2", "1)|2", "a,|1", "a.|1", "1,|a", "1.|a", ".|1", ",|1", "1.|\u6000", "\u6000.|1", "1 .|2", "1. |2", "1-.|2", "\u0800.|1", "1.2.|a",
		// 9: blocks
		"\u6000|\u6001", "a|\u6000", "\u6000|a", "\u6000|1", "1|\u6000", "\u3000|\u3001", "\u0700\u0720\u0741", "\u0700|\u6000", "\u0712|a", "\u5BA3|a", "\u1E00|\u1E3F", "a|\u1E00|a", "\u6000,|\u6000", "\u6000)|\u6000", "\u6000\u1000|\u6000", "\u6000\u1000\u1001|a", "\u6000|\u0800|a|\u1E50", "\u5BA4a", "\u5FFFa\u6800",
		// marks without a class to take
		"\u1000|(", "\u1000a", "\u1000" + "1", "\u1000|\u6000", "\u1000\u1001|(", "\u1000\u1001a", "\u1F00(", "\u1F00\u6000", "\u1F00\u1000|(", "\u1000-|a", "\u1000 |a",
		"\n#\u1000a", "\n#\u1000|(", "\r#\u1000\u1001|(", "\n#\u1F00(", "\r\n#\u1000|\u6000", "a\n#\u1000b",
		" \u1000a", " \u1000|(", " \u1000\u1001|(", " \u1000 |a", " \u1000)|a", " \u1000-|a", " \u1F00\u1000|(", "a \u1000b",
		"\u1F12|\u1000a", "\u1F12|\u1000|(", "\u1F12|\u1000\u1001|(", "\u1F12 \u1000|(", "\u1F12 \u1000a", "\u1F12 \u1F00(", "\u1F12|\u1000 |a", "\x00\u1000a", "\x00\u1000|(",
		"\u0620|(", "\u062B|(", "\u0630|(", "\u0631|(", "\u103F|(", "\u1040|(", "a\u0620|(", "\u0620\u0600",
		// flags
		"\u1E50|a", "a|\u1E50|a", "a|\u1E50\u1E51|a", "\u1E69\u1E50", "\u1E4F|\u1E50", "\u1E50|\u1E6A", "\u1E50 |\u1E50", "\u1E50\u1E51|\u1E52 |\u1E53\u1E54", "\u1E50\u1E51)|\u1E52\u1E53", "\u1E50-|\u1E51\u1E52", "\u1E50\u00A0\u1E51\u1E52|\u1E53",
		// broken bytes
		"a\xFFb", "\xFF|(", "1\xE2\x82 |b", "\xE2\u1000|(", "\xC2-|\xA0", "\u6000|\xFF|\u6000", "a\xFF\xFE1", "(\xFF |\xFF", "\u0800|\xE0\xA0|\u0800", "1.|\xFF",
	} {
		text, cuts := markedLines(row)
		isLineCut(t, text, cuts)
	}
}

func TestRowsOfFlags(t *testing.T) {
	// F stands for a flag, m for a mark, j for the joiner, t for a tone.
	signs := strings.NewReplacer("F", "\u1E50", "m", "\u1000", "j", "\u1F00", "t", "\u1E40")
	for _, row := range []string{
		"F", "FF", "FF|F", "FF|FF", "FF|FF|F",
		"Fm", "FmF", "FFm", "FmFm", "FFm|F", "FmFm|F", "FmmFmm|F", "FFm|Fm", "FFm|FmF", "FFm|FF", "FmFm|FmF", "FmFm|FmFm|F", "FFm|FFm|F",
		// two flags are one character where no mark is between them
		"FmFF", "FmFFm", "FmFFmF", "FmFFmFm|F", "FmFFF", "FmFFFF", "FmFFFFmF", "FmFFFFmFm|F", "FF|FmF", "FF|FmFm|F",
		"FjF", "FFjF", "FjFF", "FjFFF", "FjmF", "FmjF", "FFjm|F", "FFmjF", "FjmFm|F",
		"Ft|F", "Ft|FF", "FFt|F", "Ft|FF|F", "Ftm|F", "FtjF", "FFt|FF|F",
		"m|F", "m|FmF", "jF", "jFF|F", "jFmF", "F|a|F", "Fm|a|F",
	} {
		text, cuts := markedLines(signs.Replace(row))
		isLineCut(t, text, cuts)
	}
}

// lineEdges are the points at both ends of each class, in the order of lineTable.
func lineEdges() [][]int64 {
	return [][]int64{
		{0x0A}, {0x0D}, {' ', 0x1F80}, {0xA0, 0x1F11}, {0x1F12}, {'-', 0xAD}, {'(', '[', '{', '<'},
		{')', ']', '}', '>', ',', '.', '!', '?', ':', ';'}, {'"', '\''},
		{'0', '9', 0x250, 0x259, 0x350, 0x359, 0x450, 0x459, 0x550, 0x559, 0x650, 0x659, 0x2720, 0x2729},
		{0x700, 0x712, 0x720, 0x734, 0x741, 0x75B, 0x3000, 0x3001, 0x5BA3, 0x6000, 0x67FF, 0x1E00, 0x1E3F},
		{0x800, 0x82F}, {0x1E50, 0x1E69}, {0x1E40, 0x1E44},
		{0, 0x09, 0x0B, 0x0C, 0x0E, 0x1F, '$', '*', '+', '/', '=', '@', 'A', '_', 'z', '~', 0x7F, 0x9F, 0xA1, 0xAC, 0xAE, 0xBF, 0xC0, 0x200, 0x244, 0x24F, 0x25A, 0x261,
			0x500, 0x55A, 0x600, 0x61F, 0x62C, 0x632, 0x64F, 0x65A, 0x6FF, 0x713, 0x71F, 0x735, 0x740, 0x75C, 0x7FF, 0x830, 0xFFF, 0x1040, 0x1DFF, 0x1E45, 0x1E4F, 0x1E6A,
			0x1EFF, 0x1F01, 0x1F0B, 0x1F10, 0x1F13, 0x1F7F, 0x1F81, 0x2000, 0x2600, 0x2700, 0x271F, 0x272A, 0x2733, 0x2FFF, 0x5BA4, 0x5FFF, 0x6800, 0xFFFD, impl.MaxPoint},
		{0x620, 0x62B, 0x630, 0x631, 0x1000, 0x103F}, {0x1F00},
	}
}

// lineTable has what stands between two points that are the whole text: a line for each class of the
// left one, a sign for each of the right one. Marks and the joiner are letters at the beginning.
var lineTable = []string{
	"#################", // U+0A
	".################", // U+0D
	"...|.||.|||||.|..", // space
	".................", // glue
	"...|.||||||||||||", // gap
	"...|..|...|||.|..", // hyphen
	".................", // open
	"......|..||||.|..", // close
	".................", // quote
	"......|...|||....", // digit
	"......|..||||.|..", // block
	"......|..||.|.|..", // part
	"......|..|||..|..", // flag
	"......|..||||.|..", // tone
	"......|...|||....", // letter
	"......|...|||....", // mark
	".................", // joiner
}

func TestLinesEachClassBesideEach(t *testing.T) {
	edges := lineEdges()
	for i, line := range lineTable {
		for j, sign := range line {
			for _, left := range edges[i] {
				for _, right := range edges[j] {
					text, place := textWritten(left, right), int64(len(writtenBytes(left)))
					want := []impl.LineCut{{}, {At: place, Must: sign == '#'}, {At: int64(len(text)), Must: true}}
					if sign == '.' || !slices.Contains(plainCharCuts(text), place) {
						want = slices.Delete(want, 1, 2)
					}
					isLineCut(t, text, want)
				}
			}
		}
	}
}

// Between a mark that took a class and what follows there is what there is without the mark.
func TestMarksTakeClasses(t *testing.T) {
	edges := lineEdges()
	for i, line := range lineTable[:15] {
		if i < 3 || i == 4 {
			continue // ends, spaces and gaps are not taken
		}
		for j, sign := range line {
			for _, mark := range []string{"\u1000", "\u103F\u0620", "\u1F00\u1000", "\u1000\u1001\u1002"} {
				left, right := textWritten(edges[i][0])+mark, textWritten(edges[j][0])
				want := []impl.LineCut{{}, {At: int64(len(left))}, {At: int64(len(left + right)), Must: true}}
				if sign == '.' {
					want = slices.Delete(want, 1, 2)
				}
				isLineCut(t, left+right, want)
			}
		}
	}
}

// sentenceAlphabet and lineAlphabet have a point of each class.
func sentenceAlphabet() []int64 {
	return []int64{0x0A, 0x0D, '.', '!', ')', '"', ' ', 0x1000, 'a', 'A', 0x500, '1', '-'}
}

func lineAlphabet() []int64 {
	return []int64{0x0A, 0x0D, ' ', 0xA0, 0x1F12, '-', '(', ')', '.', '"', '1', 0x6000, 0x800, 0x1E50, 0x1E40, 'a', 0x1000, 0x1F00}
}

func allLineEdges() []int64 {
	return slices.Concat(lineEdges()...)
}

// eachRandomText hands on random texts of an alphabet, of all points and of broken bytes.
func eachRandomText(seed int64, count int, alphabet []int64, look func(text string)) {
	r := rand.New(rand.NewSource(seed))
	known := allPoints()[:impl.LastKnown]
	for range count {
		look(randomNormText(r, alphabet, 14))
		look(randomNormText(r, allLineEdges(), 10))
		look(randomNormText(r, append(known[:len(known):len(known)], alphabet...), 6))
		look(randomNormText(r, alphabet, 4) + "\xE2\x80" + randomNormText(r, alphabet, 4))
		look(cutBytes(r, randomNormText(r, alphabet, 8)))
	}
}

func eachSentenceText(look func(text string)) {
	for count := range 5 {
		eachCutRow(sentenceAlphabet(), count, look)
	}
	eachCutRow([]int64{'.', '!', ')', ' ', 'a', 'A'}, 5, look)
	eachCutRow([]int64{'.', '!', 0x1000, ' ', 'a'}, 5, look)
	eachRandomText(10, 1000, sentenceAlphabet(), look)
}

func eachLineText(look func(text string)) {
	for count := range 4 {
		eachCutRow(lineAlphabet(), count, look)
	}
	eachCutRow([]int64{0x1E50, 0x1000, 0x1F00, 'a'}, 6, look)
	eachCutRow([]int64{'1', '.', ',', 0x1000, 'a'}, 5, look)
	eachCutRow([]int64{'(', ' ', '-', '1', 0x1000, 0x6000}, 5, look)
	eachCutRow([]int64{0x1F12, ' ', ')', 0x1F00, 0x0A, 'a'}, 5, look)
	eachCutRow([]int64{0xA0, ' ', '-', '"', 0x6000}, 5, look)
	eachRandomText(11, 1500, lineAlphabet(), look)
}

func TestSentencesOfTexts(t *testing.T) {
	eachSentenceText(func(text string) { isSentenceCut(t, text, plainSentenceCuts(text)) })
	eachLineText(func(text string) { isSentenceCut(t, text, plainSentenceCuts(text)) })
}

func TestLinesOfTexts(t *testing.T) {
	eachLineText(func(text string) { isLineCut(t, text, plainLineCuts(text)) })
	eachSentenceText(func(text string) { isLineCut(t, text, plainLineCuts(text)) })
}

func TestSentencesOfAllPoints(t *testing.T) {
	for p := int64(0); p <= impl.LastKnown; p++ {
		for _, row := range [][]int64{{p}, {'.', p}, {'.', ' ', p}, {'!', p, 'a'}, {'.', p, 'A'}, {'.', ')', p}} {
			text := textWritten(row...)
			isSentenceCut(t, text, plainSentenceCuts(text))
		}
	}
}

func TestLinesOfAllPoints(t *testing.T) {
	for p := int64(0); p <= impl.LastKnown; p++ {
		for _, row := range [][]int64{{p}, {'a', p}, {p, 'a'}, {' ', p}, {p, '('}, {0x800, p}, {p, 0x1E50}, {'-', p}, {p, 0xA0}, {p, ' ', 0x6000}, {'1', '.', p}} {
			text := textWritten(row...)
			isLineCut(t, text, plainLineCuts(text))
		}
	}
	for _, p := range []int64{0x8000, 0xFFFD, 0xFFFF, 0x10000, 0x1F600, impl.MaxPoint} {
		text, cuts := markedLines(textWritten('a', p, '1', '|', 0x6000))
		isLineCut(t, text, cuts)
	}
}

// isAmongChars holds P17 of one text.
func isAmongChars(t *testing.T, words []string, text string) {
	t.Helper()
	chars := impl.CharCuts(text)
	cuts := slices.Concat(impl.SentenceCuts(text), impl.WordCuts(text, nil))
	for _, cut := range slices.Concat(impl.LineCuts(text), impl.LineCutsBy(words, text)) {
		cuts = append(cuts, cut.At)
	}
	for _, cut := range cuts {
		if _, found := slices.BinarySearch(chars, cut); !found {
			t.Errorf("words, sentences or lines of %+q have a cut at %d, characters at %d", text, cut, chars)
		}
	}
}

func TestCutsAreCutsOfCharacters(t *testing.T) {
	words := []string{"\u0800", "\u0800\u0801", "\u0801\u0800"}
	look := func(text string) { isAmongChars(t, words, text) }
	eachSentenceText(look)
	eachLineText(look)
	eachCutText(look)
}

func TestEndsOfLinesMustBe(t *testing.T) {
	eachLineText(func(text string) {
		cuts := impl.LineCuts(text)
		for i, cut := range cuts {
			at := int(cut.At)
			must := i == len(cuts)-1 || i > 0 && (text[at-1] == '\n' || text[at-1] == '\r')
			if cut.Must != must || i > 0 && cuts[i-1].At >= cut.At {
				t.Errorf("LineCuts of %+q: %v", text, cuts)
			}
		}
		if text != "" && (cuts[0] != impl.LineCut{} || cuts[len(cuts)-1].At != int64(len(text))) {
			t.Errorf("LineCuts of %+q: %v, without an end", text, cuts)
		}
	})
}

// parted takes letters from A on to points of script 8, so that words are easily read; small letters and
// other signs stay.
func parted(row string) string {
	text := ""
	for i := range len(row) {
		if row[i] >= 'A' && row[i] <= 'Z' {
			text += writtenBytes(0x800 + int64(row[i]-'A'))
		} else {
			text += row[i : i+1]
		}
	}
	return text
}

// partedWords takes words with blanks between.
func partedWords(row string) []string {
	return strings.Fields(parted(row))
}

// manyWords are right words, as many as asked for.
func manyWords(count int) []string {
	words := []string{}
	for a := int64(0x800); a <= 0x82F; a++ {
		words = append(words, textWritten(a))
		for b := int64(0x800); b <= 0x82F; b++ {
			words = append(words, textWritten(a, b))
		}
	}
	return words[:count:count]
}

func rightWords() map[string][]string {
	return map[string][]string{
		"nil":                   nil,
		"none":                  {},
		"the first point":       {"\u0800"},
		"the last point":        {"\u082F"},
		"one":                   partedWords("ABC"),
		"rising":                partedWords("A AA AAB AB B"),
		"60 points":             {strings.Repeat("\u082F", 60)},
		"60 points behind 59":   {strings.Repeat("\u0800", 59), strings.Repeat("\u0800", 60)},
		"1000 of them":          manyWords(1000),
		"beginning one another": partedWords("A AB ABC ABCD"),
	}
}

func wrongWords() map[string][]string {
	last := manyWords(1000)
	last[999] = last[998]
	return map[string][]string{
		"1001 of them":            manyWords(1001),
		"1001 empty ones":         make([]string, 1001),
		"falling":                 partedWords("B A"),
		"the longer one first":    partedWords("AB A"),
		"two alike":               partedWords("A A"),
		"two alike later":         partedWords("A B C C"),
		"falling at the end":      partedWords("A C D B"),
		"the last two of 1000":    last,
		"one of none":             {""},
		"one of none first":       {"", "\u0800"},
		"61 points":               {strings.Repeat("\u0800", 61)},
		"61 points at the end":    {strings.Repeat("\u0800", 60), strings.Repeat("\u0800", 61)},
		"a very long one":         {strings.Repeat("\u0800", 30000)},
		"the point ahead":         {"\u07FF"},
		"the point behind":        {"\u0830"},
		"a letter":                {"a"},
		"a letter behind":         {"\u0800a"},
		"a letter ahead":          {"a\u0800"},
		"a mark":                  {"\u0800\u1000"},
		"the joiner":              {"\u0800\u1F00\u0801"},
		"another script":          {"\u6000"},
		"a blank":                 {"\u0800 \u0801"},
		"a broken byte":           {"\xFF"},
		"a broken byte behind":    {"\u0800\xE0"},
		"two bytes of three":      {"\xE0\xA0"},
		"an overlong one":         {"\xF0\x80\xA0\x80"},
		"no point":                {"\xED\xA0\x80"},
		"a written broken point":  {"\uFFFD"},
		"a wrong one in the rest": {"\u0800", "\u0801", "\u0802\xE0\xA0"},
	}
}

func TestWordsFault(t *testing.T) {
	for name, words := range rightWords() {
		if got := impl.WordsFault(words); got != impl.OK {
			t.Errorf("WordsFault of %s: %d, want 0", name, got)
		}
	}
	for name, words := range wrongWords() {
		if got := impl.WordsFault(words); got != impl.ErrForm {
			t.Errorf("WordsFault of %s: %d, want ErrForm", name, got)
		}
		isFewest(t, words, parted("AB a"), nil)
		isFewest(t, words, "", nil)
		isLineCutBy(t, words, parted("AB a"), nil)
		isLineCutBy(t, words, "", nil)
	}
}

func TestWordsFaultOfAllPoints(t *testing.T) {
	for _, p := range allPoints() {
		want := int64(impl.ErrForm)
		if p >= 0x800 && p <= 0x82F {
			want = impl.OK
		}
		if got := impl.WordsFault([]string{writtenBytes(p)}); got != want {
			t.Fatalf("WordsFault of U+%X: %d, want %d", p, got, want)
		}
	}
}

func TestFewestWordsByHand(t *testing.T) {
	for _, row := range []struct {
		words string
		want  string
	}{
		{"", "A"}, {"", "A|B|C"}, {"", "a"}, {"", "a|b"}, {"A", "A"}, {"A", "A|A|B"}, {"A B", "A|B|A"}, {"B", "A"},
		// words that begin one another
		{"A AB ABC", "ABC|D"}, {"A AB ABC", "AB|D"}, {"A AB ABC", "A|C"}, {"AB ABCD", "AB|C"}, {"AB ABCD", "ABCD|AB|C|C"}, {"A ABC", "A|B|A"}, {"ABC", "A|B"},
		// the longest first word is not always the best
		{"AB ABC CDE", "AB|CDE"}, {"A ABC BCDE", "A|BCDE"}, {"AB BCDE", "A|BCDE"}, {"AB BC CD", "AB|CD"}, {"A AB BCD", "A|BCD"}, {"A AB BC", "A|BC"}, {"ABC BCD D", "ABC|D"},
		// fewer pieces, and the more of words
		{"AB ABCD CD", "ABCD"}, {"A B AB", "AB"}, {"A B", "A|B"}, {"AB C", "AB|C"}, {"AB CD", "AB|CD|E"},
		// cuts that cost the same
		{"AB BC", "AB|C"}, {"A AB BC C", "AB|C"}, {"A BC CD", "A|BC|D"}, {"ABC BCD", "ABC|D"}, {"A ABC BCD D", "ABC|D"}, {"AB BCD DE", "AB|C|DE"}, {"AB ABC CDE DE", "ABC|DE"}, {"A AA", "AA|AA"}, {"A AA", "AA|AA|A"}, {"AA AAA", "AAA|AA"}, {"AA AAA", "AAA|AAA|AA"}, {"AA AAA", "AA|AA"}, {"AA", "AA|A"},
		{"A B AB BA", "AB|A"}, {"AB CD EF BCDE", "AB|CD|EF"}, {"AB BCDE", "A|BCDE|F"},
		// points of other scripts, and broken bytes
		{"AB", "a|AB|b"}, {"AB", "AB| |AB"}, {"AB", "A|a|B"}, {"AB", "A| |B"}, {"AB", "AB|\n|\r"}, {"A AB", "A|\xFF|B|\xE2|\x82|AB"}, {"AB", "\xE0|AB|\xE0|\xA0"}, {"AB", "\x80|\x80|A|\x80"},
	} {
		pieces := strings.Split(parted(row.want), "|")
		isFewest(t, partedWords(sortedWords(row.words)), strings.Join(pieces, ""), pieces)
	}
	isFewest(t, []string{"\u0800"}, "\u1000\u1F00\u6000\u0800\u1000\U0010FFFF", []string{"\u1000", "\u1F00", "\u6000", "\u0800", "\u1000", "\U0010FFFF"})
	isFewest(t, []string{"\u0800"}, "", nil)
	isFewest(t, nil, "", nil)
	isFewest(t, nil, "\r\n\u1E50\u1E51", []string{"\r", "\n", "\u1E50", "\u1E51"})
}

func sortedWords(row string) string {
	words := strings.Fields(row)
	slices.Sort(words)
	return strings.Join(words, " ")
}

// randomWords are right words of a few points.
func randomWords(r *rand.Rand, points string, count int) []string {
	words := []string{}
	for range count {
		word := ""
		for range 1 + r.Intn(4) {
			word += string(points[r.Intn(len(points))])
		}
		words = append(words, parted(word))
	}
	slices.Sort(words)
	return slices.Compact(words)
}

// eachWordsAndText hands on random words with texts of their points and of others.
func eachWordsAndText(seed int64, count int, look func(words []string, text string)) {
	r := rand.New(rand.NewSource(seed))
	others := []int64{0x800, 0x801, 0x802, 0x803, 0x82F, 0x1000, 0x1F00, 0x1E40, ' ', 'a', '\n', '(', '.', 0x1F12, 0x6000, 0x1E50, 0x1F01}
	for range count {
		words := randomWords(r, "ABC"[:1+r.Intn(3)], r.Intn(10))
		look(words, randomNormText(r, []int64{0x800, 0x801, 0x802}, 9))
		look(words, randomNormText(r, []int64{0x800, 0x801}, 10))
		look(words, randomNormText(r, []int64{0x800, 0x801, 0x1000, 0x1F00}, 10))
		look(words, randomNormText(r, others, 14))
		look(words, randomNormText(r, others[:9], 9))
		look(words, cutBytes(r, randomNormText(r, others[:10], 9)))
	}
}

func TestFewestWordsOfTexts(t *testing.T) {
	eachWordsAndText(12, 2000, func(words []string, text string) {
		want, _ := plainFewest(words, pointTexts(text))
		isFewest(t, words, text, want)
	})
}

func TestFewestWordsAreTheText(t *testing.T) {
	eachWordsAndText(13, 2000, func(words []string, text string) {
		pieces := impl.FewestWords(words, text)
		if strings.Join(pieces, "") != text {
			t.Errorf("FewestWords of %+q by %+q: %+q", text, words, pieces)
		}
		if len(pieces) > 0 {
			isFewest(t, words, text[len(pieces[0]):], pieces[1:])
		}
	})
}

func TestLineCutsByByHand(t *testing.T) {
	// m stands for a mark, j for the joiner, u for an ideograph, t for a tone.
	signs := strings.NewReplacer("m", "\u1000", "j", "\u1F00", "u", "\u6000", "t", "\u1E40", "_", "\u1F01")
	for _, row := range []struct {
		words string
		want  string
	}{
		{"", "A"}, {"", "A|B"}, {"AB", "AB"}, {"AB", "AB|C"}, {"AB BC", "AB|C"}, {"A", "a"}, {"A", "a |b\n#c"}, {"AB", "\n"},
		// at the beginning, in the midst and at the end
		{"AB", "AB|AB|a"}, {"AB", "AB|C|a"}, {"AB", "a|AB|C|b"}, {"AB", "a|C|AB"}, {"AB", "a |AB|C |b"}, {"AB", "(AB|C)|a"}, {"AB", "AB|AB\n#AB|A"}, {"AB", "\n#AB|A"}, {"AB", "u|AB|A|u"},
		{"AB", "1|AB|AB|1"}, {"AB", "\"AB|AB\""}, {"AB", "-|AB|AB-1"}, {"AB", "AB|A.|AB|A"},
		// marks and the joiner within a row and behind it
		{"AB", "AmB|C"}, {"AB", "ABm|C"}, {"AB", "AmBm|Cm"}, {"AB", "AjB|C"}, {"AB", "ABj|C"}, {"AB", "AjmBmj|Cj"}, {"AB", "ABmm|ABmm|a"}, {"AB", "ABj|ABja"}, {"AB", "AB|ABj "}, {"", "Am|Bj|C"}, {"", "Ajj|B"},
		// marks ahead of a row belong to what is there
		{"AB", "m|AB|C"}, {"AB", " m|AB|C"}, {"AB", "\n#m|AB|C"}, {"AB", "am|AB|C"}, {"AB", "jAB|C"}, {"AB", "ajAB|C"},
		// two rows with something else between
		{"AB BA", "AB|A |BA"}, {"AB BA", "A|a|B"}, {"AB BA", "A|a|AB|A|u|BA"}, {"AB", "A |B"}, {"AB", "A.|B"}, {"AB", "At|B"}, {"AB", "A|_|B"}, {"AB", "A\"B"}, {"AB", "A\n#B"}, {"AB", "A\r\n#B|A"}, {"AB", "A-|B|A"}, {"AB", "A|\xFF|B|A"},
		// not the longest word first
		{"AB ABC CDE", "AB|CDE"}, {"AB ABC CDE", "ABm|CmDjE"}, {"A B", "A|B|A|C"},
	} {
		text, cuts := markedLines(signs.Replace(parted(row.want)))
		isLineCutBy(t, partedWords(sortedWords(row.words)), text, cuts)
	}
}

func TestLineCutsByOfTexts(t *testing.T) {
	eachWordsAndText(14, 1500, func(words []string, text string) {
		isLineCutBy(t, words, text, plainLineCutsBy(words, text))
	})
	words := partedWords("A AB")
	eachLineText(func(text string) { isLineCutBy(t, words, text, plainLineCutsBy(words, text)) })
}

// isAmongLines holds P19 of one text.
func isAmongLines(t *testing.T, words []string, text string) {
	t.Helper()
	more := impl.LineCutsBy(words, text)
	for _, cut := range impl.LineCuts(text) {
		if !slices.Contains(more, cut) {
			t.Errorf("LineCutsBy of %+q by %+q: %v has no %v", text, words, more, cut)
		}
	}
	for i, cut := range more {
		if i > 0 && cut.At <= more[i-1].At {
			t.Errorf("LineCutsBy of %+q by %+q: %v does not rise", text, words, more)
		}
	}
}

func TestLineCutsByHasLineCuts(t *testing.T) {
	eachWordsAndText(15, 2000, func(words []string, text string) {
		isAmongLines(t, words, text)
		isAmongChars(t, words, text)
	})
	for _, words := range rightWords() {
		eachRandomText(16, 200, lineAlphabet(), func(text string) { isAmongLines(t, words, text) })
	}
}

func TestTextsWithoutLines(t *testing.T) {
	for _, text := range []string{"", strings.Repeat("a", impl.MaxBytes+1), strings.Repeat("\u0800", impl.MaxBytes/3) + "\r\n", strings.Repeat("\n", impl.MaxBytes+1)} {
		isSentenceCut(t, text, nil)
		isLineCut(t, text, nil)
		isFewest(t, []string{"\u0800"}, text, nil)
		isLineCutBy(t, []string{"\u0800"}, text, nil)
	}
}

// isLongLine holds how many cuts of sentences, cuts of lines, words and cuts of lines by words a long text
// has, with the words of 1 to 60 points U+800.
func isLongLine(t *testing.T, text string, want [4]int) {
	t.Helper()
	words := []string{}
	for size := range impl.MaxWord {
		words = append(words, strings.Repeat("\u0800", size+1))
	}
	got := [4]int{len(impl.SentenceCuts(text)), len(impl.LineCuts(text)), len(impl.FewestWords(words, text)), len(impl.LineCutsBy(words, text))}
	if got != want {
		t.Errorf("%d bytes of %+q ..: cuts of sentences, of lines, words, cuts by words are %d, want %d", len(text), text[:min(len(text), 9)], got, want)
	}
}

func TestSizesOfLines(t *testing.T) {
	most := impl.MaxBytes
	isLongLine(t, strings.Repeat("a", most), [4]int{2, 2, most, 2})
	isLongLine(t, strings.Repeat("\n", most), [4]int{most + 1, most + 1, most, most + 1})
	isLongLine(t, strings.Repeat("\r\n", most/2), [4]int{most/2 + 1, most/2 + 1, most, most/2 + 1})
	isLongLine(t, strings.Repeat("\xFF", most), [4]int{2, 2, most, 2})
	isLongLine(t, strings.Repeat(". ", most/2), [4]int{most/2 + 1, 2, most, 2})
	isLongLine(t, strings.Repeat("!", most), [4]int{2, 2, most, 2})
	isLongLine(t, strings.Repeat("a ", most/2), [4]int{2, most/2 + 1, most, most/2 + 1})
	isLongLine(t, "("+strings.Repeat(" ", most-2)+"a", [4]int{2, 2, most, 2})
	isLongLine(t, "a"+strings.Repeat(" ", most-2)+"a", [4]int{2, 3, most, 3})
	isLongLine(t, "."+strings.Repeat("\u1000", most/3-1)+"aa", [4]int{2, 3, most/3 + 2, 3})
	isLongLine(t, "a"+strings.Repeat("\u6000", most/3), [4]int{2, most/3 + 2, most/3 + 1, most/3 + 2})
	isLongLine(t, "a"+strings.Repeat("\u1E50", most/3), [4]int{2, 2 + (most/3+1)/2, most/3 + 1, 2 + (most/3+1)/2})
	isLongLine(t, "a"+strings.Repeat("\u0800", most/3), [4]int{2, 3, 1 + (most/3+59)/60, 2 + (most/3+59)/60})
	isLongLine(t, strings.Repeat("\u0801", most/3)+"a", [4]int{2, 3, most/3 + 1, most/3 + 2})
	isLongLine(t, strings.Repeat("\u0800\u1000", most/6), [4]int{2, 2, most / 3 / 2 * 2, 1 + (most/6+59)/60})
}

func TestSizesOfWords(t *testing.T) {
	words := manyWords(1000)
	text := strings.Repeat("\u0800\u0801\u0802", impl.MaxBytes/9)
	pieces := impl.FewestWords(words, text)
	if want := (impl.MaxBytes/9*3 + 1) / 2; len(pieces) != want {
		t.Errorf("a long text by 1000 words: %d pieces, want %d", len(pieces), want)
	}
	if got := impl.LineCutsBy(words, text); len(got) != len(pieces)+1 {
		t.Errorf("a long text by 1000 words: %d cuts, want %d", len(got), len(pieces)+1)
	}
	longest := strings.Repeat("\u0800", impl.MaxWord)
	isFewest(t, []string{longest}, longest+longest, []string{longest, longest})
	isFewest(t, []string{longest}, longest+"\u0800", []string{longest, "\u0800"})
}

// sharesMemory tells whether two texts have a byte of memory in common.
func sharesMemory(a string, b string) bool {
	first, second := uintptr(unsafe.Pointer(unsafe.StringData(a))), uintptr(unsafe.Pointer(unsafe.StringData(b)))
	return first < second+uintptr(len(b)) && second < first+uintptr(len(a))
}

func TestLinesAreNewMemory(t *testing.T) {
	words := partedWords("A AB BC")
	given := slices.Clone(words)
	text := parted("AB a. BC")
	first := fmt.Sprint(impl.SentenceCuts(text), impl.LineCuts(text), impl.FewestWords(words, text), impl.LineCutsBy(words, text))
	for range 2 {
		sentences, lines, pieces, more := impl.SentenceCuts(text), impl.LineCuts(text), impl.FewestWords(words, text), impl.LineCutsBy(words, text)
		if got := fmt.Sprint(sentences, lines, pieces, more); got != first {
			t.Errorf("asked again: %s, want %s", got, first)
		}
		if !slices.Equal(words, given) {
			t.Errorf("the words became %+q", words)
		}
		for _, piece := range pieces {
			if sharesMemory(piece, text) || slices.ContainsFunc(words, func(word string) bool { return sharesMemory(piece, word) }) {
				t.Errorf("%+q shares its memory", piece)
			}
		}
		clear(sentences)
		clear(lines)
		clear(pieces)
		clear(more)
	}
}
