package tests

import (
	"fmt"
	"math"
	"math/rand"
	"slices"
	"strings"
	"testing"

	"loop.example/g00044/impl"
)

func normForms() []int64 {
	return []int64{impl.NormD, impl.NormC, impl.NormKD, impl.NormKC}
}

// noNorms are numbers of no form, some of which become one in fewer bits.
func noNorms() []int64 {
	return []int64{0, 5, -1, -4, 6, 1<<8 + 1, 1<<16 + 2, 1<<32 + 1, 1<<32 + 4, math.MaxInt64, math.MinInt64}
}

func isLoose(form int64) bool {
	return form == impl.NormKD || form == impl.NormKC
}

func isComposed(form int64) bool {
	return form == impl.NormC || form == impl.NormKC
}

// scriptOneLetters are the letters of script 1 by their numbers.
const scriptOneLetters = "ABCDEFGHIJKLMNOPQRSTUVWXYZabcdefghijklmnopqrstuvwxyz"

// tableOfParts says chapter 6's table once more, with the rows of K or without them.
func tableOfParts(loose bool) map[int64][]int64 {
	table := map[int64][]int64{}
	for i, letter := range scriptOneLetters {
		for m := int64(0); m < 8; m++ {
			n := 8*int64(i) + m
			table[0x2000+n] = []int64{int64(letter), 0x1000 + m}
			table[0x2200+n] = []int64{int64(letter), 0x1010 + m}
			table[0x2400+n] = []int64{0x2200 + n, 0x1000}
		}
	}
	for i := int64(0); i < 26; i++ {
		table[0x2600+i] = []int64{0x41 + i}
	}
	for lead := int64(0); lead < 19; lead++ {
		for vowel := int64(0); vowel < 21; vowel++ {
			open := 0x3000 + (21*lead+vowel)*28
			table[open] = []int64{0x700 + lead, 0x720 + vowel}
			for tail := int64(1); tail <= 27; tail++ {
				table[open+tail] = []int64{open, 0x740 + tail}
			}
		}
	}
	if loose {
		addLooseRows(table)
	}
	return table
}

func addLooseRows(table map[int64][]int64) {
	for i := int64(0); i < 26; i++ {
		table[0x2700+i] = []int64{0x41 + i}
	}
	for d := int64(0); d < 10; d++ {
		table[0x2720+d] = []int64{0x30 + d}
	}
	table[0x1F80], table[0xA0] = []int64{0x20}, []int64{0x20}
	for n, two := range []string{"ff", "fi", "fl", "st"} {
		table[0x2730+int64(n)] = []int64{int64(two[0]), int64(two[1])}
	}
}

// plainTables are the tables of the four forms, at 1 to 4.
var plainTables = [5]map[int64][]int64{1: tableOfParts(false), 2: tableOfParts(false), 3: tableOfParts(true), 4: tableOfParts(true)}

// plainPairs are the points of the table by their parts, but those of which Compose does not tell.
var plainPairs = func() map[[2]int64]int64 {
	pairs := map[[2]int64]int64{}
	for p, parts := range plainTables[impl.NormC] {
		if len(parts) == 2 {
			pairs[[2]int64{parts[0], parts[1]}] = p
		}
	}
	return pairs
}()

var plainSeconds = func() map[int64]bool {
	seconds := map[int64]bool{}
	for pair := range plainPairs {
		seconds[pair[1]] = true
	}
	return seconds
}()

func plainCompose(a int64, b int64) int64 {
	if p, found := plainPairs[[2]int64{a, b}]; found {
		return p
	}
	return -1
}

func plainDecompose(form int64, p int64) []int64 {
	parts, found := plainTables[form][p]
	if !found {
		return []int64{p}
	}
	var all []int64
	for _, part := range parts {
		all = append(all, plainDecompose(form, part)...)
	}
	return all
}

// plainOrder changes neighbours as long as there are two whose classes fall.
func plainOrder(points []int64) {
	for again := true; again; {
		again = false
		for i := 1; i < len(points); i++ {
			class := impl.MarkClass(points[i])
			if class != 0 && impl.MarkClass(points[i-1]) > class {
				points[i-1], points[i], again = points[i], points[i-1], true
			}
		}
	}
}

// plainComposeAll goes by the words of chapter 6: it looks for the last starter anew at each point.
func plainComposeAll(points []int64) []int64 {
	at := 1
	for at < len(points) {
		starter := at - 1
		for starter >= 0 && impl.MarkClass(points[starter]) != 0 {
			starter--
		}
		free := starter >= 0
		for between := starter + 1; between < at; between++ {
			free = free && impl.MarkClass(points[between]) < impl.MarkClass(points[at])
		}
		if free && plainCompose(points[starter], points[at]) >= 0 {
			points[starter] = plainCompose(points[starter], points[at])
			points = slices.Delete(points, at, at+1)
			continue
		}
		at++
	}
	return points
}

func plainNormal(form int64, points []int64) []int64 {
	var all []int64
	for _, p := range points {
		all = append(all, plainDecompose(form, p)...)
	}
	plainOrder(all)
	if isComposed(form) {
		return plainComposeAll(all)
	}
	return all
}

func plainNormalText(form int64, text string) string {
	return textWritten(plainNormal(form, readPlainly(text))...)
}

func plainQuick(form int64, text string) int64 {
	points := readPlainly(text)
	if textWritten(points...) != text {
		return impl.CheckNo
	}
	told := int64(impl.CheckYes)
	for i, p := range points {
		falls := i > 0 && impl.MarkClass(p) != 0 && impl.MarkClass(p) < impl.MarkClass(points[i-1])
		if falls || !slices.Equal(plainNormal(form, []int64{p}), []int64{p}) {
			return impl.CheckNo
		}
		if isComposed(form) && plainSeconds[p] {
			told = impl.CheckMaybe
		}
	}
	return told
}

func plainSafe(form int64, p int64) bool {
	first := plainDecompose(form, p)[0]
	return impl.MarkClass(first) == 0 && !plainSeconds[first]
}

// plainFed is what a right normer tells of a text, by the words of chapter 6.
func plainFed(n impl.Normer, text string) impl.NormerOut {
	points := append(readPlainly(n.Held), readPlainly(text)...)
	cut := 0
	for at, p := range points {
		if plainSafe(n.Form, p) {
			cut = at
		}
	}
	told, held := textWritten(plainNormal(n.Form, points[:cut])...), textWritten(points[cut:]...)
	switch {
	case len(told) > impl.MaxBytes:
		return impl.NormerOut{Code: impl.ErrSize}
	case len(held) > impl.MaxHeld:
		return impl.NormerOut{Code: impl.ErrLimit}
	}
	return impl.NormerOut{Normer: impl.Normer{Form: n.Form, Held: held}, Text: told}
}

// normEdges are points at both sides of where the rows of the table, of its parts and of the classes
// begin and end.
func normEdges() []int64 {
	edges := []int64{0, 0x630, 0x631, 0x620, 0xFFFD, 0x10000, 0x11000, 0x12000, impl.MaxPoint, 0xD7FF, 0xE000}
	for _, row := range [][2]int64{
		{0x20, 0x20}, {0x30, 0x39}, {0x41, 0x5A}, {0x61, 0x7A}, {'f', 'f'}, {'i', 'i'}, {'l', 'l'}, {'s', 't'}, {0xA0, 0xA0},
		{0x700, 0x712}, {0x720, 0x734}, {0x741, 0x75B}, {0x1000, 0x1007}, {0x1010, 0x1017}, {0x1020, 0x1027},
		{0x1028, 0x102F}, {0x1030, 0x1037}, {0x1038, 0x103F}, {0x1F80, 0x1F80}, {0x2000, 0x219F}, {0x2200, 0x239F},
		{0x2400, 0x259F}, {0x20D0, 0x20D0}, {0x22D0, 0x22D0}, {0x24D0, 0x24D0}, {0x2600, 0x2619}, {0x2700, 0x2719},
		{0x2720, 0x2729}, {0x2730, 0x2733}, {0x3000, 0x301C}, {0x324B, 0x324C}, {0x5B87, 0x5BA3},
	} {
		for _, p := range row {
			edges = append(edges, p-1, p, p+1)
		}
	}
	slices.Sort(edges)
	return slices.Compact(edges)[1:]
}

// normAlphabet are a few points that meet in all ways.
func normAlphabet() []int64 {
	return []int64{
		'A', 'f', 0x1000, 0x1001, 0x1010, 0x1008, 0x1018, 0x1020, 0x1028, 0x1030, 0x1038, 0x630, 0x631, 0x620, 0x2000, 0x2200,
		0x2400, 0x2600, 0x2700, 0x2731, 0x700, 0x720, 0x741, 0x3000, 0x3001, 0xA0, 0xFFFD,
	}
}

// eachText hands on all texts of up to three points of the alphabet, and random longer ones.
func eachText(look func(text string)) {
	texts := []string{""}
	for range 3 {
		longer := []string{}
		for _, text := range texts {
			for _, p := range normAlphabet() {
				longer = append(longer, text+writtenBytes(p))
			}
		}
		for _, text := range texts {
			look(text)
		}
		texts = longer
	}
	for _, text := range texts {
		look(text)
	}
	r := rand.New(rand.NewSource(5))
	for range 4000 {
		look(randomNormText(r, normAlphabet(), 12))
		look(randomNormText(r, normEdges(), 9))
	}
}

func randomNormText(r *rand.Rand, points []int64, most int) string {
	text := ""
	for range r.Intn(most + 1) {
		text += writtenBytes(points[r.Intn(len(points))])
	}
	return text
}

func isNormalized(t *testing.T, form int64, text string, want string) {
	t.Helper()
	if got := impl.Normalize(form, text); got != want {
		t.Errorf("form %d of %+q: got %+q, want %+q", form, text, got, want)
	}
}

func TestNumbersOfNormForms(t *testing.T) {
	got := []int64{impl.NormD, impl.NormC, impl.NormKD, impl.NormKC, impl.CheckYes, impl.CheckNo, impl.CheckMaybe, impl.MaxHeld}
	if want := []int64{1, 2, 3, 4, 1, 2, 3, 1000}; !slices.Equal(got, want) {
		t.Errorf("numbers: got %d, want %d", got, want)
	}
}

// partsRow is a point with its last parts without K, and with it.
type partsRow struct {
	p     int64
	parts []int64
	loose []int64
}

func handParts() []partsRow {
	same := func(p int64, parts ...int64) partsRow { return partsRow{p, parts, parts} }
	return []partsRow{
		same(0x1FFF, 0x1FFF), same(0x2000, 'A', 0x1000), same(0x2007, 'A', 0x1007), same(0x2008, 'B', 0x1000),
		same(0x20CF, 'Z', 0x1007), same(0x20D0, 'a', 0x1000), same(0x219F, 'z', 0x1007), same(0x21A0, 0x21A0),
		same(0x21FF, 0x21FF), same(0x2200, 'A', 0x1010), same(0x22CF, 'Z', 0x1017), same(0x22D0, 'a', 0x1010),
		same(0x239F, 'z', 0x1017), same(0x23A0, 0x23A0), same(0x23FF, 0x23FF),
		same(0x2400, 'A', 0x1010, 0x1000), same(0x2407, 'A', 0x1017, 0x1000), same(0x24CF, 'Z', 0x1017, 0x1000),
		same(0x24D0, 'a', 0x1010, 0x1000), same(0x259F, 'z', 0x1017, 0x1000), same(0x25A0, 0x25A0),
		same(0x25FF, 0x25FF), same(0x2600, 'A'), same(0x2619, 'Z'), same(0x261A, 0x261A),
		same(0x2FFF, 0x2FFF), same(0x3000, 0x700, 0x720), same(0x3001, 0x700, 0x720, 0x741),
		same(0x301B, 0x700, 0x720, 0x75B), same(0x301C, 0x700, 0x721), same(0x324B, 0x700, 0x734, 0x75B),
		same(0x324C, 0x701, 0x720), same(0x5B88, 0x712, 0x734), same(0x5B89, 0x712, 0x734, 0x741),
		same(0x5BA3, 0x712, 0x734, 0x75B), same(0x5BA4, 0x5BA4),
		{0x26FF, []int64{0x26FF}, []int64{0x26FF}}, {0x2700, []int64{0x2700}, []int64{'A'}}, {0x2719, []int64{0x2719}, []int64{'Z'}},
		same(0x271A, 0x271A), same(0x271F, 0x271F), {0x2720, []int64{0x2720}, []int64{'0'}}, {0x2729, []int64{0x2729}, []int64{'9'}},
		same(0x272A, 0x272A), same(0x272F, 0x272F), {0x2730, []int64{0x2730}, []int64{'f', 'f'}},
		{0x2731, []int64{0x2731}, []int64{'f', 'i'}}, {0x2732, []int64{0x2732}, []int64{'f', 'l'}},
		{0x2733, []int64{0x2733}, []int64{'s', 't'}}, same(0x2734, 0x2734),
		{0x1F80, []int64{0x1F80}, []int64{0x20}}, {0xA0, []int64{0xA0}, []int64{0x20}},
		same(0x1F7F, 0x1F7F), same(0x1F81, 0x1F81), same(0x9F, 0x9F), same(0xA1, 0xA1),
		same(0, 0), same('A', 'A'), same(0x1000, 0x1000), same(0x700, 0x700), same(0xFFFD, 0xFFFD), same(0x12000, 0x12000),
		same(0x10000+0x3000, 0x13000), same(impl.MaxPoint, impl.MaxPoint),
	}
}

func TestPartsByHand(t *testing.T) {
	for _, row := range handParts() {
		for _, form := range normForms() {
			want := row.parts
			if isLoose(form) {
				want = row.loose
			}
			if got := impl.Decompose(row.p, form); !slices.Equal(got, want) {
				t.Errorf("parts of U+%X in form %d: got %x, want %x", row.p, form, got, want)
			}
		}
	}
}

func TestPartsOfAllPoints(t *testing.T) {
	for _, p := range allPoints() {
		for _, form := range normForms() {
			if got, want := impl.Decompose(p, form), plainDecompose(form, p); !slices.Equal(got, want) {
				t.Fatalf("parts of U+%X in form %d: got %x, want %x", p, form, got, want)
			}
		}
	}
}

func TestPartsOfWhatIsNone(t *testing.T) {
	for _, form := range append(normForms(), noNorms()...) {
		for _, p := range []int64{-1, -0x2000, 0xD800, 0xDBFF, 0xDC00, 0xDFFF, impl.MaxPoint + 1, 1<<32 + 'A', 1<<32 + 0x2000, math.MaxInt64, math.MinInt64} {
			if got := impl.Decompose(p, form); len(got) != 0 {
				t.Errorf("parts of %d, which is no point, in form %d: got %x", p, form, got)
			}
		}
	}
	for _, form := range noNorms() {
		for _, p := range []int64{0, 'A', 0x2000, 0x2400, 0x2600, 0x2731, 0x3001, impl.MaxPoint} {
			if got := impl.Decompose(p, form); len(got) != 0 {
				t.Errorf("parts of U+%X in form %d, which is none: got %x", p, form, got)
			}
		}
	}
}

func TestPartsAreNewMemory(t *testing.T) {
	impl.Decompose(0x2400, impl.NormD)[0] = 'X'
	if got := impl.Decompose(0x2400, impl.NormD); !slices.Equal(got, []int64{'A', 0x1010, 0x1000}) {
		t.Errorf("parts changed by writing into an earlier answer: %x", got)
	}
}

func isPair(t *testing.T, a int64, b int64, want int64) {
	t.Helper()
	if got := impl.Compose(a, b); got != want {
		t.Errorf("U+%X and U+%X: got %X, want %X", a, b, got, want)
	}
}

func TestComposeByHand(t *testing.T) {
	for _, row := range [][3]int64{
		{'A', 0x1000, 0x2000}, {'A', 0x1007, 0x2007}, {'A', 0x1008, -1}, {'A', 0xFFF, -1}, {'z', 0x1007, 0x219F}, {'a', 0x1000, 0x20D0},
		{'Z', 0x1007, 0x20CF}, {'A', 0x1010, 0x2200}, {'A', 0x1017, 0x2207}, {'A', 0x100F, -1}, {'A', 0x1018, -1}, {'z', 0x1017, 0x239F},
		{'@', 0x1000, -1}, {'[', 0x1000, -1}, {'`', 0x1000, -1}, {'{', 0x1000, -1},
		{0x2200, 0x1000, 0x2400}, {0x2207, 0x1000, 0x2407}, {0x239F, 0x1000, 0x259F}, {0x2200, 0x1001, -1}, {0x2200, 0x1010, -1},
		{0x21FF, 0x1000, -1}, {0x23A0, 0x1000, -1}, {0x2000, 0x1010, -1}, {0x2000, 0x1000, -1}, {0x2400, 0x1000, -1},
		{0x700, 0x720, 0x3000}, {0x712, 0x734, 0x5B88}, {0x6FF, 0x720, -1}, {0x713, 0x720, -1}, {0x700, 0x71F, -1}, {0x700, 0x735, -1},
		{0x3000, 0x741, 0x3001}, {0x3000, 0x75B, 0x301B}, {0x3000, 0x740, -1}, {0x3000, 0x75C, -1}, {0x3001, 0x741, -1}, {0x301B, 0x741, -1},
		{0x301C, 0x741, 0x301D}, {0x5B88, 0x75B, 0x5BA3}, {0x5BA4, 0x741, -1}, {0x5BA3, 0x741, -1}, {0x2FE4, 0x741, -1}, {0x700, 0x741, -1},
		{'f', 'f', -1}, {'f', 'i', -1}, {'f', 'l', -1}, {'s', 't', -1}, {'A', 'A', -1}, {'A', 'B', -1}, {'A', -1, -1}, {0x41, 0, -1}, {' ', -1, -1},
	} {
		isPair(t, row[0], row[1], row[2])
	}
}

func TestComposeOfTheTable(t *testing.T) {
	for pair, p := range plainPairs {
		isPair(t, pair[0], pair[1], p)
		isPair(t, pair[1], pair[0], -1)
	}
	for p, parts := range plainTables[impl.NormKC] {
		if len(parts) == 1 {
			for _, b := range []int64{-1, 0, 0x20, 0x30, 'A', p, parts[0], math.MinInt64} {
				isPair(t, parts[0], b, -1)
			}
		}
	}
}

func TestComposeOfEdges(t *testing.T) {
	numbers := append(normEdges(), unknownPoints()...)
	for _, a := range numbers {
		for _, b := range numbers {
			isPair(t, a, b, plainCompose(a, b))
		}
	}
	for a := int64(-1); a <= impl.LastKnown+1; a++ {
		for _, b := range []int64{0x1000, 0x1017, 0x720, 0x75B} {
			isPair(t, a, b, plainCompose(a, b))
		}
	}
}

func TestNormalFormsByHand(t *testing.T) {
	for _, row := range []struct{ text, d, c, kd, kc string }{
		{"", "", "", "", ""},
		{"abc", "abc", "abc", "abc", "abc"},
		{"\u2000", "A\u1000", "\u2000", "A\u1000", "\u2000"},
		{"\u2400", "A\u1010\u1000", "\u2400", "A\u1010\u1000", "\u2400"},
		{"\u2600\u1000", "A\u1000", "\u2000", "A\u1000", "\u2000"},
		{"\u2700\u1000", "\u2700\u1000", "\u2700\u1000", "A\u1000", "\u2000"},
		{"\u2731\u2722\u00A0\u1F80", "\u2731\u2722\u00A0\u1F80", "\u2731\u2722\u00A0\u1F80", "fi2  ", "fi2  "},
		{"\u2731\u1000", "\u2731\u1000", "\u2731\u1000", "fi\u1000", "f\u2110"},
		{"\u3001", "\u0700\u0720\u0741", "\u3001", "\u0700\u0720\u0741", "\u3001"},
		// The first mark goes behind the other one, and is taken there.
		{"A\u1000\u1010", "A\u1010\u1000", "\u2400", "A\u1010\u1000", "\u2400"},
		{"\u2000\u1010", "A\u1010\u1000", "\u2400", "A\u1010\u1000", "\u2400"},
		{"\u2001\u1010", "A\u1010\u1001", "\u2200\u1001", "A\u1010\u1001", "\u2200\u1001"},
		// Composed over a lower class; not over the same one, nor over a starter.
		{"A\u1020\u1000", "A\u1020\u1000", "\u2000\u1020", "A\u1020\u1000", "\u2000\u1020"},
		{"A\u1018\u1000", "A\u1018\u1000", "\u2000\u1018", "A\u1018\u1000", "\u2000\u1018"},
		{"A\u1008\u1000", "A\u1008\u1000", "A\u1008\u1000", "A\u1008\u1000", "A\u1008\u1000"},
		{"A\u1018\u1010", "A\u1018\u1010", "A\u1018\u1010", "A\u1018\u1010", "A\u1018\u1010"},
		{"A\u1030\u1000", "A\u1000\u1030", "\u2000\u1030", "A\u1000\u1030", "\u2000\u1030"},
		{"A\u1038\u1000", "A\u1038\u1000", "A\u1038\u1000", "A\u1038\u1000", "A\u1038\u1000"},
		{"A\u0620\u1000", "A\u0620\u1000", "A\u0620\u1000", "A\u0620\u1000", "A\u0620\u1000"},
		{"A\u1000\u1000", "A\u1000\u1000", "\u2000\u1000", "A\u1000\u1000", "\u2000\u1000"},
		{"A\u1000\u1001", "A\u1000\u1001", "\u2000\u1001", "A\u1000\u1001", "\u2000\u1001"},
		{"A\u1010\u1018\u1000", "A\u1010\u1018\u1000", "\u2400\u1018", "A\u1010\u1018\u1000", "\u2400\u1018"},
		{"A\u1010\u1008\u1000", "A\u1010\u1008\u1000", "\u2200\u1008\u1000", "A\u1010\u1008\u1000", "\u2200\u1008\u1000"},
		// A starter is taken right behind a starter alone.
		{"\u0700\u0720", "\u0700\u0720", "\u3000", "\u0700\u0720", "\u3000"},
		{"\u0700\u0720\u0741\u0741", "\u0700\u0720\u0741\u0741", "\u3001\u0741", "\u0700\u0720\u0741\u0741", "\u3001\u0741"},
		{"\u0700\u1028\u0720", "\u0700\u1028\u0720", "\u0700\u1028\u0720", "\u0700\u1028\u0720", "\u0700\u1028\u0720"},
		{"\u3000\u1000\u0741", "\u0700\u0720\u1000\u0741", "\u3000\u1000\u0741", "\u0700\u0720\u1000\u0741", "\u3000\u1000\u0741"},
		{"\u0700\u0700\u0720", "\u0700\u0700\u0720", "\u0700\u3000", "\u0700\u0700\u0720", "\u0700\u3000"},
		{"\u0720\u0741", "\u0720\u0741", "\u0720\u0741", "\u0720\u0741", "\u0720\u0741"},
		// A text that begins with marks has no starter to take them.
		{"\u1000", "\u1000", "\u1000", "\u1000", "\u1000"},
		{"\u1000\u1010A\u1000", "\u1010\u1000A\u1000", "\u1010\u1000\u2000", "\u1010\u1000A\u1000", "\u1010\u1000\u2000"},
		{"\u0630\u0631", "\u0631\u0630", "\u0631\u0630", "\u0631\u0630", "\u0631\u0630"},
		{"A\xFF\u1000", "A\uFFFD\u1000", "A\uFFFD\u1000", "A\uFFFD\u1000", "A\uFFFD\u1000"},
		{"\xE2\x80", "\uFFFD\uFFFD", "\uFFFD\uFFFD", "\uFFFD\uFFFD", "\uFFFD\uFFFD"},
	} {
		isNormalized(t, impl.NormD, row.text, row.d)
		isNormalized(t, impl.NormC, row.text, row.c)
		isNormalized(t, impl.NormKD, row.text, row.kd)
		isNormalized(t, impl.NormKC, row.text, row.kc)
	}
}

func TestNormalFormsOfAllPoints(t *testing.T) {
	for _, form := range normForms() {
		for p := int64(0); p <= impl.LastKnown+1; p++ {
			isNormalized(t, form, writtenBytes(p), textWritten(plainNormal(form, []int64{p})...))
		}
		for _, p := range append([]int64{impl.Broken}, normEdges()...) {
			isNormalized(t, form, "A"+writtenBytes(p)+"\u1000", textWritten(plainNormal(form, []int64{'A', p, 0x1000})...))
		}
	}
}

// eachOrder hands on all orders of the points.
func eachOrder(points []int64, at int, look func(points []int64)) {
	if at == len(points) {
		look(points)
		return
	}
	for i := at; i < len(points); i++ {
		points[at], points[i] = points[i], points[at]
		eachOrder(points, at+1, look)
		points[at], points[i] = points[i], points[at]
	}
}

func TestMarksInAllOrders(t *testing.T) {
	sets := [][]int64{
		{0x1000, 0x1010, 0x1020, 0x1028, 0x1030, 0x630},
		{0x1000, 0x1001, 0x1010, 0x1011, 0x631},
		{0x1008, 0x1000, 0x1018, 0x1010, 0x1030},
		{'A', 0x1010, 0x1000, 0x1038, 0x1001},
		{0x2000, 0x1010, 0x700, 0x720, 0x741},
	}
	for _, marks := range sets {
		eachOrder(marks, 0, func(points []int64) {
			text := textWritten(points...)
			for _, form := range normForms() {
				isNormalized(t, form, text, plainNormalText(form, text))
				isNormalized(t, form, "A"+text+"b", plainNormalText(form, "A"+text+"b"))
			}
		})
	}
	// Those of one class stay as they stood, however many they are.
	isNormalized(t, impl.NormD, "a\u1003\u1001\u1030\u1002\u1010\u1001", "a\u1010\u1003\u1001\u1002\u1001\u1030")
	var many, sorted []int64
	for n := range int64(3000) {
		many = append(many, 0x1000+n%16, 0x1010+n*7%16)
	}
	for _, class := range []int64{220, 230} {
		for _, p := range many {
			if impl.MarkClass(p) == class {
				sorted = append(sorted, p)
			}
		}
	}
	isNormalized(t, impl.NormKD, textWritten(many...), textWritten(sorted...))
}

// TestNormalForms holds promise 9's first half.
func TestNormalForms(t *testing.T) {
	eachText(func(text string) {
		for _, form := range normForms() {
			want := plainNormalText(form, text)
			isNormalized(t, form, text, want)
			isNormalized(t, form, want, want)
			if !impl.IsNormal(form, want) || impl.IsNormal(form, text) != (text == want) {
				t.Errorf("form %d of %+q: normal %t, its form %t", form, text, impl.IsNormal(form, text), impl.IsNormal(form, want))
			}
		}
		isNormalized(t, impl.NormC, impl.Normalize(impl.NormD, text), impl.Normalize(impl.NormC, text))
		isNormalized(t, impl.NormD, impl.Normalize(impl.NormC, text), impl.Normalize(impl.NormD, text))
		isNormalized(t, impl.NormKD, impl.Normalize(impl.NormC, text), impl.Normalize(impl.NormKD, text))
		isNormalized(t, impl.NormKD, impl.Normalize(impl.NormKC, text), impl.Normalize(impl.NormKD, text))
	})
}

// TestFormsOfEquivalentTexts holds promise 9's second half.
func TestFormsOfEquivalentTexts(t *testing.T) {
	texts := []string{}
	for _, p := range normAlphabet() {
		texts = append(texts, writtenBytes(p))
		for _, q := range normAlphabet() {
			texts = append(texts, writtenBytes(p)+writtenBytes(q))
		}
	}
	for _, tail := range []string{"\u1000\u1010", "\u1010\u1000", "\u1000", "\u1001\u1010", "\u1020\u1000", "\u1000\u1020", "\u1000\u1008", "\u1008\u1000"} {
		texts = append(texts, "A"+tail, "\u2000"+tail, "\u2200"+tail, "\u2600"+tail)
	}
	plain, forms := make([]string, len(texts)), make([][5]string, len(texts))
	for i, text := range texts {
		plain[i] = plainNormalText(impl.NormD, text)
		for _, form := range normForms() {
			forms[i][form] = impl.Normalize(form, text)
		}
	}
	for i, a := range texts {
		for j, b := range texts {
			same, loose := plain[i] == plain[j], forms[i][impl.NormKD] == forms[j][impl.NormKD]
			if impl.Equivalent(a, b) != same {
				t.Errorf("%+q and %+q: got %t", a, b, !same)
			}
			if (forms[i][impl.NormD] == forms[j][impl.NormD]) != same || (forms[i][impl.NormC] == forms[j][impl.NormC]) != same {
				t.Errorf("%+q and %+q: equivalent %t, but for their normal forms", a, b, same)
			}
			if (forms[i][impl.NormKC] == forms[j][impl.NormKC]) != loose || same && !loose {
				t.Errorf("%+q and %+q: KD the same %t, but for KC", a, b, loose)
			}
		}
	}
}

func TestEquivalentByHand(t *testing.T) {
	for _, row := range []struct {
		a, b string
		want bool
	}{
		{"", "", true}, {"", "a", false}, {"\u2000", "A\u1000", true}, {"\u2600", "A", true}, {"\u2700", "A", false}, {"\u00A0", " ", false},
		{"\u2731", "fi", false}, {"\u2400", "\u2000\u1010", true}, {"\u2400", "A\u1000\u1010", true}, {"\u2401", "A\u1011\u1000", true},
		{"A\u1000\u1001", "A\u1001\u1000", false}, {"\u3001", "\u0700\u0720\u0741", true}, {"\u3001", "\u3000\u0741", true},
		{"\xFF", "\uFFFD", true}, {"\xFF", "\xFE", true}, {"\xFF", "\xFF\xFF", false}, {"a", "a\x00", false}, {"a", "A", false},
	} {
		if impl.Equivalent(row.a, row.b) != row.want || impl.Equivalent(row.b, row.a) != row.want {
			t.Errorf("%+q and %+q: want %t", row.a, row.b, row.want)
		}
	}
}

func TestEquivalentOfLongTexts(t *testing.T) {
	most := strings.Repeat("a", impl.MaxBytes)
	long := most + "a"
	if !impl.Equivalent(most, most) {
		t.Errorf("a text of MaxBytes bytes is not equivalent to itself")
	}
	if impl.Equivalent(long, long) || impl.Equivalent(long, "") || impl.Equivalent("", long) || impl.Equivalent(most, long) || impl.Equivalent(long, most) {
		t.Errorf("a text that is too long is equivalent to one")
	}
	// D of these is longer than MaxBytes: that is on the way, and has no bound.
	many := strings.Repeat("\u2400", impl.MaxBytes/3)
	other := strings.Repeat("\u2200\u1000", impl.MaxBytes/6)
	if !impl.Equivalent(many, many) || !impl.Equivalent(many[:len(other)/2], other) {
		t.Errorf("long texts with a longer D are not equivalent")
	}
	if impl.Equivalent(many, many[:len(many)-3]) || impl.Equivalent(many[:len(many)-3]+"\u2401", many) || impl.Equivalent(many, "") {
		t.Errorf("long texts with a longer D are equivalent, though they end otherwise")
	}
}

func TestSizesOfNormalForms(t *testing.T) {
	third := impl.MaxBytes / 3
	for _, row := range []struct {
		form int64
		text string
		size int
	}{
		{1, strings.Repeat("a", impl.MaxBytes), impl.MaxBytes}, {2, strings.Repeat("a", impl.MaxBytes), impl.MaxBytes},
		{3, strings.Repeat("a", impl.MaxBytes), impl.MaxBytes}, {4, strings.Repeat("a", impl.MaxBytes), impl.MaxBytes},
		{1, strings.Repeat("\u2000", impl.MaxBytes/4), impl.MaxBytes}, {1, strings.Repeat("\u2000", impl.MaxBytes/4) + "a", 0},
		{3, strings.Repeat("\u2000", impl.MaxBytes/4), impl.MaxBytes}, {3, strings.Repeat("\u2000", impl.MaxBytes/4) + "a", 0},
		{2, strings.Repeat("\u2000", third) + "a", 3*third + 1}, {4, strings.Repeat("\u2000", third) + "a", 3*third + 1},
		{2, strings.Repeat("\u2400", third) + "a", 3*third + 1}, {1, strings.Repeat("\u2400", third), 0},
		{2, strings.Repeat("\u3001", third) + "a", 3*third + 1}, {1, strings.Repeat("\u3001", third/2), 6 * (third / 2)},
		{2, strings.Repeat("\xFF", third) + "a", 3*third + 1}, {2, strings.Repeat("\xFF", third) + "ab", 0}, {1, strings.Repeat("\xFF", impl.MaxBytes), 0},
		{2, strings.Repeat("\u2600", third) + "a", third + 1}, {1, strings.Repeat("\u2731", third), 3 * third}, {3, strings.Repeat("\u2731", third), 2 * third},
		{2, "A" + strings.Repeat("\u1000\u1010", impl.MaxBytes/6), 3 + 3*(2*(impl.MaxBytes/6)-2)},
		{1, strings.Repeat("\u0630\u0631", impl.MaxBytes/4), impl.MaxBytes}, {4, strings.Repeat("\u0720", impl.MaxBytes/2), impl.MaxBytes},
	} {
		if got := impl.Normalize(row.form, row.text); len(got) != row.size {
			t.Errorf("form %d, %d bytes of %+q ..: got %d bytes, want %d", row.form, len(row.text), row.text[:3], len(got), row.size)
		}
	}
	for _, form := range normForms() {
		isNormalized(t, form, strings.Repeat("a", impl.MaxBytes+1), "")
		isNormalized(t, form, strings.Repeat("\u2600", third+1), "")
	}
}

func TestFormsThatAreNone(t *testing.T) {
	for _, form := range noNorms() {
		for _, text := range []string{"", "a", "\u2000", "A\u1000", "\xFF", strings.Repeat("a", impl.MaxBytes+1)} {
			isNormalized(t, form, text, "")
			if impl.QuickCheck(form, text) != 0 || impl.IsNormal(form, text) || impl.JoinNormal(form, text, "a") != "" || impl.JoinNormal(form, "a", text) != "" {
				t.Errorf("form %d, which is none, of %d bytes: quick %d, normal %t", form, len(text), impl.QuickCheck(form, text), impl.IsNormal(form, text))
			}
		}
		n := impl.Normer{Form: form}
		isNumber(t, "normer of a form that is none", form, impl.NormerFault(n), impl.ErrForm)
		isNormerOut(t, n, "a", impl.FeedNormer(n, "a"), impl.NormerOut{Code: impl.ErrForm})
		isNormerOut(t, n, "", impl.EndNormer(n), impl.NormerOut{Code: impl.ErrForm})
	}
}

func isQuick(t *testing.T, text string, wants ...int64) {
	t.Helper()
	for i, form := range normForms() {
		if got := impl.QuickCheck(form, text); got != wants[i] {
			t.Errorf("quick check of %+q in form %d: got %d, want %d", text, form, got, wants[i])
		}
	}
}

func TestQuickCheckByHand(t *testing.T) {
	const yes, no, maybe = impl.CheckYes, impl.CheckNo, impl.CheckMaybe
	isQuick(t, "", yes, yes, yes, yes)
	isQuick(t, "ab", yes, yes, yes, yes)
	isQuick(t, "fist", yes, yes, yes, yes)
	isQuick(t, "\uFFFD", yes, yes, yes, yes)
	for _, broken := range []string{"\xFF", "a\xE2\x80", "\xED\xA0\x80", "\xC1\x81", "\u1000\x80", "abc\xC2"} {
		isQuick(t, broken, no, no, no, no)
	}
	isQuick(t, "A\u1000\u1010", no, no, no, no)
	isQuick(t, "A\u1030\u1008", no, no, no, no)
	isQuick(t, "\u1020\u0630", no, no, no, no)
	isQuick(t, "\u1008\u1018", no, no, no, no)
	isQuick(t, "A\u1018\u1008\u1030", yes, yes, yes, yes)
	isQuick(t, "A\u1008\u1008", yes, yes, yes, yes)
	isQuick(t, "A\u1008\u1038\u1018", yes, yes, yes, yes)
	isQuick(t, "A\u1008b\u1018", yes, yes, yes, yes)
	isQuick(t, "\u2000", no, yes, no, yes)
	isQuick(t, "\u2400", no, yes, no, yes)
	isQuick(t, "\u3000", no, yes, no, yes)
	isQuick(t, "\u3001", no, yes, no, yes)
	isQuick(t, "\u5BA3", no, yes, no, yes)
	isQuick(t, "\u2600", no, no, no, no)
	for _, loose := range []string{"\u2700", "\u2719", "\u2720", "\u2729", "\u2730", "\u2733", "\u00A0", "\u1F80"} {
		isQuick(t, loose, yes, yes, no, no)
		isQuick(t, loose+"\u1000", yes, maybe, no, no)
	}
	for _, second := range []string{"\u1000", "\u1007", "\u1010", "\u1017", "\u0720", "\u0734", "\u0741", "\u075B"} {
		isQuick(t, second, yes, maybe, yes, maybe)
		isQuick(t, "a"+second, yes, maybe, yes, maybe)
		isQuick(t, second+"\u2600", no, no, no, no)
	}
	for _, beside := range []string{"\u0FFF", "\u1008", "\u100F", "\u1018", "\u071F", "\u0735", "\u0740", "\u075C", "\u0700", "\u1020", "A"} {
		isQuick(t, beside, yes, yes, yes, yes)
	}
	isQuick(t, strings.Repeat("a", impl.MaxBytes), yes, yes, yes, yes)
	isQuick(t, strings.Repeat("a", impl.MaxBytes+1), 0, 0, 0, 0)
	isQuick(t, strings.Repeat("\xFF", impl.MaxBytes+1), 0, 0, 0, 0)
	isQuick(t, strings.Repeat("\u3001", impl.MaxBytes/3), no, yes, no, yes)
}

// TestQuickCheckIsRight holds promise 10.
func TestQuickCheckIsRight(t *testing.T) {
	look := func(text string) {
		for _, form := range normForms() {
			got := impl.QuickCheck(form, text)
			if want := plainQuick(form, text); got != want {
				t.Errorf("quick check of %+q in form %d: got %d, want %d", text, form, got, want)
			}
			normal := plainNormalText(form, text) == text && impl.IsNormal(form, text)
			if got == impl.CheckYes && !normal || got == impl.CheckNo && normal {
				t.Errorf("quick check of %+q in form %d: got %d, normal %t", text, form, got, normal)
			}
		}
	}
	eachText(look)
	for p := int64(0); p <= impl.LastKnown; p++ {
		look(writtenBytes(p))
	}
	for _, a := range edgeBytes() {
		for _, b := range edgeBytes() {
			look(string([]byte{a, b}))
		}
	}
}

func TestIsNormalByHand(t *testing.T) {
	for _, form := range normForms() {
		for _, text := range []string{"", "a", "\uFFFD", "\u1010\u1000", strings.Repeat("a", impl.MaxBytes)} {
			if !impl.IsNormal(form, text) {
				t.Errorf("form %d: %d bytes are not normal", form, len(text))
			}
		}
		for _, text := range []string{"\xFF", "\xE2\x80", "a\xC2", "\u1000\u1010", "\u2600", strings.Repeat("a", impl.MaxBytes+1), strings.Repeat("\xFF", impl.MaxBytes)} {
			if impl.IsNormal(form, text) {
				t.Errorf("form %d: %d bytes are normal", form, len(text))
			}
		}
	}
	// Its normal form is too long for an answer: it is not the empty text for that.
	if impl.IsNormal(impl.NormD, strings.Repeat("\u2000", impl.MaxBytes/3)) {
		t.Errorf("a text whose D is too long is normal")
	}
}

func isJoined(t *testing.T, form int64, a string, b string, want string) {
	t.Helper()
	if got := impl.JoinNormal(form, a, b); got != want {
		t.Errorf("form %d of %+q and %+q: got %+q, want %+q", form, a, b, got, want)
	}
}

func TestJoinByHand(t *testing.T) {
	for _, form := range normForms() {
		isJoined(t, form, "", "", "")
		isJoined(t, form, "a", "", "a")
		isJoined(t, form, "", "b", "b")
		isJoined(t, form, "ab", "cd", "abcd")
		isJoined(t, form, "a\u1030", "\u1008", "a\u1008\u1030")
		isJoined(t, form, "a\u1018\u1030", "\u1028\u1008b", "a\u1028\u1018\u1008\u1030b")
		isJoined(t, form, "\u2600", "a", "")
		isJoined(t, form, "a", "\u2600", "")
		isJoined(t, form, "\u1008\u1018", "a", "")
		isJoined(t, form, "a", "\u1008\u1018", "")
		isJoined(t, form, "a\xFF", "b", "")
		isJoined(t, form, "a", "\xFF", "")
		isJoined(t, form, "\xC2", "\x80", "")
		isJoined(t, form, "a", strings.Repeat("b", impl.MaxBytes+1), "")
		isJoined(t, form, strings.Repeat("b", impl.MaxBytes+1), "", "")
	}
	for _, form := range []int64{impl.NormC, impl.NormKC} {
		isJoined(t, form, "A", "\u1000", "\u2000")
		isJoined(t, form, "\u2000", "\u1010", "\u2400")
		isJoined(t, form, "\u2200", "\u1000b", "\u2400b")
		isJoined(t, form, "A\u1020", "\u1000", "\u2000\u1020")
		isJoined(t, form, "A\u1008", "\u1000", "A\u1008\u1000")
		isJoined(t, form, "\u0700", "\u0720\u0741", "\u3001")
		isJoined(t, form, "\u3000", "\u0741", "\u3001")
		isJoined(t, form, "A\u1000", "b", "")
		isJoined(t, form, "b", "A\u1000", "")
	}
	isJoined(t, impl.NormD, "A", "\u1000", "A\u1000")
	isJoined(t, impl.NormD, "\u2000", "a", "")
	isJoined(t, impl.NormKC, "\u2731", "a", "")
	isJoined(t, impl.NormC, "\u2731", "a", "\u2731a")
}

// TestJoinedForms holds promise 11.
func TestJoinedForms(t *testing.T) {
	texts := []string{}
	eachText(func(text string) {
		if len([]rune(text)) <= 2 {
			texts = append(texts, text)
		}
	})
	r := rand.New(rand.NewSource(11))
	for range 40000 {
		a, b := texts[r.Intn(len(texts))], texts[r.Intn(len(texts))]
		if r.Intn(3) == 0 {
			a = randomNormText(r, normAlphabet(), 8)
		}
		form := normForms()[r.Intn(4)]
		if r.Intn(4) > 0 {
			a, b = plainNormalText(form, a), plainNormalText(form, b)
		}
		want := ""
		if plainNormalText(form, a) == a && plainNormalText(form, b) == b {
			want = plainNormalText(form, a+b)
		}
		isJoined(t, form, a, b, want)
	}
}

func TestSizesOfJoin(t *testing.T) {
	half := strings.Repeat("a", impl.MaxBytes/2)
	for _, form := range normForms() {
		if got := impl.JoinNormal(form, half, half); len(got) != impl.MaxBytes {
			t.Errorf("form %d, both halves: got %d bytes", form, len(got))
		}
		if got := impl.JoinNormal(form, half, half+"a"); got != "" {
			t.Errorf("form %d, one byte more: got %d bytes", form, len(got))
		}
	}
	// Both together have one byte too many; their normal form has not.
	a := strings.Repeat("a", impl.MaxBytes-4) + "A"
	if got := impl.JoinNormal(impl.NormC, a, "\u1000b"); len(got) != impl.MaxBytes || !strings.HasSuffix(got, "a\u2000b") {
		t.Errorf("a join that is shorter than its sides: got %d bytes", len(got))
	}
	if got := impl.JoinNormal(impl.NormC, a, "\u1000bb"); got != "" {
		t.Errorf("a join that is too long: got %d bytes", len(got))
	}
	if got := impl.JoinNormal(impl.NormD, a, "\u1000b"); got != "" {
		t.Errorf("a join in D that is too long: got %d bytes", len(got))
	}
}

func isNormerOut(t *testing.T, n impl.Normer, text string, got impl.NormerOut, want impl.NormerOut) {
	t.Helper()
	if got != want {
		show := func(out impl.NormerOut) string {
			return fmt.Sprintf("code %d, form %d, %d bytes held: %.40q, %d bytes told: %.40q",
				out.Code, out.Normer.Form, len(out.Normer.Held), out.Normer.Held, len(out.Text), out.Text)
		}
		t.Errorf("form %d, held %d bytes: %.40q, fed %d bytes: %.40q: got %s, want %s",
			n.Form, len(n.Held), n.Held, len(text), text, show(got), show(want))
	}
}

func TestNormerFaults(t *testing.T) {
	for _, form := range normForms() {
		for _, held := range []string{
			"", "a", "\u1000", "a\u1000", "A\u1000\u1000", "\u1000\u1010", "a\u1030\u1000", "\u3000\u0741", "\u0720\u0741", "\u2600\u1000", "\u2000", "\uFFFD\u1000",
			"\u0700\u0720", "\u2731\u1008", strings.Repeat("\u1000", 333), "a" + strings.Repeat("\u1000", 333), "\u0631" + strings.Repeat("\u0630", 499),
		} {
			n := impl.Normer{Form: form, Held: held}
			isNumber(t, "normer that is right, form", form, impl.NormerFault(n), 0)
			isNormerOut(t, n, "", impl.FeedNormer(n, ""), impl.NormerOut{Normer: n})
		}
		for _, held := range []string{
			"ab", "a\u1000b", "\u1000a", "\u1000\u2000", "a\u2000", "\u1000\u1038", "a\u0620", "a\u0740", "a\u075C", "\u0720\u0700", "\u0741\u3000", "a\uFFFD",
			"\xFF", "a\xE2\x80", "\u1000\x80", "\xC2", "ab\xFF",
			"a" + strings.Repeat("\u0630", 500), strings.Repeat("\u0630", 500) + "a", "\u2000" + strings.Repeat("\u1000", 333), strings.Repeat("\u0631", 501),
			strings.Repeat("\u0631", 40000),
		} {
			n := impl.Normer{Form: form, Held: held}
			isNumber(t, "normer that is wrong, form", form, impl.NormerFault(n), impl.ErrForm)
			isNormerOut(t, n, "a", impl.FeedNormer(n, "a"), impl.NormerOut{Code: impl.ErrForm})
			isNormerOut(t, n, "", impl.FeedNormer(n, ""), impl.NormerOut{Code: impl.ErrForm})
			isNormerOut(t, n, "", impl.EndNormer(n), impl.NormerOut{Code: impl.ErrForm})
		}
	}
}

func TestSafePoints(t *testing.T) {
	for _, form := range normForms() {
		for p := int64(0); p <= impl.LastKnown+1; p++ {
			n := impl.Normer{Form: form, Held: "a" + writtenBytes(p)}
			want := int64(impl.OK)
			if plainSafe(form, p) {
				want = impl.ErrForm
			}
			isNumber(t, "fault of a normer that holds a, form and a point", form<<16+p, impl.NormerFault(n), want)
		}
	}
}

func TestFeedNormerByHand(t *testing.T) {
	const c = impl.NormC
	for _, row := range []struct{ held, text, told, left string }{
		{"", "", "", ""}, {"", "a", "", "a"}, {"", "ab", "a", "b"}, {"", "abc", "ab", "c"}, {"a", "", "", "a"}, {"a", "b", "a", "b"},
		{"A", "\u1000", "", "A\u1000"}, {"A\u1000", "\u1010", "", "A\u1000\u1010"}, {"A\u1000\u1010", "b", "\u2400", "b"},
		{"", "\u1000", "", "\u1000"}, {"\u1000", "\u1010", "", "\u1000\u1010"}, {"\u1000\u1010", "A", "\u1010\u1000", "A"},
		{"\u0700", "\u0720", "", "\u0700\u0720"}, {"\u0700\u0720", "\u0741a", "\u3001", "a"}, {"\u3000", "\u0741\u0700", "\u3001", "\u0700"},
		{"", "A\u1000\u2600\u1000", "\u2000", "\u2600\u1000"}, {"\u2600\u1000", "\xFF", "\u2000", "\uFFFD"}, {"", "\xE2\x80", "\uFFFD", "\uFFFD"},
		{"", "a\xE2", "a", "\uFFFD"}, {"\uFFFD", "\x80\x80", "\uFFFD\uFFFD", "\uFFFD"}, {"a", "\u1038", "a", "\u1038"}, {"", "a\u1000b\u1010c\u1020", "\u20D0\u22D8", "c\u1020"},
	} {
		n := impl.Normer{Form: c, Held: row.held}
		isNormerOut(t, n, row.text, impl.FeedNormer(n, row.text), impl.NormerOut{Normer: impl.Normer{Form: c, Held: row.left}, Text: row.told})
	}
}

func TestEndNormerByHand(t *testing.T) {
	for _, row := range []struct {
		form       int64
		held, told string
	}{
		{1, "", ""}, {2, "", ""}, {3, "", ""}, {4, "", ""}, {2, "a", "a"}, {1, "\u2000\u1010", "A\u1010\u1000"}, {2, "A\u1000\u1010", "\u2400"},
		{2, "\u1000\u1010", "\u1010\u1000"}, {3, "\u2731\u1000", "fi\u1000"}, {4, "\u2731\u1000", "f\u2110"}, {2, "\u0700\u0720\u0741", "\u3001"},
		{1, "\u2400" + strings.Repeat("\u1000", 332), "A\u1010" + strings.Repeat("\u1000", 333)},
	} {
		n := impl.Normer{Form: row.form, Held: row.held}
		isNormerOut(t, n, "", impl.EndNormer(n), impl.NormerOut{Normer: impl.Normer{Form: row.form}, Text: row.told})
	}
}

func TestFaultsOfFeedNormer(t *testing.T) {
	long := strings.Repeat("a", impl.MaxBytes+1)
	marks := strings.Repeat("\u0630", impl.MaxHeld/2)
	right, wrong := impl.Normer{Form: impl.NormD}, impl.Normer{Form: impl.NormD, Held: "ab"}
	code := func(n impl.Normer, text string, want int64) {
		t.Helper()
		isNormerOut(t, n, text, impl.FeedNormer(n, text), impl.NormerOut{Code: want})
	}
	// A text that is too long is looked for ahead of all else.
	code(right, long, impl.ErrSize)
	code(wrong, long, impl.ErrSize)
	code(impl.Normer{}, long, impl.ErrSize)
	code(wrong, long[1:], impl.ErrForm)
	code(wrong, strings.Repeat("\u2000", impl.MaxBytes/3), impl.ErrForm)
	code(wrong, marks+marks, impl.ErrForm)
	// What is told may be too long, what is held may be, or both.
	code(right, strings.Repeat("\u2000", impl.MaxBytes/3), impl.ErrSize)
	code(right, strings.Repeat("\u2000", 21000)+"b"+marks+marks, impl.ErrSize)
	code(right, "ab"+marks, impl.ErrLimit)
	code(right, marks+"\u0631", impl.ErrLimit)
	code(impl.Normer{Form: 1, Held: marks}, "\u0631", impl.ErrLimit)
	code(impl.Normer{Form: 1, Held: "a" + marks[2:]}, "\u0631", impl.ErrLimit)
	code(right, strings.Repeat("\u0741", impl.MaxBytes/2), impl.ErrLimit)
}

func TestSizesOfFeedNormer(t *testing.T) {
	marks := strings.Repeat("\u0630", impl.MaxHeld/2)
	fits := func(n impl.Normer, text string, told int, held int) {
		t.Helper()
		got := impl.FeedNormer(n, text)
		if got.Code != impl.OK || got.Normer.Form != n.Form || len(got.Text) != told || len(got.Normer.Held) != held {
			t.Errorf("%d bytes held, %d bytes fed: got code %d, %d bytes told, %d held", len(n.Held), len(text), got.Code, len(got.Text), len(got.Normer.Held))
		}
	}
	right := impl.Normer{Form: impl.NormD}
	fits(right, marks, 0, impl.MaxHeld)
	fits(right, "a\u0720"+marks[4:], 0, impl.MaxHeld-1)
	fits(right, "ba"+marks[2:], 1, impl.MaxHeld-1)
	fits(right, strings.Repeat("a", impl.MaxBytes), impl.MaxBytes-1, 1)
	fits(impl.Normer{Form: 1, Held: "a"}, strings.Repeat("a", impl.MaxBytes), impl.MaxBytes, 1)
	fits(impl.Normer{Form: 1, Held: "a" + marks[2:]}, strings.Repeat("a", impl.MaxBytes-1000), impl.MaxBytes-2, 1)
	fits(impl.Normer{Form: 1, Held: marks}, strings.Repeat("a", impl.MaxBytes-1000+1), impl.MaxBytes, 1)
	fits(right, strings.Repeat("\u2000", impl.MaxBytes/4)+"b", impl.MaxBytes, 1)
	isNormerOut(t, right, "one more", impl.FeedNormer(right, strings.Repeat("\u2000", impl.MaxBytes/4)+"bb"), impl.NormerOut{Code: impl.ErrSize})
	isNormerOut(t, right, "two more", impl.FeedNormer(impl.Normer{Form: 1, Held: "a"}, strings.Repeat("a", impl.MaxBytes-4)+"\u2000b"), impl.NormerOut{Code: impl.ErrSize})
	// A and its two marks are 7 bytes, and 3 when they are one.
	fits(impl.Normer{Form: 2, Held: "A"}, "\u1000\u1010"+strings.Repeat("a", impl.MaxBytes-6), 3+impl.MaxBytes-7, 1)
}

// fedNormer feeds pieces to a new normer, ends it, and tells all that it told.
func fedNormer(t *testing.T, form int64, pieces []string) string {
	t.Helper()
	n := impl.Normer{Form: form}
	var all strings.Builder
	for _, piece := range pieces {
		out := impl.FeedNormer(n, piece)
		isNormerOut(t, n, piece, out, plainFed(n, piece))
		if impl.NormerFault(out.Normer) != 0 {
			t.Fatalf("form %d, %+q: the normer is not right behind %+q: %+q", form, pieces, piece, out.Normer.Held)
		}
		n = out.Normer
		all.WriteString(out.Text)
	}
	out := impl.EndNormer(n)
	isNormerOut(t, n, "", out, impl.NormerOut{Normer: impl.Normer{Form: form}, Text: plainNormalText(form, n.Held)})
	return all.String() + out.Text
}

func isFedToNormer(t *testing.T, form int64, pieces ...string) {
	t.Helper()
	want := plainNormalText(form, strings.Join(pieces, ""))
	if got := fedNormer(t, form, pieces); got != want {
		t.Errorf("form %d, %+q: got %+q, want %+q", form, pieces, got, want)
	}
}

// TestFedTextsOfAnyCut holds promise 12: each text is cut between its points in all ways.
func TestFedTextsOfAnyCut(t *testing.T) {
	texts := []string{"", "a", "abc", "A\u1000\u1010b", "\u1000\u1010A", "\u0700\u0720\u0741", "\u2000\u1010\u2600", "\u2731\u1000f", "a\uFFFD\u1000", "\u1038\u1000"}
	r := rand.New(rand.NewSource(12))
	for range 60 {
		texts = append(texts, randomNormText(r, normAlphabet(), 7))
	}
	for _, text := range texts {
		points := strings.Split(text, "")
		for _, form := range normForms() {
			for cuts := range 1 << max(len(points)-1, 0) {
				pieces := []string{""}
				for at, point := range points {
					pieces[len(pieces)-1] += point
					if cuts>>at&1 == 1 {
						pieces = append(pieces, "")
					}
				}
				isFedToNormer(t, form, pieces...)
			}
		}
	}
}

func TestFedTextsOfAllPoints(t *testing.T) {
	for _, form := range normForms() {
		pieces := []string{}
		for p := int64(0); p <= impl.LastKnown; p += 3 {
			piece := ""
			for _, q := range []int64{p, p + 1, p + 2} {
				piece += writtenBytes(q) + "\u1001\u1010"
			}
			pieces = append(pieces, piece[:len(piece)-3], piece[len(piece)-3:], "")
		}
		told := fedNormer(t, form, pieces)
		want := []int64{}
		// The rows of marks are short, so that each piece can be made by itself from starter to starter.
		for _, run := range runsFromSafe(form, readPlainly(strings.Join(pieces, ""))) {
			want = append(want, plainNormal(form, run)...)
		}
		if told != textWritten(want...) {
			t.Errorf("form %d: all points fed come to %d bytes, not to their normal form", form, len(told))
		}
	}
}

// runsFromSafe cuts points ahead of each safe one.
func runsFromSafe(form int64, points []int64) [][]int64 {
	runs := [][]int64{nil}
	for _, p := range points {
		if plainSafe(form, p) {
			runs = append(runs, nil)
		}
		runs[len(runs)-1] = append(runs[len(runs)-1], p)
	}
	return runs
}

func TestPiecesThatAreNotWellWritten(t *testing.T) {
	// Each piece's points are read by themselves: a point that is cut is none.
	for _, form := range normForms() {
		all := ""
		n := impl.Normer{Form: form}
		for _, piece := range []string{"a\xE2", "\x80\x80", "\xFF", "b\u1000\xC2"} {
			out := impl.FeedNormer(n, piece)
			isNormerOut(t, n, piece, out, plainFed(n, piece))
			n, all = out.Normer, all+out.Text
		}
		all += impl.EndNormer(n).Text
		want := plainNormalText(form, "a\uFFFD\uFFFD\uFFFD\uFFFDb\u1000\uFFFD")
		if all != want {
			t.Errorf("form %d: got %+q, want %+q", form, all, want)
		}
	}
}
