package tests

import (
	"fmt"
	"math"
	"math/rand"
	"slices"
	"strings"
	"testing"

	"loop.example/g00044/impl"
)

// shapeNames are the points by which the rows of this file are told: K to N are consonants of script 6, e and
// E vowels that go ahead, o and O such that stay, s the stroke, d the dot, p and u points beside these rows; 0
// to 3 are letters of script 5 by what is left of them modulo 4, j is the joiner and m a mark.
var shapeNames = map[rune]int64{
	'K': 0x600, 'L': 0x601, 'M': 0x61E, 'N': 0x61F, 'e': 0x620, 'E': 0x62A, 'o': 0x621, 'O': 0x62B,
	's': 0x630, 'd': 0x631, 'p': 0x5FF, 'u': 0x62C, '0': 0x500, '1': 0x501, '2': 0x502, '3': 0x503, 'j': 0x1F00, 'm': 0x1000,
}

func shapeNamed(row string) []int64 {
	points := []int64{}
	for _, name := range row {
		p, found := shapeNames[name]
		if !found {
			p = int64(name)
		}
		points = append(points, p)
	}
	return points
}

func shapeText(row string) string {
	return textWritten(shapeNamed(row)...)
}

func isDrawnOver(p int64) bool {
	return p >= 0x620 && p <= 0x62B || p == 0x630 || p == 0x631 || p >= 0x1000 && p <= 0x103F
}

func isScript5(p int64) bool {
	return p >= 0x500 && p <= 0x51F
}

func plainJoinsTo(p int64) int64 {
	if isDrawnOver(p) {
		return -1
	}
	if p == 0x1F00 {
		return 3
	}
	if isScript5(p) {
		return []int64{3, 2, 3, 0}[(p-0x500)%4]
	}
	return 0
}

func joinedPlainly(left int64, right int64) bool {
	return plainJoinsTo(left) == 3 && plainJoinsTo(right) >= 2
}

// plainForms asks each letter for the points beside it.
func plainForms(points []int64) []int64 {
	forms := make([]int64, len(points))
	for at, p := range points {
		if !isScript5(p) {
			continue
		}
		ahead, behind := slices.DeleteFunc(slices.Clone(points[:at]), isDrawnOver), slices.DeleteFunc(slices.Clone(points[at+1:]), isDrawnOver)
		toAhead := len(ahead) > 0 && joinedPlainly(ahead[len(ahead)-1], p)
		toBehind := len(behind) > 0 && joinedPlainly(p, behind[0])
		forms[at] = map[[2]bool]int64{{false, true}: 1, {true, true}: 2, {true, false}: 3}[[2]bool{toAhead, toBehind}]
	}
	return forms
}

func isForms(t *testing.T, text string, want []int64) {
	t.Helper()
	if got := impl.FormsOf(text); !slices.Equal(got, want) {
		t.Errorf("FormsOf of %+q: got %d, want %d", text, got, want)
	}
}

func TestNumbersOfShapeForms(t *testing.T) {
	got := []int64{impl.FormAlone, impl.FormFirst, impl.FormMiddle, impl.FormLast}
	if want := []int64{0, 1, 2, 3}; !slices.Equal(got, want) {
		t.Errorf("numbers: got %d, want %d", got, want)
	}
}

func isJoining(t *testing.T, p int64, want int64) {
	t.Helper()
	if got := impl.JoinsTo(p); got != want {
		t.Errorf("JoinsTo of U+%X: got %d, want %d", p, got, want)
	}
}

func TestJoinsByHand(t *testing.T) {
	rows := map[int64][]int64{
		3:  {0x500, 0x502, 0x504, 0x51C, 0x51E, 0x1F00},
		2:  {0x501, 0x505, 0x519, 0x51D},
		0:  {0x503, 0x507, 0x51B, 0x51F, 0x4FF, 0x4FC, 0x520, 0x521, 0x550, 0x551, 0x559, 0x54F, 0x55A, 0x1EFF, 0x1F01, 0x1F02, 0x1F11, 0x1F12, 0, 'a', ' ', '0', 0x600, 0x61F, 0x62C, 0x62F, 0x632, 0x650, 0xFFF, 0x1040, 0x1E40, 0x1E44, 0xFFFD, impl.MaxPoint},
		-1: {0x620, 0x62B, 0x630, 0x631, 0x1000, 0x1003, 0x103F},
	}
	for want, points := range rows {
		for _, p := range points {
			isJoining(t, p, want)
		}
	}
}

func TestJoinsOfAllPoints(t *testing.T) {
	for _, p := range allPoints() {
		isJoining(t, p, plainJoinsTo(p))
	}
}

func TestJoinsOfWhatIsNone(t *testing.T) {
	for _, p := range []int64{-1, -2, -3, -4, 0x500 - 1<<32, 0x500 + 1<<32, 0x1F00 + 1<<32, 0x1000 + 1<<16, 0xD800, 0xDFFF, impl.MaxPoint + 1, math.MinInt64, math.MaxInt64} {
		isJoining(t, p, 0)
	}
}

func TestFormsByHand(t *testing.T) {
	rows := [][2]string{
		{"", ""}, {"0", "0"}, {"1", "0"}, {"3", "0"}, {"j", "0"}, {"m", "0"}, {"a", "0"},
		{"00", "1 3"}, {"01", "1 3"}, {"02", "1 3"}, {"03", "0 0"}, {"0j", "1 0"}, {"0a", "0 0"}, {"0m", "0 0"},
		{"10", "0 0"}, {"11", "0 0"}, {"12", "0 0"}, {"13", "0 0"}, {"1j", "0 0"}, {"1a", "0 0"}, {"1m", "0 0"},
		{"20", "1 3"}, {"21", "1 3"}, {"22", "1 3"}, {"23", "0 0"}, {"2j", "1 0"}, {"2a", "0 0"},
		{"30", "0 0"}, {"31", "0 0"}, {"32", "0 0"}, {"33", "0 0"}, {"3j", "0 0"}, {"3a", "0 0"},
		{"j0", "0 3"}, {"j1", "0 3"}, {"j2", "0 3"}, {"j3", "0 0"}, {"jj", "0 0"}, {"ja", "0 0"},
		{"a0", "0 0"}, {"a1", "0 0"}, {"aj", "0 0"}, {"m0", "0 0"},
		{"021", "1 2 3"}, {"000", "1 2 3"}, {"0000", "1 2 2 3"}, {"010", "1 3 0"}, {"0100", "1 3 1 3"}, {"030", "0 0 0"}, {"003", "1 3 0"}, {"0a0", "0 0 0"}, {"0 0", "0 0 0"},
		{"0m0", "1 0 3"}, {"0m1", "1 0 3"}, {"0m3", "0 0 0"}, {"1m0", "0 0 0"}, {"0mm0", "1 0 0 3"}, {"0mesdom0", "1 0 0 0 0 0 0 3"}, {"m00", "0 1 3"}, {"00m", "1 3 0"}, {"mm0m0mm", "0 0 1 0 3 0 0"}, {"0m0m0", "1 0 2 0 3"}, {"mm", "0 0"}, {"0ma0", "0 0 0 0"}, {"0am0", "0 0 0 0"},
		{"0j0", "1 0 3"}, {"0j1", "1 0 3"}, {"1j1", "0 0 3"}, {"1j0", "0 0 3"}, {"0j3", "1 0 0"}, {"3j1", "0 0 3"}, {"3j3", "0 0 0"}, {"aj1", "0 0 3"}, {"0ja", "1 0 0"}, {"j0j", "0 2 0"}, {"j1j", "0 3 0"}, {"j3j", "0 0 0"}, {"0jj0", "1 0 0 3"}, {"0mjm0", "1 0 0 0 3"}, {"jm0mj", "0 0 2 0 0"}, {"j00j", "0 2 2 0"},
	}
	for _, row := range rows {
		isForms(t, shapeText(row[0]), numbersOf(row[1]))
	}
	isForms(t, "\u0500\U00010500", []int64{0, 0})
	isForms(t, "\u0500\u0550\u0500", []int64{0, 0, 0})
	isForms(t, "\u0500\u0520\u0500\u04FC\u0500", []int64{0, 0, 0, 0, 0})
	isForms(t, "\u0500\u1F01\u0500", []int64{0, 0, 0})
	isForms(t, "\u051C\u051E\u051D\u051F", []int64{1, 2, 3, 0})
	isForms(t, "\u0500\xFF\u0500\xD4\u0500\u0502", []int64{0, 0, 0, 0, 1, 3})
}

// shapeAlphabet has a point of each kind of this chapter.
func shapeAlphabet() []int64 {
	return shapeNamed("0123jmaKLeEosd xu\n")
}

func eachJoiningText(look func(text string)) {
	for count := range 6 {
		eachCutRow(shapeNamed("0123jma"), count, look)
	}
	eachRandomText(101, 1500, shapeNamed("012300jmsa\u0505\u0506\u0550"), look)
}

func TestFormsOfTexts(t *testing.T) {
	eachJoiningText(func(text string) { isForms(t, text, plainForms(readPlainly(text))) })
}

// TestFormsOfAllPoints has each point between two letters, behind both of them and ahead of both.
func TestFormsOfAllPoints(t *testing.T) {
	for _, p := range allPoints() {
		points := []int64{0x500, p, 0x500, 0x501, p, p, 0x502}
		isForms(t, textWritten(points...), plainForms(points))
	}
}

// TestLettersAreJoinedOnBothSides is the twenty-third promise.
func TestLettersAreJoinedOnBothSides(t *testing.T) {
	toBehind := func(form int64) bool { return form == impl.FormFirst || form == impl.FormMiddle }
	toAhead := func(form int64) bool { return form == impl.FormLast || form == impl.FormMiddle }
	eachJoiningText(func(text string) {
		points, forms := impl.PointsOf(text), impl.FormsOf(text)
		if len(forms) != len(points) {
			t.Errorf("%+q has %d forms of %d points", text, len(forms), len(points))
			return
		}
		last, form := int64(0), int64(impl.FormAlone)
		for at, p := range append(points, 0) {
			next := int64(impl.FormAlone)
			if at < len(forms) {
				next = forms[at]
			}
			if impl.JoinsTo(p) == -1 {
				continue
			}
			left, right := toBehind(form), toAhead(next)
			if last == 0x1F00 {
				left = impl.JoinsTo(p) >= 2 && p != 0x1F00
			}
			if p == 0x1F00 {
				right = impl.JoinsTo(last) == 3 && last != 0x1F00
			}
			if left != right {
				t.Errorf("%+q: U+%X and U+%X are joined on one side, by the forms %d", text, last, p, forms)
			}
			last, form = p, next
		}
	})
}

// plainGlyphs moves the vowels one by one, each by going back as the chapter says.
func plainGlyphs(text string) []impl.Glyph {
	points, cuts, places := readPlainly(text), plainCharCuts(text), placesPlainly(text)
	forms := plainForms(points)
	glyphs := []impl.Glyph{}
	for at, p := range points {
		begun := slices.DeleteFunc(slices.Clone(cuts), func(cut int64) bool { return cut > places[at] })
		glyphs = append(glyphs, impl.Glyph{Id: p, Form: forms[at], Cluster: begun[len(begun)-1]})
	}
	for at := range glyphs {
		glyph := glyphs[at]
		if glyph.Id < 0x620 || glyph.Id > 0x62B || glyph.Id%2 == 1 {
			continue
		}
		if to := placeAheadPlainly(glyphs, at); to >= 0 {
			glyphs = slices.Insert(slices.Delete(glyphs, at, at+1), to, glyph)
		}
	}
	return glyphs
}

// placeAheadPlainly is the last consonant that is found by going back from a place, -1 without one.
func placeAheadPlainly(glyphs []impl.Glyph, from int) int {
	at := from - 1
	for at >= 0 && (glyphs[at].Id == 0x630 || glyphs[at].Id == 0x631) {
		at--
	}
	if at < 0 || glyphs[at].Id < 0x600 || glyphs[at].Id > 0x61F {
		return -1
	}
	bound := at - 1
	for bound >= 0 && glyphs[bound].Id == 0x631 {
		bound--
	}
	if bound >= 0 && glyphs[bound].Id == 0x630 {
		if further := placeAheadPlainly(glyphs, bound); further >= 0 {
			return further
		}
	}
	return at
}

func isGlyphs(t *testing.T, what string, given any, got []impl.Glyph, want []impl.Glyph) {
	t.Helper()
	if !slices.Equal(got, want) {
		t.Errorf("%s of %+q: got %v, want %v", what, given, got, want)
	}
}

func isOrderOfGlyphs(t *testing.T, row string, want string) {
	t.Helper()
	ids := []int64{}
	for _, glyph := range impl.GlyphsOf(shapeText(row)) {
		ids = append(ids, glyph.Id)
	}
	if !slices.Equal(ids, shapeNamed(want)) {
		t.Errorf("GlyphsOf of %s: got %X, want %s", row, ids, want)
	}
}

func TestVowelsByHand(t *testing.T) {
	rows := []string{
		"", "", "e", "e", "K", "K", "s", "s", "d", "d", "o", "o", "abc", "abc",
		"Ke", "eK", "KE", "EK", "Ko", "Ko", "KO", "KO", "Ku", "Ku", "Ne", "eN", "Me", "eM", "pe", "pe", "ue", "ue", "xe", "xe",
		"xKe", "xeK", "Kxe", "Kxe", "K e", "K e", "K\ne", "K\ne", "Kme", "Kme", "Kje", "Kje", "eK", "eK", "ee", "ee", "Kex", "eKx",
		"Kse", "eKs", "Kde", "eKd", "Ksde", "eKsd", "Kdse", "eKds", "Kddssdse", "eKddssds",
		"se", "se", "de", "de", "sde", "sde", "xse", "xse", "xde", "xde", "ose", "ose", "Kxse", "Kxse",
		"sKe", "seK", "dKe", "deK", "sdKe", "sdeK", "xsKe", "xseK", "sKse", "seKs", "xsdKde", "xsdeKd",
		"KLe", "KeL", "KsLe", "eKsL", "KdLe", "KdeL", "KddLe", "KddeL", "KsdLe", "eKsdL", "KdsLe", "eKdsL", "KdsdLe", "eKdsdL", "KssLe", "eKssL", "KsddsdLe", "eKsddsdL",
		"KsLse", "eKsLs", "KsLde", "eKsLd", "KdLse", "KdeLs",
		"KsLsMe", "eKsLsM", "KLsMe", "KeLsM", "KsLMe", "KsLeM", "KdLsMe", "KdeLsM", "KsLdMe", "KsLdeM", "KsdLdsMsdNe", "eKsdLdsMsdN", "KsLsMNe", "KsLsMeN", "sKsLe", "seKsL", "xsdKsLse", "xsdeKsLs", "KxsLe", "KxseL",
		"KosLe", "KoseL", "KsoLe", "KsoeL", "KsxLe", "KsxeL", "KusLe", "KuseL", "psLe", "pseL", "KmsLe", "KmseL", "KsmLe", "KsmeL",
		"KeE", "eEK", "KEe", "EeK", "KeEe", "eEeK", "KseE", "eEKs", "KesE", "eEKs", "KedE", "eEKd", "KeoE", "eKoE", "KoeE", "KoeE", "KeOE", "eKOE", "KexE", "eKxE", "eKE", "eEK", "esKE", "esEK",
		"KeLE", "eKEL", "KesLE", "eEKsL", "KseLE", "eEKsL", "KedLE", "eKdEL", "KdeLE", "eKdEL", "KedsLE", "eEKdsL", "KsedLE", "eEKsdL", "KesLsEMe", "eEeKsLsM", "KsLesME", "eEKsLsM", "LeKsE", "eLEKs", "xKeeLE", "xeeKEL", "KsLeMseNE", "eKsLeEMsN",
	}
	for i := 0; i < len(rows); i += 2 {
		isOrderOfGlyphs(t, rows[i], rows[i+1])
	}
	for p := int64(0x61F); p <= 0x62C; p++ {
		want := []int64{0x600, p}
		if p >= 0x620 && p <= 0x62B && p%2 == 0 {
			slices.Reverse(want)
		}
		for at, glyph := range impl.GlyphsOf(textWritten(0x600, p)) {
			isNumber(t, "the glyphs of U+600 and", p, glyph.Id, want[at])
		}
	}
}

// glyphRow has glyphs by their names, each with its cluster behind it.
func glyphRow(row string) []impl.Glyph {
	glyphs := []impl.Glyph{}
	for _, item := range strings.Fields(row) {
		name, numbers, _ := strings.Cut(item, ":")
		told := numbersOf(strings.ReplaceAll(numbers+"/0", "/", " "))
		glyphs = append(glyphs, impl.Glyph{Id: shapeNamed(name)[0], Cluster: told[0], Form: told[1]})
	}
	return glyphs
}

func TestClustersByHand(t *testing.T) {
	rows := map[string]string{
		"":                                 "",
		"a":                                "a:0",
		"abc":                              "a:0 b:1 c:2",
		"amb":                              "a:0 m:0 b:4",
		"ammjb":                            "a:0 m:0 m:0 j:0 b:10",
		"m":                                "m:0",
		"mma":                              "m:0 m:0 a:6",
		"Ke":                               "e:0 K:0",
		"xKe":                              "x:0 e:1 K:1",
		"KLe":                              "K:0 e:2 L:2",
		"KsLe":                             "e:0 K:0 s:0 L:0",
		"KdLe":                             "K:0 d:0 e:4 L:4",
		"sKe":                              "s:0 e:0 K:0",
		"xKseLE":                           "x:0 e:1 E:7 K:1 s:1 L:7",
		"KeLE":                             "e:0 K:0 E:4 L:4",
		"Koe":                              "K:0 o:0 e:0",
		"00":                               "0:0/1 0:2/3",
		"0m0":                              "0:0/1 m:0 0:5/3",
		"a0m21":                            "a:0 0:1/1 m:1 2:6/2 1:8/3",
		"0j1":                              "0:0/1 j:0 1:5/3",
		"0Ke1":                             "0:0 e:2 K:2 1:6",
		"02e1":                             "0:0/1 2:2/2 e:2 1:6/3",
		"\u1E00ja":                         "\u1E00:0 j:0 a:6",
		"\u0700\u0720\u0741\u0700":         "\u0700:0 \u0720:0 \u0741:0 \u0700:6",
		"\u1E50\u1E51\u1E52":               "\u1E50:0 \u1E51:0 \u1E52:6",
		"\u1E00\u1E40\u1F00\u1E01\u1E44":   "\u1E00:0 \u1E40:0 \u1F00:0 \u1E01:0 \u1E44:0",
		"\U00010FFF\u1001\u1002\U0010FFFF": "\U00010FFF:0 \u1001:0 \u1002:0 \U0010FFFF:10",
	}
	for row, want := range rows {
		text := shapeText(row)
		isGlyphs(t, "GlyphsOf", text, impl.GlyphsOf(text), glyphRow(want))
	}
	isGlyphs(t, "GlyphsOf", "line ends", impl.GlyphsOf("a\r\n\u1000"), []impl.Glyph{{Id: 'a'}, {Id: 13, Cluster: 1}, {Id: 10, Cluster: 1}, {Id: 0x1000, Cluster: 3}})
	isGlyphs(t, "GlyphsOf", "broken bytes", impl.GlyphsOf("\xFF\u1000\xE1\x80a\xD4"), []impl.Glyph{{Id: impl.Broken}, {Id: 0x1000}, {Id: impl.Broken, Cluster: 4}, {Id: impl.Broken, Cluster: 5}, {Id: 'a', Cluster: 6}, {Id: impl.Broken, Cluster: 7}})
	isGlyphs(t, "GlyphsOf", "broken vowels", impl.GlyphsOf("\u0600\xD8\u0620"), []impl.Glyph{{Id: 0x600}, {Id: impl.Broken, Cluster: 2}, {Id: 0x620, Cluster: 2}})
}

// eachVowelText hands on rows in which each consonant and each vowel is another one, so that none stands for
// another unseen.
func eachVowelText(look func(text string)) {
	for count := range 7 {
		eachCutRow(shapeNamed("Keosdx"), count, func(text string) {
			points := readPlainly(text)
			for at, p := range points {
				if p == 0x600 || p == 0x620 {
					points[at] += 2 * int64(at)
				}
			}
			look(textWritten(points...))
		})
	}
	eachCutRow(shapeNamed("Kesd"), 7, look)
	eachRandomText(102, 1500, shapeNamed("KLMNeEosssd"), look)
	eachRandomText(103, 1000, shapeAlphabet(), look)
}

func TestGlyphsOfTexts(t *testing.T) {
	eachVowelText(func(text string) { isGlyphs(t, "GlyphsOf", text, impl.GlyphsOf(text), plainGlyphs(text)) })
}

func TestGlyphsOfAllPoints(t *testing.T) {
	for _, p := range allPoints()[:impl.LastKnown+2] {
		for _, text := range []string{textWritten(0x600, p, 0x620), textWritten(0x600, 0x630, p, 0x620), textWritten(p, 0x630, 0x600, 0x622, 0x500, p, 0x501)} {
			isGlyphs(t, "GlyphsOf", text, impl.GlyphsOf(text), plainGlyphs(text))
		}
	}
}

// TestGlyphsBeginWhereCharactersDo is the first half of the twenty-fourth promise.
func TestGlyphsBeginWhereCharactersDo(t *testing.T) {
	holds := func(text string) {
		starts := impl.CharCuts(text)
		if len(starts) > 0 {
			starts = starts[:len(starts)-1]
		}
		var clusters, ids []int64
		for _, glyph := range impl.GlyphsOf(text) {
			clusters, ids = append(clusters, glyph.Cluster), append(ids, glyph.Id)
		}
		points := impl.PointsOf(text)
		slices.Sort(clusters)
		slices.Sort(ids)
		slices.Sort(points)
		if !slices.Equal(slices.Compact(clusters), starts) || !slices.Equal(ids, points) {
			t.Errorf("%+q: the glyphs %X begin at %d, the characters at %d", text, ids, clusters, starts)
		}
	}
	eachVowelText(holds)
	eachJoiningText(holds)
	eachRandomText(104, 500, cutAlphabet(), holds)
}

// ruleOf reads a rule: what is ahead, its input and what is behind, with | between, and behind > what is put.
func ruleOf(row string) impl.ShapeRule {
	sides, put, _ := strings.Cut(row, ">")
	parts := strings.Split(sides, "|")
	if len(parts) == 1 {
		parts = []string{"", sides, ""}
	}
	return impl.ShapeRule{Ahead: shapeNamed(parts[0]), Input: shapeNamed(parts[1]), Behind: shapeNamed(parts[2]), Put: shapeNamed(put)}
}

func rulesOf(row string) []impl.ShapeRule {
	var rules []impl.ShapeRule
	for _, item := range strings.Fields(row) {
		rules = append(rules, ruleOf(item))
	}
	return rules
}

func glyphIds(glyphs []impl.Glyph) []int64 {
	ids := []int64{}
	for _, glyph := range glyphs {
		ids = append(ids, glyph.Id)
	}
	return ids
}

// plainRule writes over one row in its place, step by step.
func plainRule(rule impl.ShapeRule, glyphs []impl.Glyph) []impl.Glyph {
	row := slices.Clone(glyphs)
	for at := 0; at < len(row); {
		end := at + len(rule.Input)
		ahead, behind := at-len(rule.Ahead), end+len(rule.Behind)
		context := slices.Concat(rule.Ahead, rule.Input, rule.Behind)
		if ahead < 0 || behind > len(row) || !slices.Equal(glyphIds(row[ahead:behind]), context) {
			at++
			continue
		}
		put := []impl.Glyph{}
		for _, id := range rule.Put {
			put = append(put, impl.Glyph{Id: id, Form: row[at].Form, Cluster: row[at].Cluster})
		}
		row = slices.Replace(row, at, end, put...)
		at += len(put)
	}
	return row
}

// plainRuled tells, too, whether there are at most MaxList glyphs behind each rule.
func plainRuled(rules []impl.ShapeRule, glyphs []impl.Glyph) ([]impl.Glyph, bool) {
	for _, rule := range rules {
		glyphs = plainRule(rule, glyphs)
		if len(glyphs) > impl.MaxList {
			return nil, false
		}
	}
	return glyphs, true
}

func TestRulesByHand(t *testing.T) {
	rows := [][3]string{
		{"", "abc", "abc"}, {"", "", ""}, {"ab>x", "", ""},
		{"ab>x", "abc", "xc"}, {"ab>x", "cab", "cx"}, {"ab>x", "ab", "x"}, {"ab>x", "abab", "xx"}, {"ab>x", "cabcabc", "cxcxc"}, {"ab>x", "a", "a"}, {"ab>x", "b", "b"}, {"ab>x", "ba", "ba"}, {"ab>x", "aab", "ax"}, {"ab>x", "abb", "xb"}, {"ab>x", "acb", "acb"},
		{"aa>x", "aaa", "xa"}, {"aa>x", "aaaa", "xx"}, {"aba>x", "ababa", "xba"}, {"aab>x", "aaab", "ax"},
		{"a>aa", "aa", "aaaa"}, {"ab>a", "abb", "ab"}, {"ab>ba", "abb", "bab"}, {"ba>ab", "bba", "bab"}, {"a>a", "aba", "aba"}, {"ab>aab", "ab", "aab"},
		{"x|a|>x", "xaaa", "xxxx"}, {"x|a|>x", "axa", "axx"}, {"a|a|>b", "aaa", "aba"}, {"a|b|>a", "abbb", "aaaa"}, {"b|a|>b", "aba", "abb"}, {"xy|a|>xy", "xyaa", "xyxyxy"}, {"yx|a|>xyx", "yxaa", "yxxyxxyx"},
		{"ab|c|>x", "abc", "abx"}, {"ab|c|>x", "bc", "bc"}, {"ab|c|>x", "c", "c"}, {"ab|c|>x", "aabc", "aabx"}, {"ab|c|>x", "bbc", "bbc"}, {"ab|c|>x", "acc", "acc"}, {"b|c|>x", "abc", "abx"}, {"ba|c|>x", "abc", "abc"}, {"a|c|>x", "abc", "abc"}, {"abca|b|>x", "abcab", "abcax"}, {"abca|b|>x", "bcab", "bcab"},
		{"|a|b>x", "ab", "xb"}, {"|a|b>x", "aab", "axb"}, {"|a|b>x", "a", "a"}, {"|a|b>x", "ba", "ba"}, {"|a|a>x", "aaa", "xxa"}, {"|a|a>b", "aaa", "bba"}, {"|a|bc>x", "abc", "xbc"}, {"|a|bc>x", "ab", "ab"}, {"|a|bc>x", "abb", "abb"}, {"|a|bc>x", "acb", "acb"}, {"|ab|ab>x", "ababab", "xxab"}, {"|a|bcab>x", "abcab", "xbcab"}, {"|a|bcab>x", "abca", "abca"}, {"|a|c>x", "abc", "abc"},
		{"a|b|c>x", "abc", "axc"}, {"a|b|c>x", "ab", "ab"}, {"a|b|c>x", "bc", "bc"}, {"a|b|c>x", "abcabc", "axcaxc"}, {"a|b|c>x", "abbc", "abbc"}, {"a|b|b>a", "abbb", "aaab"}, {"a|b|a>", "ababa", "aaa"}, {"a|ba|b>", "ababab", "ab"},
		{"ab>", "ab", ""}, {"ab>", "abab", ""}, {"ab>", "cabc", "cc"}, {"ab>", "aabb", "ab"}, {"x|a|>", "xaab", "xb"}, {"|a|b>", "aab", "ab"}, {"a>", "aaa", ""}, {"a>bcd", "aa", "bcdbcd"}, {"a>abcdefgh", "xa", "xabcdefgh"}, {"abcdefgh>x", "abcdefghabcdefg", "xabcdefg"},
		{"a>b b>c", "ab", "cc"}, {"b>c a>b", "ab", "bc"}, {"ab> ab>", "aabb", ""}, {"ab>x ab>y", "abab", "xx"}, {"a>x |x|x>y", "aab", "yxb"}, {"a>b b>a", "abab", "aaaa"}, {"a> b|c|>x", "bac", "bx"}, {"b|c|>x a>", "bac", "bc"}, {"x|a|>b b|a|>c c|a|>d", "xaaa", "xbcd"},
	}
	for _, row := range rows {
		got := glyphIds(impl.ApplyRules(rulesOf(row[0]), impl.GlyphsOf(shapeText(row[1]))))
		if !slices.Equal(got, shapeNamed(row[2])) {
			t.Errorf("%s, %s: got %X, want %s", row[0], row[1], got, row[2])
		}
	}
}

// TestGlyphsThatArePut has glyphs that no text gives, to tell what is kept from what is worked out.
func TestGlyphsThatArePut(t *testing.T) {
	a, b, c := impl.Glyph{Id: 'a', Form: 3, Cluster: 7, X: 5, Width: 9}, impl.Glyph{Id: 'b', Form: 1, Cluster: 4, X: -6, Width: 8}, impl.Glyph{Id: 'c', Form: -9, Cluster: -3, X: 1 << 40, Width: -1}
	x, y, z := impl.Glyph{Id: 'x', Form: 3, Cluster: 7}, impl.Glyph{Id: 'y', Form: 3, Cluster: 7}, impl.Glyph{Id: 'z', Form: 1, Cluster: 4}
	rows := []struct {
		rules string
		given []impl.Glyph
		want  []impl.Glyph
	}{
		{"", []impl.Glyph{a, b, c}, []impl.Glyph{a, b, c}},
		{"q>r", []impl.Glyph{a, b, c}, []impl.Glyph{a, b, c}},
		{"ab>xy", []impl.Glyph{a, b, c}, []impl.Glyph{x, y, c}},
		{"ab>x", []impl.Glyph{c, a, b, a}, []impl.Glyph{c, x, a}},
		{"a|b|c>z", []impl.Glyph{a, b, c}, []impl.Glyph{a, z, c}},
		{"abc>yx", []impl.Glyph{a, b, c}, []impl.Glyph{y, x}},
		{"ba>zz", []impl.Glyph{b, a}, []impl.Glyph{z, z}},
		{"ab>q q>xy", []impl.Glyph{a, b, c}, []impl.Glyph{x, y, c}},
		{"a>a", []impl.Glyph{a, b}, []impl.Glyph{{Id: 'a', Form: 3, Cluster: 7}, b}},
	}
	for _, row := range rows {
		isGlyphs(t, "ApplyRules", row.rules, impl.ApplyRules(rulesOf(row.rules), row.given), row.want)
	}
	far := []impl.Glyph{{Id: -1}, {Id: math.MaxInt64, Form: 2}, {Id: math.MinInt64}, {Id: 1000001}, {Id: 1000000, Cluster: 3}, {Id: 0}}
	rules := []impl.ShapeRule{{Input: []int64{1000000, 0}, Put: []int64{0, 1000000}}}
	isGlyphs(t, "ApplyRules", "far Ids", impl.ApplyRules(rules, far), append(slices.Clone(far[:4]), impl.Glyph{Cluster: 3}, impl.Glyph{Id: 1000000, Cluster: 3}))
	joined := impl.ApplyRules(rulesOf("02>xy"), impl.GlyphsOf(shapeText("a021")))
	isGlyphs(t, "ApplyRules", "letters that are joined", joined, []impl.Glyph{{Id: 'a'}, {Id: 'x', Cluster: 1, Form: 1}, {Id: 'y', Cluster: 1, Form: 1}, {Id: 0x501, Cluster: 5, Form: 3}})
}

func isRuledPlainly(t *testing.T, rules []impl.ShapeRule, glyphs []impl.Glyph) {
	t.Helper()
	want, _ := plainRuled(rules, glyphs)
	if got := impl.ApplyRules(rules, glyphs); !slices.Equal(got, want) {
		t.Errorf("ApplyRules of %v and %v: got %v, want %v", rules, glyphs, got, want)
	}
}

// numberedGlyphs are glyphs of which each has another Cluster and Form.
func numberedGlyphs(row string) []impl.Glyph {
	glyphs := []impl.Glyph{}
	for at, id := range shapeNamed(row) {
		glyphs = append(glyphs, impl.Glyph{Id: id, Cluster: int64(at), Form: int64(at) % 4, X: 7, Width: int64(at) + 9})
	}
	return glyphs
}

func TestRulesOfRows(t *testing.T) {
	rows := []string{}
	for count := range 7 {
		eachCutRow([]int64{'a', 'b'}, count, func(text string) { rows = append(rows, text) })
	}
	for _, ahead := range []string{"", "a", "b", "ab", "aa"} {
		for _, input := range []string{"a", "b", "ab", "aa", "bab"} {
			for _, behind := range []string{"", "a", "b", "ba"} {
				for _, put := range []string{"", "a", "b", "ab", "bba"} {
					rules := rulesOf(ahead + "|" + input + "|" + behind + ">" + put)
					for _, row := range rows {
						isRuledPlainly(t, rules, numberedGlyphs(row))
					}
				}
			}
		}
	}
}

func randomRow(r *rand.Rand, least int, most int) string {
	row := ""
	for range least + r.Intn(most-least+1) {
		row += string("aaabbc"[r.Intn(6)])
	}
	return row
}

func randomRules(r *rand.Rand, most int) []impl.ShapeRule {
	var rules []impl.ShapeRule
	for range r.Intn(most + 1) {
		rules = append(rules, ruleOf(randomRow(r, 0, 2)+"|"+randomRow(r, 1, 3)+"|"+randomRow(r, 0, 2)+">"+randomRow(r, 0, 3)))
	}
	return rules
}

func TestRulesOneBehindTheOther(t *testing.T) {
	r := rand.New(rand.NewSource(105))
	for range 20000 {
		isRuledPlainly(t, randomRules(r, 5), numberedGlyphs(randomRow(r, 0, 20)))
	}
}

// TestRulesThatKeepTheNumber is the second half of the twenty-fourth promise.
func TestRulesThatKeepTheNumber(t *testing.T) {
	r := rand.New(rand.NewSource(106))
	for range 5000 {
		rules := randomRules(r, 6)
		for at := range rules {
			rules[at].Put = shapeNamed(randomRow(r, len(rules[at].Input), len(rules[at].Input)))
		}
		text := randomRow(r, 0, 30)
		if got := impl.ApplyRules(rules, impl.GlyphsOf(text)); len(got) != len(text) {
			t.Errorf("%v: %s has %d glyphs", rules, text, len(got))
		}
		if got := impl.Shape(impl.Font{Rules: rules}, text); got.Code != impl.OK || len(got.Glyphs) != len(text) {
			t.Errorf("%v: %s is shaped to %d glyphs, code %d", rules, text, len(got.Glyphs), got.Code)
		}
	}
}

func repeatedRules(count int) []impl.ShapeRule {
	return slices.Repeat([]impl.ShapeRule{ruleOf("a>b")}, count)
}

// risingKerns rise by Left and by Right.
func risingKerns(count int) []impl.Kern {
	kerns := []impl.Kern{}
	for i := range int64(count) {
		kerns = append(kerns, impl.Kern{Left: i / 3, Right: i % 3, By: i})
	}
	return kerns
}

func fontOfRule(rule impl.ShapeRule) impl.Font {
	return impl.Font{Rules: []impl.ShapeRule{ruleOf("a>b"), rule}}
}

func fontOfKerns(rows ...[3]int64) impl.Font {
	var f impl.Font
	for _, row := range rows {
		f.Kerns = append(f.Kerns, impl.Kern{Left: row[0], Right: row[1], By: row[2]})
	}
	return f
}

func rightFonts() map[string]impl.Font {
	ids := func(count int) []int64 { return make([]int64, count) }
	one := []int64{7}
	return map[string]impl.Font{
		"none of all":           {},
		"empty lists":           {Wide: []impl.Span{}, Anchors: []impl.Span{}, Rules: []impl.ShapeRule{}, Kerns: []impl.Kern{}},
		"Width 1":               {Width: 1},
		"Width 1000":            {Width: 1000},
		"Wide of 0 and 1000":    {Wide: spansFrom(spanRow{0, 5, 0}, spanRow{6, 6, 1000}, spanRow{impl.LastKnown, impl.LastKnown, 1})},
		"Anchors at the bounds": {Anchors: spansFrom(spanRow{0, 5, -1000}, spanRow{6, impl.LastKnown, 1000})},
		"100 rules":             {Rules: repeatedRules(100)},
		"Input of 1":            fontOfRule(impl.ShapeRule{Input: one}),
		"Input of 8":            fontOfRule(impl.ShapeRule{Input: ids(8)}),
		"Ahead of 4":            fontOfRule(impl.ShapeRule{Input: one, Ahead: ids(4)}),
		"Behind of 4":           fontOfRule(impl.ShapeRule{Input: one, Behind: ids(4)}),
		"Put of 8":              fontOfRule(impl.ShapeRule{Input: one, Put: ids(8)}),
		"Ids of 10^6":           fontOfRule(impl.ShapeRule{Input: []int64{0, 1000000}, Ahead: []int64{1000000, 0}, Behind: []int64{1000000}, Put: []int64{1000000}}),
		"a rule of all":         fontOfRule(impl.ShapeRule{Input: ids(8), Ahead: ids(4), Behind: ids(4), Put: ids(8)}),
		"200 kerns":             {Kerns: risingKerns(200)},
		"one Left":              fontOfKerns(spanRow{5, 1, 0}, spanRow{5, 2, 0}, spanRow{5, 9, 0}),
		"one Right":             fontOfKerns(spanRow{1, 5, 0}, spanRow{2, 5, 0}, spanRow{9, 5, 0}),
		"Left rises":            fontOfKerns(spanRow{1, 5, 0}, spanRow{2, 4, 0}, spanRow{3, 0, 0}),
		"By at the bounds":      fontOfKerns(spanRow{1, 1, -1000}, spanRow{1, 2, 1000}),
		"kerns of any numbers":  fontOfKerns(spanRow{math.MinInt64, 5, 1}, spanRow{-1, -1, 1}, spanRow{0, math.MaxInt64, 1}, spanRow{1000001, 0, 1}, spanRow{math.MaxInt64, math.MinInt64, 1}),
	}
}

func wrongRules() map[string]impl.ShapeRule {
	one := []int64{7}
	rows := map[string]impl.ShapeRule{
		"no rule at all": {},
		"Input of 0":     {Put: one, Ahead: one, Behind: one},
		"Input of 9":     {Input: make([]int64, 9)},
		"Ahead of 5":     {Input: one, Ahead: make([]int64, 5)},
		"Behind of 5":    {Input: one, Behind: make([]int64, 5)},
		"Put of 9":       {Input: one, Put: make([]int64, 9)},
	}
	for _, id := range []int64{-1, 1000001, math.MinInt64, math.MaxInt64} {
		for _, ids := range [][]int64{{id}, {id, 0}, {0, id}, {7, 1000000, id}} {
			rows[fmt.Sprint("Input ", ids)] = impl.ShapeRule{Input: ids}
			rows[fmt.Sprint("Ahead ", ids)] = impl.ShapeRule{Input: one, Ahead: ids}
			rows[fmt.Sprint("Behind ", ids)] = impl.ShapeRule{Input: one, Behind: ids}
			rows[fmt.Sprint("Put ", ids)] = impl.ShapeRule{Input: one, Put: ids}
		}
	}
	return rows
}

func wrongFonts() map[string]impl.Font {
	rows := map[string]impl.Font{
		"Width -1":              {Width: -1},
		"Width 1001":            {Width: 1001},
		"Width far below":       {Width: math.MinInt64},
		"Width far above":       {Width: math.MaxInt64},
		"101 rules":             {Rules: repeatedRules(101)},
		"1001 rules":            {Rules: repeatedRules(1001)},
		"201 kerns":             {Kerns: risingKerns(201)},
		"kerns alike":           fontOfKerns(spanRow{1, 2, 3}, spanRow{1, 2, 4}),
		"the same kern":         fontOfKerns(spanRow{1, 2, 3}, spanRow{1, 2, 3}),
		"kerns alike, later":    fontOfKerns(spanRow{1, 1, 3}, spanRow{1, 2, 3}, spanRow{1, 2, 3}),
		"Left falls":            fontOfKerns(spanRow{2, 1, 0}, spanRow{1, 2, 0}),
		"Left falls, Right not": fontOfKerns(spanRow{2, 1, 0}, spanRow{1, 1, 0}),
		"Right falls":           fontOfKerns(spanRow{1, 2, 0}, spanRow{1, 1, 0}),
		"far numbers fall":      fontOfKerns(spanRow{math.MaxInt64, 0, 0}, spanRow{math.MinInt64, 0, 0}),
		"By -1001":              fontOfKerns(spanRow{1, 1, -1001}),
		"By 1001":               fontOfKerns(spanRow{1, 1, 0}, spanRow{1, 2, 1001}),
		"By far below":          fontOfKerns(spanRow{1, 1, math.MinInt64}),
	}
	for what, rule := range wrongRules() {
		rows[what] = fontOfRule(rule)
		rows[what+", alone"] = impl.Font{Rules: []impl.ShapeRule{rule}}
		rows[what+", first"] = impl.Font{Rules: []impl.ShapeRule{rule, ruleOf("a>b")}}
	}
	for what, spans := range wrongSpans() {
		rows["Wide: "+what], rows["Anchors: "+what] = impl.Font{Wide: spans}, impl.Font{Anchors: spans}
	}
	for _, value := range []int64{-1, -1000, 1001, math.MinInt64, math.MaxInt64} {
		rows[fmt.Sprint("Wide of ", value)] = impl.Font{Wide: spansFrom(spanRow{0, 5, value})}
		rows[fmt.Sprint("Wide of a later ", value)] = impl.Font{Wide: spansFrom(spanRow{0, 5, 5}, spanRow{6, 8, value})}
	}
	for _, value := range []int64{-1001, 1001, math.MinInt64, math.MaxInt64} {
		rows[fmt.Sprint("Anchors of ", value)] = impl.Font{Anchors: spansFrom(spanRow{0, 5, value})}
		rows[fmt.Sprint("Anchors of a later ", value)] = impl.Font{Anchors: spansFrom(spanRow{0, 5, 5}, spanRow{6, 8, value})}
	}
	return rows
}

func isFault(t *testing.T, what string, f impl.Font, want int64) {
	t.Helper()
	if got := impl.FontFault(f); got != want {
		t.Errorf("FontFault, %s: got %d, want %d", what, got, want)
	}
	if got := impl.Shape(f, "a"); got.Code != want || (len(got.Glyphs) == 1) != (want == impl.OK) || want != impl.OK && got.Width != 0 {
		t.Errorf("Shape, %s: got %v, want the code %d", what, got, want)
	}
}

func TestFontFault(t *testing.T) {
	for what, f := range rightFonts() {
		isFault(t, what, f, impl.OK)
	}
	for what, f := range wrongFonts() {
		isFault(t, what, f, impl.ErrForm)
	}
	for what, spans := range rightSpans() {
		measures := slices.Clone(spans)
		for at := range measures {
			measures[at].Value = int64(at)
		}
		isFault(t, "Wide: "+what, impl.Font{Wide: measures}, impl.OK)
		for at := range measures {
			measures[at].Value = -int64(at)
		}
		isFault(t, "Anchors: "+what, impl.Font{Anchors: measures}, impl.OK)
	}
}

func TestFontsWithTwoFaults(t *testing.T) {
	spans, rules, kerns := spansFrom(spanRow{5, 4, 1}), repeatedRules(101), risingKerns(201)
	for _, f := range []impl.Font{{Width: -1, Wide: spans}, {Width: 1001, Rules: rules}, {Wide: spans, Anchors: spans}, {Anchors: spans, Kerns: kerns}, {Rules: rules, Kerns: kerns}, {Width: -1, Wide: spans, Anchors: spans, Rules: rules, Kerns: kerns}} {
		isFault(t, "two faults", f, impl.ErrForm)
	}
}

func TestRulesThatAreNotRight(t *testing.T) {
	glyphs := impl.GlyphsOf("abc")
	for what, rule := range wrongRules() {
		for _, rules := range [][]impl.ShapeRule{{rule}, {ruleOf("a>b"), rule}, {rule, ruleOf("a>b")}} {
			isGlyphs(t, "ApplyRules", what, impl.ApplyRules(rules, glyphs), nil)
		}
	}
	isGlyphs(t, "ApplyRules", "100 rules", impl.ApplyRules(repeatedRules(100), glyphs[:1]), []impl.Glyph{{Id: 'b'}})
	for _, count := range []int{101, 1000, 1001} {
		isGlyphs(t, "ApplyRules", fmt.Sprint(count, " rules"), impl.ApplyRules(repeatedRules(count), glyphs), nil)
	}
}

func plainMeasure(spans []impl.Span, id int64, other int64) int64 {
	for _, span := range spans {
		if id >= span.First && id <= span.Last {
			return span.Value
		}
	}
	return other
}

func plainKern(kerns []impl.Kern, left int64, right int64) int64 {
	for _, kern := range kerns {
		if kern.Left == left && kern.Right == right {
			return kern.By
		}
	}
	return 0
}

// plainX is where the glyph at a place stands, told by the one ahead of it that is no mark.
func plainX(f impl.Font, glyphs []impl.Glyph, at int) int64 {
	ahead := at - 1
	for ahead >= 0 && isDrawnOver(glyphs[ahead].Id) {
		ahead--
	}
	id, x := glyphs[at].Id, int64(0)
	if isDrawnOver(id) {
		x = plainMeasure(f.Anchors, id, 0)
		if ahead >= 0 {
			x += glyphs[ahead].X
		}
		return x
	}
	if ahead >= 0 {
		x = glyphs[ahead].X + glyphs[ahead].Width + plainKern(f.Kerns, glyphs[ahead].Id, id)
	}
	return x
}

// plainShaped is Shape of a font that is right and of a text that is not too long.
func plainShaped(f impl.Font, text string) impl.Shaped {
	glyphs, few := plainRuled(f.Rules, plainGlyphs(text))
	if !few || len(glyphs) > impl.MaxList {
		return impl.Shaped{Code: impl.ErrLimit}
	}
	width := int64(0)
	for at := range glyphs {
		glyphs[at].X = plainX(f, glyphs, at)
		if !isDrawnOver(glyphs[at].Id) {
			glyphs[at].Width = plainMeasure(f.Wide, glyphs[at].Id, f.Width)
			width = glyphs[at].X + glyphs[at].Width
		}
	}
	return impl.Shaped{Glyphs: glyphs, Width: width}
}

func sameShaped(a impl.Shaped, b impl.Shaped) bool {
	return a.Code == b.Code && a.Width == b.Width && slices.Equal(a.Glyphs, b.Glyphs)
}

func isShaped(t *testing.T, f impl.Font, text string, want impl.Shaped) {
	t.Helper()
	if got := impl.Shape(f, text); !sameShaped(got, want) {
		t.Errorf("Shape of %+q by %v: got %v, want %v", text, f, got, want)
	}
}

// measuresOf has of each glyph its X and its Width, and then the Width of all.
func measuresOf(s impl.Shaped) []int64 {
	var told []int64
	for _, glyph := range s.Glyphs {
		told = append(told, glyph.X, glyph.Width)
	}
	return append(told, s.Width)
}

func TestShapedByHand(t *testing.T) {
	wide := spansFrom(spanRow{'b', 'd', 3}, spanRow{'f', 'f', 0}, spanRow{0x1000, 0x1003, 9}, spanRow{'\u2000', '\u2001', 1000})
	anchors := spansFrom(spanRow{'a', 'b', 77}, spanRow{0x620, 0x622, 6}, spanRow{0x1001, 0x1002, -4}, spanRow{0x1004, 0x1004, 1000})
	kerns := []impl.Kern{{Left: -1, Right: 'a', By: 500}, {Left: 'a', Right: 'a', By: -3}, {Left: 'a', Right: 'b', By: 2}, {Left: 'b', Right: 'a', By: -20}, {Left: 'b', Right: 0x1000, By: 600}, {Left: 1000, Right: 'a', By: 9}, {Left: 0x1000, Right: 'b', By: 700}}
	f := impl.Font{Width: 10, Wide: wide, Anchors: anchors, Kerns: kerns}
	rows := [][2]string{
		{"", "0"}, {"a", "0 10 10"}, {"b", "0 3 3"}, {"c", "0 3 3"}, {"d", "0 3 3"}, {"e", "0 10 10"}, {"f", "0 0 0"}, {"g", "0 10 10"}, {"\u2000\u2001\u2002", "0 1000 1000 1000 2000 10 2010"}, {"\u1FFF", "0 10 10"},
		{"bcdef", "0 3 3 3 6 3 9 10 19 0 19"}, {"\xFF", "0 10 10"}, {"\U0010FFFF\U00010062", "0 10 10 10 20"},
		{"\u1000", "0 0 0"}, {"\u1001", "-4 0 0"}, {"\u1004\u1003", "1000 0 0 0 0"}, {"\u1001a", "-4 0 0 10 10"}, {"\u0620", "6 0 0"},
		{"a\u1000", "0 10 0 0 10"}, {"a\u1001", "0 10 -4 0 10"}, {"c\u1004", "0 3 1000 0 3"}, {"cc\u1000\u1001\u1002\u1003\u1004", "0 3 3 3 3 0 -1 0 -1 0 3 0 1003 0 6"}, {"c\u1001c\u1001c", "0 3 -4 0 3 3 -1 0 6 3 9"},
		{"aa", "0 10 7 10 17"}, {"aaa", "0 10 7 10 14 10 24"}, {"ab", "0 10 12 3 15"}, {"ba", "0 3 -17 10 -7"}, {"bb", "0 3 3 3 6"}, {"aba", "0 10 12 3 -5 10 5"}, {"aca", "0 10 10 3 13 10 23"},
		{"a\u1000a", "0 10 0 0 7 10 17"}, {"a\u1001\u1004\u1000b", "0 10 -4 0 1000 0 0 0 12 3 15"}, {"b\u1000b", "0 3 0 0 3 3 6"}, {"\u1000b", "0 0 0 3 3"}, {"\u1000a\u1000a\u1000", "0 0 0 10 0 0 7 10 7 0 17"}, {"ba\u1001", "0 3 -17 10 -21 0 -7"},
		{"\u0600\u0620", "6 0 0 10 10"}, {"a\u0600\u0622\u0631", "0 10 6 0 10 10 10 0 20"}, {"\u0600\u0621", "0 10 6 0 10"}, {"\u0600\u0623", "0 10 0 0 10"}, {"a\u1F00a\u1E40", "0 10 10 10 20 10 30 10 40"},
	}
	for _, row := range rows {
		got := impl.Shape(f, row[0])
		if want := numbersOf(row[1]); got.Code != impl.OK || !slices.Equal(measuresOf(got), want) {
			t.Errorf("Shape of %+q: got %v, want %d", row[0], got, want)
		}
	}
}

func TestShapedByRules(t *testing.T) {
	f := impl.Font{Width: 10, Wide: spansFrom(spanRow{1000, 1001, 4}), Rules: rulesOf("a>x ab>y"), Kerns: []impl.Kern{{Left: 'a', Right: 'c', By: 100}, {Left: 'x', Right: 'c', By: -1}, {Left: 'x', Right: 1000, By: -2}, {Left: 1000, Right: 1000, By: -3}}, Anchors: spansFrom(spanRow{0x1005, 0x1005, -7})}
	f.Rules = append(f.Rules, impl.ShapeRule{Input: []int64{'l', 'm'}, Put: []int64{1000}}, impl.ShapeRule{Input: []int64{'v'}, Put: []int64{0x1005}}, impl.ShapeRule{Input: []int64{0x1006}, Put: []int64{1000000, 1001}})
	rows := map[string]impl.Shaped{
		"ac":      {Glyphs: []impl.Glyph{{Id: 'x', Width: 10}, {Id: 'c', Cluster: 1, X: 9, Width: 10}}, Width: 19},
		"alm":     {Glyphs: []impl.Glyph{{Id: 'x', Width: 10}, {Id: 1000, Cluster: 1, X: 8, Width: 4}}, Width: 12},
		"lmlm":    {Glyphs: []impl.Glyph{{Id: 1000, Width: 4}, {Id: 1000, Cluster: 2, X: 1, Width: 4}}, Width: 5},
		"cvc":     {Glyphs: []impl.Glyph{{Id: 'c', Width: 10}, {Id: 0x1005, Cluster: 1, X: -7}, {Id: 'c', Cluster: 2, X: 10, Width: 10}}, Width: 20},
		"avc":     {Glyphs: []impl.Glyph{{Id: 'x', Width: 10}, {Id: 0x1005, Cluster: 1, X: -7}, {Id: 'c', Cluster: 2, X: 9, Width: 10}}, Width: 19},
		"b\u1006": {Glyphs: []impl.Glyph{{Id: 'b', Width: 10}, {Id: 1000000, X: 10, Width: 10}, {Id: 1001, X: 20, Width: 4}}, Width: 24},
		"ab":      {Glyphs: []impl.Glyph{{Id: 'x', Width: 10}, {Id: 'b', Cluster: 1, X: 10, Width: 10}}, Width: 20},
		"":        {},
	}
	for text, want := range rows {
		isShaped(t, f, text, want)
	}
	joined := impl.Font{Width: 5, Rules: rulesOf("02>x")}
	isShaped(t, joined, shapeText("a021"), impl.Shaped{Glyphs: []impl.Glyph{{Id: 'a', Width: 5}, {Id: 'x', Form: 1, Cluster: 1, X: 5, Width: 5}, {Id: 0x501, Form: 3, Cluster: 5, X: 10, Width: 5}}, Width: 15})
	gone := impl.Font{Width: 5, Rules: rulesOf("a>")}
	isShaped(t, gone, "aaa", impl.Shaped{})
	isShaped(t, gone, "aba", impl.Shaped{Glyphs: []impl.Glyph{{Id: 'b', Cluster: 1, Width: 5}}, Width: 5})
	moved := impl.Font{Width: 5, Rules: rulesOf("eK>x")}
	isShaped(t, moved, shapeText("aKe"), impl.Shaped{Glyphs: []impl.Glyph{{Id: 'a', Width: 5}, {Id: 'x', Cluster: 1, X: 5, Width: 5}}, Width: 10})
}

// randomFont has spans, kerns and rules of the points of which the texts are made.
func randomFont(r *rand.Rand, points []int64) impl.Font {
	f := impl.Font{Width: r.Int63n(1001), Rules: randomRules(r, 3)}
	for range r.Intn(3) {
		input := []int64{points[r.Intn(len(points))]}
		f.Rules = append(f.Rules, impl.ShapeRule{Input: input, Put: []int64{points[r.Intn(len(points))], 'a'}})
	}
	sorted := slices.Sorted(slices.Values(points))
	for at, p := range slices.Compact(sorted) {
		if r.Intn(2) == 0 {
			f.Wide = append(f.Wide, impl.Span{First: p, Last: p, Value: r.Int63n(1001)})
		}
		if r.Intn(2) == 0 {
			f.Anchors = append(f.Anchors, impl.Span{First: p, Last: p, Value: r.Int63n(2001) - 1000})
		}
		if at < 9 {
			f.Kerns = append(f.Kerns, impl.Kern{Left: p, Right: points[r.Intn(len(points))], By: r.Int63n(2001) - 1000})
		}
	}
	return f
}

func eachFontAndText(seed int64, look func(f impl.Font, text string)) {
	r := rand.New(rand.NewSource(seed))
	points := shapeNamed("aabbcKLemms02")
	for range 3000 {
		f := randomFont(r, points)
		if impl.FontFault(f) != impl.OK {
			panic("a random font is not right")
		}
		for range 3 {
			look(f, randomNormText(r, points, 12))
		}
		look(f, cutBytes(r, randomNormText(r, points, 9)))
	}
}

func TestShapedTexts(t *testing.T) {
	eachFontAndText(107, func(f impl.Font, text string) { isShaped(t, f, text, plainShaped(f, text)) })
}

// TestShapedWithoutKerns is the twenty-fifth promise.
func TestShapedWithoutKerns(t *testing.T) {
	eachFontAndText(108, func(f impl.Font, text string) {
		f.Kerns = nil
		got := impl.Shape(f, text)
		sum := int64(0)
		for _, glyph := range got.Glyphs {
			sum += glyph.Width
		}
		if got.Code != impl.OK || got.Width != sum {
			t.Errorf("%+q by %v is %d wide, its glyphs %d", text, f, got.Width, sum)
		}
	})
}

func TestSizesOfForms(t *testing.T) {
	for _, count := range []int{1000, 1001, impl.MaxBytes / 2} {
		want := slices.Repeat([]int64{impl.FormMiddle}, count)
		want[0], want[count-1] = impl.FormFirst, impl.FormLast
		text := strings.Repeat("\u0500", count)
		if got := impl.FormsOf(text); !slices.Equal(got, want) {
			t.Errorf("FormsOf of %d letters: %d forms", count, len(got))
		}
		if got := impl.GlyphsOf(text); len(got) != count || got[count-1] != (impl.Glyph{Id: 0x500, Form: impl.FormLast, Cluster: int64(2*count - 2)}) {
			t.Errorf("GlyphsOf of %d letters: %d glyphs", count, len(got))
		}
	}
	long := strings.Repeat("\u0500", impl.MaxBytes/2) + "a"
	isForms(t, long, nil)
	isGlyphs(t, "GlyphsOf", "a text that is too long", impl.GlyphsOf(long), nil)
	broken := strings.Repeat("\xFF", impl.MaxBytes)
	if forms, glyphs := impl.FormsOf(broken), impl.GlyphsOf(broken); len(forms) != impl.MaxBytes || len(glyphs) != impl.MaxBytes || glyphs[9] != (impl.Glyph{Id: impl.Broken, Cluster: 9}) {
		t.Errorf("broken bytes have %d forms and %d glyphs", len(forms), len(glyphs))
	}
	isForms(t, broken+"\xFF", nil)
	isGlyphs(t, "GlyphsOf", "too many broken bytes", impl.GlyphsOf(broken+"\xFF"), nil)
}

// TestManyVowels moves each of many vowels ahead of many consonants.
func TestManyVowels(t *testing.T) {
	text := shapeText(strings.Repeat("Ks", impl.MaxBytes/8) + strings.Repeat("e", impl.MaxBytes/4))
	want := append(shapeNamed(strings.Repeat("e", impl.MaxBytes/4)), shapeNamed(strings.Repeat("Ks", impl.MaxBytes/8))...)
	if got := glyphIds(impl.GlyphsOf(text)); !slices.Equal(got, want) {
		t.Errorf("%d glyphs are in another order", len(got))
	}
}

func TestSizesOfRules(t *testing.T) {
	most := impl.MaxList
	rows := []struct {
		rules string
		text  string
		count int
	}{
		{"", strings.Repeat("a", most), most}, {"", strings.Repeat("a", most+1), 0},
		{"q>r", strings.Repeat("a", most), most}, {"q>r", strings.Repeat("a", most+1), 0},
		{"b>bb", strings.Repeat("a", most-1) + "b", 0}, {"b>bb", strings.Repeat("a", most-2) + "b", most},
		{"b>bb b>", strings.Repeat("a", most-1) + "b", 0}, {"b>bb b>", strings.Repeat("a", most-2) + "b", most - 2}, {"b>", strings.Repeat("a", most) + "b", 0},
		{"a>abcdefgh", strings.Repeat("a", most/8), most}, {"a>abcdefgh", strings.Repeat("a", most/8+1), 0}, {"a>xy xy>a", strings.Repeat("a", most/2+1), 0}, {"a>xy xy>a", strings.Repeat("a", most/2), most / 2},
	}
	for _, row := range rows {
		if got := impl.ApplyRules(rulesOf(row.rules), numberedGlyphs(row.text)); len(got) != row.count {
			t.Errorf("%s of %d glyphs: got %d, want %d", row.rules, len(row.text), len(got), row.count)
		}
	}
}

func TestSizesOfShaped(t *testing.T) {
	most := impl.MaxList
	a := func(count int) string { return strings.Repeat("a", count) }
	rows := []struct {
		rules string
		text  string
		code  int64
		count int
	}{
		{"", a(most), impl.OK, most}, {"", a(most + 1), impl.ErrLimit, 0}, {"", a(impl.MaxBytes), impl.ErrLimit, 0}, {"", a(impl.MaxBytes + 1), impl.ErrSize, 0},
		{"", strings.Repeat("\U00010000", most), impl.OK, most}, {"", strings.Repeat("\xFF", most+1), impl.ErrLimit, 0},
		{"q>r", a(most), impl.OK, most}, {"q>r", a(most + 1), impl.ErrLimit, 0},
		{"a>", a(most + 1), impl.OK, 0}, {"a>", a(impl.MaxBytes), impl.OK, 0}, {"a>", a(impl.MaxBytes + 1), impl.ErrSize, 0}, {"aa>x", a(2 * most), impl.OK, most}, {"aa>x", a(2*most + 1), impl.ErrLimit, 0}, {"b>", a(most) + "b", impl.OK, most},
		{"q>r aa>x", a(most + 1), impl.ErrLimit, 0}, {"aa>x q>r", a(most + 1), impl.OK, most/2 + 1}, {"b>bb b>", a(most-1) + "b", impl.ErrLimit, 0}, {"b>bb b>", a(most-2) + "b", impl.OK, most - 2}, {"b>bb", a(most-2) + "b", impl.OK, most},
		{"a>abcdefgh", a(impl.MaxBytes), impl.ErrLimit, 0},
	}
	for _, row := range rows {
		got := impl.Shape(impl.Font{Width: 3, Rules: rulesOf(row.rules)}, row.text)
		if got.Code != row.code || len(got.Glyphs) != row.count || got.Width != int64(3*row.count) {
			t.Errorf("%s of %d bytes: got the code %d and %d glyphs, %d wide, want %d and %d", row.rules, len(row.text), got.Code, len(got.Glyphs), got.Width, row.code, row.count)
		}
	}
}

// TestCodesOfShape has faults side by side: a text that is too long is told first, then the font.
func TestCodesOfShape(t *testing.T) {
	long := strings.Repeat("a", impl.MaxBytes+1)
	for what, f := range wrongFonts() {
		rows := map[int64]string{impl.ErrSize: long, impl.ErrForm: long[:impl.MaxBytes]}
		for code, text := range rows {
			if got := impl.Shape(f, text); !sameShaped(got, impl.Shaped{Code: code}) {
				t.Errorf("Shape of %d bytes, %s: got %v, want the code %d", len(text), what, got, code)
			}
		}
	}
	isShaped(t, impl.Font{}, long, impl.Shaped{Code: impl.ErrSize})
	isShaped(t, impl.Font{}, long[:impl.MaxList+1], impl.Shaped{Code: impl.ErrLimit})
}

// spare is a list with room behind it, in which a call might lay what is not to be laid there.
func spare[Item any](items []Item) []Item {
	return append(make([]Item, 0, 4*len(items)+4), items...)
}

func TestShapesAreNewMemory(t *testing.T) {
	rules := spare(rulesOf("a>xyz x|y|z>ab zz>z c>"))
	for at := range rules {
		rules[at].Put, rules[at].Input = spare(rules[at].Put), spare(rules[at].Input)
	}
	f := impl.Font{Width: 7, Rules: rules, Wide: spare(spansFrom(spanRow{'a', 'x', 3})), Kerns: spare([]impl.Kern{{Left: 'a', Right: 'b', By: 4}}), Anchors: spare(spansFrom(spanRow{0x1000, 0x1000, 2}))}
	glyphs := spare(numberedGlyphs("abcamb"))
	text := shapeText("abc0m2KsLe")
	told := func() string { return fmt.Sprint(f, glyphs, glyphs[:cap(glyphs)], f.Rules[:cap(f.Rules)], text) }
	given := told()
	asked := func() (string, []int64, [][]impl.Glyph) {
		forms, rows := impl.FormsOf(text), [][]impl.Glyph{impl.GlyphsOf(text), impl.ApplyRules(rules, glyphs), impl.ApplyRules(nil, glyphs), impl.ApplyRules(rulesOf("q>r"), glyphs), impl.Shape(f, text).Glyphs}
		return fmt.Sprint(forms, rows), forms, rows
	}
	first, _, _ := asked()
	for range 3 {
		again, forms, rows := asked()
		if again != first {
			t.Errorf("asked again: %s, want %s", again, first)
		}
		if got := told(); got != given {
			t.Errorf("what was given became %s, it was %s", got, given)
		}
		clear(forms)
		for _, row := range rows {
			clear(row[:cap(row)])
		}
		if got := told(); got != given {
			t.Errorf("by the answers what was given became %s, it was %s", got, given)
		}
	}
}
