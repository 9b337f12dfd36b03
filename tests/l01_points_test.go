package tests

import (
	"math"
	"slices"
	"strings"
	"testing"

	"loop.example/g00044/impl"
)

// writtenRow is a row of the document's table of the repertoire, as it stands there.
type writtenRow struct {
	first, last, category, script int64
}

// writtenRows says chapter 2's table once more, row by row, so that the program's own table is held
// against the document and not against itself.
func writtenRows() []writtenRow {
	rows := []writtenRow{
		{0x0, 0x1F, impl.CatControl, 0}, {0x7F, 0x9F, impl.CatControl, 0},
		{0x20, 0x20, impl.CatSpace, 0}, {0xA0, 0xA0, impl.CatSpace, 0}, {0x1F80, 0x1F80, impl.CatSpace, 0},
		{0x30, 0x39, impl.CatDigit, 0},
		{0x41, 0x5A, impl.CatUpper, 1}, {0x61, 0x7A, impl.CatLower, 1},
		{0x21, 0x2F, impl.CatPunct, 0}, {0x3A, 0x40, impl.CatPunct, 0},
		{0x5B, 0x60, impl.CatPunct, 0}, {0x7B, 0x7E, impl.CatPunct, 0},
		{0xA1, 0xAC, impl.CatSymbol, 0}, {0xAD, 0xAD, impl.CatFormat, 0}, {0xAE, 0xBF, impl.CatSymbol, 0},
		{0x500, 0x51F, impl.CatOther, 5}, {0x550, 0x559, impl.CatDigit, 5},
		{0x600, 0x61F, impl.CatOther, 6}, {0x620, 0x62B, impl.CatMark, 6},
		{0x630, 0x630, impl.CatMark, 6}, {0x631, 0x631, impl.CatMark, 6}, {0x650, 0x659, impl.CatDigit, 6},
		{0x700, 0x712, impl.CatOther, 7}, {0x720, 0x734, impl.CatOther, 7}, {0x741, 0x75B, impl.CatOther, 7},
		{0x800, 0x82F, impl.CatOther, 8},
		{0x1000, 0x103F, impl.CatMark, 0},
		{0x1E00, 0x1E3F, impl.CatSymbol, 0}, {0x1E40, 0x1E44, impl.CatSymbol, 0}, {0x1E50, 0x1E69, impl.CatSymbol, 0},
		{0x1F00, 0x1F0B, impl.CatFormat, 0}, {0x1F11, 0x1F11, impl.CatFormat, 0}, {0x1F12, 0x1F12, impl.CatFormat, 0},
		{0x2600, 0x2619, impl.CatUpper, 1},
		{0x2700, 0x2719, impl.CatSymbol, 0}, {0x2720, 0x2729, impl.CatDigit, 0}, {0x2730, 0x2733, impl.CatSymbol, 0},
		{0x3000, 0x5BA3, impl.CatOther, 7},
		{0x6000, 0x67FF, impl.CatOther, 9},
	}
	for script := int64(2); script <= 4; script++ {
		b := script * 0x100
		rows = append(rows,
			writtenRow{b, b + 0x1F, impl.CatUpper, script}, writtenRow{b + 0x20, b + 0x3F, impl.CatLower, script},
			writtenRow{b + 0x40, b + 0x43, impl.CatUpper, script}, writtenRow{b + 0x44, b + 0x47, impl.CatTitle, script},
			writtenRow{b + 0x48, b + 0x4B, impl.CatLower, script}, writtenRow{b + 0x50, b + 0x59, impl.CatDigit, script},
			writtenRow{b + 0x60, b + 0x60, impl.CatLower, script}, writtenRow{b + 0x61, b + 0x61, impl.CatLower, script})
	}
	for _, first := range []int64{0x2000, 0x2200, 0x2400} {
		for i := int64(0); i < 52; i++ {
			category := int64(impl.CatUpper)
			if i >= 26 {
				category = impl.CatLower
			}
			rows = append(rows, writtenRow{first + 8*i, first + 8*i + 7, category, 1})
		}
	}
	return rows
}

// writtenKinds spreads the rows over the points 0 to LastKnown.
func writtenKinds(t *testing.T) []writtenRow {
	t.Helper()
	kinds := make([]writtenRow, impl.LastKnown+1)
	for _, row := range writtenRows() {
		for p := row.first; p <= row.last; p++ {
			if kinds[p].category != impl.CatNone {
				t.Fatalf("the test's own rows have U+%X twice", p)
			}
			kinds[p] = row
		}
	}
	return kinds
}

// unknownPoints are numbers of which the repertoire tells nothing: behind its end, and no points.
func unknownPoints() []int64 {
	return []int64{
		impl.LastKnown + 1, 0xD7FF, 0xD800, 0xDFFF, 0xE000, impl.Broken, 0xFFFF, 0x10000, 0x10041, 0x10630, 0x11000,
		impl.MaxPoint, impl.MaxPoint + 1, -1, -0x41, -0x7FBF, 1<<16 + 0x30, 1<<32 + 0x41, 1<<32 + 0x6000,
		math.MaxInt64, math.MinInt64, math.MinInt64 + 0x30,
	}
}

func isNumber(t *testing.T, what string, p int64, got int64, want int64) {
	t.Helper()
	if got != want {
		t.Errorf("%s of U+%X: got %d, want %d", what, p, got, want)
	}
}

func TestCategoryNumbers(t *testing.T) {
	got := []int64{
		impl.CatNone, impl.CatControl, impl.CatSpace, impl.CatMark, impl.CatUpper, impl.CatLower,
		impl.CatTitle, impl.CatOther, impl.CatDigit, impl.CatPunct, impl.CatSymbol, impl.CatFormat,
	}
	for i, n := range got {
		isNumber(t, "category", int64(i), n, int64(i))
	}
}

func TestCategoryAndScript(t *testing.T) {
	for p, kind := range writtenKinds(t) {
		isNumber(t, "category", int64(p), impl.Category(int64(p)), kind.category)
		isNumber(t, "script", int64(p), impl.Script(int64(p)), kind.script)
	}
}

func TestFirstAndLastOfRows(t *testing.T) {
	for _, row := range writtenRows() {
		for _, p := range []int64{row.first, row.last} {
			isNumber(t, "category", p, impl.Category(p), row.category)
			isNumber(t, "script", p, impl.Script(p), row.script)
		}
	}
	for _, p := range []int64{
		0xC0, 0x1FF, 0x24C, 0x24F, 0x25A, 0x25F, 0x262, 0x2FF, 0x34C, 0x35A, 0x362, 0x44C, 0x45A, 0x462, 0x4FF,
		0x520, 0x54F, 0x55A, 0x62C, 0x62F, 0x632, 0x64F, 0x65A, 0x713, 0x71F, 0x735, 0x740, 0x75C, 0x830, 0xFFF,
		0x1040, 0x1DFF, 0x1E45, 0x1E4F, 0x1E6A, 0x1F0C, 0x1F10, 0x1F13, 0x1F7F, 0x1F81, 0x21A0, 0x21FF, 0x23A0,
		0x25A0, 0x25FF, 0x261A, 0x271A, 0x271F, 0x272A, 0x2734, 0x2FFF, 0x5BA4, 0x5FFF, 0x6800, impl.LastKnown,
	} {
		isNumber(t, "category", p, impl.Category(p), impl.CatNone)
		isNumber(t, "script", p, impl.Script(p), 0)
		isNumber(t, "class", p, impl.MarkClass(p), 0)
		isNumber(t, "age", p, impl.Age(p), 0)
	}
}

func TestUnknownPoints(t *testing.T) {
	for _, p := range unknownPoints() {
		isNumber(t, "category", p, impl.Category(p), impl.CatNone)
		isNumber(t, "script", p, impl.Script(p), 0)
		isNumber(t, "class", p, impl.MarkClass(p), 0)
		isNumber(t, "age", p, impl.Age(p), 0)
		isNumber(t, "digit", p, impl.DigitOf(p), -1)
		isNumber(t, "strokes", p, impl.Strokes(p), 0)
	}
}

// writtenClass reads the document's sentence on classes by how far a mark is from U+1000.
func writtenClass(p int64, category int64) int64 {
	if category != impl.CatMark {
		return 0
	}
	special := map[int64]int64{0x630: 9, 0x631: 7}
	if p < 0x1000 {
		return special[p]
	}
	bounds := []int64{16, 32, 40, 48, 56, 64}
	classes := []int64{230, 220, 202, 1, 232, 0}
	for i, bound := range bounds {
		if p-0x1000 < bound {
			return classes[i]
		}
	}
	return 0
}

func writtenAge(p int64, category int64) int64 {
	if category == impl.CatNone {
		return 0
	}
	age := int64(1)
	for _, bound := range []int64{0x1000, 0x3000, 0x6000} {
		if p >= bound {
			age++
		}
	}
	return age
}

func TestMarkClassAndAge(t *testing.T) {
	for i, kind := range writtenKinds(t) {
		p := int64(i)
		isNumber(t, "class", p, impl.MarkClass(p), writtenClass(p, kind.category))
		isNumber(t, "age", p, impl.Age(p), writtenAge(p, kind.category))
	}
	for _, one := range [][3]int64{
		{0x100F, 230, 2}, {0x1010, 220, 2}, {0x101F, 220, 2}, {0x1020, 202, 2}, {0x1027, 202, 2}, {0x1028, 1, 2},
		{0x102F, 1, 2}, {0x1030, 232, 2}, {0x1037, 232, 2}, {0x1038, 0, 2}, {0x103F, 0, 2}, {0x630, 9, 1},
		{0x631, 7, 1}, {0x620, 0, 1}, {0x62B, 0, 1}, {0x41, 0, 1}, {0x2733, 0, 2}, {0x3000, 0, 3}, {0x5BA3, 0, 3},
		{0x6000, 0, 4}, {0x67FF, 0, 4},
	} {
		isNumber(t, "class", one[0], impl.MarkClass(one[0]), one[1])
		isNumber(t, "age", one[0], impl.Age(one[0]), one[2])
	}
}

func TestDigits(t *testing.T) {
	want := map[int64]int64{}
	for _, first := range []int64{0x30, 0x250, 0x350, 0x450, 0x550, 0x650, 0x2720} {
		for i := int64(0); i < 10; i++ {
			want[first+i] = i
		}
	}
	for p := int64(0); p <= impl.LastKnown; p++ {
		value, is := want[p]
		if !is {
			value = -1
		}
		isNumber(t, "digit", p, impl.DigitOf(p), value)
	}
}

func TestStrokes(t *testing.T) {
	for p := int64(0); p <= impl.LastKnown; p++ {
		want := int64(0)
		if p >= 0x6000 && p <= 0x67FF {
			want = 1 + p%24
		}
		isNumber(t, "strokes", p, impl.Strokes(p), want)
	}
	isNumber(t, "strokes", 0x6017, impl.Strokes(0x6017), 24)
	isNumber(t, "strokes", 0x6018, impl.Strokes(0x6018), 1)
}

func TestMirrors(t *testing.T) {
	want := map[int64]int64{}
	for _, pair := range []string{"()", "<>", "[]", "{}"} {
		want[int64(pair[0])], want[int64(pair[1])] = int64(pair[1]), int64(pair[0])
	}
	for p := int64(-3); p <= impl.MaxPoint+3; p++ {
		other, is := want[p]
		if !is {
			other = p
		}
		if p < 0 || p > impl.MaxPoint || p >= 0xD800 && p <= 0xDFFF {
			other = 0
		}
		isNumber(t, "mirror", p, impl.MirrorOf(p), other)
	}
	for _, p := range []int64{math.MaxInt64, math.MinInt64, 1<<32 + '('} {
		isNumber(t, "mirror", p, impl.MirrorOf(p), 0)
	}
}

// tellers are the calls that the spans of each what are held against.
func tellers() map[int64]func(int64) int64 {
	return map[int64]func(int64) int64{
		impl.WhatCategory: impl.Category, impl.WhatScript: impl.Script,
		impl.WhatClass: impl.MarkClass, impl.WhatAge: impl.Age,
	}
}

func TestSpans(t *testing.T) {
	for what, tell := range tellers() {
		spans := impl.SpansOf(what)
		next := int64(0)
		for i, span := range spans {
			if span.First != next || span.Last < span.First {
				t.Fatalf("spans of %d: %+v does not begin at U+%X", what, span, next)
			}
			if i > 0 && spans[i-1].Value == span.Value {
				t.Errorf("spans of %d: %+v and the one ahead of it have one value", what, span)
			}
			for p := span.First; p <= span.Last; p++ {
				isNumber(t, "span's value", p, span.Value, tell(p))
			}
			next = span.Last + 1
		}
		if next != impl.LastKnown+1 {
			t.Errorf("spans of %d end ahead of U+%X", what, next)
		}
	}
}

func spansFrom(rows ...[3]int64) []impl.Span {
	var spans []impl.Span
	for _, row := range rows {
		spans = append(spans, impl.Span{First: row[0], Last: row[1], Value: row[2]})
	}
	return spans
}

func TestSpansOfAge(t *testing.T) {
	spans := impl.SpansOf(impl.WhatAge)
	first := spansFrom([3]int64{0, 0xBF, 1}, [3]int64{0xC0, 0x1FF, 0}, [3]int64{0x200, 0x24B, 1})
	last := spansFrom([3]int64{0x3000, 0x5BA3, 3}, [3]int64{0x5BA4, 0x5FFF, 0},
		[3]int64{0x6000, 0x67FF, 4}, [3]int64{0x6800, 0x7FFF, 0})
	if len(spans) < 7 || !slices.Equal(spans[:3], first) || !slices.Equal(spans[len(spans)-4:], last) {
		t.Errorf("spans of age: got %+v", spans)
	}
}

func TestSpansOfClass(t *testing.T) {
	want := spansFrom([][3]int64{
		{0, 0x62F, 0}, {0x630, 0x630, 9}, {0x631, 0x631, 7}, {0x632, 0xFFF, 0}, {0x1000, 0x100F, 230},
		{0x1010, 0x101F, 220}, {0x1020, 0x1027, 202}, {0x1028, 0x102F, 1}, {0x1030, 0x1037, 232}, {0x1038, 0x7FFF, 0},
	}...)
	if got := impl.SpansOf(impl.WhatClass); !slices.Equal(got, want) {
		t.Errorf("spans of class: got %+v", got)
	}
}

func TestSpansOfAnotherWhat(t *testing.T) {
	for _, what := range []int64{0, 5, -1, 9, math.MaxInt64, math.MinInt64, 1<<32 + 1} {
		if got := impl.SpansOf(what); len(got) != 0 {
			t.Errorf("spans of %d: got %d of them", what, len(got))
		}
	}
}

func TestSpansAreNewMemory(t *testing.T) {
	spans := impl.SpansOf(impl.WhatScript)
	kept := slices.Clone(spans)
	for i := range spans {
		spans[i] = impl.Span{First: -1, Last: -1, Value: -1}
	}
	if got := impl.SpansOf(impl.WhatScript); !slices.Equal(got, kept) {
		t.Errorf("spans changed by writing into an earlier answer")
	}
}

// writtenBytes writes a point as chapter 2 says, by its binary digits.
func writtenBytes(p int64) string {
	tail := func(shift int) byte { return byte(0x80 | p>>shift&0x3F) }
	switch {
	case p <= 0x7F:
		return string([]byte{byte(p)})
	case p <= 0x7FF:
		return string([]byte{byte(0xC0 | p>>6), tail(0)})
	case p <= 0xFFFF:
		return string([]byte{byte(0xE0 | p>>12), tail(6), tail(0)})
	}
	return string([]byte{byte(0xF0 | p>>18), tail(12), tail(6), tail(0)})
}

func allPoints() []int64 {
	var points []int64
	for p := int64(0); p <= impl.MaxPoint; p++ {
		if p < 0xD800 || p > 0xDFFF {
			points = append(points, p)
		}
	}
	return points
}

// readPlainly reads a text as chapter 2 says: at each place it tries all lengths of a writing, and
// takes the one that a point's own writing is.
func readPlainly(text string) []int64 {
	var points []int64
	for at := 0; at < len(text); {
		p, size := int64(impl.Broken), 1
		for length := 1; length <= 4 && at+length <= len(text); length++ {
			if q := plainPoint(text[at : at+length]); q >= 0 {
				p, size = q, length
			}
		}
		points = append(points, p)
		at += size
	}
	return points
}

// plainPoint is the point of which the bytes are the writing, or -1.
func plainPoint(bytes string) int64 {
	heads := []int64{0, 0xC0, 0xE0, 0xF0}
	p := int64(bytes[0]) - heads[len(bytes)-1]
	for i := 1; i < len(bytes); i++ {
		p = p*64 + int64(bytes[i]) - 0x80
	}
	if p < 0 || p > impl.MaxPoint || p >= 0xD800 && p <= 0xDFFF || writtenBytes(p) != bytes {
		return -1
	}
	return p
}

func isPoints(t *testing.T, text string, want []int64) {
	t.Helper()
	if got := impl.PointsOf(text); !slices.Equal(got, want) {
		t.Errorf("points of % x: got %x, want %x", text, got, want)
	}
}

func TestWritingOfAllPoints(t *testing.T) {
	for _, p := range allPoints() {
		if got := impl.TextOf([]int64{p}); got != writtenBytes(p) {
			t.Errorf("text of U+%X: got % x, want % x", p, got, writtenBytes(p))
		}
		isPoints(t, writtenBytes(p), []int64{p})
	}
}

func TestPointsComeBack(t *testing.T) {
	points := allPoints()
	for len(points) > 0 {
		list := points[:min(len(points), impl.MaxList)]
		points = points[len(list):]
		if got := impl.PointsOf(impl.TextOf(list)); !slices.Equal(got, list) {
			t.Errorf("points from U+%X on do not come back", list[0])
		}
	}
	// Neighbours of unlike lengths, so that no writing runs into the next one.
	mixed := []int64{0x10FFFF, 0, 0x7F, 0x80, 0x7FF, 0x800, 0xD7FF, 0xE000, impl.Broken, 0xFFFF, 0x10000, 0x41}
	if got := impl.PointsOf(impl.TextOf(mixed)); !slices.Equal(got, mixed) {
		t.Errorf("mixed points: got %x", got)
	}
}

func TestEdgesOfWriting(t *testing.T) {
	for p, want := range map[int64]string{
		0: "\x00", 0x7F: "\x7F", 0x80: "\xC2\x80", 0x7FF: "\xDF\xBF", 0x800: "\xE0\xA0\x80",
		0xD7FF: "\xED\x9F\xBF", 0xE000: "\xEE\x80\x80", impl.Broken: "\xEF\xBF\xBD", 0xFFFF: "\xEF\xBF\xBF",
		0x10000: "\xF0\x90\x80\x80", impl.MaxPoint: "\xF4\x8F\xBF\xBF",
	} {
		if got := impl.TextOf([]int64{p}); got != want {
			t.Errorf("text of U+%X: got % x, want % x", p, got, want)
		}
		isPoints(t, want, []int64{p})
	}
}

func TestNumbersThatAreNoPoints(t *testing.T) {
	wrong := []int64{
		-1, -0x41, 0xD800, 0xDBFF, 0xDC00, 0xDFFF, impl.MaxPoint + 1, 1<<32 + 0x41, 1 << 32, 1<<63 - 1, -1 << 63,
	}
	for _, p := range wrong {
		if got := impl.TextOf([]int64{0x61, p, 0x62}); got != "a\xEF\xBF\xBDb" {
			t.Errorf("text of %d: got % x", p, got)
		}
	}
	for p := int64(0xD800); p <= 0xDFFF; p++ {
		if got := impl.TextOf([]int64{p}); got != "\xEF\xBF\xBD" {
			t.Errorf("text of U+%X: got % x", p, got)
		}
	}
}

func TestBrokenBytes(t *testing.T) {
	b := int64(impl.Broken)
	isPoints(t, "\x80", []int64{b})
	isPoints(t, "\xC0\x80", []int64{b, b})
	isPoints(t, "\xC1\xBF", []int64{b, b})
	isPoints(t, "\xE0\x9F\xBF", []int64{b, b, b})
	isPoints(t, "\xED\xA0\x80", []int64{b, b, b})
	isPoints(t, "\xED\xBF\xBF", []int64{b, b, b})
	isPoints(t, "\xF0\x8F\xBF\xBF", []int64{b, b, b, b})
	isPoints(t, "\xF4\x90\x80\x80", []int64{b, b, b, b})
	isPoints(t, "\xF5\x80\x80\x80", []int64{b, b, b, b})
	isPoints(t, "\xFF\xFE", []int64{b, b})
	isPoints(t, "a\xE2\x82b", []int64{'a', b, b, 'b'})
	isPoints(t, "\xE2\x82\xE2\x82\xAC", []int64{b, b, 0x20AC})
	isPoints(t, "\xF0\x90\x80", []int64{b, b, b})
	isPoints(t, "\xC2", []int64{b})
	isPoints(t, "\xEF\xBF\xBD\xEF\xBF", []int64{b, b, b})
	isPoints(t, "", nil)
}

// edgeBytes are the bytes at which the rules of writing change, and their neighbours.
func edgeBytes() []byte {
	return []byte{
		0x00, 0x41, 0x7F, 0x80, 0x8F, 0x90, 0x9F, 0xA0, 0xBF, 0xC0, 0xC1, 0xC2, 0xDF, 0xE0, 0xE1, 0xEC, 0xED, 0xEE,
		0xEF, 0xF0, 0xF1, 0xF3, 0xF4, 0xF5, 0xF7, 0xF8, 0xFF,
	}
}

func TestRowsOfAnyBytes(t *testing.T) {
	for i := range 256 {
		for j := range 256 {
			text := string([]byte{byte(i), byte(j)})
			isPoints(t, text, readPlainly(text))
		}
	}
	for _, i := range edgeBytes() {
		for _, j := range edgeBytes() {
			for _, k := range edgeBytes() {
				for _, l := range edgeBytes() {
					text := string([]byte{i, j, k, l, 0x80})
					isPoints(t, text, readPlainly(text))
				}
			}
		}
	}
}

func TestLongTexts(t *testing.T) {
	long := impl.PointsOf(strings.Repeat("a", impl.MaxBytes))
	if len(long) != impl.MaxBytes || long[0] != 'a' || long[impl.MaxBytes-1] != 'a' {
		t.Errorf("a text of MaxBytes bytes: got %d points", len(long))
	}
	if got := impl.PointsOf(strings.Repeat("\xFF", impl.MaxBytes)); len(got) != impl.MaxBytes {
		t.Errorf("MaxBytes broken bytes: got %d points", len(got))
	}
	if got := impl.PointsOf(strings.Repeat("\xF4\x8F\xBF\xBF", impl.MaxBytes/4)); len(got) != impl.MaxBytes/4 {
		t.Errorf("MaxBytes bytes of four: got %d points", len(got))
	}
	for _, text := range []string{strings.Repeat("a", impl.MaxBytes+1), strings.Repeat("\xC2\x80", impl.MaxBytes)} {
		if got := impl.PointsOf(text); len(got) != 0 {
			t.Errorf("a text of %d bytes: got %d points", len(text), len(got))
		}
	}
}

func TestLongLists(t *testing.T) {
	list := slices.Repeat([]int64{impl.MaxPoint}, impl.MaxList)
	if got := impl.TextOf(list); got != strings.Repeat("\xF4\x8F\xBF\xBF", impl.MaxList) {
		t.Errorf("a list of MaxList points: got %d bytes", len(got))
	}
	if got := impl.PointsOf(impl.TextOf(list)); !slices.Equal(got, list) {
		t.Errorf("a list of MaxList points does not come back")
	}
	if got := impl.TextOf(append(list, 0x61)); got != "" {
		t.Errorf("a list of one more: got %d bytes", len(got))
	}
	if got := impl.TextOf(make([]int64, 70000)); got != "" {
		t.Errorf("a long list: got %d bytes", len(got))
	}
	if impl.TextOf(nil) != "" || impl.TextOf([]int64{}) != "" {
		t.Errorf("no points: got a text")
	}
}

func TestListsAreNotChanged(t *testing.T) {
	list := []int64{0x61, -1, 0xD800, impl.MaxPoint + 1, 0x62}
	kept := slices.Clone(list)
	impl.TextOf(list)
	if !slices.Equal(list, kept) {
		t.Errorf("TextOf changed its list: %x", list)
	}
}
