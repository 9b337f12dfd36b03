package tests

import (
	"math"
	"slices"
	"strings"
	"testing"

	"loop.example/g00044/impl"
)

const goneLimit = 1000000000000

func allForms() []int64 {
	return []int64{
		impl.FormEight, impl.FormSixteenBig, impl.FormSixteenLittle, impl.FormWideBig, impl.FormWideLittle,
	}
}

func otherForms() []int64 {
	return []int64{0, 6, -1, -5, 1<<32 + 1, math.MaxInt64, math.MinInt64}
}

func isBig(form int64) bool {
	return form == impl.FormSixteenBig || form == impl.FormWideBig
}

// turned has the bytes of a unit, written with the higher byte first, in the order of the form.
func turned(form int64, unit string) string {
	bytes := []byte(unit)
	if !isBig(form) {
		slices.Reverse(bytes)
	}
	return string(bytes)
}

// unitIn is a unit of a form other than eight.
func unitIn(form int64, n int64) string {
	low := string([]byte{byte(n >> 8), byte(n)})
	if form == impl.FormSixteenBig || form == impl.FormSixteenLittle {
		return turned(form, low)
	}
	return turned(form, string([]byte{byte(n >> 24), byte(n >> 16)})+low)
}

func unitsIn(form int64, numbers ...int64) string {
	data := ""
	for _, n := range numbers {
		data += unitIn(form, n)
	}
	return data
}

// unitSize is how many bytes a unit of a form other than eight has.
func unitSize(form int64) int {
	return len(unitIn(form, 0))
}

// unitNumber reads a whole unit.
func unitNumber(form int64, unit string) int64 {
	n := int64(0)
	for _, b := range []byte(turned(form, unit)) {
		n = n*256 + int64(b)
	}
	return n
}

// pointIn writes a point in a form, as chapter 3 says.
func pointIn(form int64, p int64) string {
	switch form {
	case impl.FormEight:
		return writtenBytes(p)
	case impl.FormWideBig, impl.FormWideLittle:
		return unitIn(form, p)
	}
	if p < 0x10000 {
		return unitIn(form, p)
	}
	high, low := (p-0x10000)>>10, (p-0x10000)&0x3FF
	return unitsIn(form, 0xD800|high, 0xDC00|low)
}

// beginnings are all that a point's writing of eight may begin with, but all of it.
func beginnings() map[string]bool {
	found := map[string]bool{"": true}
	for p := int64(0x80); p <= impl.MaxPoint; p++ {
		if p >= 0xD800 && p <= 0xDFFF {
			continue
		}
		bytes := writtenBytes(p)
		for size := 1; size < len(bytes); size++ {
			if !found[bytes[:size]] {
				found[bytes[:size]] = true
			}
		}
	}
	return found
}

var eightBeginnings = beginnings()

// plainPiece is what data begin with: the point, how many bytes it has, and whether it is broken.
func plainPiece(form int64, data string) (int64, int, bool) {
	if form == impl.FormEight {
		return plainEight(data)
	}
	size := unitSize(form)
	if len(data) < size {
		return impl.Broken, len(data), true
	}
	n := unitNumber(form, data[:size])
	surrogate := n >= 0xD800 && n <= 0xDFFF
	if size == 2 && n>>10 == 0x36 && len(data) >= 4 {
		if second := unitNumber(form, data[2:4]); second>>10 == 0x37 {
			return 0x10000 + n&0x3FF<<10 + second&0x3FF, 4, false
		}
	}
	if surrogate || n > impl.MaxPoint {
		return impl.Broken, size, true
	}
	return n, size, false
}

func plainEight(data string) (int64, int, bool) {
	for size := 1; size <= 4 && size <= len(data); size++ {
		if p := plainPoint(data[:size]); p >= 0 {
			return p, size, false
		}
	}
	size := 1
	for size < len(data) && eightBeginnings[data[:size]] && eightBeginnings[data[:size+1]] {
		size++
	}
	return impl.Broken, size, true
}

// plainWaits tells whether held are bytes that wait for more.
func plainWaits(form int64, held string) bool {
	switch form {
	case impl.FormEight:
		return eightBeginnings[held]
	case impl.FormWideBig, impl.FormWideLittle:
		return len(held) < 4
	}
	return len(held) < 2 || len(held) < 4 && unitNumber(form, held[:2])>>10 == 0x36
}

// plainDecoded reads all data.
func plainDecoded(form int64, data string) impl.Decoded {
	text, broken := "", []int64(nil)
	for at := 0; at < len(data); {
		p, size, odd := plainPiece(form, data[at:])
		if odd {
			broken = append(broken, int64(at))
		}
		text += writtenBytes(p)
		at += size
	}
	return impl.Decoded{Text: text, Broken: broken}
}

func sameDecoded(a impl.Decoded, b impl.Decoded) bool {
	return a.Code == b.Code && a.Text == b.Text && slices.Equal(a.Broken, b.Broken)
}

func isDecoded(t *testing.T, form int64, data string, want impl.Decoded) {
	t.Helper()
	if got := impl.Decode(form, data); !sameDecoded(got, want) {
		t.Errorf("form %d, % x: got %#v, want %#v", form, data, got, want)
	}
}

func sameOut(a impl.DecoderOut, b impl.DecoderOut) bool {
	return a.Code == b.Code && a.Decoder == b.Decoder && a.Text == b.Text && slices.Equal(a.Broken, b.Broken)
}

func isOut(t *testing.T, what string, got impl.DecoderOut, want impl.DecoderOut) {
	t.Helper()
	if !sameOut(got, want) {
		t.Errorf("%s: got %#v, want %#v", what, got, want)
	}
}

// edgeTexts are well written, and short enough for each form.
func edgeTexts() []string {
	return []string{
		"", "a", "\x00", "\x00\x00", "abc", "\x7F\u0080", "\u07FF\u0800", "\uD7FF\uE000", "\uFFFD", "\uFFFE\uFFFF",
		"\uFFFF\U00010000", "\U00010000\U0010FFFF", "\U0010FFFF", "\uFEFF", "\uFEFFa", "\uFFFEa", "a\uFFFDb",
		"\U000103FF\U00010400", "\U0010FC00\U0010FBFF", "a\u0200\u6000\U00012345z", "\r\n",
	}
}

func TestNumbersOfForms(t *testing.T) {
	for i, form := range allForms() {
		if form != int64(i)+1 {
			t.Errorf("form number %d: got %d", i+1, form)
		}
	}
}

func TestEncodeOfAllPoints(t *testing.T) {
	for _, form := range allForms() {
		for _, p := range allPoints() {
			if got := impl.Encode(form, writtenBytes(p)); got != pointIn(form, p) {
				t.Fatalf("form %d, U+%X: got % x, want % x", form, p, got, pointIn(form, p))
			}
		}
	}
}

func TestTextsComeBackFromForms(t *testing.T) {
	texts := edgeTexts()
	points := allPoints()
	for len(points) > 0 {
		piece := points[:min(len(points), impl.MaxList)]
		points = points[len(piece):]
		texts = append(texts, impl.TextOf(piece))
	}
	for _, form := range allForms() {
		for _, text := range texts {
			got := impl.Decode(form, impl.Encode(form, text))
			if got.Code != impl.OK || got.Text != text || len(got.Broken) != 0 {
				t.Fatalf("form %d, % x: got %#v", form, text, got)
			}
		}
	}
}

func TestEdgesOfForms(t *testing.T) {
	text := "\x7F\u0080\u07FF\u0800\uD7FF\uE000\uFFFF\U00010000\U0010FFFF"
	for form, want := range map[int64]string{
		impl.FormEight:         text,
		impl.FormSixteenBig:    "\x00\x7F\x00\x80\x07\xFF\x08\x00\xD7\xFF\xE0\x00\xFF\xFF\xD8\x00\xDC\x00\xDB\xFF\xDF\xFF",
		impl.FormSixteenLittle: "\x7F\x00\x80\x00\xFF\x07\x00\x08\xFF\xD7\x00\xE0\xFF\xFF\x00\xD8\x00\xDC\xFF\xDB\xFF\xDF",
		impl.FormWideBig: "\x00\x00\x00\x7F\x00\x00\x00\x80\x00\x00\x07\xFF\x00\x00\x08\x00\x00\x00\xD7\xFF\x00\x00\xE0\x00" +
			"\x00\x00\xFF\xFF\x00\x01\x00\x00\x00\x10\xFF\xFF",
		impl.FormWideLittle: "\x7F\x00\x00\x00\x80\x00\x00\x00\xFF\x07\x00\x00\x00\x08\x00\x00\xFF\xD7\x00\x00\x00\xE0\x00\x00" +
			"\xFF\xFF\x00\x00\x00\x00\x01\x00\xFF\xFF\x10\x00",
	} {
		if got := impl.Encode(form, text); got != want {
			t.Errorf("form %d: got % x, want % x", form, got, want)
		}
		isDecoded(t, form, want, impl.Decoded{Text: text})
	}
}

func TestEncodeOfBrokenBytes(t *testing.T) {
	// Chapter 2 has a point Broken for each byte, Decode one for each piece.
	for form, want := range map[int64]string{
		impl.FormEight:         "a\uFFFD\uFFFDb",
		impl.FormSixteenBig:    "\x00a\xFF\xFD\xFF\xFD\x00b",
		impl.FormSixteenLittle: "a\x00\xFD\xFF\xFD\xFFb\x00",
		impl.FormWideBig:       "\x00\x00\x00a\x00\x00\xFF\xFD\x00\x00\xFF\xFD\x00\x00\x00b",
		impl.FormWideLittle:    "a\x00\x00\x00\xFD\xFF\x00\x00\xFD\xFF\x00\x00b\x00\x00\x00",
	} {
		if got := impl.Encode(form, "a\xE2\x82b"); got != want {
			t.Errorf("form %d: got % x, want % x", form, got, want)
		}
	}
}

func TestOtherForms(t *testing.T) {
	for _, form := range otherForms() {
		if got := impl.Encode(form, "ab"); got != "" {
			t.Errorf("encoded in form %d: got % x", form, got)
		}
		for _, data := range []string{"", "ab", "\xFF", strings.Repeat("a", impl.MaxBytes)} {
			isDecoded(t, form, data, impl.Decoded{Code: impl.ErrForm})
		}
		isNumber(t, "fault of form", form, impl.DecoderFault(impl.Decoder{Form: form}), impl.ErrForm)
		isOut(t, "feed", impl.FeedDecoder(impl.Decoder{Form: form}, "ab"), impl.DecoderOut{Code: impl.ErrForm})
		long := strings.Repeat("a", impl.MaxBytes+1)
		isDecoded(t, form, long, impl.Decoded{Code: impl.ErrSize})
		isOut(t, "feed", impl.FeedDecoder(impl.Decoder{Form: form}, long), impl.DecoderOut{Code: impl.ErrSize})
		isOut(t, "end", impl.EndDecoder(impl.Decoder{Form: form}), impl.DecoderOut{Code: impl.ErrForm})
	}
}

func TestBrokenPiecesOfEight(t *testing.T) {
	for data, want := range map[string]impl.Decoded{
		"a\xE2\x82b":                 {Text: "a\uFFFDb", Broken: []int64{1}},
		"\x80":                       {Text: "\uFFFD", Broken: []int64{0}},
		"\xC0\x80":                   {Text: "\uFFFD\uFFFD", Broken: []int64{0, 1}},
		"\xC1\xBF":                   {Text: "\uFFFD\uFFFD", Broken: []int64{0, 1}},
		"\xE0\x9F\xBF":               {Text: "\uFFFD\uFFFD\uFFFD", Broken: []int64{0, 1, 2}},
		"\xE0\xA0":                   {Text: "\uFFFD", Broken: []int64{0}},
		"\xED\xA0\x80":               {Text: "\uFFFD\uFFFD\uFFFD", Broken: []int64{0, 1, 2}},
		"\xED\xBF\xBF":               {Text: "\uFFFD\uFFFD\uFFFD", Broken: []int64{0, 1, 2}},
		"\xED\x9F":                   {Text: "\uFFFD", Broken: []int64{0}},
		"\xF0\x8F\xBF\xBF":           {Text: "\uFFFD\uFFFD\uFFFD\uFFFD", Broken: []int64{0, 1, 2, 3}},
		"\xF0\x90\x80a":              {Text: "\uFFFDa", Broken: []int64{0}},
		"\xF0\x90\x80\xF0\x90":       {Text: "\uFFFD\uFFFD", Broken: []int64{0, 3}},
		"\xF4\x8F\xBF":               {Text: "\uFFFD", Broken: []int64{0}},
		"\xF4\x90\x80\x80":           {Text: "\uFFFD\uFFFD\uFFFD\uFFFD", Broken: []int64{0, 1, 2, 3}},
		"\xF5\x80":                   {Text: "\uFFFD\uFFFD", Broken: []int64{0, 1}},
		"\xFF\xFE":                   {Text: "\uFFFD\uFFFD", Broken: []int64{0, 1}},
		"\xE2\x82\xE2\x82\xAC\xC2":   {Text: "\uFFFD\u20AC\uFFFD", Broken: []int64{0, 5}},
		"\xEF\xBF\xBD":               {Text: "\uFFFD"},
		"\xEF\xBF\xBD\xEF\xBF":       {Text: "\uFFFD\uFFFD", Broken: []int64{3}},
		"\xC2\xC2\x80":               {Text: "\uFFFD\u0080", Broken: []int64{0}},
		"a\xF1\x80\x80\xE1\x80\xC2b": {Text: "a\uFFFD\uFFFD\uFFFDb", Broken: []int64{1, 4, 6}},
	} {
		isDecoded(t, impl.FormEight, data, want)
	}
}

func TestBrokenPiecesOfSixteen(t *testing.T) {
	for _, form := range []int64{impl.FormSixteenBig, impl.FormSixteenLittle} {
		for _, one := range []struct {
			data string
			want impl.Decoded
		}{
			{unitsIn(form, 0xD800), impl.Decoded{Text: "\uFFFD", Broken: []int64{0}}},
			{unitsIn(form, 0xDC00), impl.Decoded{Text: "\uFFFD", Broken: []int64{0}}},
			{unitsIn(form, 0xDFFF, 'a'), impl.Decoded{Text: "\uFFFDa", Broken: []int64{0}}},
			{unitsIn(form, 0xDBFF, 'a'), impl.Decoded{Text: "\uFFFDa", Broken: []int64{0}}},
			{unitsIn(form, 0xD800, 0xDBFF), impl.Decoded{Text: "\uFFFD\uFFFD", Broken: []int64{0, 2}}},
			{unitsIn(form, 0xD800, 0xD800, 0xDC00), impl.Decoded{Text: "\uFFFD\U00010000", Broken: []int64{0}}},
			{unitsIn(form, 0xDC00, 0xD800), impl.Decoded{Text: "\uFFFD\uFFFD", Broken: []int64{0, 2}}},
			{unitsIn(form, 0xDBFF, 0xDFFF, 0xDFFF), impl.Decoded{Text: "\U0010FFFF\uFFFD", Broken: []int64{4}}},
			{unitsIn(form, 0xD7FF, 0xE000), impl.Decoded{Text: "\uD7FF\uE000"}},
			{unitsIn(form, 'a', 0xFFFD), impl.Decoded{Text: "a\uFFFD"}},
			{"x", impl.Decoded{Text: "\uFFFD", Broken: []int64{0}}},
			{unitsIn(form, 'a') + "\xD8", impl.Decoded{Text: "a\uFFFD", Broken: []int64{2}}},
			{unitsIn(form, 0xD800) + "\xDC", impl.Decoded{Text: "\uFFFD\uFFFD", Broken: []int64{0, 2}}},
			{unitsIn(form, 0xD800) + "\x00", impl.Decoded{Text: "\uFFFD\uFFFD", Broken: []int64{0, 2}}},
		} {
			isDecoded(t, form, one.data, one.want)
		}
	}
}

func TestBrokenPiecesOfWide(t *testing.T) {
	for _, form := range []int64{impl.FormWideBig, impl.FormWideLittle} {
		for _, n := range []int64{0xD800, 0xDBFF, 0xDC00, 0xDFFF, 0x110000, 0x1000061, 0x7FFFFFFF, 0x80000000, 0xFFFFFFFF} {
			isDecoded(t, form, unitsIn(form, 'a', n, 'b'), impl.Decoded{Text: "a\uFFFDb", Broken: []int64{4}})
		}
		// Two halves are no point here.
		isDecoded(t, form, unitsIn(form, 0xD800, 0xDC00), impl.Decoded{Text: "\uFFFD\uFFFD", Broken: []int64{0, 4}})
		for left := 1; left <= 3; left++ {
			data := unitsIn(form, 'a', 'b')[:4+left]
			isDecoded(t, form, data, impl.Decoded{Text: "a\uFFFD", Broken: []int64{4}})
		}
	}
}

// edgeUnits are the units at which the rules of sixteen change.
func edgeUnits() []int64 {
	return []int64{0, 'a', 0xD7FF, 0xD800, 0xDBFF, 0xDC00, 0xDFFF, 0xE000, 0xFEFF, 0xFFFD, 0xFFFF}
}

// edgeData are rows of bytes of a form, most of them with broken pieces.
func edgeData(form int64) []string {
	var rows []string
	if form == impl.FormEight {
		for _, i := range edgeBytes() {
			for _, j := range edgeBytes() {
				for _, k := range edgeBytes() {
					rows = append(rows, string([]byte{i, j, k, 0xBF}))
				}
			}
		}
		return append(rows, "a\xE2\x82\xAC\xF0\x90\x80\x80\xF0\x90\x80\xEF\xBF\xBD\xC2", "\xF4\x8F\xBF\xBF\xF4\x8F\xBF")
	}
	numbers := edgeUnits()
	if unitSize(form) == 4 {
		numbers = []int64{0, 'a', 0xD7FF, 0xD800, 0xDFFF, 0xE000, 0x10FFFF, 0x110000, 0xD8000000, 0xFFFFFFFF}
	}
	for _, i := range numbers {
		for _, j := range numbers {
			for _, k := range numbers {
				rows = append(rows, unitsIn(form, i, j, k), unitsIn(form, i, j, k)[:2*unitSize(form)+1])
			}
			rows = append(rows, unitsIn(form, i, j)[:2*unitSize(form)-1])
		}
	}
	return append(rows, "x", "")
}

func TestDecodeOfAnyBytes(t *testing.T) {
	for _, form := range allForms() {
		for _, data := range edgeData(form) {
			isDecoded(t, form, data, plainDecoded(form, data))
		}
		for i := range 256 {
			for j := range 256 {
				data := string([]byte{byte(i), byte(j)})
				isDecoded(t, form, data, plainDecoded(form, data))
				isDecoded(t, form, "\xE1"+data, plainDecoded(form, "\xE1"+data))
			}
		}
	}
}

func TestDetectOfMarkedTexts(t *testing.T) {
	for _, form := range allForms() {
		for _, text := range edgeTexts() {
			data := impl.Encode(form, "\uFEFF"+text)
			if strings.HasPrefix(text, "\x00") {
				continue
			}
			isNumber(t, "form of a marked text", form, impl.Detect(data), form)
		}
		for _, p := range allPoints()[1:] {
			if got := impl.Detect(pointIn(form, 0xFEFF) + pointIn(form, p)); got != form {
				t.Fatalf("U+FEFF and U+%X in form %d: got %d", p, form, got)
			}
		}
	}
	// Only sixteen little is taken for another form where U+0 comes behind the mark.
	for i, want := range []int64{1, 2, 5, 4, 5} {
		form := int64(i) + 1
		isNumber(t, "form of a mark and U+0", form, impl.Detect(impl.Encode(form, "\uFEFF\x00")), want)
	}
}

func TestDetect(t *testing.T) {
	for data, want := range map[string]int64{
		"":                          1,
		"ab":                        1,
		"abc":                       1,
		"\u20AC":                    1,
		"\uFFFD":                    1,
		"\xEF\xBB\xBF":              1,
		"\xEF\xBB\xBF\xFF\x00":      1,
		"\xEF\xBB":                  0,
		"\xFE\xFF":                  2,
		"\xFE\xFFa":                 2,
		"\xFE\xFF\x00\x00":          2,
		"\xFF\xFE":                  3,
		"\xFF\xFEa\x00":             3,
		"\xFF\xFE\x00":              3,
		"\xFF\xFE\x00a":             3,
		"\xFF\xFE\x00\x00":          5,
		"\xFF\xFE\x00\x00a":         5,
		"\x00\x00\xFE\xFF":          4,
		"\x00\x00\xFE":              0,
		"\x00\x00\xFE\xFE":          0,
		"\x00\x00\xFFa":             0,
		"\x00\x00a\x00":             3,
		"\x00a":                     2,
		"a\x00":                     3,
		"\x00":                      0,
		"\x00a\x00":                 0,
		"a\x00b":                    0,
		"\x00\x00":                  0,
		"\x00a\x00b":                2,
		"a\x00b\x00":                3,
		"a\x00\x00b":                0,
		"a\x00b\x00\x00c":           3,
		"\x00a\x00bc\x00":           2,
		"\xFF\xFF":                  0,
		"a\xFF":                     0,
		"\x00\xFF":                  2,
		"\xFF\x00":                  3,
		"\xD8\x00\xDC\x00":          3,
		"\x00\x00\x00a":             2,
		"a\x00\x00\x00":             3,
		"\xED\xA0\x80":              0,
		"\xED\xA0\x80\x00":          3,
		"\xC2":                      0,
		"a\xEF\xBB\xBF":             1,
		"\xC0\x80":                  0,
		"\x00\x00\x00a\x00\x00\xFE": 0,
	} {
		if got := impl.Detect(data); got != want {
			t.Errorf("detect % x: got %d, want %d", data, got, want)
		}
	}
}

func TestDetectOfLongData(t *testing.T) {
	for want, data := range map[int64]string{
		1: strings.Repeat("a", impl.MaxBytes),
		2: strings.Repeat("\x00a", impl.MaxBytes/2),
		3: strings.Repeat("a\x00", impl.MaxBytes/2),
		4: "\x00\x00\xFE\xFF" + strings.Repeat("a", impl.MaxBytes-4),
	} {
		isNumber(t, "form of MaxBytes bytes", want, impl.Detect(data), want)
		isNumber(t, "form of one more", want, impl.Detect(data+"a"), 0)
		isNumber(t, "form of many more", want, impl.Detect(data+data), 0)
	}
}

func TestDecoderFaultOfHeld(t *testing.T) {
	check := func(form int64, held string) {
		want := int64(impl.ErrForm)
		if plainWaits(form, held) {
			want = 0
		}
		if got := impl.DecoderFault(impl.Decoder{Form: form, Held: held}); got != want {
			t.Errorf("fault of form %d, % x: got %d, want %d", form, held, got, want)
		}
	}
	for _, form := range allForms() {
		check(form, "")
		for i := range 256 {
			check(form, string([]byte{byte(i)}))
			for j := range 256 {
				check(form, string([]byte{byte(i), byte(j)}))
			}
		}
		for _, i := range edgeBytes() {
			for _, j := range edgeBytes() {
				for _, k := range edgeBytes() {
					check(form, string([]byte{i, j, k}))
					check(form, string([]byte{i, j, k, 0x80}))
				}
			}
		}
		check(form, strings.Repeat("\xD8", impl.MaxBytes+1))
	}
}

func TestDecoderFaultByHand(t *testing.T) {
	for _, one := range []struct {
		form int64
		held string
		want int64
	}{
		{1, "\xE2\x82", 0}, {1, "\xE2\x82\xAC", 1}, {1, "a", 1}, {1, "\x80", 1}, {1, "\xC0", 1}, {1, "\xF5", 1},
		{1, "\xED\xA0", 1}, {1, "\xED\x9F", 0}, {1, "\xF4\x90", 1}, {1, "\xF4\x8F\xBF", 0}, {1, "\xE0\x9F", 1},
		{1, "\xF0\x8F", 1}, {1, "\xE2\x82\xE2", 1}, {1, "\xC2\xC2", 1},
		{2, "a", 0}, {2, "\xDC", 0}, {2, "\xD8\x00", 0}, {2, "\xDB\xFF\xDF", 0}, {2, "\xDC\x00", 1}, {2, "\x00a", 1},
		{2, "\xD8\x00\x00", 0}, {2, "\xD8\x00\xDC\x00", 1}, {2, "\xD8\x00\x00a", 1}, {2, "\x00\xD8", 1}, {2, "\x00a\x00", 1},
		{3, "\x00\xD8", 0}, {3, "\xFF\xDB", 0}, {3, "\x00\xDC", 1}, {3, "\xD8\x00", 1}, {3, "\x00\xD8a", 0},
		{4, "\xFF", 0}, {4, "\x00\x00\x00", 0}, {4, "\xFF\xFF\xFF", 0}, {4, "\x00\x00\x00a", 1}, {4, "\xFF\xFF\xFF\xFF", 1},
		{5, "\xFF\xFF", 0}, {5, "a\x00\x00\x00", 1},
	} {
		if got := impl.DecoderFault(impl.Decoder{Form: one.form, Held: one.held}); got != one.want {
			t.Errorf("fault of form %d, % x: got %d, want %d", one.form, one.held, got, one.want)
		}
	}
}

func TestDecoderFaultOfGone(t *testing.T) {
	for _, form := range allForms() {
		for _, gone := range []int64{0, 1, impl.MaxBytes + 1, goneLimit - 1, goneLimit} {
			isNumber(t, "fault of gone", gone, impl.DecoderFault(impl.Decoder{Form: form, Gone: gone}), 0)
		}
		for _, gone := range []int64{-1, goneLimit + 1, math.MaxInt64, math.MinInt64} {
			wrong := impl.Decoder{Form: form, Held: "\xD8", Gone: gone}
			isNumber(t, "fault of gone", gone, impl.DecoderFault(wrong), impl.ErrForm)
			isOut(t, "feed", impl.FeedDecoder(wrong, "a"), impl.DecoderOut{Code: impl.ErrForm})
			long := strings.Repeat("a", impl.MaxBytes+1)
			isOut(t, "feed", impl.FeedDecoder(wrong, long), impl.DecoderOut{Code: impl.ErrSize})
			isOut(t, "end", impl.EndDecoder(wrong), impl.DecoderOut{Code: impl.ErrForm})
		}
	}
}

func TestDecodersThatAreNotRight(t *testing.T) {
	for _, wrong := range []impl.Decoder{
		{Form: 1, Held: "a"}, {Form: 1, Held: "\x80"}, {Form: 1, Held: "\xE2\x82\xAC"}, {Form: 1, Held: "\xE2\xE2"},
		{Form: 2, Held: "\x00a"}, {Form: 2, Held: "\xDC\x00"}, {Form: 2, Held: "\xD8\x00\xDC\x00"},
		{Form: 3, Held: "\xD8\x00"}, {Form: 4, Held: "\x00\x00\x00a"}, {Form: 5, Held: "aaaaa"},
	} {
		isNumber(t, "fault of form", wrong.Form, impl.DecoderFault(wrong), impl.ErrForm)
		isOut(t, "feed", impl.FeedDecoder(wrong, ""), impl.DecoderOut{Code: impl.ErrForm})
		isOut(t, "feed", impl.FeedDecoder(wrong, "abc"), impl.DecoderOut{Code: impl.ErrForm})
		// Data that are too long are looked for ahead of the decoder.
		long := strings.Repeat("a", impl.MaxBytes+1)
		isOut(t, "feed", impl.FeedDecoder(wrong, long), impl.DecoderOut{Code: impl.ErrSize})
		isOut(t, "feed", impl.FeedDecoder(wrong, long[1:]), impl.DecoderOut{Code: impl.ErrForm})
		isOut(t, "end", impl.EndDecoder(wrong), impl.DecoderOut{Code: impl.ErrForm})
	}
}

func TestFeedDecoderByHand(t *testing.T) {
	for _, one := range []struct {
		form       int64
		held, data string
		want       impl.DecoderOut
	}{
		{1, "", "a\xE2", impl.DecoderOut{Text: "a", Decoder: impl.Decoder{Form: 1, Held: "\xE2", Gone: 8}}},
		{1, "\xE2", "\x82", impl.DecoderOut{Decoder: impl.Decoder{Form: 1, Held: "\xE2\x82", Gone: 7}}},
		{1, "\xE2\x82", "\xAC", impl.DecoderOut{Text: "\u20AC", Decoder: impl.Decoder{Form: 1, Gone: 10}}},
		{1, "\xE2\x82", "a", impl.DecoderOut{Text: "\uFFFDa", Broken: []int64{7}, Decoder: impl.Decoder{Form: 1, Gone: 10}}},
		{1, "\xE2\x82", "\xE2", impl.DecoderOut{Text: "\uFFFD", Broken: []int64{7},
			Decoder: impl.Decoder{Form: 1, Held: "\xE2", Gone: 9}}},
		{1, "\xED", "\xA0", impl.DecoderOut{Text: "\uFFFD\uFFFD", Broken: []int64{7, 8}, Decoder: impl.Decoder{Form: 1, Gone: 9}}},
		{1, "\xE2", "", impl.DecoderOut{Decoder: impl.Decoder{Form: 1, Held: "\xE2", Gone: 7}}},
		{2, "\xD8", "\x00", impl.DecoderOut{Decoder: impl.Decoder{Form: 2, Held: "\xD8\x00", Gone: 7}}},
		{2, "\xD8\x00", "\xDC", impl.DecoderOut{Decoder: impl.Decoder{Form: 2, Held: "\xD8\x00\xDC", Gone: 7}}},
		{2, "\xD8\x00\xDC", "\x01", impl.DecoderOut{Text: "\U00010001", Decoder: impl.Decoder{Form: 2, Gone: 11}}},
		{2, "\xD8\x00", "\xD8\x01", impl.DecoderOut{Text: "\uFFFD", Broken: []int64{7},
			Decoder: impl.Decoder{Form: 2, Held: "\xD8\x01", Gone: 9}}},
		{2, "\xD8\x00", "\x00ab", impl.DecoderOut{Text: "\uFFFDa", Broken: []int64{7},
			Decoder: impl.Decoder{Form: 2, Held: "b", Gone: 11}}},
		{3, "a", "\x00\x00", impl.DecoderOut{Text: "a", Decoder: impl.Decoder{Form: 3, Held: "\x00", Gone: 9}}},
		{3, "\x00", "\xDC", impl.DecoderOut{Text: "\uFFFD", Broken: []int64{7}, Decoder: impl.Decoder{Form: 3, Gone: 9}}},
		{4, "\x00\x00", "\x00", impl.DecoderOut{Decoder: impl.Decoder{Form: 4, Held: "\x00\x00\x00", Gone: 7}}},
		{4, "\xFF\xFF\xFF", "\xFFa", impl.DecoderOut{Text: "\uFFFD", Broken: []int64{7},
			Decoder: impl.Decoder{Form: 4, Held: "a", Gone: 11}}},
		{5, "a\x00\x00", "\x00b", impl.DecoderOut{Text: "a", Decoder: impl.Decoder{Form: 5, Held: "b", Gone: 11}}},
	} {
		d := impl.Decoder{Form: one.form, Held: one.held, Gone: 7}
		isOut(t, "feed", impl.FeedDecoder(d, one.data), one.want)
	}
}

func TestEndDecoderByHand(t *testing.T) {
	for _, one := range []struct {
		form   int64
		held   string
		text   string
		broken []int64
	}{
		{1, "", "", nil}, {1, "\xE2\x82", "\uFFFD", []int64{7}}, {1, "\xF4\x8F\xBF", "\uFFFD", []int64{7}},
		{2, "", "", nil}, {2, "a", "\uFFFD", []int64{7}}, {2, "\xD8\x00", "\uFFFD", []int64{7}},
		{2, "\xD8\x00\xDC", "\uFFFD\uFFFD", []int64{7, 9}}, {3, "\x00\xD8a", "\uFFFD\uFFFD", []int64{7, 9}},
		{4, "a", "\uFFFD", []int64{7}}, {4, "\x00\x00\x00", "\uFFFD", []int64{7}}, {5, "a\x00", "\uFFFD", []int64{7}},
		{5, "", "", nil},
	} {
		got := impl.EndDecoder(impl.Decoder{Form: one.form, Held: one.held, Gone: 7})
		isOut(t, "end", got, impl.DecoderOut{
			Text: one.text, Broken: one.broken, Decoder: impl.Decoder{Form: one.form, Gone: 7 + int64(len(one.held))},
		})
	}
}

// fed feeds pieces to a new decoder that begins at gone, ends it, and tells all that it told. Behind
// each piece the decoder is to be right, and to hold no more than what waits.
func fed(t *testing.T, form int64, gone int64, pieces []string) impl.Decoded {
	t.Helper()
	d, all := impl.Decoder{Form: form, Gone: gone}, impl.Decoded{}
	given := ""
	for _, piece := range pieces {
		out := impl.FeedDecoder(d, piece)
		given += piece
		read := int(out.Decoder.Gone - gone)
		if out.Code != impl.OK || out.Decoder.Form != form || impl.DecoderFault(out.Decoder) != 0 ||
			!plainWaits(form, out.Decoder.Held) || read < 0 || read > len(given) || given[read:] != out.Decoder.Held {
			t.Fatalf("form %d, % x: fed % x, got %#v", form, pieces, piece, out)
		}
		d, all.Text, all.Broken = out.Decoder, all.Text+out.Text, append(all.Broken, out.Broken...)
	}
	out := impl.EndDecoder(d)
	if out.Code != impl.OK || out.Decoder != (impl.Decoder{Form: form, Gone: gone + int64(len(given))}) {
		t.Fatalf("form %d, % x: the end is %#v", form, pieces, out)
	}
	return impl.Decoded{Text: all.Text + out.Text, Broken: append(all.Broken, out.Broken...)}
}

func shifted(places []int64, by int64) []int64 {
	var moved []int64
	for _, at := range places {
		moved = append(moved, at+by)
	}
	return moved
}

func isFed(t *testing.T, form int64, gone int64, pieces []string) {
	t.Helper()
	want := impl.Decode(form, strings.Join(pieces, ""))
	want.Broken = shifted(want.Broken, gone)
	if got := fed(t, form, gone, pieces); !sameDecoded(got, want) {
		t.Errorf("form %d from %d, % x: got %#v, want %#v", form, gone, pieces, got, want)
	}
}

func TestFedBytesOfAnyCut(t *testing.T) {
	for _, form := range allForms() {
		rows := edgeData(form)
		for _, text := range edgeTexts() {
			rows = append(rows, impl.Encode(form, text), impl.Encode(form, "a"+text)[1:])
		}
		for i, data := range rows {
			isFed(t, form, 0, strings.Split(data, ""))
			single := make([]string, len(data))
			for at := range single {
				single[at] = data[at : at+1]
			}
			isFed(t, form, 0, single)
			for cut := 0; cut <= len(data); cut++ {
				isFed(t, form, int64(i), []string{data[:cut], data[cut:]})
				if len(data) <= 8 {
					for next := cut; next <= len(data); next++ {
						isFed(t, form, 0, []string{data[:cut], data[cut:next], "", data[next:]})
					}
				}
			}
		}
	}
}

func TestFedBytesOfAllTexts(t *testing.T) {
	for _, form := range allForms() {
		pieces := []string{}
		for _, data := range edgeData(form)[:200] {
			pieces = append(pieces, data)
		}
		isFed(t, form, 0, pieces)
		isFed(t, form, goneLimit-5000, pieces)
	}
}

func TestLongFeeds(t *testing.T) {
	// What is fed in all has no bound; each piece has.
	d, total, text := impl.Decoder{Form: impl.FormSixteenBig}, int64(0), 0
	piece := strings.Repeat("\x00a", impl.MaxBytes/2-1) + "\xD8\x00"
	for range 3 {
		out := impl.FeedDecoder(d, piece)
		total += int64(len(piece))
		if out.Code != impl.OK || out.Decoder.Held != "\xD8\x00" || out.Decoder.Gone+2 != total {
			t.Fatalf("a long feed: code %d, gone %d, held %d", out.Code, out.Decoder.Gone, len(out.Decoder.Held))
		}
		d, text = out.Decoder, text+len(out.Text)
	}
	if text != 3*(impl.MaxBytes/2-1)+2*3 {
		t.Errorf("three long feeds: got %d bytes", text)
	}
}

func TestGoneAtItsLimit(t *testing.T) {
	d := impl.Decoder{Form: 2, Held: "\xD8\x00\x00", Gone: goneLimit}
	want := impl.DecoderOut{
		Decoder: impl.Decoder{Form: 2, Gone: goneLimit + 3}, Text: "\uFFFD\uFFFD", Broken: []int64{goneLimit, goneLimit + 2},
	}
	isOut(t, "end at the limit", impl.EndDecoder(d), want)
	want = impl.DecoderOut{
		Decoder: impl.Decoder{Form: 2, Gone: goneLimit + 4}, Text: "\uFFFDa", Broken: []int64{goneLimit},
	}
	isOut(t, "feed at the limit", impl.FeedDecoder(d, "a"), want)
}

func TestSizesOfEncode(t *testing.T) {
	half, quarter := impl.MaxBytes/2, impl.MaxBytes/4
	for _, one := range []struct {
		form int64
		text string
		size int
	}{
		{1, strings.Repeat("a", impl.MaxBytes), impl.MaxBytes}, {1, strings.Repeat("a", impl.MaxBytes+1), 0},
		{1, strings.Repeat("\U0010FFFF", quarter), impl.MaxBytes}, {1, strings.Repeat("\U0010FFFF", quarter) + "a", 0},
		{1, strings.Repeat("\xFF", impl.MaxBytes/3), impl.MaxBytes - 1}, {1, strings.Repeat("\xFF", impl.MaxBytes/3) + "a", impl.MaxBytes},
		{1, strings.Repeat("\xFF", impl.MaxBytes/3) + "ab", 0}, {1, strings.Repeat("\xFF", impl.MaxBytes), 0},
		{2, strings.Repeat("a", half), impl.MaxBytes}, {2, strings.Repeat("a", half+1), 0},
		{3, strings.Repeat("\U00010000", quarter), impl.MaxBytes}, {3, strings.Repeat("\U00010000", quarter-1) + "aaa", 0},
		{2, strings.Repeat("\u6000", impl.MaxBytes/3), impl.MaxBytes / 3 * 2}, {3, strings.Repeat("\u6000", impl.MaxBytes/3+1), 0},
		{4, strings.Repeat("a", quarter), impl.MaxBytes}, {4, strings.Repeat("a", quarter+1), 0},
		{5, strings.Repeat("\U0010FFFF", quarter), impl.MaxBytes}, {5, strings.Repeat("\u6000", quarter+1), 0},
		{5, strings.Repeat("a", impl.MaxBytes), 0},
	} {
		if got := impl.Encode(one.form, one.text); len(got) != one.size {
			t.Errorf("form %d, %d bytes: got %d, want %d", one.form, len(one.text), len(got), one.size)
		} else if one.size > 0 && strings.ToValidUTF8(one.text, "") == one.text {
			isDecoded(t, one.form, got, impl.Decoded{Text: one.text})
		}
	}
}

// longData are bytes of a form with how many bytes their text would have.
type longData struct {
	form int64
	data string
	size int
}

func longRows() []longData {
	third := impl.MaxBytes / 3
	return []longData{
		{1, strings.Repeat("a", impl.MaxBytes), impl.MaxBytes},
		{1, strings.Repeat("\xFF", third) + "a", 3*third + 1},
		{1, strings.Repeat("\xFF", third) + "aa", 3*third + 2},
		{1, strings.Repeat("\xFF", impl.MaxBytes), 3 * impl.MaxBytes},
		{2, strings.Repeat("\x60\x00", third) + "\x00a", 3*third + 1},
		{2, strings.Repeat("\x60\x00", third) + "\x00a\x00a", 3*third + 2},
		{3, strings.Repeat("\x00\xDC", third) + "a\x00", 3*third + 1},
		{3, strings.Repeat("\x00\xDC", third) + "a\x00a\x00", 3*third + 2},
		{3, strings.Repeat("\x00\x60", impl.MaxBytes/2), impl.MaxBytes / 2 * 3},
		{4, strings.Repeat("\x00\x10\xFF\xFF", impl.MaxBytes/4), impl.MaxBytes},
		{5, strings.Repeat("\xFF\xFF\xFF\xFF", impl.MaxBytes/4), impl.MaxBytes / 4 * 3},
	}
}

func TestSizesOfDecode(t *testing.T) {
	for _, row := range longRows() {
		code := int64(impl.OK)
		if row.size > impl.MaxBytes {
			code, row.size = impl.ErrSize, 0
		}
		got := impl.Decode(row.form, row.data)
		if got.Code != code || len(got.Text) != row.size || code != impl.OK && len(got.Broken) != 0 {
			t.Errorf("form %d, %d bytes: got code %d, %d bytes", row.form, len(row.data), got.Code, len(got.Text))
		}
		out := impl.FeedDecoder(impl.Decoder{Form: row.form, Gone: 3}, row.data)
		want := impl.DecoderOut{Code: code}
		if code == impl.OK {
			want = impl.DecoderOut{
				Text: got.Text, Broken: shifted(got.Broken, 3), Decoder: impl.Decoder{Form: row.form, Gone: 3 + int64(len(row.data))},
			}
		}
		if !sameOut(out, want) {
			t.Errorf("form %d, %d bytes fed: got code %d, %d bytes", row.form, len(row.data), out.Code, len(out.Text))
		}
	}
	for _, form := range allForms() {
		long := strings.Repeat("\x00", impl.MaxBytes+1)
		isDecoded(t, form, long, impl.Decoded{Code: impl.ErrSize})
		isOut(t, "long feed", impl.FeedDecoder(impl.Decoder{Form: form}, long), impl.DecoderOut{Code: impl.ErrSize})
	}
}

func TestHeldAndLongData(t *testing.T) {
	// What is held is no part of the data: both together may have more than MaxBytes bytes.
	out := impl.FeedDecoder(impl.Decoder{Form: 1, Held: "\xF0\x90\x80"}, "\x80"+strings.Repeat("a", impl.MaxBytes-4))
	if out.Code != impl.OK || len(out.Text) != impl.MaxBytes || out.Decoder.Gone != impl.MaxBytes {
		t.Errorf("a point and a text of MaxBytes in all: got code %d, %d bytes", out.Code, len(out.Text))
	}
	out = impl.FeedDecoder(impl.Decoder{Form: 1, Held: "\xF0\x90\x80"}, "\x80"+strings.Repeat("a", impl.MaxBytes-3))
	isOut(t, "a text of one more", out, impl.DecoderOut{Code: impl.ErrSize})
	out = impl.FeedDecoder(impl.Decoder{Form: 4, Held: "\x00\x00\x00"}, "a"+strings.Repeat("\x00\x00\x00b", impl.MaxBytes/4-1)+"\x00\x00\x00")
	if out.Code != impl.OK || len(out.Text) != impl.MaxBytes/4 || out.Decoder.Held != "\x00\x00\x00" {
		t.Errorf("MaxBytes bytes behind what is held: got code %d, %d bytes", out.Code, len(out.Text))
	}
}
