package tests

import (
	"strings"
	"testing"

	"loop.example/g00044/impl"
)

// shiftPieces has, for each state of Shift, the point of each row of bytes that is one, as chapter 4 says.
func shiftPieces() [5]map[string]int64 {
	var pieces [5]map[string]int64
	for state := range pieces {
		pieces[state] = map[string]int64{}
		for b := int64(0); b <= 0x1F; b++ {
			if b != 0x1B {
				pieces[state][string([]byte{byte(b)})] = b
			}
		}
	}
	for b := int64(0x20); b <= 0x7E; b++ {
		pieces[0][string([]byte{byte(b)})] = b
	}
	for b := int64(0x20); b <= 0x7F; b++ {
		for state, first := range []int64{0, 0x200, 0x300, 0x400} {
			if first > 0 {
				pieces[state][string([]byte{byte(b)})] = first + b - 0x20
			}
		}
	}
	for x := int64(0x21); x <= 0x7E; x++ {
		for y := int64(0x21); y <= 0x7E; y++ {
			if p := 0x6000 + 94*(x-33) + y - 33; p <= 0x67FF {
				pieces[4][string([]byte{byte(x), byte(y)})] = p
			}
		}
	}
	return pieces
}

var plainShift = shiftPieces()

// shiftBytes turns plainShift round.
func shiftBytes() [5]map[int64]string {
	var turned [5]map[int64]string
	for state := range turned {
		turned[state] = map[int64]string{}
		for bytes, p := range plainShift[state] {
			turned[state][p] = bytes
		}
	}
	return turned
}

var plainShiftBytes = shiftBytes()

var shiftNames = [5]string{"\x1BA", "\x1BB", "\x1BC", "\x1BD", "\x1BW"}

func plainEncodeShift(points []int64) impl.LegacyOut {
	var data []byte
	state := 0
	for i, p := range points {
		if _, here := plainShiftBytes[state][p]; !here {
			next := 0
			for next < 5 && plainShiftBytes[next][p] == "" {
				next++
			}
			if next == 5 {
				return impl.LegacyOut{Code: impl.ErrNone, At: int64(i)}
			}
			state = next
			data = append(data, shiftNames[state]...)
		}
		data = append(data, plainShiftBytes[state][p]...)
		if p == 0x0A {
			state = 0
		}
	}
	if state != 0 {
		data = append(data, shiftNames[0]...)
	}
	return impl.LegacyOut{Data: string(data)}
}

func plainDecodeShift(data string) impl.LegacyOut {
	text, state := "", 0
next:
	for at := 0; at < len(data); {
		for name, begin := range shiftNames {
			if strings.HasPrefix(data[at:], begin) {
				state, at = name, at+2
				continue next
			}
		}
		for size := 1; size <= 2 && at+size <= len(data); size++ {
			if p, found := plainShift[state][data[at:at+size]]; found {
				text, at = text+writtenBytes(p), at+size
				if p == 0x0A {
					state = 0
				}
				continue next
			}
		}
		return impl.LegacyOut{Code: impl.ErrSyntax, At: int64(at)}
	}
	if state != 0 {
		return impl.LegacyOut{Code: impl.ErrState, At: int64(len(data))}
	}
	return impl.LegacyOut{Data: text}
}

// stepNumbers tells the steps of points as numbers, before they are written.
func stepNumbers(points []int64) []int64 {
	var numbers []int64
	from := int64(64)
	for _, p := range points {
		n := (p - from) * 2
		if p < from {
			n = (from-p)*2 - 1
		}
		numbers = append(numbers, n)
		from = p - p%128 + 64
	}
	return numbers
}

// sevens writes a number in as many pieces as asked for.
func sevens(n int64, size int) string {
	data := make([]byte, size)
	for i := range data {
		data[i] = byte(n>>(7*i)&0x7F) | 0x80
	}
	data[size-1] &= 0x7F
	return string(data)
}

func fewestSevens(n int64) string {
	size := 1
	for n>>(7*size) != 0 {
		size++
	}
	return sevens(n, size)
}

func plainEncodeSteps(points []int64) string {
	var data []byte
	for _, n := range stepNumbers(points) {
		data = append(data, fewestSevens(n)...)
	}
	return string(data)
}

func plainDecodeSteps(data string) impl.LegacyOut {
	text, from := "", int64(64)
	for at := 0; at < len(data); {
		size := 1
		for at+size <= len(data) && data[at+size-1] >= 0x80 {
			size++
		}
		wrong := impl.LegacyOut{Code: impl.ErrSyntax, At: int64(at)}
		if at+size > len(data) || size > 4 {
			return wrong
		}
		n := int64(0)
		for i, b := range []byte(data[at : at+size]) {
			n += int64(b%128) << (7 * i)
		}
		if fewestSevens(n) != data[at:at+size] {
			return wrong
		}
		p := from + n/2
		if n%2 == 1 {
			p = from - n/2 - 1
		}
		if p < 0 || p > impl.MaxPoint || p >= 0xD800 && p <= 0xDFFF {
			return impl.LegacyOut{Code: impl.ErrNone, At: int64(at)}
		}
		text, from, at = text+writtenBytes(p), p-p%128+64, at+size
	}
	return impl.LegacyOut{Data: text}
}

func textWritten(points ...int64) string {
	var text strings.Builder
	for _, p := range points {
		text.WriteString(writtenBytes(p))
	}
	return text.String()
}

func isLegacy(t *testing.T, what string, given string, got impl.LegacyOut, want impl.LegacyOut) {
	t.Helper()
	if got != want {
		t.Errorf("%s of % x: got %#v, want %#v", what, given, got, want)
	}
}

// isShifted encodes points, and decodes what comes out.
func isShifted(t *testing.T, points ...int64) {
	t.Helper()
	text := textWritten(points...)
	want := plainEncodeShift(points)
	isLegacy(t, "shift", text, impl.EncodeShift(text), want)
	if want.Code == impl.OK {
		isLegacy(t, "back from shift", want.Data, impl.DecodeShift(want.Data), impl.LegacyOut{Data: text})
	}
}

func isStepped(t *testing.T, points ...int64) {
	t.Helper()
	text := textWritten(points...)
	data := plainEncodeSteps(points)
	if got := impl.EncodeSteps(text); got != data {
		t.Errorf("steps of % x: got % x, want % x", text, got, data)
	}
	isLegacy(t, "back from steps", data, impl.DecodeSteps(data), impl.LegacyOut{Data: text})
}

// shiftEdges are points at both sides of where the states begin and end.
func shiftEdges() []int64 {
	return []int64{
		0, 0x09, 0x0A, 0x0B, 0x1A, 0x1C, 0x1F, 0x20, 'A', 'W', 0x7E, 0x200, 0x20A, 0x21B, 0x24C, 0x25F, 0x300, 0x35F,
		0x400, 0x45A, 0x45F, 0x6000, 0x605D, 0x605E, 0x67FE, 0x67FF, 0x1B, 0x7F, 0x80, 0x1FF, 0x260, 0x2FF, 0x360,
		0x460, 0x500, 0x5FFF, 0x6800, impl.Broken, 0x10020, 0x10200, impl.MaxPoint,
	}
}

func TestShiftOfAllPoints(t *testing.T) {
	for _, p := range allPoints() {
		want := plainEncodeShift([]int64{p})
		if got := impl.EncodeShift(writtenBytes(p)); got != want {
			t.Fatalf("shift of U+%X: got %#v, want %#v", p, got, want)
		}
		if want.Code == impl.OK {
			isShifted(t, p)
			isShifted(t, 0x200, p, p, 'a')
		}
	}
}

func TestShiftOfRows(t *testing.T) {
	edges := shiftEdges()
	isShifted(t)
	for _, i := range edges {
		for _, j := range edges {
			isShifted(t, i, j)
			for _, k := range edges {
				isShifted(t, i, j, k)
			}
		}
	}
	isShifted(t, edges[:26]...)
	isShifted(t, edges...)
}

func TestEncodeShiftByHand(t *testing.T) {
	for text, want := range map[string]impl.LegacyOut{
		"":                     {},
		"az ~":                 {Data: "az ~"},
		"\x00\x1F":             {Data: "\x00\x1F"},
		"\u0200":               {Data: "\x1BB \x1BA"},
		"\u025F\u0300":         {Data: "\x1BB\x7F\x1BC \x1BA"},
		"\u0400a\u0400":        {Data: "\x1BD \x1BAa\x1BD \x1BA"},
		"\u6000":               {Data: "\x1BW!!\x1BA"},
		"\u605D\u605E":         {Data: "\x1BW!~\"!\x1BA"},
		"\u67FF":               {Data: "\x1BW6j\x1BA"},
		"\u6000\x00\x1F\u6001": {Data: "\x1BW!!\x00\x1F!\"\x1BA"},
		"\u0200\x09\u0201":     {Data: "\x1BB \x09!\x1BA"},
		"\u0200\n":             {Data: "\x1BB \n"},
		"\u0200\n\n\u0201":     {Data: "\x1BB \n\n\x1BB!\x1BA"},
		"\u6000\na":            {Data: "\x1BW!!\na"},
		"\u0200\x0D":           {Data: "\x1BB \x0D\x1BA"},
		"\x1B":                 {Code: impl.ErrNone},
		"\u0200\x1B":           {Code: impl.ErrNone, At: 1},
		"a\x7F":                {Code: impl.ErrNone, At: 1},
		"\u0200\u0260":         {Code: impl.ErrNone, At: 1},
		"\u6000\u6000\u6800a":  {Code: impl.ErrNone, At: 2},
		"\u5FFF":               {Code: impl.ErrNone},
		"\u0500\u0500":         {Code: impl.ErrNone},
		"a\xFF":                {Code: impl.ErrNone, At: 1},
		"\u0200\u0200\u2000":   {Code: impl.ErrNone, At: 2},
	} {
		isLegacy(t, "shift", text, impl.EncodeShift(text), want)
	}
}

func TestDecodeShiftByHand(t *testing.T) {
	for data, want := range map[string]impl.LegacyOut{
		"":                     {},
		"a\x00~":               {Data: "a\x00~"},
		"\x1BA":                {},
		"\x1BA\x1BAa\x1BA":     {Data: "a"},
		"\x1BB\x1BC\x1BAa":     {Data: "a"},
		"\x1BB\x1BB \x1BA":     {Data: "\u0200"},
		"\x1BB\x7F\x1BA":       {Data: "\u025F"},
		"\x1BD\x7F \x1BA":      {Data: "\u045F\u0400"},
		"\x1BC\n ":             {Data: "\n "},
		"\x1BW\n!!":            {Data: "\n!!"},
		"\x1BW\x00!!\x1F\x1BA": {Data: "\x00\u6000\x1F"},
		"\x1BW6j\x1BA":         {Data: "\u67FF"},
		"\x1B":                 {Code: impl.ErrSyntax},
		"ab\x1B":               {Code: impl.ErrSyntax, At: 2},
		"a\x1BE":               {Code: impl.ErrSyntax, At: 1},
		"\x1Ba":                {Code: impl.ErrSyntax},
		"\x1B\x1BA":            {Code: impl.ErrSyntax},
		"\x1B\x00":             {Code: impl.ErrSyntax},
		"\x1BB\x1B":            {Code: impl.ErrSyntax, At: 2},
		"\x7F":                 {Code: impl.ErrSyntax},
		"a\x80":                {Code: impl.ErrSyntax, At: 1},
		"\x1BB\xFF":            {Code: impl.ErrSyntax, At: 2},
		"\x1BB\x80":            {Code: impl.ErrSyntax, At: 2},
		"\x1BW!":               {Code: impl.ErrSyntax, At: 2},
		"\x1BW!!!\x1BA":        {Code: impl.ErrSyntax, At: 4},
		"\x1BW!\n":             {Code: impl.ErrSyntax, At: 2},
		"\x1BW! ":              {Code: impl.ErrSyntax, At: 2},
		"\x1BW !":              {Code: impl.ErrSyntax, At: 2},
		"\x1BW!\x7F":           {Code: impl.ErrSyntax, At: 2},
		"\x1BW\x7F!":           {Code: impl.ErrSyntax, At: 2},
		"\x1BW6k":              {Code: impl.ErrSyntax, At: 2},
		"\x1BW7!":              {Code: impl.ErrSyntax, At: 2},
		"\x1BW~~":              {Code: impl.ErrSyntax, At: 2},
		"\x1BW!!~~":            {Code: impl.ErrSyntax, At: 4},
		"\x1BB":                {Code: impl.ErrState, At: 2},
		"a\x1BW!!":             {Code: impl.ErrState, At: 5},
		"\n\x1BC":              {Code: impl.ErrState, At: 3},
		"\x1BD \x0D":           {Code: impl.ErrState, At: 4},
		"\x1BB\x1BE":           {Code: impl.ErrSyntax, At: 2},
	} {
		isLegacy(t, "text", data, impl.DecodeShift(data), want)
	}
}

func TestDecodeShiftOfAnyBytes(t *testing.T) {
	check := func(data string) {
		t.Helper()
		isLegacy(t, "text", data, impl.DecodeShift(data), plainDecodeShift(data))
	}
	for _, begin := range append(shiftNames[:], "") {
		for i := range 256 {
			check(begin + string([]byte{byte(i)}))
			for j := range 256 {
				data := begin + string([]byte{byte(i), byte(j)})
				check(data)
				check(data + "\x1BA")
				check(data + "!!\x1BA")
			}
		}
	}
	edges := "\x00\n\x1A\x1B\x1F !~\x7F\x80ABDEVWX6jk\xFF"
	for i := range edges {
		for j := range edges {
			for k := range edges {
				for l := range edges {
					check(string([]byte{edges[i], edges[j], edges[k], edges[l], '!'}))
					check(string([]byte{0x1B, 'W', edges[i], edges[j], edges[k], edges[l], 0x1B, 'A'}))
				}
			}
		}
	}
}

// longText is a text with how many bytes it has in Shift, or in steps.
type longText struct {
	text string
	size int
}

func TestSizesOfShift(t *testing.T) {
	half, third := impl.MaxBytes/2, impl.MaxBytes/3
	for _, row := range []longText{
		{strings.Repeat("a", impl.MaxBytes), impl.MaxBytes},
		{strings.Repeat("\u0200", half), half + 4},
		{strings.Repeat("\u6000", third), 2*third + 4},
		{strings.Repeat("\u0200a", 10922) + "aaaa", impl.MaxBytes},
		{strings.Repeat("\u0200a", 10922) + "aaaaa", impl.MaxBytes + 1},
		{strings.Repeat("\u0200a", 10922) + "\u0200", impl.MaxBytes + 1},
		{strings.Repeat("\u0200a", 10921) + strings.Repeat("\u0200", 6), impl.MaxBytes},
		{strings.Repeat("\u0200a", 10921) + strings.Repeat("\u0200", 7), impl.MaxBytes + 1},
		{strings.Repeat("\u0200a", 10921) + strings.Repeat("\u0200", 7) + "\n", impl.MaxBytes},
		{strings.Repeat("\u0200\u0300", impl.MaxBytes/4), 6*impl.MaxBytes/4 + 2},
	} {
		want := impl.LegacyOut{Data: plainEncodeShift(impl.PointsOf(row.text)).Data}
		if len(want.Data) != row.size {
			t.Fatalf("the test's own size: %d bytes in shift, not %d", len(want.Data), row.size)
		}
		if row.size > impl.MaxBytes {
			want = impl.LegacyOut{Code: impl.ErrSize}
		}
		if got := impl.EncodeShift(row.text); got != want {
			t.Errorf("shift of %d bytes: got code %d, at %d, %d bytes, want %d", len(row.text), got.Code, got.At, len(got.Data), row.size)
		}
		if want.Code == impl.OK {
			if got := impl.DecodeShift(want.Data); got != (impl.LegacyOut{Data: row.text}) {
				t.Errorf("back from %d bytes: got code %d, at %d, %d bytes", row.size, got.Code, got.At, len(got.Data))
			}
		}
	}
}

func isCode(t *testing.T, what string, got impl.LegacyOut, want impl.LegacyOut) {
	t.Helper()
	if got != want {
		t.Errorf("%s: got code %d, at %d, %d bytes, want code %d, at %d, %d bytes",
			what, got.Code, got.At, len(got.Data), want.Code, want.At, len(want.Data))
	}
}

func TestShiftThatIsTooLong(t *testing.T) {
	tooLong := impl.LegacyOut{Code: impl.ErrSize}
	long := strings.Repeat("a", impl.MaxBytes+1)
	isCode(t, "shift of a long text", impl.EncodeShift(long), tooLong)
	isCode(t, "shift of a long text that is in no state", impl.EncodeShift("\u0500"+long), tooLong)
	isCode(t, "long data", impl.DecodeShift(long), tooLong)
	isCode(t, "long data with a fault", impl.DecodeShift("\xFF"+long), tooLong)
	isCode(t, "long data in another state", impl.DecodeShift("\x1BB"+long), tooLong)
	// A point in no state leaves no text that could be too long.
	isCode(t, "a point in no state behind a long answer", impl.EncodeShift(strings.Repeat("\u0200a", 20000)+"\u0500"),
		impl.LegacyOut{Code: impl.ErrNone, At: 40000})
	half := strings.Repeat(" ", impl.MaxBytes/2)
	isCode(t, "a text of MaxBytes bytes", impl.DecodeShift("\x1BB"+half+"\x1BA"),
		impl.LegacyOut{Data: strings.Repeat("\u0200", impl.MaxBytes/2)})
	isCode(t, "a text of one more", impl.DecodeShift("\x1BB"+half+"\x1BAa"), tooLong)
	isCode(t, "a long text with a fault behind it", impl.DecodeShift("\x1BB"+half+"aa\x1BE"),
		impl.LegacyOut{Code: impl.ErrSyntax, At: impl.MaxBytes/2 + 4})
	isCode(t, "a long text in another state", impl.DecodeShift("\x1BB"+half+"aa"),
		impl.LegacyOut{Code: impl.ErrState, At: impl.MaxBytes/2 + 4})
	pairs := strings.Repeat("!!", impl.MaxBytes/3)
	isCode(t, "ideographs of MaxBytes bytes", impl.DecodeShift("\x1BW"+pairs+"\na"), tooLong)
	isCode(t, "ideographs of MaxBytes bytes", impl.DecodeShift("\x1BW"+pairs+"\n"),
		impl.LegacyOut{Data: strings.Repeat("\u6000", impl.MaxBytes/3) + "\n"})
}

// stepEdges are points at both sides of where steps change.
func stepEdges() []int64 {
	return []int64{
		0, 1, 63, 64, 65, 127, 128, 129, 191, 192, 255, 256, 0x7FF, 0x800, 8191, 8192, 8255, 8256, 8257, 0xD7FF, 0xE000,
		0xFFFD, 0xFFFF, 0x10000, 1<<20 - 1, 1 << 20, 1<<20 + 63, 1<<20 + 64, 1<<20 + 65, 0x10FF7F, 0x10FF80, 0x10FFBF,
		0x10FFC0, 0x10FFFF,
	}
}

func TestStepsOfAllPoints(t *testing.T) {
	points := allPoints()
	for _, p := range points {
		isStepped(t, p)
		isStepped(t, impl.MaxPoint, p)
	}
	for len(points) > 0 {
		row := points[:min(len(points), impl.MaxList)]
		points = points[len(row):]
		isStepped(t, row...)
	}
}

func TestStepsOfRows(t *testing.T) {
	edges := stepEdges()
	isStepped(t)
	isStepped(t, edges...)
	for _, i := range edges {
		for _, j := range edges {
			isStepped(t, i, j)
			for _, k := range edges {
				isStepped(t, i, j, k)
			}
		}
	}
	for _, text := range edgeTexts() {
		isStepped(t, impl.PointsOf(text)...)
	}
}

func TestEncodeStepsByHand(t *testing.T) {
	for text, want := range map[string]string{
		"":                 "",
		"@":                "\x00",
		"@@@":              "\x00\x00\x00",
		"A":                "\x02",
		"?":                "\x01",
		"\x00":             "\x7F",
		"\x7F":             "\x7E",
		"\u0080":           "\x80\x01",
		"\u0080\u00C0":     "\x80\x01\x00",
		"\u0080\x7F":       "\x80\x01\x81\x01",
		"\u0080?":          "\x80\x01\x81\x02",
		"\u0080@":          "\x80\x01\xFF\x01",
		"\U0010FFFF":       "\xFE\xFE\x87\x01",
		"\U0010FFFF\x00":   "\xFE\xFE\x87\x01\xFF\xFE\x87\x01",
		"a\xFFb":           "\x42\xFA\xFE\x07\xBB\xFD\x07",
		"\uFFFD":           "\xFA\xFE\x07",
		"\U00100040":       "\x80\x80\x80\x01",
		"\U0010003F":       "\xFE\xFF\x7F",
		"\u2040\u2040@":    "\x80\x80\x01\x00\xFF\x7F",
		"\u203F\u203F\x7F": "\xFE\x7F\x01\x81\x7F",
	} {
		if got := impl.EncodeSteps(text); got != want {
			t.Errorf("steps of % x: got % x, want % x", text, got, want)
		}
	}
}

func TestDecodeStepsByHand(t *testing.T) {
	for data, want := range map[string]impl.LegacyOut{
		"":                         {},
		"\x00":                     {Data: "@"},
		"\x01\x02":                 {Data: "?A"},
		"\xFE\xFE\x87\x01":         {Data: "\U0010FFFF"},
		"\x80":                     {Code: impl.ErrSyntax},
		"\x00\x80":                 {Code: impl.ErrSyntax, At: 1},
		"\x00\x80\x81":             {Code: impl.ErrSyntax, At: 1},
		"\x80\x80\x80\x80":         {Code: impl.ErrSyntax},
		"\x02\xFF\xFF\xFF\xFF":     {Code: impl.ErrSyntax, At: 1},
		"\x02\x80\x80\x80\x80\x01": {Code: impl.ErrSyntax, At: 1},
		"\x80\x00":                 {Code: impl.ErrSyntax},
		"\x82\x00":                 {Code: impl.ErrSyntax},
		"\x00\x81\x80\x00":         {Code: impl.ErrSyntax, At: 1},
		"\x81\x80\x80\x00":         {Code: impl.ErrSyntax},
		"\x81\x80\x80\x80\x00":     {Code: impl.ErrSyntax},
		"\x81\x01":                 {Code: impl.ErrNone},
		"\x00\x81\x01":             {Code: impl.ErrNone, At: 1},
		"\xFF\x7F":                 {Code: impl.ErrNone},
		"\x80\xFF\x87\x01":         {Code: impl.ErrNone},
		"\x00\xFF\xFF\xFF\x7F":     {Code: impl.ErrNone, At: 1},
		"\xFE\xFF\xFF\x7F":         {Code: impl.ErrNone},
		// What comes behind a step that leads to no point is not read.
		"\x81\x01\x80":     {Code: impl.ErrNone},
		"\x80\x00\x81\x01": {Code: impl.ErrSyntax},
	} {
		isLegacy(t, "text", data, impl.DecodeSteps(data), want)
	}
	for p, want := range map[int64]impl.LegacyOut{
		0xD7FF: {Data: "@\uD7FF"}, 0xE000: {Data: "@\uE000"}, 0: {Data: "@\x00"}, impl.MaxPoint: {Data: "@\U0010FFFF"},
		0xD800: {Code: impl.ErrNone, At: 1}, 0xDFFF: {Code: impl.ErrNone, At: 1}, impl.MaxPoint + 1: {Code: impl.ErrNone, At: 1},
		-1: {Code: impl.ErrNone, At: 1}, -64: {Code: impl.ErrNone, At: 1},
	} {
		data := "\x00" + fewestSevens(stepNumbers([]int64{p})[0])
		isLegacy(t, "text", data, impl.DecodeSteps(data), want)
	}
}

func TestDecodeStepsOfAnyBytes(t *testing.T) {
	check := func(data string) {
		t.Helper()
		isLegacy(t, "text", data, impl.DecodeSteps(data), plainDecodeSteps(data))
	}
	for i := range 256 {
		check(string([]byte{byte(i)}))
		for j := range 256 {
			check(string([]byte{byte(i), byte(j)}))
			check("\xFE\xFE\x87\x01" + string([]byte{byte(i), byte(j)}))
			for k := range 256 {
				if i%16 == 1 || k < 2 {
					check(string([]byte{byte(i), byte(j), byte(k)}))
				}
			}
		}
	}
	edges := "\x00\x01\x3F\x40\x7E\x7F\x80\x81\x87\xC0\xFE\xFF"
	for i := range edges {
		for j := range edges {
			for k := range edges {
				for l := range edges {
					for m := range edges {
						check(string([]byte{edges[i], edges[j], edges[k], edges[l], edges[m]}))
					}
				}
			}
		}
	}
}

func TestSizesOfSteps(t *testing.T) {
	quarter := impl.MaxBytes / 4
	for _, row := range []longText{
		{strings.Repeat("a", impl.MaxBytes), impl.MaxBytes},
		{strings.Repeat("\U0010FFFF", quarter), quarter + 3},
		{strings.Repeat("\U0010FFFF\x00", impl.MaxBytes/8), impl.MaxBytes},
		{strings.Repeat("\U0010FFFF\x00", impl.MaxBytes/8) + "a", impl.MaxBytes + 1},
		{strings.Repeat("\U0010FFFF\x00", impl.MaxBytes/5), impl.MaxBytes / 5 * 8},
	} {
		want := plainEncodeSteps(impl.PointsOf(row.text))
		if len(want) != row.size {
			t.Fatalf("the test's own size: %d bytes in steps, not %d", len(want), row.size)
		}
		if row.size > impl.MaxBytes {
			want = ""
		}
		if got := impl.EncodeSteps(row.text); got != want {
			t.Errorf("steps of %d bytes: got %d bytes, want %d", len(row.text), len(got), len(want))
		}
		if want != "" {
			isCode(t, "back from steps", impl.DecodeSteps(want), impl.LegacyOut{Data: row.text})
		}
	}
}

func TestStepsThatAreTooLong(t *testing.T) {
	tooLong := impl.LegacyOut{Code: impl.ErrSize}
	long := strings.Repeat("\x00", impl.MaxBytes+1)
	if got := impl.EncodeSteps(long); got != "" {
		t.Errorf("steps of a long text: got %d bytes", len(got))
	}
	isCode(t, "long data", impl.DecodeSteps(long), tooLong)
	isCode(t, "long data with a fault", impl.DecodeSteps("\x80\x00"+long), tooLong)
	isCode(t, "data of MaxBytes bytes", impl.DecodeSteps(long[1:]), impl.LegacyOut{Data: strings.Repeat("@", impl.MaxBytes)})
	far := "\xFE\xFE\x87\x01"
	count := impl.MaxBytes/4 - 1
	isCode(t, "a text of MaxBytes bytes", impl.DecodeSteps(far+long[:count]),
		impl.LegacyOut{Data: "\U0010FFFF" + strings.Repeat("\U0010FFC0", count)})
	isCode(t, "a text of more bytes", impl.DecodeSteps(far+long[:count+1]), tooLong)
	isCode(t, "a long text and a step to no point", impl.DecodeSteps(far+long[:count+1]+"\x80\x01"),
		impl.LegacyOut{Code: impl.ErrNone, At: int64(count) + 5})
	isCode(t, "a long text and a step without an end", impl.DecodeSteps(far+long[:count+1]+"\x80"),
		impl.LegacyOut{Code: impl.ErrSyntax, At: int64(count) + 5})
}
