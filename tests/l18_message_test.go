package tests

import (
	"fmt"
	"math"
	"math/rand"
	"reflect"
	"regexp"
	"slices"
	"strconv"
	"strings"
	"testing"

	"loop.example/g00044/impl"
)

var partWord = regexp.MustCompile(`^(text|arg|number|plural|select|case|sharp)(?::([^/@]*))?(?:@(-?\d+))?(?:/(-?\d+))?$`)

// partFrom reads a kind, behind a `:` the Text (`_` is a blank), behind a `@` the Num, behind a `/` the Kids.
func partFrom(word string) impl.MsgPart {
	kinds := map[string]int64{
		"text": impl.MpText, "arg": impl.MpArg, "number": impl.MpNumber, "plural": impl.MpPlural, "select": impl.MpSelect, "case": impl.MpCase, "sharp": impl.MpSharp,
	}
	pieces := partWord.FindStringSubmatch(word)
	part := impl.MsgPart{Kind: kinds[pieces[1]], Text: strings.ReplaceAll(pieces[2], "_", " ")}
	part.Num, _ = strconv.ParseInt(pieces[3], 10, 64)
	part.Kids, _ = strconv.ParseInt(pieces[4], 10, 64)
	return part
}

func partsFrom(row string) []impl.MsgPart {
	var parts []impl.MsgPart
	for _, word := range strings.Fields(row) {
		parts = append(parts, partFrom(word))
	}
	return parts
}

func messageWrongAt(at int) impl.MessageRead {
	return impl.MessageRead{Code: impl.ErrSyntax, At: int64(at)}
}

func isMessage(t *testing.T, text string, want impl.MessageRead) {
	t.Helper()
	got := impl.ReadMessage(text)
	if got.Code != want.Code || got.At != want.At || !slices.Equal(got.Parts, want.Parts) {
		t.Errorf("ReadMessage of %d bytes, %+.200q: got %.300s, want %.300s", len(text), text, fmt.Sprintf("%+v", got), fmt.Sprintf("%+v", want))
	}
}

func isMessageShown(t *testing.T, parts []impl.MsgPart, want string) {
	t.Helper()
	if got := impl.ShowMessage(parts); got != want {
		t.Errorf("ShowMessage of %.300s: got %d bytes, %+.200q, want %d, %+.200q", fmt.Sprintf("%+v", parts), len(got), got, len(want), want)
	}
}

func isMessageRight(t *testing.T, parts []impl.MsgPart, right bool) {
	t.Helper()
	want := int64(impl.ErrForm)
	if right {
		want = impl.OK
	}
	if got := impl.MessageFault(parts); got != want {
		t.Errorf("MessageFault of %d parts, %.300s: got %d, want %d", len(parts), fmt.Sprintf("%+v", parts), got, want)
	}
}

// The pieces of the grammar.
var (
	nameWritten  = `[a-z][a-z0-9-]{0,19}`
	textPiece    = regexp.MustCompile(`^(?:[^{}#\\]|\\[{}#\\])+`)
	hiddenByte   = regexp.MustCompile(`\\([{}#\\])`)
	bracePiece   = regexp.MustCompile(`^\{(` + nameWritten + `)?(\}|:number|:plural|:select)?`)
	nameKey      = regexp.MustCompile(`^` + nameWritten)
	numberDigits = regexp.MustCompile(`^(?:0|[1-9][0-9]*)`)
)

// openCases are a plural or select that has not ended.
type openCases struct {
	place    int // of its part
	lastCase int
	keys     []string
}

// plainMessageReader has a stack of all that has not ended, and tells where it cannot go on, or -1.
type plainMessageReader struct {
	text    string
	at      int
	parts   []impl.MsgPart
	open    []*openCases
	deepest int
}

func (reader *plainMessageReader) rest() string {
	return reader.text[reader.at:]
}

func (reader *plainMessageReader) lay(kind int64, text string, num int64) {
	if kind != impl.MpCase && len(reader.open) > 0 {
		reader.parts[reader.open[len(reader.open)-1].lastCase].Kids++
	}
	reader.parts = append(reader.parts, impl.MsgPart{Kind: kind, Text: text, Num: num})
}

// piece reads a piece, or the end of a case.
func (reader *plainMessageReader) piece() (inCases bool, wrong int) {
	switch rest := reader.rest(); rest[0] {
	case '}':
		if len(reader.open) == 0 {
			return false, reader.at
		}
		reader.at++
		return true, -1
	case '#':
		reader.lay(impl.MpSharp, "", 0)
		reader.at++
		return false, -1
	case '{':
		return reader.brace()
	}
	text := textPiece.FindString(reader.rest())
	if text == "" {
		return false, reader.at
	}
	reader.lay(impl.MpText, hiddenByte.ReplaceAllString(text, "$1"), 0)
	reader.at += len(text)
	return false, -1
}

func (reader *plainMessageReader) brace() (inCases bool, wrong int) {
	pieces := bracePiece.FindStringSubmatch(reader.rest())
	if pieces[1] == "" {
		return false, reader.at + 1
	}
	reader.at += len(pieces[0])
	switch pieces[2] {
	case "}":
		reader.lay(impl.MpArg, pieces[1], 0)
		return false, -1
	case ":number":
		if !strings.HasPrefix(reader.rest(), "}") {
			return false, reader.at
		}
		reader.lay(impl.MpNumber, pieces[1], 0)
		reader.at++
		return false, -1
	case ":plural":
		reader.lay(impl.MpPlural, pieces[1], 0)
	case ":select":
		reader.lay(impl.MpSelect, pieces[1], 0)
	default:
		return false, reader.at
	}
	reader.open = append(reader.open, &openCases{place: len(reader.parts) - 1})
	return true, -1
}

// nextCase reads up to the message of a case, or the end of all cases.
func (reader *plainMessageReader) nextCase() (inCases bool, wrong int) {
	top := reader.open[len(reader.open)-1]
	rest := reader.rest()
	if strings.HasPrefix(rest, "}") && slices.Contains(top.keys, "other") {
		reader.at++
		reader.open = reader.open[:len(reader.open)-1]
		return false, -1
	}
	if !strings.HasPrefix(rest, " ") {
		return true, reader.at
	}
	reader.at++
	begin := reader.at
	name, number := nameKey.FindString(reader.rest()), ""
	if name == "" {
		if reader.parts[top.place].Kind != impl.MpPlural || !strings.HasPrefix(reader.rest(), "=") {
			return true, begin
		}
		number = numberDigits.FindString(rest[2:])
		if number == "" || len(number) > 7 || len(number) == 7 && number > "1000000" {
			return true, begin + 1
		}
		number = "=" + number
	}
	if slices.Contains(top.keys, name+number) {
		return true, begin
	}
	top.keys = append(top.keys, name+number)
	reader.at += len(name + number)
	if !strings.HasPrefix(reader.rest(), "{") {
		return true, reader.at
	}
	reader.at++
	num, _ := strconv.ParseInt(strings.TrimPrefix(number, "="), 10, 64)
	reader.parts[top.place].Kids++
	top.lastCase = len(reader.parts)
	reader.deepest = max(reader.deepest, 1+len(reader.open))
	reader.lay(impl.MpCase, name, num)
	return false, -1
}

func messagePlainly(text string) impl.MessageRead {
	if len(text) > impl.MaxBytes {
		return impl.MessageRead{Code: impl.ErrSize}
	}
	reader := plainMessageReader{text: text, deepest: 1}
	inCases, wrong := false, -1
	for reader.at < len(text) {
		if inCases {
			inCases, wrong = reader.nextCase()
		} else {
			inCases, wrong = reader.piece()
		}
		if wrong >= 0 {
			return messageWrongAt(wrong)
		}
	}
	switch {
	case len(reader.open) > 0:
		return messageWrongAt(len(text))
	case len(reader.parts) > 200, reader.deepest > 10:
		return impl.MessageRead{Code: impl.ErrCount}
	}
	return impl.MessageRead{Parts: reader.parts}
}

// plainPart is a part with those within it; Kids of the part do not count.
type plainPart struct {
	part impl.MsgPart
	kids []plainPart
}

func listedParts(trees []plainPart) []impl.MsgPart {
	var parts []impl.MsgPart
	for _, tree := range trees {
		tree.part.Kids = int64(len(tree.kids))
		parts = append(append(parts, tree.part), listedParts(tree.kids)...)
	}
	return parts
}

// partsPlainly tells the trees of a list; whole tells that each Kids counts some.
func partsPlainly(parts []impl.MsgPart) (trees []plainPart, whole bool) {
	for len(parts) > 0 {
		tree, rest, whole := partPlainly(parts)
		if !whole {
			return nil, false
		}
		trees, parts = append(trees, tree), rest
	}
	return trees, true
}

func partPlainly(parts []impl.MsgPart) (tree plainPart, rest []impl.MsgPart, whole bool) {
	if len(parts) == 0 || parts[0].Kids < 0 {
		return plainPart{}, nil, false
	}
	tree.part, rest = parts[0], parts[1:]
	for range parts[0].Kids {
		kid, behind, whole := partPlainly(rest)
		if !whole {
			return plainPart{}, nil, false
		}
		tree.kids, rest = append(tree.kids, kid), behind
	}
	return tree, rest, true
}

// shownParts writes parts whether they are right or not.
func shownParts(trees []plainPart) string {
	text := ""
	for _, tree := range trees {
		within := shownParts(tree.kids)
		switch part := tree.part; part.Kind {
		case impl.MpText:
			text += strings.NewReplacer("{", "\\{", "}", "\\}", "#", "\\#", "\\", "\\\\").Replace(part.Text)
		case impl.MpArg:
			text += "{" + part.Text + "}"
		case impl.MpNumber:
			text += "{" + part.Text + ":number}"
		case impl.MpPlural:
			text += "{" + part.Text + ":plural" + within + "}"
		case impl.MpSelect:
			text += "{" + part.Text + ":select" + within + "}"
		case impl.MpCase:
			key := part.Text
			if key == "" {
				key = fmt.Sprint("=", part.Num)
			}
			text += " " + key + "{" + within + "}"
		case impl.MpSharp:
			text += "#"
		}
	}
	return text
}

// showPlainly tells what a text would be, and whether the parts are what is read of it.
func showPlainly(parts []impl.MsgPart) (text string, right bool) {
	trees, whole := partsPlainly(parts)
	if !whole {
		return "", false
	}
	text = shownParts(trees)
	read := messagePlainly(text)
	return text, read.Code == impl.OK && slices.Equal(read.Parts, parts)
}

// isMessageFault holds MessageFault, ShowMessage and ArgsOf against what is read of the text.
func isMessageFault(t *testing.T, parts []impl.MsgPart) {
	t.Helper()
	text, right := showPlainly(parts)
	isMessageRight(t, parts, right)
	if !right {
		text = ""
	}
	isMessageShown(t, parts, text)
	isArgs(t, parts, argsPlainly(parts, right))
}

func argsPlainly(parts []impl.MsgPart, right bool) []string {
	var names []string
	for _, part := range parts {
		if right && part.Kind >= impl.MpArg && part.Kind <= impl.MpSelect && !slices.Contains(names, part.Text) {
			names = append(names, part.Text)
		}
	}
	slices.Sort(names)
	return names
}

func isArgs(t *testing.T, parts []impl.MsgPart, want []string) {
	t.Helper()
	if got := impl.ArgsOf(parts); !slices.Equal(got, want) {
		t.Errorf("ArgsOf of %d parts, %.300s: got %.300s, want %.300s", len(parts), fmt.Sprintf("%+v", parts), fmt.Sprintf("%+q", got), fmt.Sprintf("%+q", want))
	}
}

func TestMessagesByHand(t *testing.T) {
	for _, row := range [][2]string{
		{"", ""}, {"a", "text:a"}, {"a b", "text:a_b"}, {" ", "text:_"}, {":", "text::"}, {"=1", "text:=1"}, {"name:plural", "text:name:plural"},
		{"#", "sharp"}, {"##", "sharp sharp"}, {"a#b", "text:a sharp text:b"}, {"#a", "sharp text:a"}, {`\#`, "text:#"}, {`\{`, "text:{"}, {`\}`, "text:}"}, {`\\`, `text:\`}, {`\\\\`, `text:\\`},
		{`\{a\}`, "text:{a}"}, {`a\#b#c`, "text:a#b sharp text:c"}, {`\\#`, `text:\ sharp`}, {`\\{a}`, `text:\ arg:a`}, {`\#\{\}\\`, `text:#{}\`},
		{"{a}", "arg:a"}, {"{a}{b}", "arg:a arg:b"}, {"{a}{a}", "arg:a arg:a"}, {"a{b}", "text:a arg:b"}, {"a{b}c", "text:a arg:b text:c"}, {"{a}#{b}", "arg:a sharp arg:b"}, {"{a1-}", "arg:a1-"}, {"{a--9}", "arg:a--9"},
		{"{plural}", "arg:plural"}, {"{number}", "arg:number"}, {"{other}", "arg:other"}, {"{number:number}", "number:number"}, {"{a:number}", "number:a"}, {"{a:number}b", "number:a text:b"}, {"#{a:number}#", "sharp number:a sharp"},
		{"{a:plural other{}}", "plural:a/1 case:other/0"}, {"{a:plural other{x}}", "plural:a/1 case:other/1 text:x"}, {"{a:plural other{#}}", "plural:a/1 case:other/1 sharp"}, {"{a:plural other{# x}}", "plural:a/1 case:other/2 sharp text:_x"},
		{"{a:plural =0{x} other{y}}", "plural:a/2 case@0/1 text:x case:other/1 text:y"}, {"{a:plural other{y} =0{x}}", "plural:a/2 case:other/1 text:y case@0/1 text:x"}, {"{a:plural =7{} =70{} one{} two{} other{}}", "plural:a/5 case@7/0 case@70/0 case:one/0 case:two/0 case:other/0"},
		{"{a:plural other{ }}", "plural:a/1 case:other/1 text:_"}, {"{a:select other{}}", "select:a/1 case:other/0"}, {"{a:select b{x} c{} other{{a}}}", "select:a/3 case:b/1 text:x case:c/0 case:other/1 arg:a"},
		{"{a:select other{x}}y", "select:a/1 case:other/1 text:x text:y"}, {"x{a:select other{}}{b}", "text:x select:a/1 case:other/0 arg:b"},
		{"{a:plural other{{b:select other{{c:number}#}}}}", "plural:a/1 case:other/1 select:b/1 case:other/2 number:c sharp"},
		{"{a:select x{{b:plural =1{q} other{}}z} other{{a}#}}#", "select:a/2 case:x/2 plural:b/2 case@1/1 text:q case:other/0 text:z case:other/2 arg:a sharp sharp"},
		{"{a:plural other{}}{a:plural other{}}", "plural:a/1 case:other/0 plural:a/1 case:other/0"}, {"{a:plural others{} other{}}", "plural:a/2 case:others/0 case:other/0"},
		{`{a:select other{\}}}`, "select:a/1 case:other/1 text:}"}, {`{a:select other{\\}}`, `select:a/1 case:other/1 text:\`}, {"{a:select other{ b}}", "select:a/1 case:other/1 text:_b"},
	} {
		parts := partsFrom(row[1])
		isMessage(t, row[0], impl.MessageRead{Parts: parts})
		isMessageShown(t, parts, row[0])
		isMessageRight(t, parts, true)
		if got := messagePlainly(row[0]); !slices.Equal(got.Parts, parts) {
			t.Errorf("the plain reading of %+q: %+v", row[0], got)
		}
	}
}

func TestMessageBytes(t *testing.T) {
	for b := range 256 {
		sign := string([]byte{byte(b)})
		text := impl.MessageRead{Parts: []impl.MsgPart{{Kind: impl.MpText, Text: sign}}}
		switch sign {
		case "#":
			isMessage(t, sign, impl.MessageRead{Parts: partsFrom("sharp")})
		case "{":
			isMessage(t, sign, messageWrongAt(1))
		case "}", "\\":
			isMessage(t, sign, messageWrongAt(0))
		default:
			isMessage(t, sign, text)
			isMessage(t, "\\"+sign, messageWrongAt(0))
			isMessage(t, "a\\"+sign+"b", messageWrongAt(1))
			isMessage(t, "\\{\\"+sign, messageWrongAt(2))
			isMessage(t, "{a:select other{x\\"+sign+"}}", messageWrongAt(17))
			isMessageShown(t, text.Parts, sign)
			continue
		}
		isMessage(t, "\\"+sign, text)
		isMessage(t, "a\\"+sign+"b", impl.MessageRead{Parts: []impl.MsgPart{{Kind: impl.MpText, Text: "a" + sign + "b"}}})
		isMessage(t, "{a:select other{\\"+sign+"}}", impl.MessageRead{Parts: append(partsFrom("select:a/1 case:other/1"), text.Parts...)})
		isMessageShown(t, text.Parts, "\\"+sign)
	}
	for _, text := range []string{"\x80", "\xFF\xFE", "a\xC3", "\xE2\x82", "\u20AC", "\x00", "\n", "\uFFFD\xEF\xBF", "\U0010FFFF", "\xED\xA0\x80"} {
		isMessage(t, text, impl.MessageRead{Parts: []impl.MsgPart{{Kind: impl.MpText, Text: text}}})
	}
	for _, row := range []string{"\\", "a\\", "\\\\\\", "#\\", "{a}\\", "\\a", "\\ ", "\\\xFF", "a\\nb", "\\:"} {
		isMessage(t, row, messageWrongAt(strings.LastIndex(row, "\\")))
	}
}

func TestMessageFaultsByHand(t *testing.T) {
	for _, row := range []struct {
		text string
		at   int
	}{
		{"}", 0}, {"a}", 1}, {"#}", 1}, {"{a}}", 3}, {"a}b{", 1}, {"{", 1}, {"a{", 2}, {"{}", 1}, {"{ }", 1}, {"{{a}}", 1}, {"{#}", 1}, {"{A}", 1}, {"{1}", 1}, {"{-}", 1}, {"{:number}", 1}, {"{\xC3\xA9}", 1}, {"{\\a}", 1},
		{"{a", 2}, {"{a ", 2}, {"{a }", 2}, {"{a b}", 2}, {"{aB}", 2}, {"{a_}", 2}, {"{a#}", 2}, {"{a{", 2}, {"{ab", 3}, {"{ab\xFF}", 3}, {"{a-}{b", 6}, {"{a\\}", 2},
		{"{a:", 2}, {"{a:}", 2}, {"{a: }", 2}, {"{a:n", 2}, {"{a:numbe", 2}, {"{a:numbe}", 2}, {"{a:num ber}", 2}, {"{a:Number}", 2}, {"{a::number}", 2}, {"{a:plura", 2}, {"{a:plura other{}}", 2}, {"{a:selec other{}}", 2}, {"{a:text}", 2}, {"{a :number}", 2}, {"{a=1}", 2},
		{"{a:number", 9}, {"{a:numbers}", 9}, {"{a:number }", 9}, {"{a:number other{}}", 9}, {"{a:number:number}", 9}, {"{a:number{", 9}, {"{a:number:plural other{}}", 9},
		{"{a:plural", 9}, {"{a:plurals}", 9}, {"{a:plurals other{}}", 9}, {"{a:plural}", 9}, {"{a:select}", 9}, {"{a:selects}", 9}, {"{a:select:", 9}, {"{a:plural=0{} other{}}", 9}, {"{a:plural{}}", 9}, {"{a:plural\tother{}}", 9},
		{"{a:plural ", 10}, {"{a:plural }", 10}, {"{a:plural  other{}}", 10}, {"{a:plural {}}", 10}, {"{a:plural #{} other{}}", 10}, {"{a:plural Other{}}", 10}, {"{a:plural 1{} other{}}", 10}, {"{a:plural -{} other{}}", 10}, {"{a:plural \\other{}}", 10},
		{"{a:plural other", 15}, {"{a:plural other}", 15}, {"{a:plural other }", 15}, {"{a:plural other {}}", 15}, {"{a:plural other#{}}", 15}, {"{a:plural other=1{}}", 15}, {"{a:plural other:{}}", 15},
		{"{a:plural other{", 16}, {"{a:plural other{x", 17}, {"{a:plural other{x}", 18}, {"{a:plural other{}", 17}, {"{a:plural other{} }", 18}, {"{a:plural other{} ", 18}, {"{a:plural other{}x}", 17}, {"{a:plural other{}#}", 17}, {"{a:plural other{}{}}", 17}, {"{a:plural other{}}}", 18}, {"{a:plural other{}  one{}}", 18}, {"{a:plural other{}one{}}", 17},
		{"{a:plural one{}}", 15}, {"{a:plural one{} two{}}", 21}, {"{a:plural =1{}}", 14}, {"{a:select one{}}", 15}, {"{a:plural others{}}", 18}, {"{a:plural othe{}}", 16}, {"{a:plural one{other{}}}", 20}, {"{a:plural one{{b:plural other{}}}}", 33},
		{"{a:plural =", 11}, {"{a:plural ={} other{}}", 11}, {"{a:plural == other{}}", 11}, {"{a:plural =x{} other{}}", 11}, {"{a:plural = 1{} other{}}", 11}, {"{a:plural =-1{} other{}}", 11}, {"{a:plural =+1{} other{}}", 11}, {"{a:plural =}", 11},
		{"{a:plural =1", 12}, {"{a:plural =1}", 12}, {"{a:plural =1x{} other{}}", 12}, {"{a:plural =1.0{} other{}}", 12}, {"{a:plural =1 {} other{}}", 12}, {"{a:plural =00{} other{}}", 12}, {"{a:plural =01{} other{}}", 12}, {"{a:plural =0000001{} other{}}", 12}, {"{a:plural =01000001{} other{}}", 12}, {"{a:plural =0", 12},
		{"{a:plural =1000001{} other{}}", 11}, {"{a:plural =1000001", 11}, {"{a:plural =10000000{} other{}}", 11}, {"{a:plural =2000000}", 11}, {"{a:plural =18446744073709551617{} other{}}", 11}, {"{a:plural =99999999999999999999999x", 11},
		{"{a:select =1{} other{}}", 10}, {"{a:select ={} other{}}", 10}, {"{a:select other{} =0{}}", 18}, {"{a:select =x{} other{}}", 10}, {"{a:select =1000001{} other{}}", 10},
		{"{a:plural one{} one{} other{}}", 16}, {"{a:plural other{} other{}}", 18}, {"{a:plural =1{} =1{} other{}}", 15}, {"{a:plural =1{} one{} other{} =1{}}", 29}, {"{a:select b{} c{} b{} other{}}", 18}, {"{a:select other{} other{}}", 18}, {"{a:plural one{} one", 16}, {"{a:plural one{} one}", 16}, {"{a:plural =1{} =1", 15}, {"{a:plural =0{} =00{} other{}}", 15}, {"{a:plural =1{} =01{} other{}}", 17},
		{"{a:plural other{{a:plural other{} other{}}} one{}}", 34}, {"{a:plural other{{b}", 19}, {"{a:plural other{{b", 18}, {"{a:plural other{{}}}", 17}, {"{a:plural other{\\}}", 19}, {"{a:plural other{\\x}}", 16}, {"{a:plural =1{} =2{} =1{}}", 20},
	} {
		isMessage(t, row.text, messageWrongAt(row.at))
		if got := messagePlainly(row.text); got.Code != impl.ErrSyntax || got.At != int64(row.at) {
			t.Errorf("the plain reading of %+q: %+v, want %d", row.text, got, row.at)
		}
	}
	// These are no faults of keys: other plurals have keys of their own, and a name is no number.
	for _, text := range []string{
		"{a:plural other{{a:plural other{}}}}", "{a:plural one{{a:plural one{} other{}}} other{}}", "{a:plural other{}}{a:plural other{}}", "{a:plural =1{} other{{b:plural =1{} other{}}}}", "{a:plural =1{} =11{} =111{} one{} on{} o{} other{}}",
	} {
		if got := impl.ReadMessage(text); got.Code != impl.OK {
			t.Errorf("ReadMessage of %+q: %+v", text, got)
		}
		isMessage(t, text, messagePlainly(text))
	}
}

func wholeMessages() []string {
	return []string{
		"a", `\{\}\#\\`, "{a}", "{ab-1:number}", "{n:plural =0{none} one{# day} other{# days}}", "{a:select b{x} other{y{z}}}", "{a:plural other{}}", "x{a:select other{{b:plural =10{#} =1{} other{\\#}}} c{}}#",
	}
}

// TestMessagesNearlyRight cuts whole texts short, and takes, puts and changes a byte at each place.
func TestMessagesNearlyRight(t *testing.T) {
	for _, text := range wholeMessages() {
		isMessage(t, text, messagePlainly(text))
		for at := range len(text) + 1 {
			isMessage(t, text[:at], messagePlainly(text[:at]))
			isMessage(t, text[at:], messagePlainly(text[at:]))
			for _, b := range []string{"{", "}", "#", "\\", " ", ":", "=", "-", "0", "1", "9", "a", "z", "A", "\x00", "\xFF", "s", "  ", "{}", " other{}", " =1{}"} {
				isMessage(t, text[:at]+b+text[at:], messagePlainly(text[:at]+b+text[at:]))
				if at < len(text) {
					isMessage(t, text[:at]+b+text[at+1:], messagePlainly(text[:at]+b+text[at+1:]))
				}
			}
			if at < len(text) {
				isMessage(t, text[:at]+text[at+1:], messagePlainly(text[:at]+text[at+1:]))
			}
		}
	}
}

// eachRow hands on all rows of up to so many words, one behind the other.
func eachRow(words []string, most int, look func(text string)) {
	look("")
	if most == 0 {
		return
	}
	for _, word := range words {
		eachRow(words, most-1, func(text string) { look(word + text) })
	}
}

func TestAllShortMessages(t *testing.T) {
	eachRow([]string{"{", "}", "#", "\\", "a", ":", " ", "=", "0", "A"}, 4, func(text string) { isMessage(t, text, messagePlainly(text)) })
	words := []string{"}", "#", "\\", "a", " ", "=1", "=0", "other", "{", "{a:plural", "{a:select", "{a:number"}
	eachRow(words, 4, func(text string) { isMessage(t, text, messagePlainly(text)) })
	cases := []string{"}", " other{", " a{", " =1{", " =10{", "#", "x", "{a:select", "{b}", "0{"}
	eachRow(cases, 5, func(text string) { isMessage(t, "{a:plural"+text, messagePlainly("{a:plural"+text)) })
}

func TestNamesOfMessages(t *testing.T) {
	for _, row := range []struct {
		name string
		size int // of what is a name of it
	}{
		{"a", 1}, {"z", 1}, {"a0", 2}, {"a-", 2}, {"a--", 3}, {"az09-", 5}, {strings.Repeat("a", 19), 19}, {strings.Repeat("a", 20), 20}, {strings.Repeat("a", 21), 20}, {"a" + strings.Repeat("-", 20), 20}, {"b" + strings.Repeat("9", 40), 20},
		{"", 0}, {"-a", 0}, {"0a", 0}, {"A", 0}, {"aA", 1}, {"a_b", 1}, {"a.b", 1}, {"a b", 1}, {"a\u00E9", 1}, {"\u00E9", 0}, {"`", 0}, {"a`", 1}, {"a@", 1}, {"a/", 1}, {"a;", 1}, {"a\x00", 1}, {"a\xFF", 1}, {"ab,", 2},
	} {
		name := row.name
		key := messageWrongAt(len("{a:select ") + row.size)
		read := messageWrongAt(1 + row.size)
		isRight := row.size == len(name) && name != ""
		if isRight {
			read = impl.MessageRead{Parts: []impl.MsgPart{{Kind: impl.MpArg, Text: name}}}
			key = impl.MessageRead{Parts: []impl.MsgPart{{Kind: impl.MpSelect, Text: "a", Kids: 2}, {Kind: impl.MpCase, Text: name}, {Kind: impl.MpCase, Text: "other"}}}
		}
		isMessage(t, "{"+name+"}", read)
		isMessage(t, "{a:select "+name+"{} other{}}", key)
		for kind, text := range map[int64]string{impl.MpArg: "{x}", impl.MpNumber: "{x:number}", impl.MpPlural: "{x:plural other{}}", impl.MpSelect: "{x:select other{}}"} {
			text = strings.Replace(text, "x", name, 1)
			isMessage(t, text, messagePlainly(text))
			parts := []impl.MsgPart{{Kind: kind, Text: name}}
			if kind == impl.MpPlural || kind == impl.MpSelect {
				parts[0].Kids = 1
				parts = append(parts, impl.MsgPart{Kind: impl.MpCase, Text: "other"})
			}
			isMessageRight(t, parts, isRight)
		}
		if name != "" {
			isMessageRight(t, []impl.MsgPart{{Kind: impl.MpPlural, Text: "a", Kids: 2}, {Kind: impl.MpCase, Text: name}, {Kind: impl.MpCase, Text: "other"}}, isRight)
			isMessageRight(t, []impl.MsgPart{{Kind: impl.MpSelect, Text: "a", Kids: 2}, {Kind: impl.MpCase, Text: name}, {Kind: impl.MpCase, Text: "other"}}, isRight)
		}
	}
}

func TestNumbersOfCases(t *testing.T) {
	for _, num := range []int64{0, 1, 9, 10, 99, 999999, 1000000, 1000001, 1000002, 9999999, 10000000, math.MaxInt64, -1, -1000000, math.MinInt64} {
		text := fmt.Sprintf("{a:plural =%d{} other{}}", num)
		parts := []impl.MsgPart{{Kind: impl.MpPlural, Text: "a", Kids: 2}, {Kind: impl.MpCase, Num: num}, {Kind: impl.MpCase, Text: "other"}}
		right := num >= 0 && num <= 1000000
		isMessageRight(t, parts, right)
		if right {
			isMessage(t, text, impl.MessageRead{Parts: parts})
			isMessageShown(t, parts, text)
		} else {
			isMessage(t, text, messageWrongAt(11))
			isMessageShown(t, parts, "")
		}
		parts[0].Kind = impl.MpSelect
		isMessageRight(t, parts, false)
	}
	for digits := 7; digits < 1000; digits += 31 {
		isMessage(t, "{a:plural =1"+strings.Repeat("0", digits)+"{} other{}}", messageWrongAt(11))
		isMessage(t, "{a:plural =0"+strings.Repeat("0", digits)+"{} other{}}", messageWrongAt(12))
	}
}

// manyParts are messages of so many parts, each in another way.
func manyParts(count int) []string {
	half, left := (count-1)/2, (count-1)%2
	return []string{
		strings.Repeat("#", count), strings.Repeat("{a}", count), strings.Repeat("{a:number}", count), strings.Repeat("x#", count/2) + strings.Repeat("x", count%2), "{a:plural other{" + strings.Repeat("#", count-2) + "}}",
		"{a:plural other{}" + numberedCases(count-2) + "}", strings.Repeat("{a:select other{}}", count/2) + strings.Repeat("#", count%2), "#" + strings.Repeat("{a:select other{}}", half) + strings.Repeat("x", left),
		"{a:plural other{{b:select other{" + strings.Repeat("{c}", count-4) + "}}}}",
	}
}

func numberedCases(count int) string {
	text := ""
	for num := range count {
		text += fmt.Sprintf(" =%d{}", num)
	}
	return text
}

func TestCountsOfParts(t *testing.T) {
	for _, count := range []int{199, 200, 201, 202, 1000, 1001} {
		for _, text := range manyParts(count) {
			want := messagePlainly(text)
			isMessage(t, text, want)
			if (want.Code == impl.OK) != (count <= 200) || want.Code != impl.OK && want.Code != impl.ErrCount {
				t.Errorf("%d parts, %.100q: code %d", count, text, want.Code)
			}
			if want.Code == impl.OK && len(want.Parts) != count {
				t.Errorf("%.100q has %d parts, not %d", text, len(want.Parts), count)
			}
			// What cannot go on is told ahead of what is too much.
			isMessage(t, text+"}", messageWrongAt(len(text)))
			isMessage(t, text+"{", messageWrongAt(len(text)+1))
			isMessage(t, text+"\\", messageWrongAt(len(text)))
			isMessage(t, text+"{a:plural one{}}", messageWrongAt(len(text)+15))
			isMessage(t, text+"{a:plural one{} one{} other{}}", messageWrongAt(len(text)+16))
			isMessage(t, text+"{a:plural =1000001{} other{}}", messageWrongAt(len(text)+11))
		}
	}
	for _, count := range []int{1, 199, 200, 201, 999, 1000, 1001, 5000} {
		isMessageRight(t, slices.Repeat(partsFrom("sharp"), count), count <= 200)
		isMessageRight(t, slices.Repeat(partsFrom("arg:a"), count), count <= 200)
		kids := fmt.Sprintf("plural:a/1 case:other/%d", count-1)
		isMessageRight(t, append(partsFrom(kids), slices.Repeat(partsFrom("sharp"), count-1)...), count+1 <= 200)
	}
	isMessageRight(t, nil, true)
	isMessageRight(t, []impl.MsgPart{}, true)
}

// nestedMessages are so many messages within one another; what is in the innermost one is given.
func nestedMessages(kind string, count int, inner string) string {
	return strings.Repeat("{a:"+kind+" other{", count-1) + inner + strings.Repeat("}}", count-1)
}

func TestDepthsOfMessages(t *testing.T) {
	for _, count := range []int{1, 2, 9, 10, 11, 12, 50, 101, 3000} {
		for _, kind := range []string{"plural", "select"} {
			for _, inner := range []string{"", "#", "x", "{a}"} {
				text := nestedMessages(kind, count, inner)
				want := messagePlainly(text)
				isMessage(t, text, want)
				if (want.Code == impl.OK) != (count <= 10) {
					t.Errorf("%d messages: code %d", count, want.Code)
				}
				isMessage(t, text+"}", messageWrongAt(len(text)))
				isMessage(t, text[:len(text)*9/10]+"x", messagePlainly(text[:len(text)*9/10]+"x"))
				isMessage(t, "x"+text+"#", messagePlainly("x"+text+"#"))
				trees, _ := partsPlainly(impl.ReadMessage(nestedMessages(kind, min(count, 10), inner)).Parts)
				for range max(count, 10) - 10 {
					trees = []plainPart{{partFrom("plural:b"), []plainPart{{partFrom("case:other"), trees}}}}
				}
				if count < 90 {
					isMessageRight(t, listedParts(trees), count <= 10)
				}
			}
		}
	}
	// The deepest one counts, whichever it is.
	deep, shallow := nestedMessages("plural", 9, ""), "{b}"
	for _, row := range []struct {
		text string
		code int64
	}{
		{"{a:select x{" + deep + "} other{" + shallow + "}}", impl.OK}, {"{a:select x{" + shallow + "} other{" + deep + "}}", impl.OK}, {deep + deep + "{a:select other{" + deep + "}}", impl.OK},
		{"{a:select x{" + shallow + "} other{{b:plural other{" + deep + "}}}}", impl.ErrCount}, {"{a:select x{{b:plural other{" + deep + "}}} other{" + shallow + "}}", impl.ErrCount}, {deep + "{a:select other{{b:plural other{" + deep + "}}}}", impl.ErrCount},
	} {
		if got := impl.ReadMessage(row.text); got.Code != row.code || got.At != 0 || (got.Code != impl.OK) != (got.Parts == nil) {
			t.Errorf("ReadMessage of %+q: %+v, want code %d", row.text, got, row.code)
		}
		isMessage(t, row.text, messagePlainly(row.text))
	}
}

func TestSizesOfMessages(t *testing.T) {
	for _, size := range []int{65535, 65536, 65537, 70000} {
		text := strings.Repeat("a", size)
		want := impl.MessageRead{Code: impl.ErrSize}
		if size <= 65536 {
			want = impl.MessageRead{Parts: []impl.MsgPart{{Kind: impl.MpText, Text: text}}}
		}
		isMessage(t, text, want)
		for _, wrong := range []string{"}", "{", "\\", "#}"} {
			want := impl.MessageRead{Code: impl.ErrSize}
			if size <= 65536 {
				want = messagePlainly(text[:size-len(wrong)] + wrong)
			}
			isMessage(t, text[:size-len(wrong)]+wrong, want)
		}
		isMessage(t, strings.Repeat("#", size), messagePlainly(strings.Repeat("#", size)))
		hidden := strings.Repeat("\\{", size/2) + strings.Repeat("x", size%2)
		isMessage(t, hidden, messagePlainly(hidden))
		nested := strings.Repeat("{a:plural other{", 3600) + strings.Repeat("}}", 3600)
		nested += strings.Repeat("x", size-len(nested))
		isMessage(t, nested, messagePlainly(nested))
		open := strings.Repeat("{a:plural other{", 4096)
		open += strings.Repeat("x", size-min(size, len(open)))
		isMessage(t, open[:size], messagePlainly(open[:size]))
	}
	// As many keys as a text has room for.
	keys, most := "{a:plural other{}", 0
	for ; len(keys) < 65500; most++ {
		keys += fmt.Sprintf(" =%d{}", most)
	}
	isMessage(t, keys+"}", impl.MessageRead{Code: impl.ErrCount})
	isMessage(t, keys+" =0{}}", messageWrongAt(len(keys)+1))
	isMessage(t, keys+fmt.Sprintf(" =%d{}}", most-1), messageWrongAt(len(keys)+1))
}

func TestPartListsByHand(t *testing.T) {
	for _, row := range []string{
		"text:a", "text:a sharp text:b", "sharp sharp", "arg:a", "arg:a arg:a", "number:a", "text:a arg:b text:c number:d", "plural:a/1 case:other/0", "select:a/1 case:other/0", "plural:a/2 case@0/0 case:other/0", "plural:a/2 case@1000000/0 case:other/0",
		"plural:a/3 case:one/1 text:x case@1/1 text:x case:other/2 sharp text:y", "select:a/2 case:b/1 text:x case:other/1 text:y text:z", "plural:a/1 case:other/1 plural:a/1 case:other/1 plural:a/1 case:other/0", "select:other/1 case:other/1 arg:other",
		"text:{", `text:\`, "text:}#", "plural:a/1 case:other/1 text:b text:c", "text:a plural:a/1 case:other/0 text:b", "plural:a/2 case:other/1 text:x case:one/1 text:x", "text:_", "text:=0", "plural:a/3 case@1/0 case@2/0 case:other/0",
	} {
		isMessageRight(t, partsFrom(row), true)
		isMessageFault(t, partsFrom(row))
	}
	for _, row := range []string{
		"text", "text:a text:b", "text: sharp", "text:a@1", "text:a@-1", "text:a/1", "text:a/1 text:b", "text:a/-1", "sharp text:a text:b", "plural:a/1 case:other/2 text:a text:b", "select:a/1 case:other/2 text:a text:b",
		"arg", "arg:A", "arg:a@1", "arg:a/1", "arg:a/1 text:x", "arg:a/-1", "number", "number:1", "number:a@1", "number:a/1", "number:a/1 sharp", "number:a/-1",
		"sharp:a", "sharp:#", "sharp@1", "sharp/1", "sharp/1 sharp", "sharp/-1", "case:other", "case:other/0", "case:a/1 text:x", "case@1/0", "text:a case:other/0", "plural:a/1 case:other/1 case:other/0", "plural:a/1 case:other/1 case:one/0",
		"plural:a", "plural:a/0", "plural:a/-1", "plural:a/-1 case:other/0", "plural:a/1", "plural:a/2 case:other/0", "plural:a/1 case:other/1", "plural:a/1 case:other/-1", "plural:a/1 case:other/-1 text:x", "plural:a/1 case:other/0 case:one/0", "plural:a/1 case:other/2 text:x",
		"plural/1 case:other/0", "plural:A/1 case:other/0", "plural:a@1/1 case:other/0", "plural:a@-1/1 case:other/0", "select:a", "select:a/0", "select/1 case:other/0", "select:-/1 case:other/0", "select:a@1/1 case:other/0", "select:a/2 case@0/0 case:other/0", "select:a/2 case@1/0 case:other/0", "select:a/2 case/0 case:other/0",
		"plural:a/1 case:one/0", "select:a/1 case:one/0", "plural:a/2 case:one/0 case:two/0", "plural:a/1 case@0/0", "plural:a/3 case:one/0 case:one/0 case:other/0", "plural:a/2 case:other/0 case:other/0", "plural:a/3 case@1/0 case@1/0 case:other/0", "plural:a/3 case@0/0 case/0 case:other/0", "select:a/3 case:b/0 case:b/0 case:other/0", "plural:a/4 case@1/0 case:other/0 case@2/0 case@1/0",
		"plural:a/2 case:one@1/0 case:other/0", "plural:a/1 case:other@1/0", "plural:a/1 case:other@-1/0", "select:a/1 case:other@1/0", "plural:a/2 case@-1/0 case:other/0", "plural:a/2 case@1000001/0 case:other/0", "plural:a/2 case:#/0 case:other/0", "plural:a/2 case:=1/0 case:other/0", "plural:a/2 case:1/0 case:other/0", "plural:a/2 case:A/0 case:other/0", "plural:a/2 case:_/0 case:other/0",
		"plural:a/1 text:other", "plural:a/2 text:x case:other/0", "plural:a/2 case:other/0 text:x", "plural:a/2 case:other/0 sharp", "plural:a/1 arg:other", "plural:a/1 sharp", "plural:a/1 plural:other/1 case:other/0", "select:a/1 number:other",
		"plural:a/1 case:other/1 plural:a/1", "plural:a/1 case:other/1 plural:a/1 case:one/0", "plural:a/1 case:other/1 text", "plural:a/1 case:other/1 sharp:x", "plural:a/1 case:other/2 arg:a arg:B",
	} {
		isMessageRight(t, partsFrom(row), false)
		isMessageFault(t, partsFrom(row))
	}
	for _, kind := range []int64{0, -1, 8, 9, 100, math.MaxInt64, math.MinInt64, 257, 1 << 32} {
		isMessageRight(t, []impl.MsgPart{{Kind: kind}}, false)
		isMessageRight(t, []impl.MsgPart{{Kind: kind, Text: "a"}}, false)
		isMessageRight(t, append(partsFrom("plural:a/1 case:other/1"), impl.MsgPart{Kind: kind, Text: "a"}), false)
		isMessageRight(t, []impl.MsgPart{{Kind: impl.MpPlural, Text: "a", Kids: 2}, {Kind: kind, Text: "b"}, {Kind: impl.MpCase, Text: "other"}}, false)
	}
	for _, kids := range []int64{math.MaxInt64, math.MinInt64, 1 << 40, -1 << 40} {
		for place := range 2 {
			parts := partsFrom("plural:a/1 case:other/0")
			parts[place].Kids = kids
			isMessageRight(t, parts, false)
			isMessageShown(t, parts, "")
			isArgs(t, parts, nil)
		}
	}
}

func TestAllShortPartLists(t *testing.T) {
	all := partsFrom("text:a text:{ text arg:a arg:B number:b sharp sharp:x case:other/0 case:other/1 case:one/1 case@1/0 plural:a/1 plural:a/2 select:a/1 select:b/2 plural:a/0 case:other/2")
	parts := []impl.MsgPart{}
	var look func(most int)
	look = func(most int) {
		isMessageFault(t, parts)
		if most == 0 {
			return
		}
		for _, part := range all {
			parts = append(parts, part)
			look(most - 1)
			parts = parts[:len(parts)-1]
		}
	}
	look(4)
}

// randomMessage is right, if it is of no more than 200 parts.
func randomMessage(r *rand.Rand, deep int, most int) []plainPart {
	names := []string{"a", "b", "n", "x-1", "other", "zzzzzzzzzzzzzzzzzzzz"}
	texts := []string{"x", "{", "}", "#", "\\", " ", "a b", "\xFF", "\u20AC\\{", "\\\\##", "{a}", "=1", ":number"}
	var trees []plainPart
	for range r.Intn(most + 1) {
		kind := int64(1 + r.Intn(7))
		if kind == impl.MpCase || deep == 1 && (kind == impl.MpPlural || kind == impl.MpSelect) {
			kind = impl.MpSharp
		}
		tree := plainPart{part: impl.MsgPart{Kind: kind, Text: names[r.Intn(len(names))]}}
		switch kind {
		case impl.MpText:
			tree.part.Text = texts[r.Intn(len(texts))]
			if len(trees) > 0 && trees[len(trees)-1].part.Kind == impl.MpText {
				continue
			}
		case impl.MpSharp:
			tree.part.Text = ""
		case impl.MpPlural, impl.MpSelect:
			tree.kids = randomCases(r, kind, deep, most)
		}
		trees = append(trees, tree)
	}
	return trees
}

func randomCases(r *rand.Rand, kind int64, deep int, most int) []plainPart {
	keys := partsFrom("case:one case:few case:many case:a case:b case:x-1 case@0 case@1 case@2 case@5 case@21 case@1000000")
	if kind == impl.MpSelect {
		keys = keys[:6]
	}
	r.Shuffle(len(keys), func(i int, j int) { keys[i], keys[j] = keys[j], keys[i] })
	keys = slices.Insert(keys[:r.Intn(4)], 0, partFrom("case:other"))
	r.Shuffle(len(keys), func(i int, j int) { keys[i], keys[j] = keys[j], keys[i] })
	var cases []plainPart
	for _, key := range keys {
		cases = append(cases, plainPart{key, randomMessage(r, deep-1, most)})
	}
	return cases
}

// eachRandomMessage hands on right parts alone.
func eachRandomMessage(seed int64, count int, look func(r *rand.Rand, parts []impl.MsgPart)) {
	r := rand.New(rand.NewSource(seed))
	for range count {
		parts := listedParts(randomMessage(r, 1+r.Intn(10), 1+r.Intn(4)))
		if len(parts) <= 200 {
			look(r, parts)
		}
	}
}

// TestMessagesComeBack is P44.
func TestMessagesComeBack(t *testing.T) {
	eachRandomMessage(18, 6000, func(r *rand.Rand, parts []impl.MsgPart) {
		isMessageRight(t, parts, true)
		text := impl.ShowMessage(parts)
		isMessage(t, text, impl.MessageRead{Parts: parts})
		isMessageFault(t, parts)
		at := r.Intn(len(text) + 1)
		changed := text[:at] + []string{"{", "}", "#", "\\", " ", "a", "=", ":", "0"}[r.Intn(9)] + text[at:]
		for _, text := range []string{text, text[:at], text[at:], changed, cutBytes(r, text), cutBytes(r, changed)} {
			read := impl.ReadMessage(text)
			isMessage(t, text, messagePlainly(text))
			if read.Code == impl.OK {
				isMessageRight(t, read.Parts, true)
				isMessageShown(t, read.Parts, text)
			}
		}
	})
	r := rand.New(rand.NewSource(181))
	words := []string{"{", "}", "#", "\\", "a", " ", "=1", "=20", " other{", "}}", "{a:plural", "{b:select", "{n:number}", "{c}", " one{", "x", "\\{", " other{}}", "{a:plural other{"}
	for range 60000 {
		text := ""
		for range r.Intn(14) {
			text += words[r.Intn(len(words))]
		}
		isMessage(t, text, messagePlainly(text))
	}
}

// TestPartsChanged changes one thing of right parts.
func TestPartsChanged(t *testing.T) {
	eachRandomMessage(182, 12000, func(r *rand.Rand, parts []impl.MsgPart) {
		if len(parts) == 0 {
			return
		}
		at := r.Intn(len(parts))
		part := &parts[at]
		switch r.Intn(8) {
		case 0:
			part.Kind = int64(r.Intn(9))
		case 1:
			part.Text = []string{"", "a", "other", "one", "A", "#", "=1"}[r.Intn(7)]
		case 2:
			part.Num = []int64{-1, 0, 1, 5, 1000000, 1000001}[r.Intn(6)]
		case 3:
			part.Kids += []int64{-1, 1, 2, -2}[r.Intn(4)]
		case 4:
			parts = slices.Delete(parts, at, at+1)
		case 5:
			parts = slices.Insert(parts, at, parts[r.Intn(len(parts))])
		case 6:
			other := r.Intn(len(parts))
			parts[at], parts[other] = parts[other], parts[at]
		default:
			parts = parts[:at]
		}
		isMessageFault(t, parts)
	})
}

func TestSizesOfShownMessages(t *testing.T) {
	for _, size := range []int{65535, 65536, 65537, 131072, 131073, 200000} {
		plain := strings.Repeat("a", size)
		hidden := strings.Repeat("{", size/2) + strings.Repeat("x", size%2)
		for text, written := range map[string]string{plain: plain, hidden: strings.ReplaceAll(hidden, "{", "\\{")} {
			want := written
			if size > 65536 {
				want = ""
			}
			parts := []impl.MsgPart{{Kind: impl.MpText, Text: text}}
			isMessageShown(t, parts, want)
			// What has a text that would be too long may be told.
			isMessageRight(t, parts, true)
			inCase := append(partsFrom("arg:b select:a/1 case:other/1"), impl.MsgPart{Kind: impl.MpText, Text: text[len("{b}{a:select other{}}"):]})
			isMessageRight(t, inCase, true)
			isArgs(t, inCase, []string{"a", "b"})
		}
		inCase := append(partsFrom("arg:b select:a/1 case:other/1"), impl.MsgPart{Kind: impl.MpText, Text: plain[len("{b}{a:select other{}}"):]})
		want := ""
		if size <= 65536 {
			want = "{b}{a:select other{" + inCase[3].Text + "}}"
		}
		isMessageShown(t, inCase, want)
	}
	for _, row := range []string{"text", "arg:A", "case:other/0", "text:a text:b", "plural:a/1 case:one/0"} {
		isMessageShown(t, partsFrom(row), "")
	}
	isMessageShown(t, nil, "")
	isMessageShown(t, slices.Repeat(partsFrom("sharp"), 200), strings.Repeat("#", 200))
	isMessageShown(t, slices.Repeat(partsFrom("sharp"), 201), "")
	isMessageShown(t, slices.Repeat(partsFrom("sharp"), 1001), "")
}

func TestArgsByHand(t *testing.T) {
	for _, row := range []struct {
		text string
		want string
	}{
		{"", ""}, {"a", ""}, {"#", ""}, {`\{a\}`, ""}, {"{a}", "a"}, {"{a}{a}", "a"}, {"{b}{a}", "a b"}, {"{b}{a}{b}", "a b"}, {"{a:number}", "a"}, {"{a:plural other{}}", "a"}, {"{a:select other{}}", "a"}, {"{a:select b{} other{c}}", "a"},
		{"{z}{y:number}{x:plural other{}}{w:select other{}}", "w x y z"}, {"{a:plural other{{c:select other{{b:number}}}} one{{d}}}", "a b c d"}, {"{a}{a:number}{a:plural other{{a}}}{a:select other{{a:number}}}", "a"},
		{"{ab}{a}{a-}{b}{a0}", "a a- a0 ab b"}, {"{other}{number}{plural}", "number other plural"}, {"{a:plural =1{{b}} one{{b}} other{{b}#}}", "a b"}, {nestedMessages("plural", 10, "{z}"), "a z"},
	} {
		isArgs(t, impl.ReadMessage(row.text).Parts, strings.Fields(row.want))
	}
	for _, row := range []string{"arg:A", "arg:a arg:B", "arg:a text:a text:b", "arg:a case:other/0", "plural:a/1 case:one/0", "arg:a/1", "select:a/1 case:other/1"} {
		isArgs(t, partsFrom(row), nil)
	}
	isArgs(t, slices.Repeat(partsFrom("arg:a"), 200), []string{"a"})
	isArgs(t, slices.Repeat(partsFrom("arg:a"), 201), nil)
	isArgs(t, slices.Repeat(partsFrom("arg:a"), 1000), nil)
	isArgs(t, slices.Repeat(partsFrom("arg:a"), 1001), nil)
}

// messageLocale is one with two plurals beside other.
func messageLocale() impl.Locale {
	l := impl.Locale{Name: "a", Point: ".", Comma: ",", Minus: "-", Sizes: []int64{3}}
	l.Plurals = []impl.PluralRule{{Name: "few", When: "n=2..4"}, {Name: "one", When: "i=1&v=0"}}
	return l
}

var argWord = regexp.MustCompile(`^([^=:]*)(?::(.*)|=(-?\d+)(?:/(-?\d+))?)$`)

// argsFrom reads a name and behind a `:` a text (`_` is a blank), or behind a `=` a Num and behind a `/` the Places.
func argsFrom(row string) []impl.Arg {
	var args []impl.Arg
	for _, word := range strings.Fields(row) {
		pieces := argWord.FindStringSubmatch(word)
		arg := impl.Arg{Name: pieces[1], Text: strings.ReplaceAll(pieces[2], "_", " "), IsNum: pieces[3] != ""}
		arg.Num, _ = strconv.ParseInt(pieces[3], 10, 64)
		arg.Places, _ = strconv.ParseInt(pieces[4], 10, 64)
		args = append(args, arg)
	}
	return args
}

func isTold(t *testing.T, l impl.Locale, parts []impl.MsgPart, args []impl.Arg, want impl.Written) {
	t.Helper()
	if got := impl.MessageText(l, parts, args); got != want {
		t.Errorf("MessageText of %.200q (%d parts) with %.300s: got code %d, %d bytes, %+.200q (%d steps), want code %d, %d bytes, %+.200q",
			impl.ShowMessage(parts), len(parts), fmt.Sprintf("%+v", args), got.Code, len(got.Text), got.Text, got.Steps, want.Code, len(want.Text), want.Text)
	}
}

func readParts(t *testing.T, text string) []impl.MsgPart {
	t.Helper()
	read := impl.ReadMessage(text)
	if read.Code != impl.OK {
		t.Fatalf("ReadMessage of %+q: %+v", text, read)
	}
	return read.Parts
}

func TestTellingByHand(t *testing.T) {
	const days = "{n:plural =0{none} one{# day} few{# (few)} other{# days}}"
	for _, row := range []struct{ text, args, want string }{
		{"", "", ""}, {"a", "", "a"}, {"#", "", "#"}, {"##a#", "n=5", "##a#"}, {`\{\}\#\\`, "", `{}#\`}, {"a{b}c", "b:x", "axc"}, {"{b}", "b:", ""}, {"{b}{b}", "b:x_y", "x yx y"}, {"{b}", "b:{c}#", "{c}#"}, {"{b}", "b:\xFF\\", "\xFF\\"},
		{"{b}", "b=5", "5"}, {"{b}", "b=-1234567/2", "-12,345.67"}, {"{b}", "b=0/9", "0.000000000"}, {"{b:number}", "b=5", "5"}, {"{b:number}", "b=1234", "1,234"}, {"{b:number}", "b=1234/3", "1.234"}, {"{b:number}{b}", "b=-7/1", "-0.7-0.7"}, {"{b}", "b=9223372036854775807", "9,223,372,036,854,775,807"}, {"{b}", "b=-9223372036854775808", "-9,223,372,036,854,775,808"},
		{"{b}", "b:x b:y", "x"}, {"{b}", "b:x b=5", "x"}, {"{b}", "b=5 b:x", "5"}, {"{b:number}", "b=5 b:x", "5"}, {"{b}", "a:q b:x", "x"}, {"{b}{a}", "a:q b:x", "xq"}, {"{b}", "b:x a=1 :z A:y", "x"}, {"x", "a:b", "x"}, {"{b}", "B:x b:y", "y"}, {"{b}", "bb:x b:y", "y"},
		{days, "n=0", "none"}, {days, "n=1", "1 day"}, {days, "n=2", "2 (few)"}, {days, "n=4", "4 (few)"}, {days, "n=5", "5 days"}, {days, "n=-1", "-1 day"}, {days, "n=-2", "-2 (few)"}, {days, "n=1000", "1,000 days"}, {days, "n=0/1", "0.0 days"}, {days, "n=10/1", "1.0 days"}, {days, "n=20/1", "2.0 (few)"}, {days, "n=25/1", "2.5 days"}, {days, "n=1/1", "0.1 days"}, {days, "n=1 n=0", "1 day"}, {days, "n=1 n:x", "1 day"},
		{"{n:plural =1{a} one{b} other{c}}", "n=1", "a"}, {"{n:plural one{b} =1{a} other{c}}", "n=1", "a"}, {"{n:plural other{c} one{b} =1{a}}", "n=1", "a"}, {"{n:plural =1{a} one{b} other{c}}", "n=10/1", "c"}, {"{n:plural =10{a} =1{b} other{c}}", "n=10/1", "c"}, {"{n:plural =1{a} other{c}}", "n=-1", "c"}, {"{n:plural other{c} one{b}}", "n=1", "b"},
		{"{n:plural =1{a} few{b} other{c}}", "n=7", "c"}, {"{n:plural many{b} other{c}}", "n=2", "c"}, {"{n:plural many{b} other{c}}", "n=1", "c"}, {"{n:plural =1000000{a} =0{b} other{c}}", "n=1000000", "a"}, {"{n:plural =1000000{a} =0{b} other{c}}", "n=1000001", "c"}, {"{n:plural =0{a} other{c}}", "n=0/2", "c"}, {"{n:plural =0{a} other{c}}", "n=0", "a"},
		{"#{n:plural other{#}}#", "n=7", "#7#"}, {`{n:plural other{\#}}`, "n=7", "#"}, {"{n:plural other{#-#}}", "n=7/1", "0.7-0.7"}, {"{n:plural other{#{m:plural other{#}}#}}#", "n=7 m=8", "787#"}, {"{n:plural other{{m:plural other{#}}}}", "n=7 m=8", "8"}, {"{n:plural other{{m:plural one{x} other{y}}#}}", "n=7 m=1", "x7"}, {"{n:plural other{{n:plural other{#}}#}}", "n=7", "77"},
		{"{n:plural other{{s:select a{#} other{<#>}}}}", "n=7 s:a", "7"}, {"{n:plural other{{s:select a{#} other{<#>}}#}}", "n=7 s:b", "<7>7"}, {"{s:select other{#}}", "s:a", "#"}, {"{s:select other{#{n:plural other{#}}#}}#", "s:a n=3", "#3##"}, {"{n:plural other{{s:select other{#{m:plural other{#}}#}}#}}", "n=7 s:x m=8", "7877"},
		{"{s:select a{x} b{y} other{z}}", "s:a", "x"}, {"{s:select a{x} b{y} other{z}}", "s:b", "y"}, {"{s:select a{x} b{y} other{z}}", "s:c", "z"}, {"{s:select a{x} b{y} other{z}}", "s:", "z"}, {"{s:select a{x} b{y} other{z}}", "s:other", "z"}, {"{s:select other{z} a{x}}", "s:a", "x"}, {"{s:select a{x} other{z}}", "s:A", "z"}, {"{s:select a{x} other{z}}", "s:a_", "z"}, {"{s:select a{x} other{z}}", "s:=0", "z"}, {"{s:select other{{s}}}", "s:q", "q"},
		{"{s:select a{} other{z}}", "s:a", ""}, {"{n:plural =1{} other{z}}x", "n=1", "x"}, {"{n:plural other{{n} {n:number}}}", "n=12/1", "1.2 1.2"}, {"{s:select a{x{b}} other{{c:number}}}!", "s:a b:q", "xq!"}, {"{s:select a{x{b}} other{{c:number}}}!", "s:z c=1 b:q", "1!"},
	} {
		isTold(t, messageLocale(), readParts(t, row.text), argsFrom(row.args), impl.Written{Text: row.want})
	}
	// An arg that is a number has no Text, and one that is a text no number.
	both := impl.Arg{Name: "b", Text: "x", Num: 5, Places: 1}
	isTold(t, messageLocale(), partsFrom("arg:b"), []impl.Arg{both}, impl.Written{Text: "x"})
	isTold(t, messageLocale(), partsFrom("number:b"), []impl.Arg{both}, impl.Written{Code: impl.ErrRight})
	both.IsNum = true
	isTold(t, messageLocale(), partsFrom("arg:b"), []impl.Arg{both}, impl.Written{Text: "0.5"})
	isTold(t, messageLocale(), readParts(t, "{b:select x{} other{}}"), []impl.Arg{both}, impl.Written{Code: impl.ErrRight})
}

func TestTellingByLocales(t *testing.T) {
	const text = "{n:plural one{#!} few{# f} many{# m} other{# o}} {n} {n:number}"
	l := fullLocale()
	many := textWritten(0x251, 0x252) + "," + textWritten(0x253, 0x254, 0x255)
	isTold(t, l, readParts(t, text), argsFrom("n=12345"), impl.Written{Text: many + " o " + many + " " + many})
	isTold(t, l, readParts(t, text), argsFrom("n=1"), impl.Written{Text: textWritten(0x251) + "! " + textWritten(0x251) + " " + textWritten(0x251)})
	isTold(t, l, readParts(t, text), argsFrom("n=-3"), impl.Written{Text: "-" + textWritten(0x253) + " f -" + textWritten(0x253) + " -" + textWritten(0x253)})
	l.Plurals = nil
	isTold(t, l, readParts(t, "{n:plural one{1} =2{2} other{o}}"), argsFrom("n=1"), impl.Written{Text: "o"})
	isTold(t, l, readParts(t, "{n:plural one{1} =2{2} other{o}}"), argsFrom("n=2"), impl.Written{Text: "2"})
	isTold(t, impl.Locale{Name: "a"}, readParts(t, "{n} {n:number}{n:plural other{#}}"), argsFrom("n=-15/1"), impl.Written{Text: "15 1515"})
}

func TestTellingWrongThings(t *testing.T) {
	right := readParts(t, "{a}")
	args := argsFrom("a:x")
	refused := impl.Written{Code: impl.ErrForm}
	l := messageLocale()
	isTold(t, l, right, args, impl.Written{Text: "x"})
	for _, wrong := range []impl.Locale{{}, {Name: "A"}, {Name: "a", System: -1}, {Name: "a", System: 7}, {Name: "a", Point: "1"}, {Name: "a", Plurals: []impl.PluralRule{{Name: "other", When: "n=1"}}}, {Name: "a", Sizes: []int64{0}}, {Name: "a", Two: "x"}, {Name: "a", Date: "\xFF"}} {
		isTold(t, wrong, right, args, refused)
		isTold(t, wrong, nil, nil, refused)
		isTold(t, wrong, right, nil, refused)
	}
	for system := int64(-2); system <= 8; system++ {
		l := messageLocale()
		l.System = system
		want := refused
		if system >= 0 && system <= 6 {
			want = impl.Written{Text: "x"}
		}
		isTold(t, l, right, args, want)
	}
	for _, row := range []string{"text", "text:a text:b", "arg:A", "arg:a/1", "case:other/0", "plural:a/1 case:one/0", "select:a/1 case:other/1", "arg:a sharp@1"} {
		isTold(t, l, partsFrom(row), args, refused)
		isTold(t, l, partsFrom(row), nil, refused)
	}
	isTold(t, l, []impl.MsgPart{{Kind: 8}}, args, refused)
	for _, places := range []int64{math.MinInt64, -2, -1, 0, 1, 8, 9, 10, 11, math.MaxInt64} {
		for _, arg := range []impl.Arg{{Name: "a", Text: "x"}, {Name: "a", Num: 3, IsNum: true}, {Name: "b"}, {Name: "b", IsNum: true}, {Name: ""}, {Name: "\xFF", Text: "y"}} {
			arg.Places = places
			for _, args := range [][]impl.Arg{{arg, {Name: "a", Text: "x"}}, {{Name: "a", Text: "x"}, arg}, {{Name: "a", Text: "x"}, {Name: "a", Text: "z"}, arg, {Name: "c"}}} {
				want := impl.Written{Text: "x"}
				switch {
				case places < 0 || places > 9:
					want = refused
				case args[0].IsNum && args[0].Name == "a":
					want.Text = numberPlainly(l, 3, places)
				}
				isTold(t, l, right, args, want)
			}
		}
		lone := refused
		if places >= 0 && places <= 9 {
			lone = impl.Written{}
		}
		isTold(t, l, nil, []impl.Arg{{Name: "a", Places: places}}, lone)
	}
}

// TestFaultsOfTelling has the faults that are come to from the left.
func TestFaultsOfTelling(t *testing.T) {
	const none, wrong, right = impl.ErrNone, impl.ErrRight, impl.OK
	for _, row := range []struct {
		text string
		args string
		code int64
	}{
		{"{a}", "", none}, {"{a:number}", "", none}, {"{a:plural other{}}", "", none}, {"{a:select other{}}", "", none}, {"{a}", "b:x", none}, {"{a}", "A:x", none}, {"{a}", "aa:x", none}, {"{a}", ":x", none}, {"{a}{b}", "a:x", none}, {"x{a}y", "b=1", none},
		{"{a:number}", "a:x", wrong}, {"{a:number}", "a:5", wrong}, {"{a:number}", "a:", wrong}, {"{a:plural other{}}", "a:x", wrong}, {"{a:plural other{}}", "a:5", wrong}, {"{a:select other{}}", "a=1", wrong}, {"{a:select a{} other{}}", "a=1/1", wrong}, {"{a:number}", "a:x a=1", wrong}, {"{a:select other{}}", "a=1 a:x", wrong}, {"{a}{a:number}", "a:x", wrong}, {"{a}{a:select other{}}", "a=1", wrong},
		{"{a}{b:number}", "b:x", none}, {"{b:number}{a}", "b:x", wrong}, {"{a:number}{b:select other{}}", "b=1", none}, {"{b:select other{}}{a:number}", "b=1", wrong}, {"{a:plural other{}}{b:number}", "a=1 b:x", wrong}, {"{a:plural other{}}{b:number}", "a:x", wrong}, {"{a:plural other{}}{b:number}", "b:x", none},
		{"{a:plural =1{{b}} other{}}", "a=1", none}, {"{a:plural =1{{b}} other{}}", "a=2", right}, {"{a:plural =1{{b:number}} other{}}", "a=1 b:x", wrong}, {"{a:plural =1{{b:number}} other{}}", "a=2 b:x", right}, {"{a:plural one{{b}} other{}}", "a=1", none}, {"{a:plural one{{b}} other{}}", "a=10/1", right}, {"{a:plural one{} other{{b}}}", "a=10/1", none}, {"{a:plural one{} other{{b}}}", "a=1", right},
		{"{a:select x{{b}} other{}}", "a:x", none}, {"{a:select x{{b}} other{}}", "a:y", right}, {"{a:select x{{b:select other{}}} other{}}", "a:x b=1", wrong}, {"{a:select x{{b:select other{}}} other{}}", "a:y b=1", right}, {"{a:select x{} other{{b:plural other{}}}}", "a:y b:z", wrong}, {"{a:select x{} other{{b:plural other{}}}}", "a:x b:z", right},
		{"{a:select x{{b}} other{}}{c:number}", "a:x c:z", none}, {"{a:select x{{b}} other{}}{c:number}", "a:y c:z", wrong}, {"{c:number}{a:select x{{b}} other{}}", "a:x c:z", wrong}, {"{a:plural other{{b:plural other{{c}}}}}", "a=1 b=2", none}, {"{a:plural other{{b:plural other{{c}}}}}", "a=1 b:2", wrong}, {"{a:plural other{{b:plural other{{c}}}}}", "b:2", none},
		{"{a:plural other{{b:plural other{}}{c}}}{d:number}", "a=1 b=1 d:x", none}, {"{a:plural other{{b:plural other{}}}}{d:number}", "a=1 b=1 d:x", wrong}, {"{a:number}{a}", "a:x", wrong}, {"{a:select other{{a:number}}}", "a:x", wrong}, {"{a:plural other{{a:select other{}}}}", "a=1", wrong},
	} {
		got := impl.MessageText(messageLocale(), readParts(t, row.text), argsFrom(row.args))
		if got.Code != row.code || got.Code != impl.OK && got != (impl.Written{Code: row.code}) {
			t.Errorf("MessageText of %+q with %+q: got %+v, want code %d", row.text, row.args, got, row.code)
		}
	}
}

func TestSizesOfTelling(t *testing.T) {
	l := messageLocale()
	tooLong := impl.Written{Code: impl.ErrSize}
	for _, size := range []int{65535, 65536, 65537, 65538, 200000} {
		long := strings.Repeat("x", size)
		want := tooLong
		if size <= 65536 {
			want = impl.Written{Text: long}
		}
		isTold(t, l, []impl.MsgPart{{Kind: impl.MpText, Text: long}}, nil, want)
		isTold(t, l, partsFrom("arg:a"), []impl.Arg{{Name: "a", Text: long}}, want)
		isTold(t, l, partsFrom("text:x arg:a text:x"), []impl.Arg{{Name: "a", Text: long[2:]}}, want)
		isTold(t, l, partsFrom("arg:a select:s/1 case:other/1 text:x"), append(argsFrom("s:q"), impl.Arg{Name: "a", Text: long[1:]}), want)
		isTold(t, l, partsFrom("select:s/1 case:other/1 arg:a"), append(argsFrom("s:q"), impl.Arg{Name: "a", Text: long}), want)
		numbered := want
		if want.Code == impl.OK {
			numbered.Text = long[:size-5] + "1,234"
		}
		for _, row := range []string{"arg:a number:n", "arg:a arg:n", "arg:a plural:n/1 case:other/1 sharp"} {
			isTold(t, l, partsFrom(row), append(argsFrom("n=1234"), impl.Arg{Name: "a", Text: long[5:]}), numbered)
		}
		sharp := want
		if want.Code == impl.OK {
			sharp.Text = long[:size-1] + "#"
		}
		isTold(t, l, partsFrom("arg:a sharp"), []impl.Arg{{Name: "a", Text: long[1:]}}, sharp)
		// Faults are told as they are come to.
		args := append(argsFrom("n=1 s:x"), impl.Arg{Name: "a", Text: long})
		for text, code := range map[string]int64{"{b}": impl.ErrNone, "{s:number}": impl.ErrRight, "{n:select other{}}": impl.ErrRight, "{b:plural other{}}": impl.ErrNone} {
			behind, ahead := readParts(t, "{a}"+text), readParts(t, text+"{a}")
			isTold(t, l, ahead, args, impl.Written{Code: code})
			if size > 65536 {
				code = impl.ErrSize
			}
			isTold(t, l, behind, args, impl.Written{Code: code})
			isTold(t, l, readParts(t, "{n:plural other{{a}}}"+text), args, impl.Written{Code: code})
		}
		// In a case that is not taken nothing is too long.
		isTold(t, l, readParts(t, "{s:select y{{a}} other{z}}"), args, impl.Written{Text: "z"})
		isTold(t, l, partsFrom("text"), args, impl.Written{Code: impl.ErrForm})
		isTold(t, l, readParts(t, "{s}"), args, impl.Written{Text: "x"})
	}
	half := impl.Arg{Name: "a", Text: strings.Repeat("y", 32768)}
	isTold(t, l, partsFrom("arg:a arg:a"), []impl.Arg{half}, impl.Written{Text: half.Text + half.Text})
	isTold(t, l, partsFrom("arg:a arg:a text:z"), []impl.Arg{half}, tooLong)
	isTold(t, l, partsFrom("arg:a arg:a arg:b"), []impl.Arg{half}, impl.Written{Code: impl.ErrNone})
	isTold(t, l, partsFrom("arg:a arg:a arg:e"), append(argsFrom("e:"), half), impl.Written{Text: half.Text + half.Text})
	isTold(t, l, partsFrom("arg:a arg:a sharp arg:b"), []impl.Arg{half}, tooLong)
}

func TestListsOfTelling(t *testing.T) {
	l := messageLocale()
	tooMany := impl.Written{Code: impl.ErrSize}
	for _, count := range []int{999, 1000, 1001, 3000} {
		args := slices.Repeat([]impl.Arg{{Name: "b", Text: "y"}}, count)
		args[count-1] = impl.Arg{Name: "a", Text: "x"}
		want, wrong, none := impl.Written{Text: "xy"}, impl.Written{Code: impl.ErrForm}, impl.Written{Code: impl.ErrNone}
		if count > 1000 {
			want, wrong, none = tooMany, tooMany, tooMany
		}
		isTold(t, l, partsFrom("arg:a arg:b"), args, want)
		isTold(t, l, partsFrom("arg:c"), args, none)
		isTold(t, l, partsFrom("text"), args, wrong)
		isTold(t, impl.Locale{}, partsFrom("arg:a"), args, wrong)
		args[0].Places = 10
		isTold(t, l, partsFrom("arg:a"), args, wrong)
		// So many parts are never right.
		isTold(t, l, slices.Repeat(partsFrom("sharp"), count), nil, wrong)
		isTold(t, impl.Locale{}, slices.Repeat(partsFrom("sharp"), count), args, wrong)
	}
	isTold(t, l, slices.Repeat(partsFrom("sharp"), 200), nil, impl.Written{Text: strings.Repeat("#", 200)})
	isTold(t, l, slices.Repeat(partsFrom("sharp"), 201), nil, impl.Written{Code: impl.ErrForm})
}

// tellPlainly tells parts one by one, and panics with the code of the first fault.
func tellPlainly(l impl.Locale, trees []plainPart, args []impl.Arg, sharp string, told *string) {
	for _, tree := range trees {
		part := tree.part
		at := slices.IndexFunc(args, func(arg impl.Arg) bool { return arg.Name == part.Text })
		isNum, number := false, ""
		if part.Kind >= impl.MpArg && part.Kind <= impl.MpSelect {
			if at < 0 {
				panic(int64(impl.ErrNone))
			}
			isNum, number = args[at].IsNum, numberPlainly(l, args[at].Num, args[at].Places)
		}
		if isNum && part.Kind == impl.MpSelect || !isNum && (part.Kind == impl.MpNumber || part.Kind == impl.MpPlural) {
			panic(int64(impl.ErrRight))
		}
		switch part.Kind {
		case impl.MpText:
			*told += part.Text
		case impl.MpSharp:
			*told += sharp
		case impl.MpArg, impl.MpNumber:
			if isNum {
				*told += number
			} else {
				*told += args[at].Text
			}
		case impl.MpPlural:
			tellPlainly(l, casePlainly(tree, args[at].Places == 0, args[at].Num, pluralPlainly(l, args[at].Num, args[at].Places)), args, number, told)
		case impl.MpSelect:
			tellPlainly(l, casePlainly(tree, false, 0, args[at].Text), args, sharp, told)
		}
		if len(*told) > 65536 {
			panic(int64(impl.ErrSize))
		}
	}
}

// casePlainly gives each case a rank, and takes the best one.
func casePlainly(tree plainPart, isWhole bool, num int64, name string) []plainPart {
	best, within := 0, []plainPart(nil)
	for _, one := range tree.kids {
		rank := 0
		switch {
		case one.part.Text == "" && isWhole && one.part.Num == num:
			rank = 3
		case one.part.Text != "" && one.part.Text == name:
			rank = 2
		case one.part.Text == "other":
			rank = 1
		}
		if rank > best {
			best, within = rank, one.kids
		}
	}
	return within
}

func toldPlainly(l impl.Locale, parts []impl.MsgPart, args []impl.Arg) (told impl.Written) {
	if len(parts) > 1000 || len(args) > 1000 {
		return impl.Written{Code: impl.ErrSize}
	}
	_, right := showPlainly(parts)
	wrongArg := slices.ContainsFunc(args, func(arg impl.Arg) bool { return arg.Places < 0 || arg.Places > 9 })
	if !right || wrongArg || !isRightLocale(l) || l.System == -1 {
		return impl.Written{Code: impl.ErrForm}
	}
	defer func() {
		given := recover()
		if code, isCode := given.(int64); isCode {
			told = impl.Written{Code: code}
		} else if given != nil {
			panic(given)
		}
	}()
	trees, _ := partsPlainly(parts)
	tellPlainly(l, trees, args, "#", &told.Text)
	return told
}

func randomArgs(r *rand.Rand) []impl.Arg {
	var args []impl.Arg
	for _, name := range []string{"a", "b", "n", "x-1", "other", "zzzzzzzzzzzzzzzzzzzz", "q", ""} {
		for range r.Intn(12) / 5 {
			nums := []int64{0, 1, 2, 5, 21, 10, 100, -1, 1000000, 12345678, math.MinInt64, math.MaxInt64}
			texts := []string{"", "a", "b", "one", "other", "x-1", "{a}", "#\\", "\xFF"}
			args = append(args, impl.Arg{Name: name, Text: texts[r.Intn(len(texts))], Num: nums[r.Intn(len(nums))], Places: int64(r.Intn(20)) / 10 * int64(r.Intn(10)), IsNum: r.Intn(2) == 0})
		}
	}
	r.Shuffle(len(args), func(i int, j int) { args[i], args[j] = args[j], args[i] })
	return args
}

// fittingArgs has for each name what its first part asks for.
func fittingArgs(r *rand.Rand, parts []impl.MsgPart) []impl.Arg {
	args := randomArgs(r)
	for _, part := range parts {
		if part.Kind < impl.MpArg || part.Kind > impl.MpSelect {
			continue
		}
		args = append(args, impl.Arg{Name: part.Text, Text: []string{"a", "b", "q"}[r.Intn(3)], Num: int64(r.Intn(6)), Places: int64(r.Intn(2)), IsNum: part.Kind == impl.MpNumber || part.Kind == impl.MpPlural})
	}
	slices.Reverse(args)
	return args
}

func TestTellingOfMessages(t *testing.T) {
	codes := map[int64]int{}
	eachRandomMessage(183, 12000, func(r *rand.Rand, parts []impl.MsgPart) {
		l := randomLocale(r)
		args := randomArgs(r)
		if r.Intn(4) > 0 {
			args = fittingArgs(r, parts)
		}
		if r.Intn(20) == 0 && len(args) > 0 {
			args[r.Intn(len(args))].Places = int64(r.Intn(13)) - 2
		}
		want := toldPlainly(l, parts, args)
		isTold(t, l, parts, args, want)
		codes[want.Code]++
	})
	for _, code := range []int64{impl.OK, impl.ErrForm, impl.ErrNone, impl.ErrRight} {
		if codes[code] < 100 {
			t.Errorf("code %d was told %d times", code, codes[code])
		}
	}
}

// TestToldByArgsAlone is P45: what is told hangs on the args that the parts name, on nothing else of them.
func TestToldByArgsAlone(t *testing.T) {
	eachRandomMessage(184, 5000, func(r *rand.Rand, parts []impl.MsgPart) {
		l := messageLocale()
		args := fittingArgs(r, parts)
		told := impl.MessageText(l, parts, args)
		isTold(t, l, parts, args, told)
		isTold(t, l, readParts(t, impl.ShowMessage(parts)), args, told)
		names := impl.ArgsOf(parts)
		var needed []impl.Arg
		for _, name := range names {
			if at := slices.IndexFunc(args, func(arg impl.Arg) bool { return arg.Name == name }); at >= 0 {
				arg := args[at]
				if arg.IsNum {
					arg.Text = "never told"
				} else {
					arg.Num = 77
				}
				needed = append(needed, arg)
			}
		}
		isTold(t, l, parts, needed, told)
		r.Shuffle(len(needed), func(i int, j int) { needed[i], needed[j] = needed[j], needed[i] })
		isTold(t, l, parts, needed, told)
		isTold(t, l, parts, append(slices.Clone(needed), randomArgs(r)...), told)
		isTold(t, l, parts, append([]impl.Arg{{Name: "no-name", Text: "x"}, {Name: "#", Num: 5, IsNum: true}, {}}, needed...), told)
		for _, arg := range needed {
			arg.Text, arg.Num, arg.IsNum = "later", 99, !arg.IsNum
			needed = append(needed, arg)
		}
		isTold(t, l, parts, needed, told)
		// What the locale has for lists, dates and its name is not told.
		l.Name, l.Parent, l.Two, l.Date = "zz", "yy", "{0}{1}", "y"
		isTold(t, l, parts, needed, told)
		if code := impl.MessageText(l, parts, nil).Code; len(names) == 0 && code != impl.OK || code != impl.OK && code != impl.ErrNone {
			t.Errorf("%+q is told without args by code %d", impl.ShowMessage(parts), code)
		}
	})
}

func TestMessagesAreNewMemory(t *testing.T) {
	text := strings.Clone("text{arg}{number:number}{plural:plural =12{# text} one{\\{\\}} other{}}{select:select key{text} other{#}}")
	read := impl.ReadMessage(text)
	for _, part := range read.Parts {
		isApart(t, "ReadMessage", []string{part.Text}, text)
	}
	again := impl.ReadMessage(text)
	again.Parts[0].Text, again.Parts[1].Kids = "changed", 7
	isMessage(t, text, read)
	parts := spare(read.Parts)
	for at := range parts {
		parts[at].Text = strings.Clone(parts[at].Text)
	}
	args := spare(argsFrom("arg:given number=5 plural=12 select:key"))
	l := fullLocale()
	l.Sizes, l.Plurals = spare(l.Sizes), spare(l.Plurals)
	told := func() string {
		return fmt.Sprint(l, parts[:cap(parts)], args[:cap(args)], l.Sizes[:cap(l.Sizes)], l.Plurals[:cap(l.Plurals)], text)
	}
	before := told()
	names := impl.ArgsOf(parts)
	for _, name := range names {
		for _, part := range parts {
			isApart(t, "ArgsOf", []string{name}, part.Text)
		}
	}
	names[0] = "changed"
	if got := impl.ArgsOf(parts); !reflect.DeepEqual(got, []string{"arg", "number", "plural", "select"}) {
		t.Errorf("ArgsOf: %+q", got)
	}
	isMessageShown(t, parts, text)
	isMessageRight(t, parts, true)
	first := impl.MessageText(l, parts, args)
	isTold(t, l, parts, args, first)
	for _, row := range []string{"text:given", "arg:arg"} {
		one := partsFrom(row)
		one[0].Text = strings.Clone(one[0].Text)
		isApart(t, "MessageText", []string{impl.MessageText(l, one, args).Text}, one[0].Text, args[0].Text)
		isApart(t, "ShowMessage", []string{impl.ShowMessage(one)}, one[0].Text)
	}
	if after := told(); after != before {
		t.Errorf("what was handed in is changed: %s, %s", before, after)
	}
}
