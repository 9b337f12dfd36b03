package tests

import (
	"cmp"
	"fmt"
	"math"
	"math/rand"
	"reflect"
	"slices"
	"sort"
	"strconv"
	"strings"
	"testing"

	"loop.example/g00044/impl"
)

// linesPlainly counts the bytes U+0A of a text.
func linesPlainly(text string) (lines int64) {
	for at := range len(text) {
		if text[at] == 0x0A {
			lines++
		}
	}
	return lines
}

// ropePlainly lays the tree of a text, piece by piece, as chapter 21 tells it.
func ropePlainly(text string) []impl.RopeNode {
	return layRopePlainly(nil, text)
}

func layRopePlainly(nodes []impl.RopeNode, text string) []impl.RopeNode {
	if text == "" {
		return nodes
	}
	at := len(nodes)
	nodes = append(nodes, impl.RopeNode{Left: -1, Right: -1, Size: int64(len(text)), Lines: linesPlainly(text)})
	if len(text) <= 64 {
		nodes[at].Text = text
		return nodes
	}
	cut := cutPlainly(text)
	nodes[at].Left = int64(len(nodes))
	nodes = layRopePlainly(nodes, text[:cut])
	nodes[at].Right = int64(len(nodes))
	return layRopePlainly(nodes, text[cut:])
}

// cutPlainly is the greatest place of a point that is not above the half.
func cutPlainly(text string) (cut int64) {
	for _, place := range placesPlainly(text) {
		if place <= int64(len(text)+1)/2 {
			cut = place
		}
	}
	return cut
}

// gatheredPlainly is the text below a node, if each node is come to once at most.
func gatheredPlainly(nodes []impl.RopeNode, at int64, seen map[int64]bool) (text string, whole bool) {
	if at < 0 || at >= int64(len(nodes)) || seen[at] {
		return "", false
	}
	seen[at] = true
	node := nodes[at]
	if node.Left == -1 && node.Right == -1 {
		return node.Text, true
	}
	left, wholeLeft := gatheredPlainly(nodes, node.Left, seen)
	right, wholeRight := gatheredPlainly(nodes, node.Right, seen)
	return left + right, wholeLeft && wholeRight
}

func isRightRopePlainly(r impl.Rope) bool {
	text := ""
	if len(r.Nodes) > 0 {
		gathered, whole := gatheredPlainly(r.Nodes, 0, map[int64]bool{})
		if !whole || len(gathered) > 65536 || !slices.Equal(r.Nodes, ropePlainly(gathered)) {
			return false
		}
		text = gathered
	}
	return areRightMarksPlainly(r.Marks, int64(len(text)))
}

func areRightMarksPlainly(marks []impl.Mark, size int64) bool {
	for at, mark := range marks {
		if !isPlainName(mark.Name) || mark.At < 0 || mark.At > size || at > 0 && mark.Name <= marks[at-1].Name {
			return false
		}
	}
	return len(marks) <= 100
}

// ropeTold is a rope as a text, short where it is long.
func ropeTold(r impl.Rope) string {
	return fmt.Sprintf("%.600s", fmt.Sprintf("%+q", fmt.Sprintf("%+v", r)))
}

func sameRope(a impl.Rope, b impl.Rope) bool {
	return slices.Equal(a.Nodes, b.Nodes) && slices.Equal(a.Marks, b.Marks)
}

func isRopeOf(t *testing.T, text string, want []impl.RopeNode) {
	t.Helper()
	got := impl.RopeOf(text)
	if !sameRope(got, impl.Rope{Nodes: want}) {
		t.Errorf("RopeOf of %d bytes, %+.100q: got %s, want %s", len(text), text, ropeTold(got), ropeTold(impl.Rope{Nodes: want}))
	}
	if code := impl.RopeFault(got); code != impl.OK {
		t.Errorf("RopeFault of RopeOf of %d bytes, %+.100q: got %d", len(text), text, code)
	}
	if back := impl.RopeText(got); back != text {
		t.Errorf("RopeText of RopeOf of %d bytes, %+.100q: got %d bytes, %+.100q", len(text), text, len(back), back)
	}
}

// isRightRope asks for what RopeFault should tell, and for what all others answer of a wrong rope.
func isRightRope(t *testing.T, what string, r impl.Rope, right bool) {
	t.Helper()
	want := int64(impl.OK)
	if !right {
		want = impl.ErrForm
	}
	if got := impl.RopeFault(r); got != want {
		t.Errorf("RopeFault, %s: got %d, want %d: %s", what, got, want, ropeTold(r))
	}
	if right {
		return
	}
	if text := impl.RopeText(r); text != "" {
		t.Errorf("RopeText, %s: got %+.100q", what, text)
	}
	for _, at := range []int64{-1, 0, 1, 10} {
		if text := impl.Piece(r, 0, at); text != "" {
			t.Errorf("Piece up to %d, %s: got %+.100q", at, what, text)
		}
		if got := impl.LineAt(r, at); got != -1 {
			t.Errorf("LineAt %d, %s: got %d", at, what, got)
		}
		if got := impl.PlaceOfLine(r, at); got != -1 {
			t.Errorf("PlaceOfLine %d, %s: got %d", at, what, got)
		}
	}
	for _, edits := range [][]impl.RopeEdit{nil, {{Put: "a"}}, {{At: -1}}, make([]impl.RopeEdit, 1000)} {
		isRopeOut(t, "EditRope, "+what, impl.EditRope(r, edits), impl.RopeOut{Code: impl.ErrForm})
	}
	isRopeOut(t, "PutMark, "+what, impl.PutMark(r, impl.Mark{Name: "zz"}), impl.RopeOut{Code: impl.ErrForm})
	if got := impl.MarksAt(r, 0, math.MaxInt64); len(got) != 0 {
		t.Errorf("MarksAt, %s: got %q", what, got)
	}
}

func isRopeOut(t *testing.T, what string, got impl.RopeOut, want impl.RopeOut) {
	t.Helper()
	if got.Code != want.Code || !sameRope(got.Rope, want.Rope) {
		t.Errorf("%s: got code %d, %s, want code %d, %s", what, got.Code, ropeTold(got.Rope), want.Code, ropeTold(want.Rope))
	}
}

// ropeNodesFrom has a word for each node: its Size, ahead of which stand Left and Right of one that is no leaf.
func ropeNodesFrom(text string, row string) (nodes []impl.RopeNode) {
	place := int64(0)
	for _, word := range strings.Fields(row) {
		node := impl.RopeNode{Left: -1, Right: -1}
		below, size, isInner := strings.Cut(word, ":")
		if !isInner {
			size = word
		}
		node.Size = numberFrom(size)
		if isInner {
			left, right, _ := strings.Cut(below, ",")
			node.Left, node.Right = numberFrom(left), numberFrom(right)
			node.Lines = linesPlainly(text[place : place+node.Size])
		} else {
			node.Text = text[place : place+node.Size]
			node.Lines = linesPlainly(node.Text)
			place += node.Size
		}
		nodes = append(nodes, node)
	}
	return nodes
}

func TestRopesByHand(t *testing.T) {
	for _, row := range []struct {
		size  int
		nodes string
	}{
		{0, ""},
		{1, "1"},
		{2, "2"},
		{63, "63"},
		{64, "64"},
		{65, "1,2:65 33 32"},
		{66, "1,2:66 33 33"},
		{127, "1,2:127 64 63"},
		{128, "1,2:128 64 64"},
		{129, "1,4:129 2,3:65 33 32 64"},
		{130, "1,4:130 2,3:65 33 32 5,6:65 33 32"},
		{131, "1,4:131 2,3:66 33 33 5,6:65 33 32"},
		{192, "1,4:192 2,3:96 48 48 5,6:96 48 48"},
		{255, "1,4:255 2,3:128 64 64 5,6:127 64 63"},
		{256, "1,4:256 2,3:128 64 64 5,6:128 64 64"},
		{257, "1,6:257 2,5:129 3,4:65 33 32 64 7,8:128 64 64"},
	} {
		for _, piece := range []string{"a", "\n", "a\n", "\xFF", "\x80", "\x80\xE2", "\x00"} {
			text := strings.Repeat(piece, row.size)[:row.size]
			isRopeOf(t, text, ropeNodesFrom(text, row.nodes))
		}
	}
	// Two bytes each: the half of 66 is within one, and so on below.
	text := strings.Repeat("\u0200", 33)
	isRopeOf(t, text, ropeNodesFrom(text, "1,2:66 32 34"))
	text = strings.Repeat("\u0200", 66)
	isRopeOf(t, text, ropeNodesFrom(text, "1,4:132 2,3:66 32 34 5,6:66 32 34"))
	text = strings.Repeat("\u1000", 43)
	isRopeOf(t, text, ropeNodesFrom(text, "1,2:129 63 3,4:66 33 33"))
	isRopeOf(t, "a\nb\n\nc", []impl.RopeNode{{Text: "a\nb\n\nc", Left: -1, Right: -1, Size: 6, Lines: 3}})
	isRopeOf(t, "a\r\u2028\x0b\x0c\u0085", []impl.RopeNode{{Text: "a\r\u2028\x0b\x0c\u0085", Left: -1, Right: -1, Size: 9}})
	long := strings.Repeat("ab\n", 22)
	isRopeOf(t, long, []impl.RopeNode{
		{Left: 1, Right: 2, Size: 66, Lines: 22},
		{Text: strings.Repeat("ab\n", 11), Left: -1, Right: -1, Size: 33, Lines: 11},
		{Text: strings.Repeat("ab\n", 11), Left: -1, Right: -1, Size: 33, Lines: 11},
	})
}

func TestRopesOfAllSizes(t *testing.T) {
	for _, piece := range []string{"a", "ab\nc", "\u0200", "\u1000", "\U00010000", "a\u1000\xE2\x82", "\n\U0010FFFF\xFF\u0200", "\xF0\x90\x80"} {
		for size := 0; size <= 700; size++ {
			text := strings.Repeat(piece, size)[:size]
			isRopeOf(t, text, ropePlainly(text))
		}
	}
}

// TestRopesCutAtHalves has a text of 100 bytes, of which the half is 50, with something beside or across it.
func TestRopesCutAtHalves(t *testing.T) {
	cutAt := func(what string, begin int, want int64) {
		t.Helper()
		text := strings.Repeat("a", begin) + what
		text += strings.Repeat("b", 100-len(text))
		rope := impl.RopeOf(text)
		if len(rope.Nodes) < 3 || rope.Nodes[1].Size != want {
			t.Errorf("%+q at %d: got %s, want a cut at %d", what, begin, ropeTold(rope), want)
		}
		isRopeOf(t, text, ropePlainly(text))
	}
	for _, row := range []struct {
		what  string
		begin int
		want  int64
	}{
		{"\u0200", 47, 50}, {"\u0200", 48, 50}, {"\u0200", 49, 49}, {"\u0200", 50, 50}, {"\u0200", 51, 50},
		{"\u1000", 46, 50}, {"\u1000", 47, 50}, {"\u1000", 48, 48}, {"\u1000", 49, 49}, {"\u1000", 50, 50}, {"\u1000", 51, 50},
		{"\uFFFD", 48, 48}, {"\uFFFD", 49, 49},
		{"\U00010000", 45, 50}, {"\U00010000", 46, 50}, {"\U00010000", 47, 47}, {"\U00010000", 48, 48}, {"\U00010000", 49, 49}, {"\U00010000", 50, 50},
		{"\U0010FFFF", 47, 47}, {"\u007F", 49, 50}, {"\u0080", 49, 49}, {"\u07FF", 49, 49}, {"\u0800", 48, 48}, {"\uD7FF", 48, 48}, {"\uE000", 48, 48}, {"\uFFFF", 48, 48},
		// The last of these ends at the half, or the first begins there.
		{"\u1000\u1000", 47, 50}, {"\u1000\u1000", 46, 49}, {"\u1000\u1000", 45, 48}, {"\u1000\u1000", 44, 50}, {"\u0200\U00010000", 46, 48},
		// A broken byte ahead of a writing, or behind it.
		{"\xE2\u1000", 47, 48}, {"\xE2\u1000", 48, 49}, {"\xE2\u1000", 49, 50}, {"\xC3\u0200", 48, 49}, {"\u0200\x80", 47, 50}, {"\u0200\x80", 48, 50}, {"\u0200\x80", 49, 49}, {"\x80\x80\u0200", 47, 49},
		{"\xF0\x90\x80\U00010000", 45, 48}, {"\xF0\x90\x80\U00010000", 46, 49},
	} {
		cutAt(row.what, row.begin, row.want)
	}
	for _, broken := range []string{"\x80", "\xBF", "\xC0", "\xC1", "\xC3", "\xE2", "\xE2\x82", "\xF0\x90\x80", "\xF0\x90", "\xED\xA0\x80", "\xED\xBF\xBF", "\xC0\x80", "\xC1\xBF", "\xE0\x80\x80", "\xE0\x9F\xBF", "\xF0\x80\x80\x80", "\xF0\x8F\xBF\xBF", "\xF4\x90\x80\x80", "\xF5\x80\x80\x80", "\xF8\x88\x80\x80\x80", "\xFF", "\xFE\xFF", "\x80\x80\x80\x80\x80"} {
		for begin := 43; begin <= 52; begin++ {
			cutAt(broken, begin, 50)
		}
	}
}

func TestRopesOfAnyBytesAtHalves(t *testing.T) {
	words := []string{"A", "\n", "\x80", "\x90", "\xA0", "\xBF", "\xC2", "\xE0", "\xE1", "\xED", "\xF0", "\xF4"}
	eachRow(words, 4, func(row string) {
		for _, ahead := range []int{29, 30, 31, 32} {
			text := strings.Repeat("x", ahead) + row
			text += strings.Repeat("y", 66-len(text))
			isRopeOf(t, text, ropePlainly(text))
		}
	})
}

func TestLeavesBeginWherePointsDo(t *testing.T) {
	r := rand.New(rand.NewSource(2001))
	points := []int64{'a', '\n', 0x7F, 0x80, 0x7FF, 0x800, 0x1000, 0xFFFD, 0x10000, 0x10FFFF}
	for range 300 {
		text := randomNormText(r, points, 600)
		for range r.Intn(5) {
			text = cutBytes(r, text)
		}
		isRopeOf(t, text, ropePlainly(text))
		places := placesPlainly(text)
		begin := int64(0)
		for _, node := range impl.RopeOf(text).Nodes {
			if node.Text == "" {
				continue
			}
			if !slices.Contains(places, begin) {
				t.Errorf("a leaf of %+.100q begins at %d, within a point", text, begin)
			}
			begin += node.Size
		}
	}
}

func TestLongRopes(t *testing.T) {
	for _, piece := range []string{"a", "\n", "ab\n", "\u0200", "\u1000", "\U00010000", "\xFF", "\xE2\x82"} {
		for _, size := range []int{65535, 65536} {
			text := strings.Repeat(piece, size)[:size]
			isRopeOf(t, text, ropePlainly(text))
		}
		for _, size := range []int{65537, 65538, 70000, 200000} {
			text := strings.Repeat(piece, size)[:size]
			if got := impl.RopeOf(text); len(got.Nodes) != 0 || len(got.Marks) != 0 {
				t.Errorf("RopeOf of %d bytes: got %d nodes", size, len(got.Nodes))
			}
			isRightRope(t, "too long", impl.Rope{Nodes: ropePlainly(text)}, false)
		}
	}
}

// faultTexts have ropes of no, one, three, five and nine nodes.
func faultTexts() []string {
	return []string{
		"", "a", "\n", "ab\nc", "\u1000\xFF", strings.Repeat("a", 64), strings.Repeat("b\n", 32),
		strings.Repeat("a", 65), strings.Repeat("a\nb", 30), strings.Repeat("\u1000\n", 20), strings.Repeat("\U00010000", 30),
		strings.Repeat("ab\n", 50), strings.Repeat("a", 129), strings.Repeat("\u1000", 70), strings.Repeat("x\ny", 90),
	}
}

func otherNumbers(number int64, count int) []int64 {
	others := []int64{number - 1, number + 1, number + 2, -number, 0, -1, -2, 1, 2, 64, 65, int64(count) - 1, int64(count), int64(count) + 1, math.MinInt64, math.MaxInt64, number + 1<<32, number ^ 1<<62}
	return slices.DeleteFunc(others, func(other int64) bool { return other == number })
}

func otherTexts(text string) []string {
	others := []string{"", "a", "\n", text + "a", text + "\n", "a" + text, "\u1000" + text, text + "\x80", strings.Repeat("z", len(text)), strings.Repeat("\n", len(text)), text + text, strings.Repeat("a", 64), strings.Repeat("a", 65), strings.Repeat("a", 70000)}
	if text != "" {
		others = append(others, text[1:], text[:len(text)-1], "z"+text[1:], text[:len(text)-1]+"z", text[:len(text)-1]+"\n", "\x80"+text[1:], text[:len(text)-1]+"\xC3")
	}
	return slices.DeleteFunc(others, func(other string) bool { return other == text })
}

func TestRopesOfChangedFields(t *testing.T) {
	for _, text := range faultTexts() {
		nodes := impl.RopeOf(text).Nodes
		isRightRope(t, "of a text", impl.Rope{Nodes: nodes}, true)
		changed := func(what string, at int, change func(node *impl.RopeNode)) {
			t.Helper()
			others := slices.Clone(nodes)
			change(&others[at])
			r := impl.Rope{Nodes: others}
			what = fmt.Sprintf("%s of node %d of %d bytes", what, at, len(text))
			isRightRope(t, what, r, isRightRopePlainly(r))
			if !strings.HasPrefix(what, "Text") {
				isRightRope(t, what, r, false)
			}
		}
		for at, node := range nodes {
			for _, other := range otherNumbers(node.Left, len(nodes)) {
				changed("Left", at, func(node *impl.RopeNode) { node.Left = other })
				if other != node.Right {
					changed("Left and Right", at, func(node *impl.RopeNode) { node.Left, node.Right = other, other })
				}
			}
			for _, other := range otherNumbers(node.Right, len(nodes)) {
				changed("Right", at, func(node *impl.RopeNode) { node.Right = other })
			}
			for _, other := range otherNumbers(node.Size, len(nodes)) {
				changed("Size", at, func(node *impl.RopeNode) { node.Size = other })
			}
			for _, other := range otherNumbers(node.Lines, len(nodes)) {
				changed("Lines", at, func(node *impl.RopeNode) { node.Lines = other })
			}
			for _, other := range otherTexts(node.Text) {
				changed("Text", at, func(node *impl.RopeNode) { node.Text = other })
			}
			if node.Left >= 0 {
				changed("Both turned", at, func(node *impl.RopeNode) { node.Left, node.Right = node.Right, node.Left })
				changed("A leaf made", at, func(node *impl.RopeNode) { node.Left, node.Right = -1, -1 })
			}
		}
	}
}

func TestRopesOfOtherNodes(t *testing.T) {
	for _, text := range faultTexts() {
		nodes := impl.RopeOf(text).Nodes
		wrong := func(what string, others []impl.RopeNode) {
			t.Helper()
			isRightRope(t, fmt.Sprintf("%s, of %d bytes", what, len(text)), impl.Rope{Nodes: others}, false)
		}
		for at := range nodes {
			others := slices.Delete(slices.Clone(nodes), at, at+1)
			what := fmt.Sprintf("without node %d", at)
			if len(nodes) == 1 {
				isRightRope(t, what, impl.Rope{Nodes: others}, true)
			} else {
				wrong(what, others)
			}
			wrong(fmt.Sprintf("node %d twice", at), slices.Insert(slices.Clone(nodes), at, nodes[at]))
			wrong(fmt.Sprintf("node %d behind all, too", at), append(slices.Clone(nodes), nodes[at]))
			wrong(fmt.Sprintf("node %d first, too", at), slices.Insert(slices.Clone(nodes), 0, nodes[at]))
			for other := range at {
				swapped := slices.Clone(nodes)
				swapped[at], swapped[other] = swapped[other], swapped[at]
				r := impl.Rope{Nodes: swapped}
				isRightRope(t, fmt.Sprintf("nodes %d and %d swapped", at, other), r, isRightRopePlainly(r))
			}
		}
		for _, more := range []impl.RopeNode{{}, {Left: -1, Right: -1}, {Text: "a", Left: -1, Right: -1, Size: 1}, {Left: 0, Right: 0}} {
			r := impl.Rope{Nodes: append(slices.Clone(nodes), more)}
			isRightRope(t, "one more node", r, text == "" && more.Text == "a")
		}
	}
}

func TestRopesOfOtherTrees(t *testing.T) {
	leaf := func(size int64) impl.RopeNode {
		return impl.RopeNode{Text: strings.Repeat("a", int(size)), Left: -1, Right: -1, Size: size}
	}
	inner := func(left int64, right int64, size int64) impl.RopeNode {
		return impl.RopeNode{Left: left, Right: right, Size: size}
	}
	for _, row := range []struct {
		what  string
		nodes []impl.RopeNode
	}{
		{"an empty leaf", []impl.RopeNode{leaf(0)}},
		{"a zero node", []impl.RopeNode{{}}},
		{"too great a leaf", []impl.RopeNode{leaf(65)}},
		{"a greater leaf", []impl.RopeNode{leaf(129)}},
		{"leaves of one that could be one", []impl.RopeNode{inner(1, 2, 2), leaf(1), leaf(1)}},
		{"leaves of 64", []impl.RopeNode{inner(1, 2, 64), leaf(32), leaf(32)}},
		{"the first piece is the shorter one", []impl.RopeNode{inner(1, 2, 65), leaf(32), leaf(33)}},
		{"the first piece is too long", []impl.RopeNode{inner(1, 2, 65), leaf(34), leaf(31)}},
		{"the first piece is a leaf that is full", []impl.RopeNode{inner(1, 2, 65), leaf(64), leaf(1)}},
		{"an empty piece", []impl.RopeNode{inner(1, 2, 33), leaf(33), leaf(0)}},
		{"a node of one below it", []impl.RopeNode{inner(1, 1, 64), leaf(32)}},
		{"no second one", []impl.RopeNode{inner(1, -1, 33), leaf(33)}},
		{"no first one", []impl.RopeNode{inner(-1, 1, 33), leaf(33)}},
		{"places that are none", []impl.RopeNode{inner(1, 3, 65), leaf(33), leaf(32)}},
		{"places ahead", []impl.RopeNode{inner(0, 0, 65), leaf(33), leaf(32)}},
		{"they hold each other", []impl.RopeNode{inner(1, 2, 65), inner(0, 2, 65), leaf(32)}},
		{"it holds itself", []impl.RopeNode{inner(0, 0, 0)}},
		{"it holds itself beside a leaf", []impl.RopeNode{inner(0, 1, 65), leaf(65)}},
		{"the second one ahead of the first", []impl.RopeNode{inner(2, 1, 65), leaf(32), leaf(33)}},
		{"row by row", []impl.RopeNode{inner(1, 2, 130), inner(3, 4, 65), inner(5, 6, 65), leaf(33), leaf(32), leaf(33), leaf(32)}},
		{"one below two", []impl.RopeNode{inner(1, 1, 130), inner(2, 3, 65), leaf(33), leaf(32)}},
		{"two cut otherwise", []impl.RopeNode{inner(1, 2, 129), leaf(64), inner(3, 4, 65), leaf(33), leaf(32)}},
		{"a node that nothing holds", []impl.RopeNode{leaf(3), leaf(2)}},
		{"one that nothing holds ahead", []impl.RopeNode{leaf(1), inner(2, 3, 65), leaf(33), leaf(32)}},
		{"a text of one that is no leaf", []impl.RopeNode{{Text: "a", Left: 1, Right: 2, Size: 65}, leaf(33), leaf(32)}},
		{"all text in one that is no leaf", []impl.RopeNode{{Text: strings.Repeat("a", 65), Left: 1, Right: 2, Size: 65}, leaf(0), leaf(0)}},
		{"many nodes of none", make([]impl.RopeNode, 200000)},
	} {
		isRightRope(t, row.what, impl.Rope{Nodes: row.nodes}, false)
	}
	isRightRope(t, "none", impl.Rope{}, true)
	isRightRope(t, "none, as a list", impl.Rope{Nodes: []impl.RopeNode{}, Marks: []impl.Mark{}}, true)
	isRightRope(t, "a leaf", impl.Rope{Nodes: []impl.RopeNode{leaf(64)}}, true)
	isRightRope(t, "two", impl.Rope{Nodes: []impl.RopeNode{inner(1, 2, 65), leaf(33), leaf(32)}}, true)
	isRightRope(t, "three", impl.Rope{Nodes: []impl.RopeNode{inner(1, 4, 129), inner(2, 3, 65), leaf(33), leaf(32), leaf(64)}}, true)
	// A cut within a point's writing, and one that is lower than it has to be.
	across := strings.Repeat("a", 32) + "\u0200" + strings.Repeat("b", 32)
	for _, cut := range []int64{30, 31, 32, 33, 34} {
		nodes := []impl.RopeNode{inner(1, 2, 66), {Text: across[:cut], Left: -1, Right: -1, Size: cut}, {Text: across[cut:], Left: -1, Right: -1, Size: 66 - cut}}
		isRightRope(t, fmt.Sprintf("cut at %d", cut), impl.Rope{Nodes: nodes}, cut == 32)
	}
}

// marksFrom has a word for each mark: its Name and At, with a ! behind one that Stays.
func marksFrom(row string) (marks []impl.Mark) {
	for _, word := range strings.Fields(row) {
		name, at, _ := strings.Cut(word, "=")
		digits, stays := strings.CutSuffix(at, "!")
		place, err := strconv.ParseInt(digits, 10, 64)
		if err != nil {
			panic(err)
		}
		marks = append(marks, impl.Mark{Name: name, At: place, Stays: stays})
	}
	return marks
}

func markedRope(text string, row string) impl.Rope {
	return impl.Rope{Nodes: ropePlainly(text), Marks: marksFrom(row)}
}

func numberedMarks(count int, at int64) (marks []impl.Mark) {
	for i := range count {
		marks = append(marks, impl.Mark{Name: fmt.Sprintf("m%03d", i), At: at})
	}
	return marks
}

func TestMarksOfRopes(t *testing.T) {
	for _, row := range []string{"", "a=0", "a=4", "a=2!", "a=0 b=0", "a=4 b=0", "a=1 b=3! c=1", "a=1 a-=1 a0=1 aa=1 b=1", "z9-=0", "abcdefghij0123456789=4", "a--=1", "a=1 ab=1 abc=1 b=1 ba=1"} {
		isRightRope(t, row, markedRope("ab\nc", row), true)
	}
	for _, row := range []string{
		"a=-1", "a=5", "a=6", "a=65536", "a=9223372036854775807", "a=-9223372036854775808", "a=0 b=5", "a=5 b=0",
		"b=0 a=0", "a=0 a=0", "a=0 a=1", "a=0! a=0", "a=1 c=1 b=1", "a=0 b=0 b=0", "aa=0 a=0", "a0=0 a-=0",
		"=0", "A=0", "1=0", "-=0", "_=0", "a_=0", "aB=0", "a.b=0", "0a=0", "-a=0", "abcdefghijklmnopqrstu=0", "\u0220=0", "a\u0220=0", "a\xFF=0", "a\x00=0",
	} {
		isRightRope(t, row, markedRope("ab\nc", row), false)
	}
	for _, name := range []string{"a b", "a ", " a", "a\n", "\na", "a\tb"} {
		r := markedRope("ab\nc", "")
		r.Marks = []impl.Mark{{Name: name}}
		isRightRope(t, name, r, false)
	}
	isRightRope(t, "no text, at 0", markedRope("", "a=0 b=0!"), true)
	isRightRope(t, "no text, at 1", markedRope("", "a=1"), false)
	isRightRope(t, "no text, at -1", markedRope("", "a=-1"), false)
	long := ropePlainly(strings.Repeat("a", 65536))
	isRightRope(t, "at the length of a long one", impl.Rope{Nodes: long, Marks: marksFrom("a=65535 b=65536")}, true)
	isRightRope(t, "above the length of a long one", impl.Rope{Nodes: long, Marks: marksFrom("a=65535 b=65537")}, false)
	for _, count := range []int{1, 99, 100, 101, 102, 1000, 1001, 5000} {
		marks := numberedMarks(min(count, 1000), 4)
		for len(marks) < count {
			marks = append(marks, impl.Mark{Name: fmt.Sprintf("n%04d", len(marks))})
		}
		isRightRope(t, fmt.Sprintf("%d marks", count), impl.Rope{Nodes: ropePlainly("ab\nc"), Marks: marks}, count <= 100)
	}
	// Right marks do not make a wrong tree right.
	isRightRope(t, "a wrong tree", impl.Rope{Nodes: []impl.RopeNode{{Text: "ab", Left: -1, Right: -1, Size: 1}}, Marks: marksFrom("a=0")}, false)
}

// areReadAs asks all readers of a rope at all places and lines, and beyond.
func areReadAs(t *testing.T, text string, r impl.Rope) {
	t.Helper()
	size := int64(len(text))
	if got := impl.RopeText(r); got != text {
		t.Errorf("RopeText: got %+.100q, want %+.100q", got, text)
	}
	begins := []int64{0}
	for at := int64(0); at <= size; at++ {
		want := linesPlainly(text[:at])
		if got := impl.LineAt(r, at); got != want {
			t.Errorf("LineAt %d of %+.100q: got %d, want %d", at, text, got, want)
		}
		if at > 0 && text[at-1] == 0x0A {
			begins = append(begins, at)
		}
	}
	for line, begin := range begins {
		if got := impl.PlaceOfLine(r, int64(line)); got != begin {
			t.Errorf("PlaceOfLine %d of %+.100q: got %d, want %d", line, text, got, begin)
		}
	}
	count := int64(len(begins))
	for _, line := range []int64{-1, -2, -count, count, count + 1, size + 1, 65536, math.MaxInt64, math.MinInt64} {
		if got := impl.PlaceOfLine(r, line); line != 0 && got != -1 {
			t.Errorf("PlaceOfLine %d of %+.100q: got %d, want -1", line, text, got)
		}
	}
	for _, at := range []int64{-1, -2, -size - 1, size + 1, size + 2, 65537, math.MaxInt64, math.MinInt64} {
		if got := impl.LineAt(r, at); got != -1 {
			t.Errorf("LineAt %d of %+.100q: got %d, want -1", at, text, got)
		}
	}
}

func isPiece(t *testing.T, text string, r impl.Rope, from int64, to int64) {
	t.Helper()
	want := ""
	if from >= 0 && from <= to && to <= int64(len(text)) {
		want = text[from:to]
	}
	if got := impl.Piece(r, from, to); got != want {
		t.Errorf("Piece %d to %d of %+.100q: got %+.100q, want %+.100q", from, to, text, got, want)
	}
}

func TestLinesOfRopesByHand(t *testing.T) {
	for _, row := range []struct {
		text   string
		lines  string // at each place
		places string // of each line
	}{
		{"", "0", "0"},
		{"a", "0 0", "0"},
		{"\n", "0 1", "0 1"},
		{"\n\n", "0 1 2", "0 1 2"},
		{"a\nb", "0 0 1 1", "0 2"},
		{"a\nb\n", "0 0 1 1 2", "0 2 4"},
		{"\nab", "0 1 1 1", "0 1"},
		{"a\n\nb", "0 0 1 2 2", "0 2 3"},
		{"a\r\nb\rc", "0 0 0 1 1 1 1", "0 3"},
		{"\u1000\n\u2028", "0 0 0 0 1 1 1 1", "0 4"},
		{"\x0b\x0c\u0085", "0 0 0 0 0", "0"},
		{"\xE2\n\x82", "0 0 1 1", "0 2"},
	} {
		r := impl.RopeOf(row.text)
		for at, want := range numbersIn(row.lines) {
			if got := impl.LineAt(r, int64(at)); got != want {
				t.Errorf("LineAt %d of %q: got %d, want %d", at, row.text, got, want)
			}
		}
		for line, want := range append(numbersIn(row.places), -1, -1) {
			if got := impl.PlaceOfLine(r, int64(line)); got != want {
				t.Errorf("PlaceOfLine %d of %q: got %d, want %d", line, row.text, got, want)
			}
		}
		areReadAs(t, row.text, r)
	}
}

func numbersIn(row string) (numbers []int64) {
	for _, word := range strings.Fields(row) {
		numbers = append(numbers, numberFrom(word))
	}
	return numbers
}

func TestAllShortRopes(t *testing.T) {
	eachRow([]string{"a", "\n", "\u1000", "\xFF"}, 5, func(text string) {
		r := impl.RopeOf(text)
		areReadAs(t, text, r)
		for from := int64(-2); from <= int64(len(text))+2; from++ {
			for to := int64(-2); to <= int64(len(text))+2; to++ {
				isPiece(t, text, r, from, to)
			}
		}
	})
}

func TestRopesAreReadAcrossLeaves(t *testing.T) {
	r := rand.New(rand.NewSource(2002))
	texts := []string{strings.Repeat("\n", 300), strings.Repeat("a", 300) + "\n", strings.Repeat("\n"+strings.Repeat("x", 63), 5), strings.Repeat(strings.Repeat("x", 31)+"\n", 9), strings.Repeat("\n\xFF\u1000", 80)}
	for range 20 {
		texts = append(texts, randomNormText(r, []int64{'a', 'b', 'c', '\n', 0x200, 0x1000, 0x10000}, 300))
	}
	for _, text := range texts {
		rope := impl.RopeOf(text)
		areReadAs(t, text, rope)
		rope.Marks = marksFrom("a=0 b=0!")
		areReadAs(t, text, rope)
		size := int64(len(text))
		for at := int64(0); at <= size; at++ {
			isPiece(t, text, rope, 0, at)
			isPiece(t, text, rope, at, size)
			isPiece(t, text, rope, at, at)
			isPiece(t, text, rope, at, at+1)
			isPiece(t, text, rope, at, at-1)
			isPiece(t, text, rope, r.Int63n(size+3)-1, r.Int63n(size+3)-1)
		}
		for _, far := range []int64{-1, size + 1, math.MaxInt64, math.MinInt64} {
			isPiece(t, text, rope, 0, far)
			isPiece(t, text, rope, far, size)
			isPiece(t, text, rope, far, far)
			isPiece(t, text, rope, far, 0)
		}
	}
}

func TestLongRopesAreRead(t *testing.T) {
	r := rand.New(rand.NewSource(2003))
	for _, piece := range []string{"a", "\n", "ab\n\u1000", strings.Repeat("x", 999) + "\n"} {
		text := strings.Repeat(piece, 65536)[:65536]
		rope := impl.RopeOf(text)
		for range 100 {
			at, to := r.Int63n(65537), r.Int63n(65537)
			isPiece(t, text, rope, at, to)
			if got, want := impl.LineAt(rope, at), linesPlainly(text[:at]); got != want {
				t.Errorf("LineAt %d: got %d, want %d", at, got, want)
			}
			line := r.Int63n(linesPlainly(text) + 3)
			if got, want := impl.PlaceOfLine(rope, line), placeOfLinePlainly(text, line); got != want {
				t.Errorf("PlaceOfLine %d: got %d, want %d", line, got, want)
			}
		}
		isPiece(t, text, rope, 0, 65536)
		isPiece(t, text, rope, 0, 65537)
		if got, want := impl.LineAt(rope, 65536), linesPlainly(text); got != want {
			t.Errorf("LineAt the end: got %d, want %d", got, want)
		}
	}
}

func placeOfLinePlainly(text string, line int64) int64 {
	lines := strings.SplitAfter(text, "\n")
	if line < 0 || line >= int64(len(lines)) {
		return -1
	}
	return int64(len(strings.Join(lines[:line], "")))
}

// movedPlainly is where a mark is behind an edit, sentence by sentence of chapter 21.
func movedPlainly(mark impl.Mark, edit impl.RopeEdit) int64 {
	end, put := edit.At+edit.Drop, int64(len(edit.Put))
	isExempt := mark.At == edit.At && edit.Drop == 0 && mark.Stays
	if mark.At >= end && !isExempt {
		return mark.At + put - edit.Drop
	}
	if edit.At < mark.At && mark.At < end {
		if mark.Stays {
			return edit.At
		}
		return edit.At + put
	}
	return mark.At
}

// editedPlainly makes the edits on the text itself.
func editedPlainly(text string, marks []impl.Mark, edits []impl.RopeEdit) impl.RopeOut {
	if len(edits) > 1000 {
		return impl.RopeOut{Code: impl.ErrSize}
	}
	marks = slices.Clone(marks)
	for _, edit := range edits {
		size := int64(len(text))
		if edit.At < 0 || edit.At > size || edit.Drop < 0 || edit.Drop > size-edit.At {
			return impl.RopeOut{Code: impl.ErrNone}
		}
		text = text[:edit.At] + edit.Put + text[edit.At+edit.Drop:]
		if len(text) > 65536 {
			return impl.RopeOut{Code: impl.ErrLimit}
		}
		for i, mark := range marks {
			marks[i].At = movedPlainly(mark, edit)
		}
	}
	return impl.RopeOut{Rope: impl.Rope{Nodes: ropePlainly(text), Marks: marks}}
}

func isEdited(t *testing.T, text string, row string, edits []impl.RopeEdit, code int64, want string, wantRow string) {
	t.Helper()
	out := impl.RopeOut{Code: code}
	if code == impl.OK {
		out.Rope = markedRope(want, wantRow)
	}
	isRopeOut(t, fmt.Sprintf("EditRope of %+.100q, marks %s, by %+.100v", text, row, edits), impl.EditRope(markedRope(text, row), edits), out)
}

// editsFromRow has a word for each edit: At, Drop and Put, with a / between.
func editsFromRow(row string) (edits []impl.RopeEdit) {
	for _, word := range strings.Fields(row) {
		parts := strings.SplitN(word, "/", 3)
		at, err := strconv.ParseInt(parts[0], 10, 64)
		if err != nil {
			panic(err)
		}
		drop, err := strconv.ParseInt(parts[1], 10, 64)
		if err != nil {
			panic(err)
		}
		edits = append(edits, impl.RopeEdit{At: at, Drop: drop, Put: parts[2]})
	}
	return edits
}

func TestEditsOfRopesByHand(t *testing.T) {
	for _, row := range []struct{ text, edits, want string }{
		{"", "", ""},
		{"ab", "", "ab"},
		{"", "0/0/", ""},
		{"", "0/0/x", "x"},
		{"", "0/0/x 1/0/y 0/0/z", "zxy"},
		{"abcd", "0/0/x", "xabcd"},
		{"abcd", "2/0/x", "abxcd"},
		{"abcd", "4/0/x", "abcdx"},
		{"abcd", "0/4/", ""},
		{"abcd", "0/4/xyz", "xyz"},
		{"abcd", "0/1/", "bcd"},
		{"abcd", "1/2/", "ad"},
		{"abcd", "3/1/", "abc"},
		{"abcd", "4/0/", "abcd"},
		{"abcd", "1/2/x", "axd"},
		{"abcd", "1/2/xyz", "axyzd"},
		{"abcd", "0/1/x 0/1/y 0/1/z", "zbcd"},
		{"abcd", "0/4/ 0/0/ef 2/0/g", "efg"},
		{"abcd", "4/0/ef 4/2/g 0/4/", "g"},
		{"abcd", "1/1/\u1000 2/1/", "a\xE1\x80cd"},
		{"a\u1000b", "1/3/\xFF", "a\xFFb"},
	} {
		isEdited(t, row.text, "", editsFromRow(row.edits), impl.OK, row.want, "")
	}
	isEdited(t, "a\nb", "", []impl.RopeEdit{{At: 1, Drop: 1, Put: "\n\n"}, {At: 4, Put: "\n"}}, impl.OK, "a\n\nb\n", "")
	// What was broken comes together, and what stood together is apart.
	isEdited(t, "\xE1\x80", "", []impl.RopeEdit{{At: 2, Put: "\x80"}}, impl.OK, "\u1000", "")
	isEdited(t, strings.Repeat("a", 33)+"\u1000"+strings.Repeat("a", 33), "", []impl.RopeEdit{{At: 34, Put: "-"}}, impl.OK, strings.Repeat("a", 33)+"\xE1-\x80\x80"+strings.Repeat("a", 33), "")
	for _, row := range []struct{ text, edits string }{
		{"", "1/0/"}, {"", "0/1/"}, {"", "-1/0/"}, {"", "0/-1/"}, {"", "1/-1/"}, {"", "-1/1/"},
		{"abcd", "5/0/x"}, {"abcd", "4/1/x"}, {"abcd", "3/2/"}, {"abcd", "0/5/"}, {"abcd", "-1/0/x"}, {"abcd", "-1/1/x"}, {"abcd", "-1/5/"}, {"abcd", "2/-1/"}, {"abcd", "2/-2/x"}, {"abcd", "4/-4/"}, {"abcd", "5/-1/"}, {"abcd", "5/-5/"},
		{"abcd", "9223372036854775807/0/"}, {"abcd", "0/9223372036854775807/"}, {"abcd", "1/9223372036854775807/"}, {"abcd", "9223372036854775807/9223372036854775807/"}, {"abcd", "9223372036854775807/1/"}, {"abcd", "4/9223372036854775804/"},
		{"abcd", "-9223372036854775808/0/"}, {"abcd", "0/-9223372036854775808/"}, {"abcd", "-9223372036854775808/-9223372036854775808/"}, {"abcd", "4/-9223372036854775808/"}, {"abcd", "-9223372036854775808/9223372036854775807/"}, {"abcd", "-9223372036854775807/9223372036854775807/"}, {"abcd", "9223372036854775807/-9223372036854775807/"}, {"abcd", "9223372036854775805/-9223372036854775805/"},
		{"abcd", "4294967296/0/"}, {"abcd", "0/4294967296/"}, {"abcd", "0/4294967297/"},
		// As the text is then.
		{"abcd", "0/2/ 3/0/"}, {"abcd", "0/2/ 1/2/"}, {"abcd", "4/0/x 6/0/"}, {"abcd", "0/4/ 1/0/x"}, {"abcd", "0/0/x 0/1/ 5/0/"}, {"abcd", "5/0/ 0/0/x"},
	} {
		isEdited(t, row.text, "a=0", editsFromRow(row.edits), impl.ErrNone, "", "")
	}
}

func TestMarksOfRopesMoveByHand(t *testing.T) {
	for _, row := range []struct{ marks, edit, want string }{
		// Ahead of At, at it and behind it, with a Drop of 0.
		{"a=1 b=1!", "2/0/xy", "a=1 b=1!"},
		{"a=2 b=2!", "2/0/xy", "a=4 b=2!"},
		{"a=3 b=3!", "2/0/xy", "a=5 b=5!"},
		{"a=6 b=6!", "2/0/xy", "a=8 b=8!"},
		{"a=0 b=0!", "0/0/xy", "a=2 b=0!"},
		{"a=6 b=6!", "6/0/xy", "a=8 b=6!"},
		{"a=2 b=2!", "2/0/", "a=2 b=2!"},
		// With a Drop, at At.
		{"a=2 b=2!", "2/2/xyz", "a=2 b=2!"},
		{"a=2 b=2!", "2/2/", "a=2 b=2!"},
		{"a=2 b=2!", "2/1/xyz", "a=2 b=2!"},
		{"a=0 b=0!", "0/6/xyz", "a=0 b=0!"},
		// Between the two.
		{"a=3 b=3!", "2/2/xyz", "a=5 b=2!"},
		{"a=3 b=3!", "2/2/", "a=2 b=2!"},
		{"a=3 b=3!", "2/2/x", "a=3 b=2!"},
		{"a=5 b=5!", "2/4/xyz", "a=5 b=2!"},
		{"a=1 b=5! c=3", "0/6/", "a=0 b=0! c=0"},
		// At At + Drop, and behind it.
		{"a=4 b=4!", "2/2/xyz", "a=5 b=5!"},
		{"a=4 b=4!", "2/2/", "a=2 b=2!"},
		{"a=4 b=4!", "2/2/xy", "a=4 b=4!"},
		{"a=3 b=3!", "2/1/", "a=2 b=2!"},
		{"a=5 b=5!", "2/2/xyz", "a=6 b=6!"},
		{"a=6 b=6!", "2/4/x", "a=3 b=3!"},
		{"a=6 b=6!", "2/2/", "a=4 b=4!"},
		// One after the other.
		{"a=3 b=3!", "2/2/xyz 2/0/-", "a=6 b=2!"},
		{"a=3 b=3! c=6", "0/6/ 0/0/x", "a=1 b=0! c=1"},
		{"a=1 b=1!", "1/0/xy 1/2/", "a=1 b=1!"},
		{"a=0 b=6! c=2 d=4!", "0/1/xx 3/0/y 8/0/z", "a=0 b=8! c=4 d=6!"},
	} {
		edits := editsFromRow(row.edit)
		want := editedPlainly("abcdef", nil, edits)
		want.Rope.Marks = marksFrom(row.want)
		isRopeOut(t, row.marks+" by "+row.edit, impl.EditRope(markedRope("abcdef", row.marks), edits), want)
	}
}

// TestAllEditsOfShortRopes has marks of both kinds at each place.
func TestAllEditsOfShortRopes(t *testing.T) {
	for _, text := range []string{"", "a", "\u0200", "a\nb", "ab\xFFcd"} {
		size := int64(len(text))
		var marks []impl.Mark
		for at := range size + 1 {
			marks = append(marks, impl.Mark{Name: fmt.Sprintf("a%d", at), At: at}, impl.Mark{Name: fmt.Sprintf("b%d", at), At: at, Stays: true})
		}
		slices.SortFunc(marks, func(a impl.Mark, b impl.Mark) int { return cmp.Compare(a.Name, b.Name) })
		r := impl.Rope{Nodes: ropePlainly(text), Marks: marks}
		var all []impl.RopeEdit
		for at := int64(-1); at <= size+2; at++ {
			for drop := int64(-1); drop <= size+2; drop++ {
				for _, put := range []string{"", "x", "\n\n", "\u1000\xE1", "abcdefg"} {
					all = append(all, impl.RopeEdit{At: at, Drop: drop, Put: put})
				}
			}
		}
		for _, edit := range all {
			edits := []impl.RopeEdit{edit}
			out := impl.EditRope(r, edits)
			isRopeOut(t, fmt.Sprintf("%+q by %v", text, edits), out, editedPlainly(text, marks, edits))
			if len(text) > 3 || out.Code != impl.OK {
				continue
			}
			for _, next := range all {
				edits := []impl.RopeEdit{edit, next}
				both := impl.EditRope(r, edits)
				isRopeOut(t, fmt.Sprintf("%+q by %v", text, edits), both, editedPlainly(text, marks, edits))
				isRopeOut(t, fmt.Sprintf("%+q by %v, in parts", text, edits), impl.EditRope(out.Rope, edits[1:]), both)
			}
		}
	}
}

func randomEdit(r *rand.Rand, size int64, points []int64) impl.RopeEdit {
	edit := impl.RopeEdit{At: r.Int63n(size + 1), Put: randomNormText(r, points, 40)}
	if r.Intn(3) > 0 {
		edit.Drop = r.Int63n(min(size-edit.At, 60) + 1)
	}
	if r.Intn(4) == 0 {
		edit.Put = cutBytes(r, edit.Put)
	}
	if r.Intn(150) == 0 {
		edit.Drop = size - edit.At + r.Int63n(2)
	}
	return edit
}

func randomMarks(r *rand.Rand, size int64) (marks []impl.Mark) {
	for i := range r.Intn(12) {
		marks = append(marks, impl.Mark{Name: fmt.Sprintf("m%02d", i), At: r.Int63n(size + 1), Stays: r.Intn(2) == 0})
	}
	return marks
}

func TestRandomEditsOfRopes(t *testing.T) {
	r := rand.New(rand.NewSource(2004))
	points := []int64{'a', 'b', '\n', 0x200, 0x1000, 0x10000, 0xFFFD}
	codes := map[int64]int{}
	for range 600 {
		text := randomNormText(r, points, 300)
		marks := randomMarks(r, int64(len(text)))
		rope := impl.Rope{Nodes: impl.RopeOf(text).Nodes, Marks: marks}
		var edits []impl.RopeEdit
		size := int64(len(text))
		for range r.Intn(20) {
			edit := randomEdit(r, size, points)
			edits = append(edits, edit)
			size = max(0, size+int64(len(edit.Put))-edit.Drop)
		}
		out, want := impl.EditRope(rope, edits), editedPlainly(text, marks, edits)
		isRopeOut(t, fmt.Sprintf("%+.100q by %d edits", text, len(edits)), out, want)
		codes[out.Code]++
		isRightRope(t, "edited", out.Rope, true)
		if out.Code != impl.OK {
			continue
		}
		// Edits in two parts come to what they come to at once.
		part := r.Intn(len(edits) + 1)
		isRopeOut(t, "in parts", impl.EditRope(impl.EditRope(rope, edits[:part]).Rope, edits[part:]), out)
		for _, mark := range out.Rope.Marks {
			if mark.At < 0 || mark.At > int64(len(impl.RopeText(out.Rope))) {
				t.Errorf("a mark of %+.100q went to %d", text, mark.At)
			}
		}
	}
	if codes[impl.OK] < 300 || codes[impl.ErrNone] < 5 {
		t.Errorf("codes of random edits: %v", codes)
	}
}

func TestSizesOfEdits(t *testing.T) {
	rope := markedRope("abcd", "a=1 b=4")
	none := make([]impl.RopeEdit, 1000)
	isRopeOut(t, "1000 edits of nothing", impl.EditRope(rope, none), impl.RopeOut{Rope: rope})
	for _, count := range []int{1001, 1002, 5000} {
		isRopeOut(t, "too many edits", impl.EditRope(rope, make([]impl.RopeEdit, count)), impl.RopeOut{Code: impl.ErrSize})
	}
	puts := slices.Repeat([]impl.RopeEdit{{At: 2, Put: "x\n"}}, 1000)
	isRopeOut(t, "1000 edits", impl.EditRope(rope, puts), editedPlainly("abcd", rope.Marks, puts))
	isRopeOut(t, "1001 edits", impl.EditRope(rope, append(puts, puts[0])), impl.RopeOut{Code: impl.ErrSize})
	for _, row := range []struct {
		text  string
		edit  impl.RopeEdit
		right bool
	}{
		{"", impl.RopeEdit{Put: strings.Repeat("a", 65535)}, true},
		{"", impl.RopeEdit{Put: strings.Repeat("a", 65536)}, true},
		{"", impl.RopeEdit{Put: strings.Repeat("a", 65537)}, false},
		{"", impl.RopeEdit{Put: strings.Repeat("a", 200000)}, false},
		{"b", impl.RopeEdit{Put: strings.Repeat("a", 65535)}, true},
		{"b", impl.RopeEdit{Put: strings.Repeat("a", 65536)}, false},
		{"b", impl.RopeEdit{Drop: 1, Put: strings.Repeat("a", 65536)}, true},
		{"b", impl.RopeEdit{At: 1, Put: strings.Repeat("\n", 65536)}, false},
		{"bc", impl.RopeEdit{At: 1, Drop: 1, Put: strings.Repeat("\u0200\n\xFF", 20000)[:65535]}, true},
		{"bc", impl.RopeEdit{At: 1, Drop: 1, Put: strings.Repeat("\u0200\n\xFF", 20000)[:65536]}, false},
		{strings.Repeat("c", 65536), impl.RopeEdit{}, true},
		{strings.Repeat("c", 65536), impl.RopeEdit{Put: "a"}, false},
		{strings.Repeat("c", 65536), impl.RopeEdit{At: 65536, Put: "a"}, false},
		{strings.Repeat("c", 65536), impl.RopeEdit{At: 65535, Drop: 1, Put: "a"}, true},
		{strings.Repeat("c", 65536), impl.RopeEdit{At: 65535, Drop: 1, Put: "ab"}, false},
		{strings.Repeat("c", 65536), impl.RopeEdit{Drop: 65536, Put: strings.Repeat("d", 65536)}, true},
		{strings.Repeat("c", 65536), impl.RopeEdit{Drop: 65536, Put: strings.Repeat("d", 65537)}, false},
		{strings.Repeat("c", 65536), impl.RopeEdit{Drop: 65536}, true},
		{strings.Repeat("c", 65535), impl.RopeEdit{At: 7, Put: "a"}, true},
		{strings.Repeat("c", 65535), impl.RopeEdit{At: 7, Put: "ab"}, false},
	} {
		edits := []impl.RopeEdit{row.edit}
		out := impl.EditRope(impl.RopeOf(row.text), edits)
		isRopeOut(t, fmt.Sprintf("%d bytes, a Put of %d", len(row.text), len(row.edit.Put)), out, editedPlainly(row.text, nil, edits))
		if want := map[bool]int64{true: impl.OK, false: impl.ErrLimit}[row.right]; out.Code != want {
			t.Errorf("%d bytes, a Put of %d: got code %d, want %d", len(row.text), len(row.edit.Put), out.Code, want)
		}
	}
}

func TestFaultsOfEditsInOrder(t *testing.T) {
	full := strings.Repeat("c", 65536)
	outside, more, less := impl.RopeEdit{At: 65538}, impl.RopeEdit{At: 3, Put: "a"}, impl.RopeEdit{At: 3, Drop: 1}
	for _, row := range []struct {
		what  string
		edits []impl.RopeEdit
		code  int64
	}{
		{"too long in the midst", []impl.RopeEdit{more, less}, impl.ErrLimit},
		{"too long in the midst, later", []impl.RopeEdit{less, more, more, less}, impl.ErrLimit},
		{"as long as may be in the midst", []impl.RopeEdit{less, more, less, more}, impl.OK},
		{"outside first", []impl.RopeEdit{outside, more}, impl.ErrNone},
		{"too long first", []impl.RopeEdit{more, outside}, impl.ErrLimit},
		{"one that is outside and too long", []impl.RopeEdit{{At: 65537, Put: full + full}}, impl.ErrNone},
		{"one that drops below 0 and is too long", []impl.RopeEdit{{Drop: -1, Put: full}}, impl.ErrNone},
		{"the last one is outside", []impl.RopeEdit{less, more, {At: 65537}}, impl.ErrNone},
		{"the end moves", []impl.RopeEdit{less, {At: 65536}}, impl.ErrNone},
		{"the end moves back", []impl.RopeEdit{less, more, {At: 65536}}, impl.OK},
	} {
		out := impl.EditRope(impl.RopeOf(full), row.edits)
		isRopeOut(t, row.what, out, editedPlainly(full, nil, row.edits))
		if out.Code != row.code {
			t.Errorf("%s: got code %d, want %d", row.what, out.Code, row.code)
		}
	}
	wrong := impl.Rope{Nodes: []impl.RopeNode{{}}}
	isRopeOut(t, "a wrong rope and an edit outside", impl.EditRope(wrong, []impl.RopeEdit{outside}), impl.RopeOut{Code: impl.ErrForm})
	isRopeOut(t, "a wrong rope and too long a text", impl.EditRope(wrong, []impl.RopeEdit{{Put: full + "a"}}), impl.RopeOut{Code: impl.ErrForm})
	// A list that is too long is looked for ahead of all else.
	isRopeOut(t, "a wrong rope and too many edits", impl.EditRope(wrong, make([]impl.RopeEdit, 1001)), impl.RopeOut{Code: impl.ErrSize})
	isRopeOut(t, "too many edits, all of them outside", impl.EditRope(impl.Rope{}, slices.Repeat([]impl.RopeEdit{outside}, 1001)), impl.RopeOut{Code: impl.ErrSize})
}

// putPlainly is the rope's marks with a mark, sorted.
func putPlainly(r impl.Rope, mark impl.Mark) impl.RopeOut {
	size := int64(0)
	if len(r.Nodes) > 0 {
		size = r.Nodes[0].Size
	}
	if !isRightRopePlainly(r) || !isPlainName(mark.Name) || mark.At < 0 || mark.At > size {
		return impl.RopeOut{Code: impl.ErrForm}
	}
	byName := map[string]impl.Mark{mark.Name: mark}
	for _, other := range r.Marks {
		if other.Name != mark.Name {
			byName[other.Name] = other
		}
	}
	if len(byName) > 100 {
		return impl.RopeOut{Code: impl.ErrCount}
	}
	var marks []impl.Mark
	for _, kept := range byName {
		marks = append(marks, kept)
	}
	sort.Slice(marks, func(i int, j int) bool { return marks[i].Name < marks[j].Name })
	return impl.RopeOut{Rope: impl.Rope{Nodes: r.Nodes, Marks: marks}}
}

// isPut asks for a mark that was put, too, where it is told.
func isPut(t *testing.T, r impl.Rope, mark impl.Mark) int64 {
	t.Helper()
	out := impl.PutMark(r, mark)
	isRopeOut(t, fmt.Sprintf("PutMark %v", mark), out, putPlainly(r, mark))
	if out.Code == impl.OK {
		isRightRope(t, "with a mark", out.Rope, true)
		if !slices.Contains(out.Rope.Marks, mark) || !slices.Contains(impl.MarksAt(out.Rope, mark.At, mark.At), mark.Name) {
			t.Errorf("PutMark %v: it is not there: %s", mark, ropeTold(out.Rope))
		}
		if impl.RopeText(out.Rope) != impl.RopeText(r) {
			t.Errorf("PutMark %v: the text is another one", mark)
		}
	}
	return out.Code
}

func TestPutMarksByHand(t *testing.T) {
	for _, row := range []struct{ marks, mark, want string }{
		{"", "m=0", "m=0"},
		{"", "m=4", "m=4"},
		{"", "m=2!", "m=2!"},
		{"b=1 d=2", "a=3", "a=3 b=1 d=2"},
		{"b=1 d=2", "c=3", "b=1 c=3 d=2"},
		{"b=1 d=2", "e=0!", "b=1 d=2 e=0!"},
		{"b=1 d=2", "b=3", "b=3 d=2"},
		{"b=1 d=2", "d=2!", "b=1 d=2!"},
		{"b=1! d=2", "b=1", "b=1 d=2"},
		{"b=1 d=2", "bb=1", "b=1 bb=1 d=2"},
		{"b=1 d=2", "b-=1", "b=1 b-=1 d=2"},
		{"b=1", "b=1", "b=1"},
		{"abcdefghij0123456789=1", "abcdefghij012345678=1", "abcdefghij012345678=1 abcdefghij0123456789=1"},
	} {
		r := markedRope("ab\nc", row.marks)
		mark := marksFrom(row.mark)[0]
		isRopeOut(t, row.marks+" with "+row.mark, impl.PutMark(r, mark), impl.RopeOut{Rope: markedRope("ab\nc", row.want)})
		isPut(t, r, mark)
	}
	for _, row := range []struct{ marks, mark string }{
		{"", "m=-1"}, {"", "m=5"}, {"b=1", "b=5"}, {"b=1", "b=-1"}, {"", "m=65536"}, {"", "m=9223372036854775807"}, {"", "m=-9223372036854775808"}, {"", "m=4294967296"},
		{"", "=0"}, {"", "M=0"}, {"", "1=0"}, {"", "-m=0"}, {"", "m_=0"}, {"", "m.n=0"}, {"", "\u0220=0"}, {"", "m\xFF=0"}, {"", "abcdefghijklmnopqrstu=0"}, {"", "=5"},
	} {
		isRopeOut(t, row.marks+" with "+row.mark, impl.PutMark(markedRope("ab\nc", row.marks), marksFrom(row.mark)[0]), impl.RopeOut{Code: impl.ErrForm})
	}
	for _, name := range []string{"a b", "a ", " a", "a\n", strings.Repeat("a", 70000)} {
		isRopeOut(t, "a name that is none", impl.PutMark(markedRope("ab\nc", "b=1"), impl.Mark{Name: name}), impl.RopeOut{Code: impl.ErrForm})
	}
	isRopeOut(t, "no text", impl.PutMark(impl.Rope{}, impl.Mark{Name: "a"}), impl.RopeOut{Rope: impl.Rope{Marks: marksFrom("a=0")}})
	isRopeOut(t, "no text, at 1", impl.PutMark(impl.Rope{}, impl.Mark{Name: "a", At: 1}), impl.RopeOut{Code: impl.ErrForm})
}

func TestCountsOfMarks(t *testing.T) {
	r := impl.Rope{Nodes: ropePlainly(strings.Repeat("ab\n", 50))}
	for i := range 100 {
		// In an order that puts them in front, behind and between.
		mark := impl.Mark{Name: fmt.Sprintf("m%03d", i*37%100), At: int64(i), Stays: i%3 == 0}
		if code := isPut(t, r, mark); code != impl.OK {
			t.Fatalf("mark number %d: got code %d", i, code)
		}
		r = impl.PutMark(r, mark).Rope
	}
	for _, row := range []struct {
		mark impl.Mark
		code int64
	}{
		{impl.Mark{Name: "a"}, impl.ErrCount},
		{impl.Mark{Name: "m050a"}, impl.ErrCount},
		{impl.Mark{Name: "z"}, impl.ErrCount},
		{impl.Mark{Name: "m000", At: 150}, impl.OK},
		{impl.Mark{Name: "m050", At: 150, Stays: true}, impl.OK},
		{impl.Mark{Name: "m099", At: 0}, impl.OK},
		{impl.Mark{Name: "m050", At: 151}, impl.ErrForm},
		{impl.Mark{Name: "z", At: 151}, impl.ErrForm},
		{impl.Mark{Name: "Z"}, impl.ErrForm},
	} {
		if code := isPut(t, r, row.mark); code != row.code {
			t.Errorf("with 100 marks %v: got code %d, want %d", row.mark, code, row.code)
		}
	}
	edited := impl.EditRope(r, []impl.RopeEdit{{At: 10, Drop: 20, Put: "x"}})
	if edited.Code != impl.OK || len(edited.Rope.Marks) != 100 {
		t.Errorf("an edit of a rope of 100 marks: got code %d, %d marks", edited.Code, len(edited.Rope.Marks))
	}
	if got := impl.MarksAt(r, 0, 150); len(got) != 100 {
		t.Errorf("MarksAt of 100 marks: got %d", len(got))
	}
	r.Marks = numberedMarks(101, 0)
	isRopeOut(t, "101 marks, one in place of another", impl.PutMark(r, impl.Mark{Name: "m000"}), impl.RopeOut{Code: impl.ErrForm})
}

// marksAtPlainly goes from place to place.
func marksAtPlainly(r impl.Rope, size int64, from int64, to int64) (names []string) {
	for at := max(from, 0); at <= min(to, size); at++ {
		for _, mark := range r.Marks {
			if mark.At == at {
				names = append(names, mark.Name)
			}
		}
	}
	return names
}

func areMarksAt(t *testing.T, r impl.Rope, from int64, to int64, want []string) {
	t.Helper()
	if got := impl.MarksAt(r, from, to); !slices.Equal(got, want) {
		t.Errorf("MarksAt %d to %d of %v: got %q, want %q", from, to, r.Marks, got, want)
	}
}

func TestMarksAtByHand(t *testing.T) {
	r := markedRope("abcdef", "a=4 b=2! c=2 d=0 e=6! f=4")
	for _, row := range []struct {
		from, to int64
		want     string
	}{
		{0, 6, "d b c a f e"}, {0, 0, "d"}, {0, 1, "d"}, {1, 1, ""}, {1, 2, "b c"}, {2, 2, "b c"}, {2, 3, "b c"}, {2, 4, "b c a f"}, {3, 3, ""}, {3, 4, "a f"}, {4, 4, "a f"}, {5, 5, ""}, {5, 6, "e"}, {6, 6, "e"}, {1, 5, "b c a f"},
		{6, 0, ""}, {4, 2, ""}, {1, 0, ""}, {2, 1, ""}, {3, 2, ""},
		{-5, 0, "d"}, {-5, -1, ""}, {-5, 20, "d b c a f e"}, {6, 20, "e"}, {7, 20, ""}, {math.MinInt64, math.MaxInt64, "d b c a f e"}, {math.MaxInt64, math.MinInt64, ""}, {math.MinInt64, math.MinInt64, ""}, {math.MaxInt64, math.MaxInt64, ""}, {0, math.MaxInt64, "d b c a f e"}, {math.MinInt64, 0, "d"},
	} {
		areMarksAt(t, r, row.from, row.to, strings.Fields(row.want))
	}
	areMarksAt(t, markedRope("abc", ""), 0, 3, nil)
	areMarksAt(t, impl.Rope{}, 0, 0, nil)
	areMarksAt(t, markedRope("", "a=0 b=0!"), 0, 0, []string{"a", "b"})
	areMarksAt(t, markedRope("abc", "b=1 a=1"), 0, 3, nil)
	areMarksAt(t, markedRope("abc", "a=1 b=4"), 0, 3, nil)
}

func TestRandomMarks(t *testing.T) {
	r := rand.New(rand.NewSource(2005))
	names := []string{"a", "b", "b-", "b0", "ba", "c", "zz", "z", "d", "dd", "", "A", "abcdefghijklmnopqrstu"}
	codes := map[int64]int{}
	for range 400 {
		text := randomNormText(r, []int64{'a', '\n', 0x1000}, 60)
		size := int64(len(text))
		rope := impl.RopeOf(text)
		for range 12 {
			mark := impl.Mark{Name: names[r.Intn(len(names))], At: r.Int63n(size+3) - 1, Stays: r.Intn(2) == 0}
			code := isPut(t, rope, mark)
			codes[code]++
			if code == impl.OK {
				rope = impl.PutMark(rope, mark).Rope
			}
			from, to := r.Int63n(size+5)-2, r.Int63n(size+5)-2
			areMarksAt(t, rope, from, to, marksAtPlainly(rope, size, from, to))
			if r.Intn(4) == 0 {
				edits := []impl.RopeEdit{randomEdit(r, size, []int64{'a', '\n', 0x1000})}
				want := editedPlainly(impl.RopeText(rope), rope.Marks, edits)
				out := impl.EditRope(rope, edits)
				isRopeOut(t, "an edit among marks", out, want)
				if out.Code == impl.OK {
					rope, size = out.Rope, int64(len(impl.RopeText(out.Rope)))
				}
			}
		}
	}
	if codes[impl.OK] < 1000 || codes[impl.ErrForm] < 500 {
		t.Errorf("codes of random marks: %v", codes)
	}
}

// textsOfRope are all texts of a rope.
func textsOfRope(r impl.Rope) (texts []string) {
	for _, node := range r.Nodes {
		texts = append(texts, node.Text)
	}
	for _, mark := range r.Marks {
		texts = append(texts, mark.Name)
	}
	return texts
}

// isOwnMemory asks whether texts share memory with each other or with those that were handed in. Texts of one
// byte are left out: all of them are the language's own.
func isOwnMemory(t *testing.T, what string, answered []string, given []string) {
	t.Helper()
	for at, text := range answered {
		for _, other := range append(slices.Clone(given), answered[:at]...) {
			if len(text) > 1 && sharesMemory(text, other) {
				t.Errorf("%s: %+.40q shares its memory", what, text)
			}
		}
	}
}

func TestRopesAreNewMemory(t *testing.T) {
	for _, row := range []string{"ab", strings.Repeat("ab\n", 10), strings.Repeat("ab\n\u1000", 60)} {
		text := strings.Clone(row)
		isOwnMemory(t, "RopeOf", textsOfRope(impl.RopeOf(text)), []string{text})
		r := impl.Rope{Nodes: spare(impl.RopeOf(text).Nodes), Marks: spare(marksFrom("ma=0 mb=1! mc=1 md=2"))}
		edits := spare([]impl.RopeEdit{{At: 1, Drop: 1, Put: strings.Repeat("xy", 40)}, {At: 0, Put: "zz"}, {At: 2}})
		mark := impl.Mark{Name: strings.Clone("mbb"), At: 2}
		told := func() string {
			return fmt.Sprint(r.Nodes[:cap(r.Nodes)], r.Marks[:cap(r.Marks)], edits[:cap(edits)], mark)
		}
		given := append(textsOfRope(r), mark.Name)
		for _, edit := range edits {
			given = append(given, edit.Put)
		}
		before, kept := told(), impl.Rope{Nodes: slices.Clone(r.Nodes), Marks: slices.Clone(r.Marks)}
		answers := []impl.RopeOut{impl.EditRope(r, edits), impl.EditRope(r, nil), impl.EditRope(impl.Rope{}, edits[1:2]), impl.PutMark(r, mark), impl.PutMark(r, impl.Mark{Name: "mb"})}
		for at, out := range answers {
			isOwnMemory(t, fmt.Sprintf("rope %d", at), textsOfRope(out.Rope), given)
		}
		isOwnMemory(t, "RopeText", []string{impl.RopeText(r)}, given)
		isOwnMemory(t, "Piece", []string{impl.Piece(r, 0, 2), impl.Piece(r, 0, int64(len(text)))}, given)
		isOwnMemory(t, "MarksAt", impl.MarksAt(r, 0, 9), given)
		first := fmt.Sprint(answers, impl.MarksAt(r, 0, 9))
		for at := range answers {
			for node := range answers[at].Rope.Nodes {
				answers[at].Rope.Nodes[node] = impl.RopeNode{Size: -7}
			}
			for mark := range answers[at].Rope.Marks {
				answers[at].Rope.Marks[mark] = impl.Mark{Name: "?"}
			}
			_ = append(answers[at].Rope.Nodes, impl.RopeNode{Size: -8})
			_ = append(answers[at].Rope.Marks, impl.Mark{Name: "!"})
		}
		if told() != before || !reflect.DeepEqual(kept.Nodes, r.Nodes) || !reflect.DeepEqual(kept.Marks, r.Marks) {
			t.Errorf("what was handed in of %d bytes was changed", len(text))
		}
		again := []impl.RopeOut{impl.EditRope(r, edits), impl.EditRope(r, nil), impl.EditRope(impl.Rope{}, edits[1:2]), impl.PutMark(r, mark), impl.PutMark(r, impl.Mark{Name: "mb"})}
		if got := fmt.Sprint(again, impl.MarksAt(r, 0, 9)); got != first {
			t.Errorf("asked again of %d bytes: %.300s, want %.300s", len(text), got, first)
		}
	}
}
