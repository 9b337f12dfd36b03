package tests

import (
	"fmt"
	"math"
	"math/rand"
	"regexp"
	"slices"
	"strconv"
	"strings"
	"testing"
	"unicode/utf8"

	"loop.example/g00044/impl"
)

var patternKinds = map[string]int64{
	"empty": impl.PtEmpty, "p": impl.PtPoint, "u": impl.PtPoint, "any": impl.PtAny, "set": impl.PtSet, "row": impl.PtRow, "or": impl.PtOr, "times": impl.PtTimes,
	"group": impl.PtGroup, "begin": impl.PtBegin, "end": impl.PtEnd, "word": impl.PtWord, "ahead": impl.PtAhead, "not": impl.PtNot, "again": impl.PtAgain,
}

var patternWord = regexp.MustCompile(`^(empty|any|set|row|or|times|group|begin|end|word|ahead|not|again|p|u)(.*)$`)

// nodeFrom reads a kind and what stands behind it: of p a point, of u a point in hexadecimal, of set spans in
// hexadecimal, of row and or the Kids, of group and again the Num, of times Least, Most and Way.
func nodeFrom(word string) impl.PatNode {
	pieces := patternWord.FindStringSubmatch(word)
	rest, node := pieces[2], impl.PatNode{Kind: patternKinds[pieces[1]]}
	hexadecimal := func(digits string) int64 {
		number, _ := strconv.ParseInt(digits, 16, 64)
		return number
	}
	numbers := numbersOf(strings.ReplaceAll(rest, ",", " "))
	switch pieces[1] {
	case "p":
		node.Num = int64([]rune(rest)[0])
	case "u":
		node.Num = hexadecimal(rest)
	case "set":
		for _, span := range strings.Split(rest, ",") {
			first, last, wide := strings.Cut(span, "-")
			if !wide {
				last = first
			}
			node.Set = append(node.Set, impl.Span{First: hexadecimal(first), Last: hexadecimal(last), Value: 1})
		}
	case "row", "or":
		node.Kids = numbers[0]
	case "group":
		node.Num, node.Kids = numbers[0], 1
	case "again":
		node.Num = numbers[0]
	case "times":
		node.Least, node.Most, node.Way, node.Kids = numbers[0], numbers[1], numbers[2], 1
	case "ahead", "not":
		node.Kids = 1
	}
	return node
}

func nodesFrom(row string) []impl.PatNode {
	var nodes []impl.PatNode
	for _, word := range strings.Fields(row) {
		nodes = append(nodes, nodeFrom(word))
	}
	return nodes
}

func sameNode(a impl.PatNode, b impl.PatNode) bool {
	return a.Kind == b.Kind && a.Num == b.Num && a.Least == b.Least && a.Most == b.Most && a.Way == b.Way && a.Kids == b.Kids && slices.Equal(a.Set, b.Set)
}

func sameNodes(a []impl.PatNode, b []impl.PatNode) bool {
	return slices.EqualFunc(a, b, sameNode)
}

func groupsIn(nodes []impl.PatNode) int64 {
	count := int64(0)
	for _, node := range nodes {
		if node.Kind == impl.PtGroup && node.Num > 0 {
			count++
		}
	}
	return count
}

func patternOf(nodes []impl.PatNode) impl.PatternRead {
	return impl.PatternRead{Groups: groupsIn(nodes), Nodes: nodes}
}

func wrongAt(at int) impl.PatternRead {
	return impl.PatternRead{Code: impl.ErrSyntax, At: int64(at)}
}

func isPattern(t *testing.T, text string, want impl.PatternRead) {
	t.Helper()
	got := impl.ReadPattern(text)
	if got.Code != want.Code || got.At != want.At || got.Groups != want.Groups || !sameNodes(got.Nodes, want.Nodes) {
		t.Errorf("ReadPattern of %d bytes, %+.100q: got %.300s, want %.300s", len(text), text, fmt.Sprintf("%+v", got), fmt.Sprintf("%+v", want))
	}
}

func isShown(t *testing.T, nodes []impl.PatNode, want string) {
	t.Helper()
	if got := impl.ShowPattern(nodes); got != want {
		t.Errorf("ShowPattern of %.300s: got %d bytes, %+.100q, want %d, %+.100q", fmt.Sprintf("%+v", nodes), len(got), got, len(want), want)
	}
}

// plainPattern is a node with its kids; Kids of the node do not count.
type plainPattern struct {
	node impl.PatNode
	kids []plainPattern
}

func (pattern plainPattern) nodes() []impl.PatNode {
	node := pattern.node
	node.Kids = int64(len(pattern.kids))
	nodes := []impl.PatNode{node}
	for _, kid := range pattern.kids {
		nodes = append(nodes, kid.nodes()...)
	}
	return nodes
}

func (pattern plainPattern) depth() int {
	deepest := 0
	for _, kid := range pattern.kids {
		deepest = max(deepest, kid.depth())
	}
	return 1 + deepest
}

// togetherAs is one part by itself, or several as kids.
func togetherAs(kind int64, parts []plainPattern) plainPattern {
	if len(parts) == 1 {
		return parts[0]
	}
	return plainPattern{impl.PatNode{Kind: kind}, parts}
}

// The pieces of the grammar as patterns; points above LastKnown are looked for by setPlainly.
var (
	otherWritten = `[^A-Za-z\x{2000}-\x{219F}\x{2200}-\x{239F}\x{2400}-\x{259F}\x{2600}-\x{2619}0-9\x{250}-\x{259}\x{350}-\x{359}\x{450}-\x{459}\x{550}-\x{559}\x{650}-\x{659}\x{2720}-\x{2729}]`
	classWritten = `\\(?:[ultodmpsz]|S[0-9])`
	oneWritten   = `(?:[^\]\[\-^\\]|\\` + otherWritten + `)`
	itemWritten  = `(?:` + classWritten + `|` + oneWritten + `(?:-` + oneWritten + `)?)`

	otherPiece = regexp.MustCompile(`^\\` + otherWritten)
	classPiece = regexp.MustCompile(`^` + classWritten)
	setPiece   = regexp.MustCompile(`^\[\^?` + itemWritten + `+\]`)
	setItems   = regexp.MustCompile(itemWritten)
	setOnes    = regexp.MustCompile(`^(` + oneWritten + `)(?:-(` + oneWritten + `))?$`)
	timesPiece = regexp.MustCompile(`^(?:([*+?])|\{(0|[1-9]\d*)(?:(,)(0|[1-9]\d*)?)?\})([?+]?)`)
	openPiece  = regexp.MustCompile(`^\((?:\?[:=!])?`)
	againPiece = regexp.MustCompile(`^\\[1-9]`)
	pointPiece = regexp.MustCompile(`^[^()\[\]{}|*+?^$.\\]`)
)

// classTables has for each class which points it has.
var classTables = func() map[string][]bool {
	tables := map[string][]bool{}
	for letter, category := range classLetters() {
		tables[letter] = hasWhere(func(p int64) bool { return impl.Category(p) == category })
	}
	for script := range int64(10) {
		tables[fmt.Sprint("S", script)] = hasWhere(func(p int64) bool { return impl.Script(p) == script })
	}
	return tables
}()

func classLetters() map[string]int64 {
	return map[string]int64{
		"u": impl.CatUpper, "l": impl.CatLower, "t": impl.CatTitle, "o": impl.CatOther, "d": impl.CatDigit, "m": impl.CatMark, "p": impl.CatPunct, "s": impl.CatSymbol, "z": impl.CatSpace,
	}
}

func hasWhere(holds func(p int64) bool) []bool {
	has := make([]bool, impl.LastKnown+1)
	for p := range has {
		has[p] = holds(int64(p))
	}
	return has
}

// setPlainly tells the points of a set as it is written; none, where it is none.
func setPlainly(text string) []impl.Span {
	has := make([]bool, impl.LastKnown+1)
	inner, turned := strings.CutPrefix(text[1:len(text)-1], "^")
	for _, item := range setItems.FindAllString(inner, -1) {
		if class := classPiece.FindString(item); class != "" {
			for p, is := range classTables[class[1:]] {
				has[p] = has[p] || is
			}
			continue
		}
		ones := setOnes.FindStringSubmatch(item)
		first, _ := utf8.DecodeLastRuneInString(ones[1])
		last := first
		if ones[2] != "" {
			last, _ = utf8.DecodeLastRuneInString(ones[2])
		}
		if first > impl.LastKnown || last > impl.LastKnown || last < first {
			return nil
		}
		for p := first; p <= last; p++ {
			has[p] = true
		}
	}
	for p := range has {
		has[p] = has[p] != turned
	}
	return plainSet(has)
}

// plainPatternReader goes down the grammar, and panics where it cannot go on, with the byte that is told.
type plainPatternReader struct {
	text   string
	at     int
	groups int64
	ended  map[int64]bool
}

func patternPlainly(text string) (read impl.PatternRead) {
	if len(text) > impl.MaxBytes {
		return impl.PatternRead{Code: impl.ErrSize}
	}
	defer func() {
		given := recover()
		if at, wrong := given.(int); wrong {
			read = wrongAt(at)
		} else if given != nil {
			panic(given)
		}
	}()
	reader := plainPatternReader{text: text, ended: map[int64]bool{}}
	whole := reader.pattern()
	if reader.at < len(text) {
		panic(reader.at)
	}
	nodes := whole.nodes()
	if len(nodes) > 200 || reader.groups > 9 || whole.depth() > 20 {
		return impl.PatternRead{Code: impl.ErrCount}
	}
	return impl.PatternRead{Groups: reader.groups, Nodes: nodes}
}

// takes goes behind what a pattern takes, if that is well written.
func (reader *plainPatternReader) takes(piece *regexp.Regexp) string {
	taken := piece.FindString(reader.text[reader.at:])
	if !utf8.ValidString(taken) {
		return ""
	}
	reader.at += len(taken)
	return taken
}

func (reader *plainPatternReader) stands(signs string) bool {
	return reader.at < len(reader.text) && strings.Contains(signs, reader.text[reader.at:reader.at+1])
}

func (reader *plainPatternReader) pattern() plainPattern {
	rows := []plainPattern{reader.row()}
	for reader.stands("|") {
		reader.at++
		rows = append(rows, reader.row())
	}
	return togetherAs(impl.PtOr, rows)
}

func (reader *plainPatternReader) row() plainPattern {
	var pieces []plainPattern
	for reader.at < len(reader.text) && !reader.stands("|)") {
		pieces = append(pieces, reader.piece())
	}
	if len(pieces) == 0 {
		return plainPattern{node: impl.PatNode{Kind: impl.PtEmpty}}
	}
	return togetherAs(impl.PtRow, pieces)
}

func (reader *plainPatternReader) piece() plainPattern {
	atom := reader.atom()
	if !reader.stands("*+?{") {
		return atom
	}
	begin := reader.at
	pieces := timesPiece.FindStringSubmatch(reader.takes(timesPiece))
	noTimes := []int64{impl.PtBegin, impl.PtEnd, impl.PtWord, impl.PtAhead, impl.PtNot}
	if pieces == nil || slices.Contains(noTimes, atom.node.Kind) {
		panic(begin)
	}
	node := impl.PatNode{Kind: impl.PtTimes, Way: int64(strings.Index("?+", pieces[5])) + 1}
	if pieces[5] == "" {
		node.Way = 0
	}
	switch pieces[1] {
	case "*":
		node.Least, node.Most = 0, -1
	case "+":
		node.Least, node.Most = 1, -1
	case "?":
		node.Least, node.Most = 0, 1
	default:
		least, leastFault := strconv.Atoi(pieces[2])
		most, mostFault := strconv.Atoi(pieces[4])
		if pieces[3] == "" {
			most, mostFault = least, nil
		}
		isOpen := pieces[3] != "" && pieces[4] == ""
		if leastFault != nil || least > 50 || !isOpen && (mostFault != nil || most > 50 || most < least) {
			panic(begin)
		}
		node.Least, node.Most = int64(least), int64(most)
		if isOpen {
			node.Most = -1
		}
	}
	return plainPattern{node, []plainPattern{atom}}
}

func (reader *plainPatternReader) atom() plainPattern {
	begin := reader.at
	if open := reader.takes(openPiece); open != "" {
		return reader.group(begin, open)
	}
	for sign, kind := range map[string]int64{"^": impl.PtBegin, "$": impl.PtEnd, ".": impl.PtAny, `\b`: impl.PtWord} {
		if strings.HasPrefix(reader.text[reader.at:], sign) {
			reader.at += len(sign)
			return plainPattern{node: impl.PatNode{Kind: kind}}
		}
	}
	for _, piece := range []*regexp.Regexp{classPiece, setPiece, againPiece, otherPiece, pointPiece} {
		if taken := reader.takes(piece); taken != "" {
			return reader.leaf(begin, piece, taken)
		}
	}
	panic(begin)
}

func (reader *plainPatternReader) leaf(begin int, piece *regexp.Regexp, taken string) plainPattern {
	node := impl.PatNode{Kind: impl.PtSet}
	switch piece {
	case classPiece:
		node.Set = setPlainly("[" + taken + "]")
	case setPiece:
		node.Set = setPlainly(taken)
	case againPiece:
		node = impl.PatNode{Kind: impl.PtAgain, Num: int64(taken[1] - '0')}
	default:
		p, _ := utf8.DecodeLastRuneInString(taken)
		node = impl.PatNode{Kind: impl.PtPoint, Num: int64(p)}
	}
	if node.Kind == impl.PtSet && len(node.Set) == 0 || node.Kind == impl.PtAgain && !reader.ended[node.Num] {
		panic(begin)
	}
	return plainPattern{node: node}
}

func (reader *plainPatternReader) group(begin int, open string) plainPattern {
	node := impl.PatNode{Kind: map[string]int64{"(": impl.PtGroup, "(?:": impl.PtGroup, "(?=": impl.PtAhead, "(?!": impl.PtNot}[open]}
	if open == "(" {
		reader.groups++
		node.Num = reader.groups
	}
	kid := reader.pattern()
	if !reader.stands(")") {
		panic(begin)
	}
	reader.at++
	reader.ended[node.Num] = true
	return plainPattern{node, []plainPattern{kid}}
}

// treePlainly tells the tree that nodes begin with, and the nodes behind it.
func treePlainly(nodes []impl.PatNode) (tree plainPattern, rest []impl.PatNode, whole bool) {
	if len(nodes) == 0 || nodes[0].Kids < 0 {
		return plainPattern{}, nil, false
	}
	tree.node, rest = nodes[0], nodes[1:]
	for range nodes[0].Kids {
		kid, behind, whole := treePlainly(rest)
		if !whole {
			return plainPattern{}, nil, false
		}
		tree.kids, rest = append(tree.kids, kid), behind
	}
	return tree, rest, true
}

func pointShown(p int64, signs string) string {
	switch {
	case p < 0 || p > impl.MaxPoint || p >= 0xD800 && p <= 0xDFFF:
		return "\xFF"
	case p < 0x80 && strings.Contains(signs, textWritten(p)):
		return `\` + textWritten(p)
	}
	return textWritten(p)
}

func setShown(set []impl.Span) string {
	text := ""
	for _, span := range set {
		text += pointShown(span.First, `][-^\`)
		if span.Last != span.First {
			text += "-" + pointShown(span.Last, `][-^\`)
		}
	}
	return "[" + text + "]"
}

func timesShown(node impl.PatNode) string {
	text := fmt.Sprintf("{%d,%d}", node.Least, node.Most)
	switch {
	case node.Least == 0 && node.Most == -1:
		text = "*"
	case node.Least == 1 && node.Most == -1:
		text = "+"
	case node.Least == 0 && node.Most == 1:
		text = "?"
	case node.Most == node.Least:
		text = fmt.Sprintf("{%d}", node.Least)
	case node.Most == -1:
		text = fmt.Sprintf("{%d,}", node.Least)
	}
	return text + map[int64]string{1: "?", 2: "+"}[node.Way]
}

// shown writes any tree; of what is not right, what is read is something else.
func (pattern plainPattern) shown() string {
	var kids []string
	for _, kid := range pattern.kids {
		kids = append(kids, kid.shown())
	}
	node, inner := pattern.node, strings.Join(kids, "")
	switch node.Kind {
	case impl.PtEmpty, impl.PtRow:
		return inner
	case impl.PtPoint:
		return pointShown(node.Num, `()[]{}|*+?^$.\`) + inner
	case impl.PtAny:
		return "." + inner
	case impl.PtSet:
		return setShown(node.Set) + inner
	case impl.PtOr:
		return strings.Join(kids, "|")
	case impl.PtTimes:
		return inner + timesShown(node)
	case impl.PtGroup:
		if node.Num == 0 {
			return "(?:" + inner + ")"
		}
		return "(" + inner + ")"
	case impl.PtBegin:
		return "^" + inner
	case impl.PtEnd:
		return "$" + inner
	case impl.PtWord:
		return `\b` + inner
	case impl.PtAhead:
		return "(?=" + inner + ")"
	case impl.PtNot:
		return "(?!" + inner + ")"
	case impl.PtAgain:
		return fmt.Sprintf(`\%d`, node.Num) + inner
	}
	return "\xFF"
}

// isRightPlainly tells whether nodes are read of the text that they would have.
func isRightPlainly(nodes []impl.PatNode) bool {
	tree, rest, whole := treePlainly(nodes)
	return whole && len(rest) == 0 && sameNodes(patternPlainly(tree.shown()).Nodes, nodes)
}

func TestNumbersOfPatterns(t *testing.T) {
	got := []int64{impl.MaxNodes, impl.MaxTimes, impl.PtEmpty, impl.PtPoint, impl.PtAny, impl.PtSet, impl.PtRow, impl.PtOr, impl.PtTimes, impl.PtGroup, impl.PtBegin, impl.PtEnd, impl.PtWord, impl.PtAhead, impl.PtNot, impl.PtAgain}
	if want := []int64{200, 50, 1, 2, 3, 4, 5, 6, 7, 8, 9, 10, 11, 12, 13, 14}; !slices.Equal(got, want) {
		t.Errorf("got %v, want %v", got, want)
	}
}

// areRead has texts and their nodes in turn.
func areRead(t *testing.T, rows ...string) {
	t.Helper()
	for at := 0; at < len(rows); at += 2 {
		text, want := rows[at], patternOf(nodesFrom(rows[at+1]))
		isPattern(t, text, want)
		if got := impl.PatternFault(want.Nodes); got != impl.OK {
			t.Errorf("the nodes of %+q have the fault %d", text, got)
		}
		if got := patternPlainly(text); !sameNodes(got.Nodes, want.Nodes) || got.Code != impl.OK {
			t.Errorf("plainly %+q: got %+v, want %+v", text, got, want)
		}
	}
}

func TestPatternsByHand(t *testing.T) {
	areRead(t,
		// rows of none, one and more pieces; an or of rows
		"", "empty", "a", "pa", "ab", "row2 pa pb", "abc", "row3 pa pb pc", "|", "or2 empty empty", "||", "or3 empty empty empty", "a|", "or2 pa empty", "|a", "or2 empty pa", "a||b", "or3 pa empty pb",
		"a|b", "or2 pa pb", "a|b|c", "or3 pa pb pc", "ab|", "or2 row2 pa pb empty", "|ab", "or2 empty row2 pa pb", "ab|cd|e", "or3 row2 pa pb row2 pc pd pe", "a|bcd", "or2 pa row3 pb pc pd",
		// atoms of one node
		".", "any", "^", "begin", "$", "end", `\b`, "word", "^a$", "row3 begin pa end", "^$", "row2 begin end", "^|$", "or2 begin end", "a^b", "row3 pa begin pb", "$^", "row2 end begin", `\ba.`, "row3 word pa any", `\bb`, "row2 word pb", "^^", "row2 begin begin",
		// groups
		"()", "group1 empty", "(a)", "group1 pa", "(ab)", "group1 row2 pa pb", "(a|b)", "group1 or2 pa pb", "(|)", "group1 or2 empty empty", "(?:)", "group0 empty", "(?:a)", "group0 pa", "(?:a|bc)", "group0 or2 pa row2 pb pc",
		"(?=a)", "ahead pa", "(?=)", "ahead empty", "(?=a|b)", "ahead or2 pa pb", "(?!a)", "not pa", "(?!)", "not empty", "(?!ab)", "not row2 pa pb", "(:a)", "group1 row2 p: pa", "(=)", "group1 p=", "(!)", "group1 p!", "(?::)", "group0 p:", "(?==)", "ahead p=",
		// their Num by the places of (
		"(a)b", "row2 group1 pa pb", "a(b)c", "row3 pa group1 pb pc", "(a)(b)", "row2 group1 pa group2 pb", "((a)(b))", "group1 row2 group2 pa group3 pb", "(((a)))", "group1 group2 group3 pa", "((a))(b)", "row2 group1 group2 pa group3 pb",
		"(?:(a))(b)", "row2 group0 group1 pa group2 pb", "(a(?=(b)))(c)", "row2 group1 row2 pa ahead group2 pb group3 pc", "(a|(b))|(c)", "or2 group1 or2 pa group2 pb group3 pc", "(?!(a))(?=(b))(c)", "row3 not group1 pa ahead group2 pb group3 pc", "(?:a)(?:(b))", "row2 group0 pa group0 group1 pb",
		"(a|b)c|d", "or2 row2 group1 or2 pa pb pc pd", "a(b|c(d|e)f)g", "row3 pa group1 or2 pb row3 pc group2 or2 pd pe pf pg", "(a)|(b)|()", "or3 group1 pa group2 pb group3 empty",
		// points that mean nothing by themselves
		"-", "p-", ",", "p,", "0", "p0", "1a", "row2 p1 pa", "=!:", "row3 p= p! p:", " ", "u20", "\n", "uA", "\x00", "u0", "u", "pu", "b", "pb", "S1", "row2 pS p1", "\u0200", "u200", "\uFFFD", "uFFFD", "\U00010000", "u10000", "\U0010FFFF", "u10FFFF", "\u1000a", "row2 u1000 pa",
	)
}

func TestTimesByHand(t *testing.T) {
	areRead(t,
		// each of the times with each Way
		"a*", "times0,-1,0 pa", "a*?", "times0,-1,1 pa", "a*+", "times0,-1,2 pa", "a+", "times1,-1,0 pa", "a+?", "times1,-1,1 pa", "a++", "times1,-1,2 pa", "a?", "times0,1,0 pa", "a??", "times0,1,1 pa", "a?+", "times0,1,2 pa",
		"a{2}", "times2,2,0 pa", "a{2}?", "times2,2,1 pa", "a{2}+", "times2,2,2 pa", "a{2,}", "times2,-1,0 pa", "a{2,}?", "times2,-1,1 pa", "a{2,}+", "times2,-1,2 pa", "a{2,3}", "times2,3,0 pa", "a{2,3}?", "times2,3,1 pa", "a{2,3}+", "times2,3,2 pa",
		// what they have as edges
		"a{0}", "times0,0,0 pa", "a{0,}", "times0,-1,0 pa", "a{0,0}", "times0,0,0 pa", "a{0,1}", "times0,1,0 pa", "a{1}", "times1,1,0 pa", "a{1,1}", "times1,1,0 pa", "a{1,}", "times1,-1,0 pa", "a{50}", "times50,50,0 pa", "a{50,}", "times50,-1,0 pa", "a{0,50}", "times0,50,0 pa", "a{50,50}", "times50,50,0 pa", "a{49,50}", "times49,50,0 pa", "a{10}", "times10,10,0 pa", "a{9,10}", "times9,10,0 pa",
		// they belong to the last atom alone
		"ab*", "row2 pa times0,-1,0 pb", "a*b", "row2 times0,-1,0 pa pb", "a*b*", "row2 times0,-1,0 pa times0,-1,0 pb", "a|b*", "or2 pa times0,-1,0 pb", "a*|b", "or2 times0,-1,0 pa pb", "ab{2}c", "row3 pa times2,2,0 pb pc", "a*?b", "row2 times0,-1,1 pa pb", "a?b?", "row2 times0,1,0 pa times0,1,0 pb", "a{2}b", "row2 times2,2,0 pa pb",
		// behind each atom that may have some
		".*", "times0,-1,0 any", "[a]*", "times0,-1,0 set61", `\.*`, "times0,-1,0 p.", `\t?`, "times0,1,0 set244-247,344-347,444-447", "()*", "times0,-1,0 group1 empty", "(ab)*", "times0,-1,0 group1 row2 pa pb", "(?:ab)+", "times1,-1,0 group0 row2 pa pb", "(a|b)?", "times0,1,0 group1 or2 pa pb", "(?:)*", "times0,-1,0 group0 empty", `(a)\1*`, "row2 group1 pa times0,-1,0 again1", "\u1000*", "times0,-1,0 u1000", "-*", "times0,-1,0 p-",
		// times within times, with a group between
		"(a*)*", "times0,-1,0 group1 times0,-1,0 pa", "(?:a+)?", "times0,1,0 group0 times1,-1,0 pa", "(?:(?:a{2}){3}){4}", "times4,4,0 group0 times3,3,0 group0 times2,2,0 pa", "(a*b)*c", "row2 times0,-1,0 group1 row2 times0,-1,0 pa pb pc",
		// of what has none, with a group between
		"(?:^)*", "times0,-1,0 group0 begin", "($)+", "times1,-1,0 group1 end", `(?:\b)?`, "times0,1,0 group0 word", "(?:(?=a))*", "times0,-1,0 group0 ahead pa", "((?!a)){2}", "times2,2,0 group1 not pa",
		// within a look ahead
		"(?=a*)", "ahead times0,-1,0 pa", "(?!(a)*)", "not times0,-1,0 group1 pa", "^a*$", "row3 begin times0,-1,0 pa end",
	)
}

func TestSetsOfPatternsByHand(t *testing.T) {
	areRead(t,
		"[a]", "set61", "[ab]", "set61-62", "[ac]", "set61,63", "[ba]", "set61-62", "[aa]", "set61", "[a-c]", "set61-63", "[a-a]", "set61", "[a-b]", "set61-62", "[ca-b]", "set61-63", "[c-ea-b]", "set61-65", "[a-cb-d]", "set61-64", "[a-zb-c]", "set61-7A", "[b-ca-z]", "set61-7A", "[a-cx-z]", "set61-63,78-7A", "[x-za-c]", "set61-63,78-7A", "[a-ca-e]", "set61-65",
		"[^a]", "set0-60,62-7FFF", "[^ac]", "set0-60,62,64-7FFF", "[^b-y]", "set0-61,7A-7FFF", "[^\x00]", "set1-7FFF", "[^\u7FFF]", "set0-7FFE", "[^\x00-a]", "set62-7FFF", "[^a-\u7FFF]", "set0-60", "[^\x00-`b-\u7FFF]", "set61", "[\x00-\u7FFF]", "set0-7FFF", "[\x00]", "set0", "[\u7FFF]", "set7FFF", "[\u7FFE-\u7FFF]", "set7FFE-7FFF",
		// what means something outside of sets
		"[(]", "set28", "[)]", "set29", "[{]", "set7B", "[}]", "set7D", "[|]", "set7C", "[*]", "set2A", "[+]", "set2B", "[?]", "set3F", "[$]", "set24", "[.]", "set2E", "[(?:a)]", "set28-29,3A,3F,61", "[a|b]", "set61-62,7C", "[*-.]", "set2A-2E", "[ ]", "set20", "[\n]", "setA", "[b]", "set62", "[0-9]", "set30-39", "[S1]", "set31,53",
		// with \ ahead
		`[\]]`, "set5D", `[\[]`, "set5B", `[\-]`, "set2D", `[\^]`, "set5E", `[\\]`, "set5C", `[a\-z]`, "set2D,61,7A", `[\--a]`, "set2D-61", `[+-\-]`, "set2B-2D", `[\[-\]]`, "set5B-5D", `[\\-\^]`, "set5C-5E", `[^\^]`, "set0-5D,5F-7FFF", `[\^a]`, "set5E,61", `[a\^]`, "set5E,61", `[\.\(]`, "set28,2E", "[\\\u0500]", "set500", "[\\ ]", "set20", "[\\\x00]", "set0", "[\\\u7FFF]", "set7FFF", "[\\\u0500-\\\u0502]", "set500-502", `[\--\-]`, "set2D",
		// sets beside others
		"[a][b]", "row2 set61 set62", "[a]|[^a]", "or2 set61 set0-60,62-7FFF", "([a]b)", "group1 row2 set61 pb", "[a]-[b]", "row3 set61 p- set62", "a-b", "row3 pa p- pb", "[a]{2}", "times2,2,0 set61",
	)
}

func TestHiddenByHand(t *testing.T) {
	areRead(t,
		// each point that needs a \, and others
		`\(`, "p(", `\)`, "p)", `\[`, "p[", `\]`, "p]", `\{`, "p{", `\}`, "p}", `\|`, "p|", `\*`, "p*", `\+`, "p+", `\?`, "p?", `\^`, "p^", `\$`, "p$", `\.`, "p.", `\\`, `p\`, `\-`, "p-", `\/`, "p/", `\,`, "p,", `\ `, "u20", "\\\n", "uA", "\\\x00", "u0", "\\\u0200", "u200", "\\\u1000", "u1000", "\\\u2700", "u2700", "\\\uFFFD", "uFFFD", "\\\U00010000", "u10000", "\\\U0010FFFF", "u10FFFF", "\\\u8000", "u8000",
		`\.\*`, "row2 p. p*", `\\b`, `row2 p\ pb`, `\\\b`, `row2 p\ word`, `\(a\)`, "row3 p( pa p)", `(\))`, "group1 p)", `\[a`, "row2 p[ pa", `a\|b`, "row3 pa p| pb",
		// groups again
		`(a)\1`, "row2 group1 pa again1", `(a)\12`, "row3 group1 pa again1 p2", `(a)(b)\2\1`, "row4 group1 pa group2 pb again2 again1", `(?=(a))\1`, "row2 ahead group1 pa again1", `(?!(a))\1`, "row2 not group1 pa again1", `(a)|\1`, "or2 group1 pa again1", `(a(b)\2)`, "group1 row3 pa group2 pb again2", `((a)(b)\3\2)\1`, "row2 group1 row4 group2 pa group3 pb again3 again2 again1", `()\1`, "row2 group1 empty again1", `(a)(?=\1)`, "row2 group1 pa ahead again1", `(?:(a))\1`, "row2 group0 group1 pa again1", `(a)(\1)`, "row2 group1 pa group2 again1", `(a|b)*\1`, "row2 times0,-1,0 group1 or2 pa pb again1",
		`(1)(2)(3)(4)(5)(6)(7)(8)(9)\9`, "row10 group1 p1 group2 p2 group3 p3 group4 p4 group5 p5 group6 p6 group7 p7 group8 p8 group9 p9 again9",
		// classes by themselves
		`\z`, "set20,A0,1F80", `\t`, "set244-247,344-347,444-447", `\m`, "set620-62B,630-631,1000-103F", `\d`, "set30-39,250-259,350-359,450-459,550-559,650-659,2720-2729", `\S5`, "set500-51F,550-559", `\S9`, "set6000-67FF", `\S8`, "set800-82F", `\S2`, "set200-24B,250-259,260-261", `\S3`, "set300-34B,350-359,360-361", `\S4`, "set400-44B,450-459,460-461",
		`\z\z`, "row2 set20,A0,1F80 set20,A0,1F80", `\S55`, "row2 set500-51F,550-559 p5", `\z|a`, "or2 set20,A0,1F80 pa", `(\z)`, "group1 set20,A0,1F80",
		`[\z]`, "set20,A0,1F80", `[\za]`, "set20,61,A0,1F80", `[a\z]`, "set20,61,A0,1F80", `[^\z]`, "set0-1F,21-9F,A1-1F7F,1F81-7FFF", `[\S5\S8]`, "set500-51F,550-559,800-82F", `[\S5a-c\z]`, "set20,61-63,A0,500-51F,550-559,1F80", `[\S9\S9]`, "set6000-67FF", `[^\S9]`, "set0-5FFF,6800-7FFF", `[\z\-]`, "set20,2D,A0,1F80",
	)
}

// TestClassesOfPatterns asks each class about all points.
func TestClassesOfPatterns(t *testing.T) {
	for name, has := range classTables {
		class, beside := plainSet(has), plainSet(hasWhere(func(p int64) bool { return !has[p] }))
		isPattern(t, `\`+name, patternOf([]impl.PatNode{{Kind: impl.PtSet, Set: class}}))
		isPattern(t, `[\`+name+`]`, patternOf([]impl.PatNode{{Kind: impl.PtSet, Set: class}}))
		isPattern(t, `[^\`+name+`]`, patternOf([]impl.PatNode{{Kind: impl.PtSet, Set: beside}}))
		isPattern(t, `[\`+name+"\x00-\u7FFF]", patternOf(nodesFrom("set0-7FFF")))
		for other, more := range classTables {
			both := plainSet(hasWhere(func(p int64) bool { return has[p] || more[p] }))
			isPattern(t, `[\`+name+`\`+other+`]`, patternOf([]impl.PatNode{{Kind: impl.PtSet, Set: both}}))
		}
	}
	isPattern(t, `[\S0\S1\S2\S3\S4\S5\S6\S7\S8\S9]`, patternOf(nodesFrom("set0-7FFF")))
	isPattern(t, `[^\S0\S1\S2\S3\S4\S5\S6\S7\S8\S9]`, wrongAt(0))
	isPattern(t, `[^\S0\S1\S2\S3\S4\S5\S6\S7\S9]`, patternOf(nodesFrom("set800-82F")))
}

// areWrong has texts with the byte that is told.
func areWrong(t *testing.T, rows map[string]int) {
	t.Helper()
	for text, at := range rows {
		isPattern(t, text, wrongAt(at))
		if got := patternPlainly(text); got.Code != impl.ErrSyntax || got.At != int64(at) {
			t.Errorf("plainly %+q: got %+v, want %d", text, got, at)
		}
	}
}

func TestFaultsOfGroups(t *testing.T) {
	areWrong(t, map[string]int{
		// without a beginning
		")": 0, "a)": 1, "(a))": 3, "())": 2, "a|)": 2, "(?:a))": 5, "a*)": 2, "\u1000)": 3, "^)": 1,
		// without an end: where the innermost of them begins
		"(": 0, "a(b": 1, "(?:": 0, "a(?:b": 1, "(?=a": 0, "(?!a": 0, "((a)": 0, "((a": 1, "(a(b": 2, "(a)(b": 3, "(?:a(?=b": 4, "(|": 0, "(a|(b|": 3, "((a)b": 0, "(((": 2, "(a(b)": 0, "(?:(?=(?!": 6, "a(?!b|c": 1, "(a*": 0, "\u1000(": 3,
		// a ? behind ( that goes on with none of the three
		"(?": 1, "(?)": 1, "(?a)": 1, "(?*": 1, "(??:a)": 1, "a(?<b)": 2, "((?x": 2, `(?\:a)`: 1, "(? :a)": 1, "(?+a)": 1, "(?{2}": 1, "(?(a))": 1, "(?\xFF": 1, "(a)(?": 4, "(?:(?": 4,
	})
}

func TestFaultsOfTimes(t *testing.T) {
	areWrong(t, map[string]int{
		// at the beginning of a row
		"*": 0, "+": 0, "?": 0, "{": 0, "{2}": 0, "{2,3}": 0, "*a": 0, "|*": 1, "a|*": 2, "(*)": 1, "(+": 1, "(?:+)": 3, "(?:?)": 3, "(a|?)": 3, "(?=*a)": 3, "(?!{2})": 3, "{x}": 0, "a|{2}": 2,
		// behind times
		"a**": 2, "a*+*": 3, "a*?*": 3, "a*??": 3, "a+++": 3, "a???": 3, "a{2}{3}": 4, "a{2}*": 4, "a{2}?*": 5, "a{2}+?": 5, "a?{2}": 2, "a*{x}": 2, "a*{": 2, "(a*)**": 5,
		// behind what has none
		"^*": 1, "^+": 1, "^?": 1, "^{2}": 1, "^{2,}": 1, "$*": 1, "$+": 1, "$?": 1, "${2}": 1, `\b*`: 2, `\b+`: 2, `\b?`: 2, `\b{2}`: 2, "(?=a)*": 5, "(?=a)+": 5, "(?=a)?": 5, "(?=a){2}": 5, "(?!a)*": 5, "(?!a)+?": 5, "(?!a)?": 5, "(?!a){2,3}": 5, "a^*": 2, "(^*)": 2, "^{x}": 1, "^{": 1, "(?=(a)*)*": 8, "a$*b": 2, "^*?": 1,
		// a { that is none
		"a{": 1, "a{}": 1, "a{,}": 1, "a{,2}": 1, "a{x}": 1, "a{1": 1, "a{1,": 1, "a{1,2": 1, "a{1x}": 1, "a{1,2,3}": 1, "a{1,,}": 1, "a{ 1}": 1, "a{1 }": 1, "a{1, 2}": 1, "a{+1}": 1, "a{-1}": 1, "a{-0}": 1, "a{-1,1}": 1, "a{1,-1}": 1, "a{1,+2}": 1, "a{0x1}": 1, "a{1_0}": 1, "a{1.0}": 1, "a{\u0251}": 1, "a{\u2721}": 1, "a{{1}": 1, "a{1]": 1, "a{2|b}": 1, "a{\xFF}": 1, "ab{": 2, "\u1000{": 3, "(a{": 2,
		// a needless 0
		"a{00}": 1, "a{01}": 1, "a{00,}": 1, "a{01,2}": 1, "a{1,02}": 1, "a{0,00}": 1, "a{050}": 1,
		// above 50, and m above n
		"a{51}": 1, "a{51,}": 1, "a{0,51}": 1, "a{51,51}": 1, "a{50,51}": 1, "a{100}": 1, "a{1,100}": 1, "a{3,2}": 1, "a{1,0}": 1, "a{50,49}": 1, "a{99999999999999999999}": 1, "a{1,99999999999999999999}": 1, "a{4294967297}": 1, "a{18446744073709551617}": 1,
	})
}

func TestFaultsOfSets(t *testing.T) {
	areWrong(t, map[string]int{
		// without an end, or without an item
		"[": 0, "[]": 0, "[^": 0, "[^]": 0, "[a": 0, "[^a": 0, "a[b": 1, "[a-": 0, "[a-b": 0, `[a\]`: 0, "[[": 0, "[]a": 0, "([a": 1, "(?:[a)": 3, "[]a]": 0, "\u1000[": 3, `[\u`: 0, `[\S1`: 0, "[a]b[c": 4,
		// items that are none
		"[a-]": 0, "[-a]": 0, "[-]": 0, "[a-b-c]": 0, "[a--]": 0, "[a-b-]": 0, "[a^]": 0, "[^^]": 0, "[^^a]": 0, "[a-^]": 0, "[[]": 0, "[a[]": 0, "[[a]]": 0, "[]]": 0, "[a-[b]": 0, `[\`: 0, `[\]`: 0, `[a-\]`: 0, `[\b]`: 0, `[\0]`: 0, `[\1]`: 0, `(a)[\1]`: 3, `[\9]`: 0, `[\S]`: 0, `[\Sa]`: 0, `[\S-a]`: 0, `[\x]`: 0, `[\U]`: 0, `[\L]`: 0, `[a-\u]`: 0, `[a-\S1]`: 0, `[\u-z]`: 0, `[\S1-z]`: 0, `[\u-\l]`: 0, `[\u-]`: 0, "[\\\u2000]": 0, "[\\\u2600]": 0, "[\\\u0250]": 0, "[\\\u2720]": 0, `[\a-z]`: 0, `[a-\z]`: 0, `[a-\w]`: 0,
		// above LastKnown
		"[\u8000]": 0, "[a\u8000]": 0, "[a-\u8000]": 0, "[\\\u8000]": 0, "[\uFFFD]": 0, "[\U00010000]": 0, "[\\\U00010000]": 0, "[^\u8000]": 0, "[\u7FFF-\u8000]": 0, "[\u8000-\u8001]": 0, "[\U0010FFFF]": 0,
		// a second point that is lower
		"[b-a]": 0, "[z-a]": 0, "[ab-a]": 0, "[^b-a]": 0, "[\u1000-a]": 0, `[\]-\[]`: 0, "[a-cz-b]": 0, "[\x01-\x00]": 0, "x[b-a]": 1,
		// no point
		"[^\x00-\u7FFF]": 0, "a[^\x00-\u7FFF]": 1, "[^\x00-ab-\u7FFF]": 0, "[^b-\u7FFF\x00-a]": 0, "[^\x00-\u7FFFa]": 0,
		// an end without a beginning
		"]": 0, "a]": 1, "[a]]": 3, "}": 0, "a}": 1, "a{2}}": 4, "(])": 1, `\]]`: 2,
	})
}

func TestFaultsOfHidden(t *testing.T) {
	areWrong(t, map[string]int{
		`\`: 0, `a\`: 1, `(\`: 1, `\\\`: 2, "\u1000\\": 3,
		// digits
		`\0`: 0, `\1`: 0, `\9`: 0, `(a)\0`: 3, `(\1)`: 1, `\1(a)`: 0, `(a)\2`: 3, `(a\1)`: 2, `((a)\1)`: 4, `((a)\2\1)`: 6, `(?:a)\1`: 5, `(?=a)\1`: 5, `(a(b\2))`: 4, `(a)(b)\3`: 6, `(a)(\2)`: 4, `()()()()()()()()()(\0)`: 19, `(a|\1)`: 3, `(a)\1\2`: 5, `(?=(a)\2)`: 6,
		// letters and digits that are no class
		`\a`: 0, `\B`: 0, `\c`: 0, `\n`: 0, `\r`: 0, `\w`: 0, `\x`: 0, `\A`: 0, `\Z`: 0, `\U`: 0, `\L`: 0, `\D`: 0, `\S`: 0, `\Sx`: 0, `\S-`: 0, "\\S\u0250": 0, `\s1\S`: 3, "\\\u2000": 0, "\\\u219F": 0, "\\\u2400": 0, "\\\u2600": 0, "\\\u2619": 0, "\\\u0250": 0, "\\\u0359": 0, "\\\u0550": 0, "\\\u0659": 0, "\\\u2720": 0, "\\\u2729": 0,
		// bytes that are no point's
		"\xFF": 0, "a\xFF": 1, "\u1000\x80": 3, "\xE2\x80": 0, "a\xE2\x80": 1, "a\xC0\x80": 1, "\xED\xA0\x80": 0, "\xF4\x90\x80\x80": 0, "(\xFF)": 1, "a|\xFF": 2, "\xFF*": 0, "\x80": 0, "a\xC2": 1, "\\\xFF": 0, "a\\\xE2\x80": 1, "\\\xED\xA0\x80": 0, "\\u\xFF": 2, "\\S\xFF": 0, "\\S1\xFF": 3, "[\xFF]": 0, "[a\xFF]": 0, "[a-\xFF]": 0, "[\xFF-a]": 0, "[\\\xFF]": 0, "[^\xE2\x80]": 0, "a[\xC2]": 1, "[\xFF": 0,
	})
}

// TestFirstOfFaults has several in one text.
func TestFirstOfFaults(t *testing.T) {
	areWrong(t, map[string]int{
		"a)(": 1, ")*": 0, "[b-a]*": 0, "[b-a])": 0, "(a]": 2, "(*": 1, "([": 1, "a**[": 2, `\a)`: 0, `(\`: 1, "a{x}(": 1, "(a**": 3, "^*)": 1, "(a{x": 2, "(?=a)*(": 5, `(\1`: 1, "a]]": 1, "a}]": 1, "\xFF(": 0, "(\xFF": 1, "(a|b]|)": 4, "(?x**": 1, "[a*]{51}[b": 4, "((a)*+*": 6, `[\]{x}`: 0, "{x}{y}": 0,
	})
}

// TestEachPointInPatterns has each point by itself, with \ ahead, in a set and so in a set.
func TestEachPointInPatterns(t *testing.T) {
	points := pointsApart()
	for p := int64(0); p <= impl.LastKnown+2; p++ {
		points = append(points, p)
	}
	for _, p := range points {
		text, point := textWritten(p), patternOf([]impl.PatNode{{Kind: impl.PtPoint, Num: p}})
		set := patternOf([]impl.PatNode{{Kind: impl.PtSet, Set: []impl.Span{{First: p, Last: p, Value: 1}}}})
		if p >= 0x80 || !strings.Contains(`()[]{}|*+?^$.\`, text) {
			isPattern(t, text, point)
		}
		isSign, isHidden := p < 0x80 && strings.Contains(`][-^\`, text), impl.Script(p) != 1 && impl.Category(p) != impl.CatDigit
		if isHidden {
			isPattern(t, `\`+text, point)
		} else if p >= 0x80 {
			isPattern(t, `\`+text, wrongAt(0))
		}
		for _, row := range []struct {
			text string
			is   bool
		}{{text, !isSign}, {`\` + text, isHidden}} {
			want := wrongAt(0)
			if row.is && p <= impl.LastKnown {
				want = set
			}
			if p >= 0x80 || row.is || isSign {
				isPattern(t, "["+row.text+"]", want)
				isPattern(t, "["+row.text+"-"+row.text+"]", want)
			}
		}
		isShown(t, point.Nodes, pointShown(p, `()[]{}|*+?^$.\`))
		isPattern(t, impl.ShowPattern(point.Nodes), point)
		if p <= impl.LastKnown {
			isShown(t, set.Nodes, "["+pointShown(p, `][-^\`)+"]")
			isPattern(t, impl.ShowPattern(set.Nodes), set)
		}
	}
}

func TestEachCountOfTimes(t *testing.T) {
	for least := range 60 {
		isTimes := func(text string, most int64, is bool) {
			t.Helper()
			for way, sign := range []string{"", "?", "+"} {
				want := wrongAt(1)
				if is {
					want = patternOf([]impl.PatNode{{Kind: impl.PtTimes, Least: int64(least), Most: most, Way: int64(way), Kids: 1}, {Kind: impl.PtPoint, Num: 'a'}})
					isShown(t, want.Nodes, "a"+timesShown(want.Nodes[0]))
					isPattern(t, impl.ShowPattern(want.Nodes), want)
				}
				isPattern(t, "a"+text+sign, want)
			}
		}
		isTimes(fmt.Sprintf("{%d}", least), int64(least), least <= 50)
		isTimes(fmt.Sprintf("{%d,}", least), -1, least <= 50)
		for most := range 60 {
			isTimes(fmt.Sprintf("{%d,%d}", least, most), int64(most), least <= most && most <= 50)
		}
	}
}

// nested has a text within so many of an opening and an end.
func nested(open string, inner string, end string, count int) string {
	return strings.Repeat(open, count) + inner + strings.Repeat(end, count)
}

// textsOfCounts has for each text of so many nodes, groups or so deep, whether it may be.
func textsOfCounts() map[string]bool {
	fill := strings.Repeat
	return map[string]bool{
		// 200 nodes
		fill("a", 199): true, fill("a", 200): false, fill("|", 198): true, fill("|", 199): false, fill("a*", 99) + "b": true, fill("a*", 100): false, fill("a*", 99) + "bc": false, fill("a*b", 66) + "c": true, fill("a*b", 66) + "cd": false, fill("a|", 198) + "a": true, fill("a|", 199) + "a": false, fill("ab|", 66): true, fill("ab|", 66) + "c": true, fill("ab|", 66) + "cd": false,
		"(" + fill("a", 198) + ")": true, "(" + fill("a", 199) + ")": false, "(?:" + fill("a", 98) + ")" + fill("a", 99): true, "(?:" + fill("a", 98) + ")" + fill("a", 100): false, fill(`\z`, 199): true, fill(`\z`, 200): false, fill("[a]", 199): true, fill("[a]", 200): false, fill("(?:)", 99) + "a": true, fill("(?:)", 100): false, fill("^", 199): true, fill("^", 200): false, fill("(?=a)", 99): true, fill("(?=a)", 99) + "a": true, fill("(?=a)", 100): false, fill("\\.", 300): false, fill("a", 199) + "*": false, fill("a", 197) + "b*": true, "(?:" + fill("a", 197) + ")*": true, "(?:" + fill("a", 198) + ")*": false, "(?:" + fill("|", 197) + ")": true, "(?:" + fill("|", 198) + ")": false, fill("a", 2000): false, fill("()", 2000): false, fill("|", 2000): false,
		// 9 groups
		fill("()", 9): true, fill("()", 10): false, fill("(a)", 9) + `\9\1`: true, fill("(a)", 10) + `\9\1`: false, nested("(", "a", ")", 9): true, nested("(", "a", ")", 10): false, fill("()", 9) + fill("(?:)", 30): true, fill("()", 9) + fill("(?=)(?!)", 30): true, fill("()|", 9): true, fill("()|", 10): false, fill("(?=())", 9): true, fill("(?=())", 10): false, fill("(?:)()", 10): false, fill("()", 20): false,
		// 20 deep
		nested("(?:", "a", ")", 19): true, nested("(?:", "a", ")", 20): false, nested("(?:", "ab", ")", 18): true, nested("(?:", "ab", ")", 19): false, nested("(?:", "a|b", ")", 18): true, nested("(?:", "a|b", ")", 19): false, nested("(?:", "ab|c", ")", 17): true, nested("(?:", "ab|c", ")", 18): false, nested("(?:", "a*", ")", 18): true, nested("(?:", "a*", ")", 19): false, nested("(?:", "", ")", 19): true, nested("(?:", "", ")", 20): false, nested("(?=", "a", ")", 19): true, nested("(?=", "a", ")", 20): false, nested("(?!", "^", ")", 19): true, nested("(?!", "^", ")", 20): false,
		nested("(?:", "a", ")*", 9): true, nested("(?:", "ab", ")*", 9): true, nested("(?:", "a*", ")*", 9): true, nested("(?:", "ab*", ")*", 9): false, nested("(?:", "a", ")*", 10): false, nested("b(?:", "a", ")", 9): true, nested("b(?:", "a", ")", 10): false, nested("b|c(?:", "a", ")", 6): true, nested("b|c(?:", "aa", ")", 6): true, nested("b|c(?:", "a*a", ")", 6): false, nested("b|c(?:", "a", ")", 7): false, "b" + nested("(?:", "a", ")", 18): true, "b" + nested("(?:", "a", ")", 19): false, "b|" + nested("(?:", "a", ")", 18): true, "b|" + nested("(?:", "a", ")", 19): false, nested("(?:", "[a]", ")", 19): true, nested("(?:", `\z`, ")", 20): false, nested("(?:", "a", ")", 19) + "*": false, nested("(?:", "a", ")", 18) + "*": true, nested("(?:", "a", ")", 500): false,
	}
}

func TestCountsOfPatterns(t *testing.T) {
	for text, may := range textsOfCounts() {
		want := patternPlainly(text)
		if may != (want.Code == impl.OK) || !may && want.Code != impl.ErrCount {
			t.Errorf("plainly %+.50q: code %d", text, want.Code)
		}
		isPattern(t, text, want)
		if may {
			continue
		}
		// a fault of the syntax is told ahead of that, wherever it stands
		isPattern(t, text+")", wrongAt(len(text)))
		isPattern(t, text+`\`, wrongAt(len(text)))
		isPattern(t, text+"(", wrongAt(len(text)))
		isPattern(t, text+"[b-a]", wrongAt(len(text)))
		isPattern(t, text+"^*", wrongAt(len(text)+1))
		isPattern(t, text+`(\1`, patternPlainly(text+`(\1`))
		isPattern(t, "("+text, patternPlainly("("+text))
		isPattern(t, "{"+text, wrongAt(0))
		isPattern(t, "\xFF"+text, wrongAt(0))
		isPattern(t, text+"a{51}"+text, wrongAt(len(text)+1))
	}
}

// everySecond has each second point up to LastKnown, from first on, so many of them.
func everySecond(first int64, count int) []impl.Span {
	var set []impl.Span
	for n := range int64(count) {
		set = append(set, impl.Span{First: first + 2*n, Last: first + 2*n, Value: 1})
	}
	return set
}

// TestSizesOfPatterns has texts of 65536 bytes and of one more.
func TestSizesOfPatterns(t *testing.T) {
	size, count, fill := impl.PatternRead{Code: impl.ErrSize}, impl.PatternRead{Code: impl.ErrCount}, strings.Repeat
	rows := []struct {
		text string
		want impl.PatternRead
	}{
		{fill("a", 65536), count}, {fill("a", 65535) + ")", wrongAt(65535)}, {fill("|", 65536), count}, {fill("*", 65536), wrongAt(0)}, {fill("\xFF", 65536), wrongAt(0)}, {fill("a", 65534) + "**", wrongAt(65535)}, {fill("a*", 32768), count}, {fill("a*b|", 16384), count},
		{fill("(", 65536), wrongAt(65535)}, {nested("(", "", ")", 32768), count}, {nested("(", "", ")*", 21845) + "a", count}, {nested("(?:", "a", ")*", 13107), count}, {nested("a|(?:", "b", ")", 10922) + "abc", count}, {"(" + fill("()", 32767) + `\`, wrongAt(65535)}, {"(" + fill("()", 32767) + `a`, wrongAt(0)}, {fill("(a)", 21843) + `\9\100)`, wrongAt(65535)}, {fill("(?=", 21845) + ")", wrongAt(65529)},
		{"[" + fill("a", 65534) + "]", patternOf(nodesFrom("set61"))}, {"[" + fill("a", 65535), wrongAt(0)}, {"[" + fill("a-b", 21844) + "c]", patternOf(nodesFrom("set61-63"))}, {"[" + fill("a-b", 21844) + "-]", wrongAt(0)}, {fill("[", 65536), wrongAt(0)}, {fill("a-", 32768), count}, {"[" + fill("a-c", 21844) + "z]", patternOf(nodesFrom("set61-63,7A"))}, {"[" + fill(`\z`, 32767) + "]", patternOf(nodesFrom("set20,A0,1F80"))}, {"[" + fill(`\S9`, 21844) + `\z]`, patternOf(nodesFrom("set20,A0,1F80,6000-67FF"))}, {"[" + fill(`\S0`, 21844) + `\]`, wrongAt(0)},
		{fill(`\S0`, 21845) + "a", count}, {fill(`[^\S0]`, 10922) + "abcd", count}, {fill("[a]", 21845) + "]", wrongAt(65535)}, {fill("[^a]", 16383) + "[^\x00", wrongAt(65532)}, {fill(`\`, 65536), count}, {fill(`\`, 65535) + "a", wrongAt(65534)}, {"a{" + fill("1", 65534), wrongAt(1)}, {"a{" + fill("1", 65533) + "}", wrongAt(1)}, {"a{1" + fill(",", 65532) + "}", wrongAt(1)}, {fill("a{1}", 16384), count}, {fill("\u7FFF", 21845) + "a", count}, {fill("\U0010FFFF", 16384), count}, {fill("\U0010FFFF", 16383) + "\xF4\x8F\xBF\xBF", count}, {fill("\U0010FFFF", 16383) + "aa\xF4\x8F", wrongAt(65534)},
	}
	for _, row := range rows {
		// not all of them can be filled up
		if len(row.text) < impl.MaxBytes-6 || len(row.text) > impl.MaxBytes {
			t.Errorf("%+.20q has %d bytes", row.text, len(row.text))
		}
		isPattern(t, row.text, row.want)
		isPattern(t, row.text+fill("a", impl.MaxBytes+1-len(row.text)), size)
	}
	isPattern(t, fill("a", 200000), size)
	isPattern(t, fill(")", 65537), size)
}

// TestSetsOfManySpansInPatterns has more spans than a list that is handed in may have.
func TestSetsOfManySpansInPatterns(t *testing.T) {
	for _, count := range []int{999, 1000, 1001, 1002, 2000, 16383, 16384} {
		for _, first := range []int64{0, 1} {
			set := []impl.PatNode{{Kind: impl.PtSet, Set: everySecond(first, count)}}
			if impl.PatternFault(set) != impl.OK {
				t.Errorf("a set of %d spans is not right", count)
			}
			text := setShown(set[0].Set)
			isShown(t, set, text)
			isPattern(t, text, patternOf(set))
			beside := []impl.PatNode{{Kind: impl.PtSet, Set: setPlainly(text[:1] + "^" + text[1:])}}
			isPattern(t, text[:1]+"^"+text[1:], patternOf(beside))
			isPattern(t, impl.ShowPattern(beside), patternOf(beside))
		}
	}
}

// TestPatternsThatAreTooLong are right, and have a text that a call may not answer.
func TestPatternsThatAreTooLong(t *testing.T) {
	// points of three bytes, and two bytes of each set beside them
	long, rest := everySecond(0x801, 15360), everySecond(0x801, 6484)
	nodes := []impl.PatNode{{Kind: impl.PtRow, Kids: 2}, {Kind: impl.PtSet, Set: long}, {Kind: impl.PtSet, Set: rest}}
	text := setShown(long) + setShown(rest)
	if len(text) != impl.MaxBytes {
		t.Fatalf("the text has %d bytes", len(text))
	}
	isShown(t, nodes, text)
	isPattern(t, text, patternOf(nodes))
	longer := append(slices.Clone(nodes), impl.PatNode{Kind: impl.PtPoint, Num: 'a'})
	longer[0].Kids = 3
	isShown(t, longer, "")
	if impl.PatternFault(longer) != impl.OK {
		t.Error("a pattern of one byte more is not right")
	}
	isShown(t, append([]impl.PatNode{{Kind: impl.PtTimes, Most: -1, Kids: 1}, {Kind: impl.PtGroup, Kids: 1}}, nodes...), "")
	most := []impl.PatNode{{Kind: impl.PtRow, Kids: 199}}
	for range 199 {
		most = append(most, impl.PatNode{Kind: impl.PtSet, Set: everySecond(0, 16384)})
	}
	isShown(t, most, "")
	if impl.PatternFault(most) != impl.OK {
		t.Error("the longest pattern is not right")
	}
	// classes are read of fewer bytes than their sets have
	read := impl.ReadPattern(strings.Repeat(`\S0`, 199))
	isShown(t, read.Nodes, strings.Repeat(setShown(read.Nodes[1].Set), 199))
}

// eachPatternText hands on all short texts of some pieces.
func eachPatternText(look func(text string)) {
	alphabets := []string{`ab|*?()`, `(?:=!)a|`, `a{}0125,?+`, `[]^-\ab`, `()\1b2S|`, "\\uSz1[]a^-", "^$.*+a|(", "a\xFF[]\\(\u1000"}
	for _, alphabet := range alphabets {
		texts := []string{""}
		for range 6 {
			var longer []string
			for _, text := range texts {
				look(text)
				for at := 0; at < len(alphabet); {
					_, size := utf8.DecodeRuneInString(alphabet[at:])
					longer = append(longer, text+alphabet[at:at+size])
					at += size
				}
			}
			texts = longer
		}
	}
	points := signsOfPatterns()
	for length := range 4 {
		eachCutRow(points, length, look)
	}
}

func signsOfPatterns() []int64 {
	var points []int64
	for _, p := range "()[]{}|*+?^$.\\:=!-,01ab\nuS\u0251" {
		points = append(points, int64(p))
	}
	return points
}

func TestShortPatterns(t *testing.T) {
	codes := map[int64]int{}
	eachPatternText(func(text string) {
		want := patternPlainly(text)
		codes[want.Code]++
		isPattern(t, text, want)
		if want.Code == impl.OK {
			shown := impl.ShowPattern(want.Nodes)
			isPattern(t, shown, want)
			isText(t, "ShowPattern", text, impl.ShowPattern(impl.ReadPattern(shown).Nodes), shown)
		}
	})
	if codes[impl.OK] < 20000 || codes[impl.ErrSyntax] < 50000 {
		t.Errorf("the codes were %v", codes)
	}
}

// patternGrower makes right trees at random.
type patternGrower struct {
	*rand.Rand
	points []int64
	left   int // how many nodes may come still
	groups int64
	ended  []int64
}

func (grower *patternGrower) pattern(depth int) plainPattern {
	return grower.several(impl.PtOr, depth, grower.row)
}

func (grower *patternGrower) row(depth int) plainPattern {
	if grower.Intn(8) == 0 || grower.left <= 0 {
		return plainPattern{node: impl.PatNode{Kind: impl.PtEmpty}}
	}
	return grower.several(impl.PtRow, depth, grower.piece)
}

func (grower *patternGrower) several(kind int64, depth int, part func(depth int) plainPattern) plainPattern {
	count := max(1, grower.Intn(6)-1)
	if kind == impl.PtOr {
		count = max(1, grower.Intn(6)-3)
	}
	if count == 1 || depth <= 1 || grower.left < count {
		return part(depth)
	}
	grower.left -= count
	var parts []plainPattern
	for range count {
		parts = append(parts, part(depth-1))
	}
	return togetherAs(kind, parts)
}

func (grower *patternGrower) piece(depth int) plainPattern {
	kinds := []int64{impl.PtBegin, impl.PtEnd, impl.PtWord, impl.PtAhead, impl.PtNot}
	if at := grower.Intn(20); at < 3 || at < len(kinds) && depth > 1 {
		return grower.around(kinds[at], depth)
	}
	if depth > 1 && grower.Intn(3) == 0 {
		least := grower.Int63n(51)
		node := impl.PatNode{Kind: impl.PtTimes, Least: least, Most: []int64{-1, least, least + grower.Int63n(51-least)}[grower.Intn(3)], Way: grower.Int63n(3)}
		if grower.Intn(2) == 0 {
			node.Least, node.Most = grower.Int63n(2), -1
		}
		grower.left--
		return plainPattern{node, []plainPattern{grower.atom(depth - 1)}}
	}
	return grower.atom(depth)
}

// around has a pattern as kid, where the kind is of such nodes.
func (grower *patternGrower) around(kind int64, depth int) plainPattern {
	grower.left--
	tree := plainPattern{node: impl.PatNode{Kind: kind}}
	if kind == impl.PtGroup && grower.Intn(2) == 0 && grower.groups < 9 {
		grower.groups++
		tree.node.Num = grower.groups
	}
	if kind == impl.PtGroup || kind == impl.PtAhead || kind == impl.PtNot {
		tree.kids = []plainPattern{grower.pattern(depth - 1)}
	}
	if tree.node.Num > 0 {
		grower.ended = append(grower.ended, tree.node.Num)
	}
	return tree
}

func (grower *patternGrower) atom(depth int) plainPattern {
	grower.left--
	switch at := grower.Intn(10); {
	case at < 3 && depth > 1 && grower.left > 0:
		return grower.around(impl.PtGroup, depth)
	case at < 5:
		return plainPattern{node: impl.PatNode{Kind: impl.PtSet, Set: grower.set()}}
	case at < 6 && len(grower.ended) > 0:
		return plainPattern{node: impl.PatNode{Kind: impl.PtAgain, Num: grower.ended[grower.Intn(len(grower.ended))]}}
	case at < 7:
		return plainPattern{node: impl.PatNode{Kind: impl.PtAny}}
	}
	return plainPattern{node: impl.PatNode{Kind: impl.PtPoint, Num: grower.points[grower.Intn(len(grower.points))]}}
}

func (grower *patternGrower) set() []impl.Span {
	var set []impl.Span
	for at := grower.Int63n(50); at <= impl.LastKnown && (len(set) == 0 || grower.Intn(3) > 0); {
		last := min(at+grower.Int63n(4), impl.LastKnown)
		set = append(set, impl.Span{First: at, Last: last, Value: 1})
		at = last + 2 + grower.Int63n([]int64{1, 4, 60, 20000}[grower.Intn(4)])
	}
	return set
}

func randomPattern(r *rand.Rand) []impl.PatNode {
	grower := patternGrower{Rand: r, points: append(signsOfPatterns(), 'z', 0x1000, 0xFFFD, 0x10FFFF), left: 1 + r.Intn(90)}
	return grower.pattern(2 + r.Intn(19)).nodes()
}

// TestPatternsComeBackFromTheirText is the thirty-fifth promise.
func TestPatternsComeBackFromTheirText(t *testing.T) {
	r := rand.New(rand.NewSource(141))
	kinds, deepest, most := map[int64]int{}, 0, 0
	for range 40000 {
		nodes := randomPattern(r)
		tree, _, _ := treePlainly(nodes)
		if got := impl.PatternFault(nodes); got != impl.OK {
			t.Errorf("%+v have the fault %d", nodes, got)
		}
		isShown(t, nodes, tree.shown())
		isPattern(t, impl.ShowPattern(nodes), patternOf(nodes))
		for _, node := range nodes {
			kinds[node.Kind]++
		}
		deepest, most = max(deepest, tree.depth()), max(most, len(nodes))
	}
	if len(kinds) != 14 || deepest < 15 || most < 60 {
		t.Errorf("kinds %v, up to %d deep, up to %d nodes", kinds, deepest, most)
	}
	for kind, count := range kinds {
		if count < 1000 {
			t.Errorf("kind %d came %d times", kind, count)
		}
	}
	for text, may := range textsOfCounts() {
		if read := impl.ReadPattern(text); may {
			isPattern(t, impl.ShowPattern(read.Nodes), read)
		}
	}
}

// TestTextsNearPatterns changes some bytes of texts of patterns.
func TestTextsNearPatterns(t *testing.T) {
	r, pieces := rand.New(rand.NewSource(142)), []string{"", "", "(", ")", "(?:", "(?=", "?", "*", "+", "{2}", "{", "}", "{3,2}", "|", "[", "]", "^", "-", `\`, `\1`, `\2`, `\b`, `\S7`, `[^\u]`, "\xFF", "a", "z-a", "b"}
	codes := map[int64]int{}
	for range 30000 {
		tree, _, _ := treePlainly(randomPattern(r))
		text := []byte(tree.shown())
		for range r.Intn(4) {
			at := r.Intn(len(text) + 1)
			text = slices.Replace(text, at, min(len(text), at+r.Intn(2)), []byte(pieces[r.Intn(len(pieces))])...)
		}
		want := patternPlainly(string(text))
		codes[want.Code]++
		isPattern(t, string(text), want)
	}
	for range 30000 {
		text := ""
		for range r.Intn(12) {
			text += pieces[r.Intn(len(pieces))]
		}
		want := patternPlainly(text)
		codes[want.Code]++
		isPattern(t, text, want)
	}
	if codes[impl.OK] < 10000 || codes[impl.ErrSyntax] < 20000 {
		t.Errorf("the codes were %v", codes)
	}
}

func TestShownPatternsByHand(t *testing.T) {
	rows := [][2]string{
		// what is shown as it was read
		{"", ""}, {"a", "a"}, {"ab|c|", "ab|c|"}, {"(a)(?:b)(?=c)(?!d)", "(a)(?:b)(?=c)(?!d)"}, {`^a$.\b`, `^a$.\b`}, {`(a)\1`, `(a)\1`}, {`(a)\12`, `(a)\12`}, {"(|)", "(|)"}, {"(?:)*", "(?:)*"}, {"||", "||"}, {"(?=)(?!)()", "(?=)(?!)()"},
		// each of the times
		{"a*", "a*"}, {"a+", "a+"}, {"a?", "a?"}, {"a*?", "a*?"}, {"a*+", "a*+"}, {"a+?", "a+?"}, {"a++", "a++"}, {"a??", "a??"}, {"a?+", "a?+"}, {"a{0,}", "a*"}, {"a{1,}", "a+"}, {"a{0,1}", "a?"}, {"a{0,}+", "a*+"}, {"a{1,}?", "a+?"}, {"a{0,1}+", "a?+"}, {"a{0}", "a{0}"}, {"a{1}", "a{1}"}, {"a{1,1}", "a{1}"}, {"a{0,0}?", "a{0}?"}, {"a{2}", "a{2}"}, {"a{2}?", "a{2}?"}, {"a{2}+", "a{2}+"}, {"a{2,}", "a{2,}"}, {"a{2,}?", "a{2,}?"}, {"a{2,}+", "a{2,}+"}, {"a{2,3}", "a{2,3}"}, {"a{2,3}+", "a{2,3}+"}, {"a{50}", "a{50}"}, {"a{50,}", "a{50,}"}, {"a{0,50}", "a{0,50}"}, {"a{0,2}", "a{0,2}"}, {"a{1,2}", "a{1,2}"},
		// groups where a row or an or stands within times
		{"(?:ab)*", "(?:ab)*"}, {"(?:a|b)+?", "(?:a|b)+?"}, {"(ab){2,3}", "(ab){2,3}"}, {"(a|b)?", "(a|b)?"}, {"(?:a*)*", "(?:a*)*"}, {"(?:^)*", "(?:^)*"}, {"(?:a|)*", "(?:a|)*"},
		// points
		{`\(\)\[\]\{\}\|\*\+\?\^\$\.\\`, `\(\)\[\]\{\}\|\*\+\?\^\$\.\\`}, {`\-\,\=\!\:\ `, "-,=!: "}, {"\\\u1000\\\n", "\u1000\n"}, {"1a-", "1a-"}, {`(\?:a)`, `(\?:a)`}, {`a\{2\}`, `a\{2\}`}, {`a\*\?`, `a\*\?`}, {"\uFFFD\U0010FFFF", "\uFFFD\U0010FFFF"},
		// sets
		{"[a]", "[a]"}, {"[ab]", "[a-b]"}, {"[cba]", "[a-c]"}, {"[ac]", "[ac]"}, {"[a-a]", "[a]"}, {"[a-cx-z]", "[a-cx-z]"}, {"[.*+?(){}|$]", `[$(-+.?{-}]`}, {`[\]]`, `[\]]`}, {`[\[]`, `[\[]`}, {`[\-]`, `[\-]`}, {`[\^]`, `[\^]`}, {`[\\]`, `[\\]`}, {`[\[-\]]`, `[\[-\]]`}, {`[\--a]`, `[\--a]`}, {`[+-\-]`, `[+-\-]`}, {`[\]\[\\\-\^]`, `[\-\[-\^]`}, {`[\.\ ]`, "[ .]"}, {"[^a]", "[\x00-`b-\u7FFF]"}, {"[\x00-\u7FFF]", "[\x00-\u7FFF]"}, {`\z`, "[ \u00A0\u1F80]"}, {`[\za]`, "[ a\u00A0\u1F80]"}, {`\S9*`, "[\u6000-\u67FF]*"}, {"[ca-b]x{2,}+", "[a-c]x{2,}+"}, {`[^\^]`, "[\x00-\\]_-\u7FFF]"},
	}
	for _, row := range rows {
		read := impl.ReadPattern(row[0])
		isText(t, "ShowPattern", row[0], impl.ShowPattern(read.Nodes), row[1])
		isPattern(t, row[1], read)
		isPattern(t, row[1], patternPlainly(row[0]))
	}
}

// isWrongPattern asks each call that takes nodes.
func isWrongPattern(t *testing.T, what string, nodes []impl.PatNode) {
	t.Helper()
	if got := impl.PatternFault(nodes); got != impl.ErrForm {
		t.Errorf("%s: PatternFault tells %d", what, got)
	}
	if got := impl.ShowPattern(nodes); got != "" {
		t.Errorf("%s: shown as %+.50q", what, got)
	}
}

func TestWrongNodesByHand(t *testing.T) {
	rows := []string{
		// Kids that do not come out
		"", "pa pb", "row2 pa", "row2 pa pb pc", "row3 pa pb", "or2 pa", "or2 pa pb pc", "group1", "group0", "group1 pa pb", "ahead", "not", "ahead pa pb", "times0,1,0", "times0,1,0 pa pb", "row2 pa group1", "row2 group1 pa", "empty empty", "any pa", "or2 row2 pa pb", "row2", "or1000000000000", "row9223372036854775807 pa pb",
		// rows and ors
		"row0", "row1 pa", "or0", "or1 pa", "row-1", "or-2 pa pb", "row2 row2 pa pb pc", "row2 pa row2 pb pc", "or2 or2 pa pb pc", "or2 pa or2 pb pc", "row2 or2 pa pb pc", "row2 pa or2 pb pc", "row2 pa empty", "row2 empty pa", "row2 empty empty", "row3 pa empty pb", "group1 row1 pa", "or2 row1 pa pb", "or2 pa row2 pb empty",
		// times of times and of what has none
		"times0,-1,0 times0,-1,0 pa", "times0,-1,0 empty", "times0,-1,0 begin", "times0,-1,0 end", "times0,-1,0 word", "times0,-1,0 ahead pa", "times0,-1,0 not pa", "times0,-1,0 row2 pa pb", "times0,-1,0 or2 pa pb", "row2 pa times0,-1,0 begin", "times0,-1,0 group0 times0,-1,0 times0,-1,0 pa",
		// Least, Most and Way
		"times-1,-1,0 pa", "times0,-2,0 pa", "times51,-1,0 pa", "times51,51,0 pa", "times0,51,0 pa", "times50,51,0 pa", "times3,2,0 pa", "times1,0,0 pa", "times50,49,0 pa", "times0,1,-1 pa", "times0,1,3 pa", "times-1,1,0 pa", "times-9223372036854775808,-1,0 pa", "times0,9223372036854775807,0 pa", "times0,-9223372036854775808,0 pa", "times0,1,9223372036854775807 pa",
		// groups whose Num does not follow
		"group2 pa", "group-1 pa", "group10 pa", "row2 group1 pa group1 pb", "row2 group2 pa group1 pb", "row2 group1 pa group3 pb", "group2 group1 pa", "group1 group1 pa", "row2 group0 pa group2 pb", "row2 ahead group1 pa group1 pb", "group1 group3 pa", "row2 group1 group2 pa group2 pb", "group9223372036854775807 pa", "group-9223372036854775808 pa",
		// again of a group that has not ended, and that is none
		"again1", "again0", "again-1", "again10", "again9223372036854775807", "again-9223372036854775808", "group1 again1", "row2 again1 group1 pa", "row2 group1 pa again2", "row2 group1 pa again0", "row2 group0 pa again1", "group1 row2 group2 pa again1", "row2 group1 pa group2 again2", "row2 ahead pa again1", "or2 again1 group1 pa",
	}
	for _, row := range rows {
		isWrongPattern(t, row, nodesFrom(row))
		if isRightPlainly(nodesFrom(row)) {
			t.Errorf("plainly %s are right", row)
		}
	}
	isWrongPattern(t, "no list", nil)
	isWrongPattern(t, "an empty list", []impl.PatNode{})
}

// TestKindsThatAreNone has numbers that are no kind.
func TestKindsThatAreNone(t *testing.T) {
	for _, kind := range []int64{0, -1, 15, 16, 100, 1<<32 + 2, math.MaxInt64, math.MinInt64} {
		isWrongPattern(t, fmt.Sprint("kind ", kind), []impl.PatNode{{Kind: kind}})
		isWrongPattern(t, fmt.Sprint("a point of kind ", kind), []impl.PatNode{{Kind: kind, Num: 'a'}})
		isWrongPattern(t, fmt.Sprint("a kid of kind ", kind), []impl.PatNode{{Kind: impl.PtGroup, Kids: 1}, {Kind: kind}})
		isWrongPattern(t, fmt.Sprint("a kid below kind ", kind), []impl.PatNode{{Kind: kind, Kids: 1}, {Kind: impl.PtAny}})
	}
}

func TestPointsOfNodes(t *testing.T) {
	for _, p := range noPoints() {
		isWrongPattern(t, fmt.Sprint("point ", p), []impl.PatNode{{Kind: impl.PtPoint, Num: p}})
	}
	for _, p := range append(pointsApart(), 0xD7FF, 0xE000, impl.MaxPoint) {
		if impl.PatternFault([]impl.PatNode{{Kind: impl.PtPoint, Num: p}}) != impl.OK {
			t.Errorf("a point %X is not right", p)
		}
	}
}

// TestSetsOfNodes takes the spans that chapter 5 tells of, and sets that are none.
func TestSetsOfNodes(t *testing.T) {
	wrong := map[string][]impl.Span{
		"none": nil, "empty": {}, "side by side": spansFrom(spanRow{1, 2, 1}, spanRow{3, 4, 1}), "points side by side": spansFrom(spanRow{1, 1, 1}, spanRow{2, 2, 1}), "the last two side by side": spansFrom(spanRow{1, 1, 1}, spanRow{5, 6, 1}, spanRow{7, 7, 1}),
		"Value 0": spansFrom(spanRow{1, 2, 0}), "Value 2": spansFrom(spanRow{1, 2, 2}), "Value -1": spansFrom(spanRow{1, 2, -1}), "a later Value 0": spansFrom(spanRow{1, 2, 1}, spanRow{5, 6, 0}), "far Value": spansFrom(spanRow{1, 2, math.MaxInt64}),
		"all and one more": spansFrom(spanRow{0, impl.LastKnown + 1, 1}),
	}
	for what, spans := range wrongSpans() {
		// how many there are is no fault of a set that is a field
		if what != "more than MaxList" {
			wrong[what] = spans
		}
	}
	for what, spans := range wrong {
		isWrongPattern(t, what, []impl.PatNode{{Kind: impl.PtSet, Set: spans}})
		isWrongPattern(t, what, []impl.PatNode{{Kind: impl.PtRow, Kids: 2}, {Kind: impl.PtAny}, {Kind: impl.PtSet, Set: spans}})
	}
	for what, spans := range map[string][]impl.Span{
		"all": spansFrom(spanRow{0, impl.LastKnown, 1}), "first": spansFrom(spanRow{0, 0, 1}), "last": spansFrom(spanRow{impl.LastKnown, impl.LastKnown, 1}), "both ends": spansFrom(spanRow{0, 0, 1}, spanRow{impl.LastKnown, impl.LastKnown, 1}), "one apart": spansFrom(spanRow{1, 2, 1}, spanRow{4, 4, 1}, spanRow{6, 9, 1}),
	} {
		if impl.PatternFault([]impl.PatNode{{Kind: impl.PtSet, Set: spans}}) != impl.OK {
			t.Errorf("%s is no set", what)
		}
	}
}

// TestFieldsThatHaveToBeZero changes each field of each kind, where it has no meaning.
func TestFieldsThatHaveToBeZero(t *testing.T) {
	set := spansFrom(spanRow{1, 2, 1})
	for _, row := range []string{
		"empty", "pa", "any", "set61", "row2 pa pb", "or2 pa pb", "times2,3,1 pa", "group1 pa", "group0 pa", "begin", "end", "word", "ahead pa", "not pa", "row2 group1 pa again1",
	} {
		nodes := nodesFrom(row)
		if impl.PatternFault(nodes) != impl.OK {
			t.Errorf("%s is not right", row)
		}
		for at := range nodes {
			kind := nodes[at].Kind
			for _, number := range []int64{1, -1, 2, 55555, math.MaxInt64, math.MinInt64} {
				for field := range 6 {
					changed := slices.Clone(nodes)
					node := &changed[at]
					switch field {
					case 0:
						node.Num += number
					case 1:
						node.Least += number
					case 2:
						node.Most += number
					case 3:
						node.Way += number
					case 4:
						node.Kids += number
					case 5:
						node.Set = append(slices.Clone(node.Set), set...)
					}
					hasMeaning := kind == impl.PtPoint && field == 0 || kind == impl.PtTimes && field < 4 || kind == impl.PtGroup && field == 0
					if !hasMeaning && impl.PatternFault(changed) != impl.ErrForm {
						t.Errorf("%s with %d more in field %d of node %d is right", row, number, field, at)
					}
					if field < 4 || kind != impl.PtRow && kind != impl.PtOr {
						isFaultPlainly(t, changed)
					}
				}
			}
		}
	}
}

func isFaultPlainly(t *testing.T, nodes []impl.PatNode) {
	t.Helper()
	want := int64(impl.ErrForm)
	if isRightPlainly(nodes) {
		want = impl.OK
	}
	if got := impl.PatternFault(nodes); got != want {
		t.Errorf("PatternFault of %.500s: got %d, want %d", fmt.Sprintf("%+v", nodes), got, want)
	}
}

// TestShortLists has all lists of up to four of some nodes.
func TestShortLists(t *testing.T) {
	words := strings.Fields("empty pa any set61 row2 row3 or2 or3 times0,-1,0 group0 group1 group2 begin word ahead not again1 again2")
	counts := map[bool]int{}
	rows := []string{""}
	for range 4 {
		var longer []string
		for _, row := range rows {
			for _, word := range words {
				longer = append(longer, row+" "+word)
				nodes := nodesFrom(row + " " + word)
				isFaultPlainly(t, nodes)
				counts[impl.PatternFault(nodes) == impl.OK]++
			}
		}
		rows = longer
	}
	if counts[true] < 1000 || counts[false] < 50000 {
		t.Errorf("right and wrong were %v", counts)
	}
}

// changedNodes are nodes with something else in one place.
func changedNodes(r *rand.Rand, nodes []impl.PatNode) []impl.PatNode {
	at, other := r.Intn(len(nodes)), nodes[r.Intn(len(nodes))]
	step := []int64{1, -1, 2, 1000}[r.Intn(4)]
	node := &nodes[at]
	switch r.Intn(10) {
	case 0:
		node.Kind += step
	case 1:
		node.Num += step
	case 2:
		node.Least += step
	case 3:
		node.Most += step
	case 4:
		node.Way += step
	case 5:
		node.Kids += []int64{1, -1, 2}[r.Intn(3)]
	case 6:
		node.Set = append(slices.Clone(node.Set), impl.Span{First: r.Int63n(60), Last: r.Int63n(90), Value: 1})
	case 7:
		return slices.Delete(nodes, at, at+1)
	case 8:
		return slices.Insert(nodes, at, other)
	case 9:
		nodes[at] = other
	}
	return nodes
}

func TestNodesNearPatterns(t *testing.T) {
	r := rand.New(rand.NewSource(143))
	counts := map[bool]int{}
	for range 30000 {
		nodes := randomPattern(r)
		for range 1 + r.Intn(3) {
			if len(nodes) > 0 {
				nodes = changedNodes(r, nodes)
			}
		}
		isFaultPlainly(t, nodes)
		counts[isRightPlainly(nodes)]++
		if impl.PatternFault(nodes) == impl.OK {
			isPattern(t, impl.ShowPattern(nodes), patternOf(nodes))
		} else {
			isShown(t, nodes, "")
		}
	}
	if counts[true] < 1000 || counts[false] < 10000 {
		t.Errorf("right and wrong were %v", counts)
	}
}

// TestCountsOfNodes takes nodes of texts that may not be.
func TestCountsOfNodes(t *testing.T) {
	for text, may := range textsOfCounts() {
		reader := plainPatternReader{text: text, ended: map[int64]bool{}}
		nodes := reader.pattern().nodes()
		if may != (impl.PatternFault(nodes) == impl.OK) {
			t.Errorf("the nodes of %+.50q, right: %t", text, !may)
		}
		if !may {
			isWrongPattern(t, text, nodes)
		}
	}
	for _, count := range []int64{199, 200, 999, 1000, 5000} {
		many := []impl.PatNode{{Kind: impl.PtRow, Kids: count}}
		for range count {
			many = append(many, impl.PatNode{Kind: impl.PtAny})
		}
		if count == 199 {
			isShown(t, many, strings.Repeat(".", 199))
			continue
		}
		isWrongPattern(t, fmt.Sprint(count, " nodes and their row"), many)
	}
	deep := nodesFrom(strings.Repeat("group0 ", 50000) + "pa")
	isWrongPattern(t, "50000 deep", deep)
	isWrongPattern(t, "MaxList and one more", deep[:impl.MaxList+1])
	isWrongPattern(t, "21 deep", nodesFrom(strings.Repeat("group0 ", 20)+"pa"))
	isShown(t, nodesFrom(strings.Repeat("group0 ", 19)+"pa"), nested("(?:", "a", ")", 19))
}

// spareNodes has room behind each list.
func spareNodes(nodes []impl.PatNode) []impl.PatNode {
	nodes = spare(nodes)
	for at := range nodes {
		if len(nodes[at].Set) > 0 {
			nodes[at].Set = spare(nodes[at].Set)
		}
	}
	return nodes
}

func TestPatternsAreNewMemory(t *testing.T) {
	text := strings.Clone(`(a|[x-zb])*\u\u[\S1\S1]|[^\z](?=\z)\1`)
	nodes := spareNodes(impl.ReadPattern(text).Nodes)
	told := func() string {
		row := fmt.Sprint(text, nodes[:cap(nodes)])
		for _, node := range nodes {
			row += fmt.Sprint(node.Set[:cap(node.Set)])
		}
		return row
	}
	given := told()
	first := fmt.Sprint(impl.ReadPattern(text), impl.ShowPattern(nodes), impl.PatternFault(nodes))
	for range 3 {
		read, shown := impl.ReadPattern(text), impl.ShowPattern(nodes)
		isApart(t, "ShowPattern", []string{shown}, text)
		if again := fmt.Sprint(read, shown, impl.PatternFault(nodes)); again != first {
			t.Errorf("asked again: %s, want %s", again, first)
		}
		for at := range read.Nodes {
			before := fmt.Sprint(slices.Delete(slices.Clone(read.Nodes), at, at+1))
			set := read.Nodes[at].Set
			clear(set[:cap(set)])
			if after := fmt.Sprint(slices.Delete(slices.Clone(read.Nodes), at, at+1)); after != before {
				t.Errorf("two sets share their memory: %s became %s", before, after)
			}
		}
		clear(read.Nodes[:cap(read.Nodes)])
		if got := told(); got != given {
			t.Errorf("what was given became %s, it was %s", got, given)
		}
	}
}
