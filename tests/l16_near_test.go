package tests

import (
	"fmt"
	"iter"
	"math"
	"math/rand"
	"regexp"
	"runtime"
	"slices"
	"strings"
	"sync"
	"testing"

	"loop.example/g00044/impl"
)

// costsFrom reads the five numbers `put drop change kin turn`, and the kins behind them.
func costsFrom(row string, kins ...string) impl.Costs {
	var c impl.Costs
	if _, err := fmt.Sscan(row, &c.Put, &c.Drop, &c.Change, &c.Kin, &c.Turn); err != nil {
		panic(row)
	}
	c.Kins = kins
	return c
}

// numbersAt tells the five numbers one by one, to be set.
func numbersAt(c *impl.Costs) map[string]*int64 {
	return map[string]*int64{"Put": &c.Put, "Drop": &c.Drop, "Change": &c.Change, "Kin": &c.Kin, "Turn": &c.Turn}
}

func areRightCosts(c impl.Costs) bool {
	seen := map[int64]bool{}
	for _, kin := range c.Kins {
		points := readPlainly(kin)
		if textWritten(points...) != kin || len(points) < 2 || len(points) > 10 {
			return false
		}
		for _, p := range points {
			if seen[p] {
				return false
			}
			seen[p] = true
		}
	}
	for _, number := range numbersAt(&c) {
		if *number < 0 || *number > 1000 {
			return false
		}
	}
	return c.Put > 0 && c.Drop > 0 && c.Kin <= c.Change && c.Change-c.Put <= c.Drop && len(c.Kins) <= 50
}

// isCosts asks all calls that take costs whether these are right.
func isCosts(t *testing.T, what string, c impl.Costs, right bool) {
	t.Helper()
	if areRightCosts(c) != right {
		t.Errorf("%s: read plainly, right is %t", what, !right)
	}
	want := map[bool]int64{true: 0, false: impl.ErrForm}[right]
	if got := impl.CostsFault(c); got != want {
		t.Errorf("CostsFault of %s, %+v: got %d, want %d", what, c, got, want)
	}
	if got := impl.Distance(c, "a", "a"); got != map[bool]int64{true: 0, false: -1}[right] {
		t.Errorf("Distance by %s: got %d", what, got)
	}
	edits, near := impl.EditsOf(c, "a", "a"), impl.NearWords(c, []string{"a"}, "a", 5)
	if (len(edits) == 1) != right || (len(near) == 1) != right {
		t.Errorf("EditsOf and NearWords by %s: got %v and %v", what, edits, near)
	}
}

func TestCostsOfNumbers(t *testing.T) {
	for name := range numbersAt(&impl.Costs{}) {
		for _, number := range []int64{math.MinInt64, -1, 0, 1, 999, 1000, 1001, math.MaxInt64} {
			for _, others := range []string{"1000 1000 1000 0 0", "1000 1000 1000 1000 1000", "1 1 0 0 0", "1 1 2 2 1", "500 500 1000 500 1000"} {
				c := costsFrom(others)
				*numbersAt(&c)[name] = number
				isCosts(t, fmt.Sprint(name, " at ", number, " of ", others), c, areRightCosts(c))
			}
		}
	}
}

func TestCostsByHand(t *testing.T) {
	for row, right := range map[string]bool{
		"1 1 0 0 0": true, "0 1 0 0 0": false, "1 0 0 0 0": false, "0 0 0 0 0": false,
		"-1 1 0 0 0": false, "1 -1 0 0 0": false, "1 1 -1 -1 0": false, "1 1 -1 0 0": false, "1 1 1 -1 0": false, "1 1 1 1 -1": false,
		"1000 1000 1000 1000 1000": true, "1001 1000 1000 1000 1000": false, "1000 1001 1000 1000 1000": false,
		"1000 1000 1001 1000 1000": false, "1000 1000 1001 1001 1000": false, "1000 1000 1000 1000 1001": false,
		"3 3 4 4 0": true, "3 3 4 5 0": false, "3 3 0 1 0": false, "3 3 4 0 0": true,
		"2 3 5 0 0": true, "2 3 6 0 0": false, "3 2 5 5 0": true, "3 2 6 6 0": false, "1 1 3 0 0": false, "999 1 1000 0 0": true, "998 1 1000 0 0": false,
		"9223372036854775807 9223372036854775807 0 0 0": false, "1 1 2 2 1000": true, "1 1 2 2 9223372036854775807": false,
	} {
		isCosts(t, row, costsFrom(row), right)
	}
	isCosts(t, "nothing", impl.Costs{}, false)
}

// kinsOfTwo are so many, of two points each.
func kinsOfTwo(count int) []string {
	var kins []string
	for i := range int64(count) {
		kins = append(kins, textWritten(0x6000+2*i, 0x6001+2*i))
	}
	return kins
}

func TestCostsOfKins(t *testing.T) {
	for name, row := range map[string]struct {
		kins  []string
		right bool
	}{
		"none": {nil, true}, "an empty list": {[]string{}, true}, "two points": {[]string{"ab"}, true}, "an empty one": {[]string{""}, false},
		"one point": {[]string{"a"}, false}, "one point of four bytes": {[]string{"\U00010000"}, false}, "one of one point behind another": {[]string{"ab", "c"}, false},
		"ten points": {[]string{"abcdefghij"}, true}, "eleven": {[]string{"abcdefghijk"}, false},
		"ten of four bytes":    {[]string{textWritten(0x10000, 0x10001, 0x10002, 0x10003, 0x10004, 0x10005, 0x10006, 0x10007, 0x10008, impl.MaxPoint)}, true},
		"eleven of four bytes": {[]string{textWritten(0x10000, 0x10001, 0x10002, 0x10003, 0x10004, 0x10005, 0x10006, 0x10007, 0x10008, 0x10009, 0x1000A)}, false},
		"broken bytes":         {[]string{"ab\xff"}, false}, "broken bytes alone": {[]string{"\xc3\x28"}, false}, "a point cut off": {[]string{"ab", "cd\xe2\x80"}, false},
		"a written U+FFFD": {[]string{"a\ufffd"}, true}, "a point that is half of one": {[]string{"a\xed\xa0\x80"}, false}, "a longer writing": {[]string{"a\xc1\xa1"}, false},
		"twice in one": {[]string{"aba"}, false}, "twice side by side": {[]string{"aa"}, false}, "twice in two": {[]string{"ab", "bc"}, false}, "alike ones": {[]string{"ab", "cd", "ab"}, false},
		"cases apart": {[]string{"aB", "Ab"}, true}, "U+0": {[]string{"\x00\x01"}, true}, "marks": {[]string{"\u1000\u1001", "a\u1002"}, true},
		"fifty": {kinsOfTwo(50), true}, "fifty-one": {kinsOfTwo(51), false}, "one that is too long": {[]string{strings.Repeat("\u6000", 30000)}, false},
		"a thousand and one": {kinsOfTwo(1001), false}, "broken at the last": {append(kinsOfTwo(49), "a\xff"), false}, "twice at the last": {append(kinsOfTwo(49), "a\u6000"), false},
	} {
		isCosts(t, name, costsFrom("1 1 1 1 1", row.kins...), row.right)
	}
}

func TestCostsPlainly(t *testing.T) {
	r := rand.New(rand.NewSource(161))
	rights := 0
	for range 20000 {
		var c impl.Costs
		for _, number := range numbersAt(&c) {
			*number = []int64{-1, 0, 1, 2, 3, 499, 500, 501, 999, 1000, 1001}[r.Intn(11)]
		}
		for range r.Intn(3) {
			c.Kins = append(c.Kins, textWritten(int64('a'+r.Intn(6)), int64('a'+r.Intn(6)), int64('g'+r.Intn(20))))
		}
		if areRightCosts(c) {
			rights++
		}
		isCosts(t, "random", c, areRightCosts(c))
	}
	if rights < 500 {
		t.Errorf("only %d of them are right", rights)
	}
}

// charsPlainly asks Chars of long texts, which the plain cuts take too long for.
func charsPlainly(text string) []string {
	if len(text) > 200 {
		return impl.Chars(text)
	}
	return piecesPlainly(text, plainCharCuts(text))
}

// changePlainly is what it costs to change a character to an unlike one.
func changePlainly(c impl.Costs, a string, b string) int64 {
	x, y := readPlainly(a), readPlainly(b)
	if len(x) != 1 || len(y) != 1 {
		return c.Change
	}
	inOne := slices.ContainsFunc(c.Kins, func(kin string) bool {
		points := readPlainly(kin)
		return slices.Contains(points, x[0]) && slices.Contains(points, y[0])
	})
	if inOne || slices.Equal(plainFold(x), plainFold(y)) {
		return c.Kin
	}
	return c.Change
}

// plainRow is a row of edits, and what they cost.
type plainRow struct {
	edits []impl.EditStep
	cost  int64
}

func (row plainRow) behind(kind int64, text string, cost int64) plainRow {
	return plainRow{append([]impl.EditStep{{Kind: kind, Text: text}}, row.edits...), cost + row.cost}
}

// eachRowOfEdits tells all rows of edits, in the order in which of several as good the first is told.
func eachRowOfEdits(c impl.Costs, from []string, to []string) iter.Seq[plainRow] {
	return func(yield func(plainRow) bool) {
		if len(from)+len(to) == 0 {
			yield(plainRow{})
			return
		}
		goOn := func(takes int, puts int, kind int64, text string, cost int64) bool {
			for row := range eachRowOfEdits(c, from[takes:], to[puts:]) {
				if !yield(row.behind(kind, text, cost)) {
					return false
				}
			}
			return true
		}
		both := len(from) > 0 && len(to) > 0
		if both && from[0] == to[0] && !goOn(1, 1, impl.EsKeep, from[0], 0) {
			return
		}
		if both && from[0] != to[0] && !goOn(1, 1, impl.EsChange, to[0], changePlainly(c, from[0], to[0])) {
			return
		}
		two := len(from) > 1 && len(to) > 1
		if two && from[0] != from[1] && from[0]+"|"+from[1] == to[1]+"|"+to[0] && !goOn(2, 2, impl.EsTurn, from[0]+from[1], c.Turn) {
			return
		}
		if len(from) > 0 && !goOn(1, 0, impl.EsDrop, from[0], c.Drop) {
			return
		}
		if len(to) > 0 {
			goOn(0, 1, impl.EsPut, to[0], c.Put)
		}
	}
}

func bestRowOfEdits(c impl.Costs, a string, b string) plainRow {
	best := plainRow{cost: -1}
	for row := range eachRowOfEdits(c, charsPlainly(a), charsPlainly(b)) {
		if best.cost < 0 || row.cost < best.cost {
			best = row
		}
	}
	return best
}

// distancePlainly goes from the left, and tells the least at the end alone.
func distancePlainly(c impl.Costs, a string, b string) int64 {
	from, to := charsPlainly(a), charsPlainly(b)
	least := make([][]int64, len(from)+1)
	for i := range least {
		least[i] = make([]int64, len(to)+1)
		for j := range least[i] {
			least[i][j] = int64(i)*c.Drop + int64(j)*c.Put
			if i > 0 {
				least[i][j] = min(least[i][j], least[i-1][j]+c.Drop)
			}
			if j > 0 {
				least[i][j] = min(least[i][j], least[i][j-1]+c.Put)
			}
			if i > 0 && j > 0 && from[i-1] == to[j-1] {
				least[i][j] = min(least[i][j], least[i-1][j-1])
			}
			if i > 0 && j > 0 && from[i-1] != to[j-1] {
				least[i][j] = min(least[i][j], least[i-1][j-1]+changePlainly(c, from[i-1], to[j-1]))
			}
			if i > 1 && j > 1 && from[i-1] == to[j-2] && from[i-2] == to[j-1] && from[i-1] != from[i-2] {
				least[i][j] = min(least[i][j], least[i-2][j-2]+c.Turn)
			}
		}
	}
	return least[len(from)][len(to)]
}

// doneWith does the edits to a, and tells what comes and what that costs; ok where each edit fits.
func doneWith(c impl.Costs, edits []impl.EditStep, a string) (text string, cost int64, ok bool) {
	rest := charsPlainly(a)
	for _, edit := range edits {
		taken := map[int64]int{impl.EsKeep: 1, impl.EsDrop: 1, impl.EsChange: 1, impl.EsTurn: 2, impl.EsPut: 0}[edit.Kind]
		if taken > len(rest) {
			return "", 0, false
		}
		had := rest[:taken]
		rest = rest[taken:]
		if edit.Kind != impl.EsPut && edit.Kind != impl.EsChange && strings.Join(had, "") != edit.Text {
			return "", 0, false
		}
		switch edit.Kind {
		case impl.EsKeep:
			text += edit.Text
		case impl.EsPut:
			text, cost = text+edit.Text, cost+c.Put
		case impl.EsDrop:
			cost += c.Drop
		case impl.EsChange:
			text, cost = text+edit.Text, cost+changePlainly(c, had[0], edit.Text)
		case impl.EsTurn:
			text, cost = text+had[1]+had[0], cost+c.Turn
		default:
			return "", 0, false
		}
	}
	return text, cost, len(rest) == 0
}

func isDistance(t *testing.T, c impl.Costs, a string, b string, want int64) {
	t.Helper()
	if got := impl.Distance(c, a, b); got != want {
		t.Errorf("Distance by %+v of %d bytes, %+.100q, and %d, %+.100q: got %d, want %d", c, len(a), a, len(b), b, got, want)
	}
}

// isMade looks at P39.
func isMade(t *testing.T, c impl.Costs, a string, b string) {
	t.Helper()
	edits := impl.EditsOf(c, a, b)
	text, cost, ok := doneWith(c, edits, a)
	if distance := impl.Distance(c, a, b); !ok || text != b || cost != distance {
		t.Errorf("EditsOf by %+v of %+q and %+q: %v make %+q (%t) of it and cost %d, Distance %d", c, a, b, edits, text, ok, cost, distance)
	}
}

func areEdits(t *testing.T, c impl.Costs, a string, b string, want plainRow) {
	t.Helper()
	isDistance(t, c, a, b, want.cost)
	if got := impl.EditsOf(c, a, b); !slices.Equal(got, want.edits) {
		t.Errorf("EditsOf by %+v of %+q and %+q: got %+v, want %+v", c, a, b, got, want.edits)
	}
}

// isNotMeasured asks all calls of two texts that cannot be measured.
func isNotMeasured(t *testing.T, what string, c impl.Costs, a string, b string) {
	t.Helper()
	isDistance(t, c, a, b, -1)
	if got := impl.EditsOf(c, a, b); len(got) > 0 {
		t.Errorf("EditsOf, %s: got %+.200q", what, fmt.Sprint(got))
	}
	if got := impl.NearWords(c, []string{b}, a, math.MaxInt64); len(got) > 0 {
		t.Errorf("NearWords, %s: got %+.200q", what, fmt.Sprint(got))
	}
}

// editsFrom reads =kept +put -dropped ~changed %turned.
func editsFrom(row string) (edits []impl.EditStep) {
	kinds := map[string]int64{"=": impl.EsKeep, "+": impl.EsPut, "-": impl.EsDrop, "~": impl.EsChange, "%": impl.EsTurn}
	for word := range strings.SplitSeq(row, " ") {
		if word != "" {
			edits = append(edits, impl.EditStep{Kind: kinds[word[:1]], Text: word[1:]})
		}
	}
	return edits
}

func TestEditsByHand(t *testing.T) {
	for _, row := range []struct {
		costs string
		a     string
		b     string
		cost  int64
		edits string
	}{
		{"1 1 1 1 1", "", "", 0, ""}, {"1 1 1 1 1", "a", "a", 0, "=a"}, {"1 1 1 0 1", "a", "", 1, "-a"}, {"1 1 1 0 1", "", "a", 1, "+a"},
		{"3 5 8 0 1", "", "abc", 9, "+a +b +c"}, {"3 5 8 0 1", "abc", "", 15, "-a -b -c"},
		{"1 1 1 1 1", "abc", "abc", 0, "=a =b =c"}, {"1 1 1 1 1", "abc", "axc", 1, "=a ~x =c"},
		{"1 1 1 1 1", "abc", "abxc", 1, "=a =b +x =c"}, {"1 1 1 1 1", "abxc", "abc", 1, "=a =b -x =c"},
		{"1 1 1 1 1", "kitten", "sitting", 3, "~s =i =t =t ~i =n +g"},
		{"1 1 1 1 1", "ab", "ba", 1, "%ab"}, {"1 1 1 1 0", "xaby", "xbay", 0, "=x %ab =y"},
		{"1 1 1 1 1", "ca", "abc", 3, "~a ~b +c"},
		// Two alike ones are not turned, which would cost nothing here.
		{"9 9 9 9 0", "aa", "aa", 0, "=a =a"}, {"9 9 9 9 0", "aab", "aba", 0, "=a %ab"}, {"9 9 9 9 0", "abab", "baba", 0, "%ab %ab"},
		// A turn that costs more than two changes, as much, and less.
		{"2 2 2 2 5", "ab", "ba", 4, "~b ~a"}, {"2 2 2 2 4", "ab", "ba", 4, "~b ~a"}, {"2 2 2 2 3", "ab", "ba", 3, "%ab"},
		{"1 1 0 0 0", "ab", "ba", 0, "~b ~a"}, {"1 1 0 0 0", "ab", "cdx", 1, "~c ~d +x"}, {"1 1 2 0 9", "aB", "Ab", 0, "~A ~b"},
		// Each one is in one edit: what is turned stays as it is then.
		{"9 9 9 9 1", "ab", "bxa", 27, "~b ~x +a"}, {"9 9 9 9 1", "abc", "bca", 18, "-a =b =c +a"}, {"9 9 9 9 1", "abc", "bac", 1, "%ab =c"},
		// A change costs as much as a put and a drop.
		{"2 3 5 0 0", "a", "b", 5, "~b"}, {"2 3 5 5 0", "a", "A", 5, "~A"},
		{"1 1 1 1 1", "a\u1000b", "ab", 1, "~a =b"}, {"1 1 1 0 1", "a\u1000b", "ba\u1000", 1, "%a\u1000b"}, {"1 1 1 0 1", "\r\na", "\na", 1, "~\n =a"},
		{"1 1 1 0 1", "\u1e50\u1e51", "\u1e51\u1e50", 1, "~\u1e51\u1e50"},
	} {
		areEdits(t, costsFrom(row.costs), row.a, row.b, plainRow{editsFrom(row.edits), row.cost})
		isMade(t, costsFrom(row.costs), row.a, row.b)
	}
}

// TestFirstOfSeveralRows has rows of edits that cost the same, the first edit that differs being another
// one. Of keep, change and turn no two but change and turn can be done at one place.
func TestFirstOfSeveralRows(t *testing.T) {
	for _, row := range []struct {
		name  string
		costs string
		a     string
		b     string
		edits string
		other string
	}{
		{"keep, drop", "1 1 1 1 1", "aa", "a", "=a -a", "-a =a"},
		{"keep, put", "1 1 1 1 1", "a", "aa", "=a +a", "+a =a"},
		{"change, turn", "3 3 2 2 4", "ab", "ba", "~b ~a", "%ab"},
		{"change, drop", "3 3 2 2 4", "ab", "c", "~c -b", "-a ~c"},
		{"change, drop and put", "1 1 2 2 4", "a", "c", "~c", "-a +c"},
		{"change, put", "3 3 2 2 4", "a", "bc", "~b +c", "+b ~c"},
		{"change, put and drop", "1 1 2 2 4", "a", "c", "~c", "+c -a"},
		{"turn, drop", "1 1 2 2 2", "ab", "ba", "%ab", "-a =b +a"},
		{"turn, put", "1 1 2 2 2", "ab", "ba", "%ab", "+b =a -b"},
		{"drop, put", "1 1 2 2 9", "ab", "ba", "-a =b +a", "+b =a -b"},
		{"drop, put of unlike costs", "1 2 3 3 9", "ab", "ba", "-a =b +a", "+b =a -b"},
		{"keep, drop of kin", "1 1 0 0 1", "aA", "A", "~A -A", "-a =A"},
	} {
		c := costsFrom(row.costs)
		text, cost, ok := doneWith(c, editsFrom(row.other), row.a)
		if !ok || text != row.b {
			t.Errorf("%s: %s makes %q of %q", row.name, row.other, text, row.a)
		}
		areEdits(t, c, row.a, row.b, plainRow{editsFrom(row.edits), cost})
	}
}

func TestKinsByHand(t *testing.T) {
	kins := []string{"abc", "xyz\u0230", "\u1000\u1001", "\ufffd1", "Dq"}
	for _, row := range []struct {
		a   string
		b   string
		kin bool
	}{
		{"a", "b", true}, {"b", "a", true}, {"a", "c", true}, {"x", "\u0230", true}, {"a", "x", false}, {"a", "d", false}, {"e", "f", false}, {"x", "d", false},
		// What differs by Fold alone, in Kins or not; and what would be in one of Kins if it were folded.
		{"a", "A", true}, {"A", "a", true}, {"e", "E", true}, {"e", "\u2604", true}, {"\u2604", "E", true}, {"A", "b", false}, {"A", "B", false}, {"D", "q", true}, {"d", "q", false}, {"d", "D", true},
		{"\u0200", "\u0220", true}, {"\u0240", "\u0244", true}, {"\u0244", "\u0248", true}, {"\u0200", "\u0221", false}, {"\u0200", "\u0320", false},
		{"\u0261", "\u0232", true}, {"\u0261", "\u0212", true}, {"\u0361", "\u0332", true}, {"\u0261", "\u0332", false}, {"\u0260", "\u0232", false}, {"\u0260", "\u0261", false},
		{"\u2000", "\u20d0", true}, {"\u2000", "\u2001", false}, {"\u2000", "A", false}, {"\u20d0", "a", false}, {"\u2700", "A", false}, {"\u00a0", " ", false}, {"0", "\u2720", false},
		// Characters of several points have no kin.
		{"a\u1000", "A\u1000", false}, {"a\u1000", "a", false}, {"a", "a\u1000", false}, {"a\u1000", "b", false}, {"a", "b\u1000", false}, {"a\u1000", "\u20d0", false}, {"a\u1000", "a\u1001", false}, {"A\u1000", "a", false},
		// Marks by themselves are characters.
		{"\u1000", "\u1001", true}, {"\u1000", "\u1002", false},
		// Bytes that are no point's are the point Broken, each by itself.
		{"\xff", "\xfe", true}, {"\xff", "\ufffd", true}, {"\xff", "1", true}, {"1", "\xe2", true}, {"\xff", "a", false}, {"\xff", "\ufffe", false},
	} {
		for _, numbers := range []string{"10 10 7 3 10", "10 10 0 0 10", "10 10 7 7 0", "10 10 20 0 10", "10 10 7 0 10"} {
			c := costsFrom(numbers, kins...)
			cost := c.Change
			if row.kin {
				cost = c.Kin
			}
			areEdits(t, c, row.a, row.b, plainRow{[]impl.EditStep{{Kind: impl.EsChange, Text: row.b}}, cost})
			isMade(t, c, row.a, row.b)
			isDistance(t, c, "\n"+row.a+"\n", "\n"+row.b+"\n", cost)
		}
	}
}

// TestKinsOfAllLetters holds each point against those that it folds to and comes from, and the ones beside it.
func TestKinsOfAllLetters(t *testing.T) {
	c := costsFrom("9 9 5 2 9", "Az", "\u0200\u2000")
	for _, p := range pointsApart() {
		if p > 0x3100 {
			continue
		}
		for _, q := range append(casesPlainly(p), plainTrio(p).lower, plainTrio(p).upper, plainTrio(p).title, p+1, p+0x20, 'z', 0x2000) {
			a, b := textWritten(p), textWritten(q)
			want := changePlainly(c, a, b)
			if p == q {
				want = 0
			}
			isDistance(t, c, a, b, want)
		}
	}
}

func TestEditsOfBrokenBytes(t *testing.T) {
	c := costsFrom("5 5 3 1 2")
	for _, row := range []struct {
		a     string
		b     string
		cost  int64
		edits string
	}{
		{"\xff", "\xff", 0, "=\xff"}, {"\xff", "\xfe", 1, "~\xfe"}, {"a\xff", "\xffa", 2, "%a\xff"}, {"\xff\xfe", "\xfe\xff", 2, "~\xfe ~\xff"},
		{"\xe2\x80", "\xe2", 5, "=\xe2 -\x80"}, {"", "\xe2\x80", 10, "+\xe2 +\x80"}, {"\xff\u1000", "\xff", 3, "~\xff"}, {"\xff\u1000", "\ufffd\u1000", 3, "~\ufffd\u1000"},
		{"\xff\u1000", "\xff\u1000", 0, "=\xff\u1000"}, {"\xffb", "\ufffdb", 1, "~\ufffd =b"}, {"\xed\xa0\x80", "", 15, "-\xed -\xa0 -\x80"},
	} {
		areEdits(t, c, row.a, row.b, plainRow{editsFrom(row.edits), row.cost})
		isMade(t, c, row.a, row.b)
	}
}

// costsOfAllKinds have each relation of the numbers.
func costsOfAllKinds() []impl.Costs {
	return []impl.Costs{
		costsFrom("1 1 1 0 1"), costsFrom("1 1 1 1 1"), costsFrom("1 1 0 0 0"), costsFrom("1 1 2 2 2"), costsFrom("1 1 2 1 0"), costsFrom("2 3 5 0 4", "aA", "b\u1000"),
		costsFrom("3 2 4 2 5", "ab"), costsFrom("1 9 10 10 1000", "ab\ufffd"), costsFrom("9 1 3 1 3", "bA"), costsFrom("1000 1000 1000 1000 1000"), costsFrom("1 1000 1000 0 1"), costsFrom("5 5 3 1 6", "Ab\u1000"),
	}
}

// TestAllShortEdits goes through all rows of edits of all short texts.
func TestAllShortEdits(t *testing.T) {
	var texts []string
	for count := range 4 {
		eachCutRow([]int64{'a', 'b', 'A', 0x1000}, count, func(text string) { texts = append(texts, text) })
	}
	texts = append(texts, "\xff", "\xfe\xff", "a\xffb", "\ufffd")
	for _, a := range texts {
		for at, b := range texts {
			c := costsOfAllKinds()[(len(a)+at)%len(costsOfAllKinds())]
			areEdits(t, c, a, b, bestRowOfEdits(c, a, b))
			isMade(t, c, a, b)
		}
	}
}

func TestAllLongerEdits(t *testing.T) {
	var texts []string
	for count := range 5 {
		eachCutRow([]int64{'a', 'b'}, count, func(text string) { texts = append(texts, text) })
	}
	for _, c := range costsOfAllKinds() {
		for _, a := range texts {
			for at, b := range texts {
				if at%2 == 0 || len(a) < 4 {
					areEdits(t, c, a, b, bestRowOfEdits(c, a, b))
				}
			}
		}
	}
}

func nearAlphabet() []int64 {
	return []int64{'a', 'b', 'c', 'A', 'B', 0x2600, 0x1000, 0x212, 0x232, 0x261, 0x260, 0x700, 0x720, 0x1E50, 0x20D0, ' ', impl.Broken}
}

func randomCosts(r *rand.Rand) impl.Costs {
	for {
		var c impl.Costs
		for _, number := range numbersAt(&c) {
			*number = []int64{0, 1, 2, 3, 4, 7, 1000}[r.Intn(7)]
		}
		shuffled := nearAlphabet()
		r.Shuffle(len(shuffled), func(i int, j int) { shuffled[i], shuffled[j] = shuffled[j], shuffled[i] })
		for at := range r.Intn(4) {
			c.Kins = append(c.Kins, textWritten(shuffled[4*at:4*at+2+r.Intn(3)]...))
		}
		if areRightCosts(c) {
			return c
		}
	}
}

// nearTo changes a text at some places, so that there is something to keep.
func nearTo(r *rand.Rand, text string) string {
	chars := charsPlainly(text)
	for range r.Intn(5) {
		at := r.Intn(len(chars) + 1)
		piece := randomNormText(r, nearAlphabet(), 2)
		switch {
		case at == len(chars) || r.Intn(3) == 0:
			chars = slices.Insert(chars, at, piece)
		case at > 0 && r.Intn(2) == 0:
			chars[at-1], chars[at] = chars[at], chars[at-1]
		default:
			chars[at] = piece
		}
	}
	return strings.Join(chars, "")
}

func TestRandomEdits(t *testing.T) {
	r := rand.New(rand.NewSource(162))
	for range 3000 {
		c, a := randomCosts(r), randomNormText(r, nearAlphabet(), 5)
		for _, b := range []string{nearTo(r, a), randomNormText(r, nearAlphabet(), 5), cutBytes(r, a)} {
			if len(charsPlainly(b)) < 7 {
				areEdits(t, c, a, b, bestRowOfEdits(c, a, b))
			}
		}
	}
	for range 2000 {
		c, a := randomCosts(r), randomNormText(r, nearAlphabet(), 30)
		for _, b := range []string{nearTo(r, a), randomNormText(r, nearAlphabet(), 30), cutBytes(r, a), a} {
			isDistance(t, c, a, b, distancePlainly(c, a, b))
			isMade(t, c, a, b)
		}
	}
}

// TestDistanceTurned looks at what the costs say of both directions: what is put on the one way is dropped
// on the other.
func TestDistanceTurned(t *testing.T) {
	r := rand.New(rand.NewSource(163))
	for range 1000 {
		c, a := randomCosts(r), randomNormText(r, nearAlphabet(), 12)
		b, back := nearTo(r, a), c
		back.Put, back.Drop = c.Drop, c.Put
		isDistance(t, back, b, a, impl.Distance(c, a, b))
		isDistance(t, c, a, a, 0)
	}
}

func TestNearSizes(t *testing.T) {
	c := costsFrom("2 3 4 1 1")
	marked := "a" + strings.Repeat("\u1000", 3)
	long := strings.Repeat(marked, 198) + "\r\n\U00010000"
	full := "b" + strings.Repeat("\u1000", 21845)
	for _, row := range []struct {
		a    string
		b    string
		cost int64
	}{
		{strings.Repeat("a", 200), "", 600}, {"", strings.Repeat("a", 200), 400}, {strings.Repeat("a", 200), strings.Repeat("A", 200), 200},
		{strings.Repeat("ab", 100), strings.Repeat("ba", 100), 5}, {strings.Repeat("a", 200), strings.Repeat("b", 200), 800}, {strings.Repeat("\xff", 200), "\xff", 597},
		{long, long, 0}, {long, marked, 597}, {"", long, 400}, {full, full, 0}, {full, "b", 4}, {"xb", full, 7}, {full[:65533], full, 4},
	} {
		isDistance(t, c, row.a, row.b, row.cost)
		isDistance(t, c, row.a, row.b, distancePlainly(c, row.a, row.b))
		isMade(t, c, row.a, row.b)
	}
	if len(full) != impl.MaxBytes || len(charsPlainly(long)) != 200 {
		t.Errorf("%d bytes, %d characters", len(full), len(charsPlainly(long)))
	}
	for what, text := range map[string]string{
		"201 characters": strings.Repeat("a", 201), "201 of several points": long + marked, "201 of one more": "b" + long, "201 broken bytes": strings.Repeat("\xff", 201),
		"65537 bytes": full + "\u1000"[:1], "65538 bytes": full + "ab", "65537 bytes of one character": "\u0220" + full[1:], "many bytes": strings.Repeat("a", 100000), "65536 bytes of 65536": strings.Repeat("a", 65536),
	} {
		isNotMeasured(t, what, c, text, "a")
		isNotMeasured(t, what, c, "a", text)
		isNotMeasured(t, what, c, text, text)
		isNotMeasured(t, what+" by wrong costs", impl.Costs{}, text, "a")
	}
	isNotMeasured(t, "wrong costs", costsFrom("0 1 1 1 1"), "", "")
	isNotMeasured(t, "a wrong kin", costsFrom("1 1 1 1 1", "a"), "x", "x")
}

// nearFrom reads `word:cost` ones.
func nearFrom(row string) (near []impl.Near) {
	for _, word := range strings.Fields(row) {
		text, cost, _ := strings.Cut(word, ":")
		near = append(near, impl.Near{Word: text, Cost: numberFrom(cost)})
	}
	return near
}

func numberFrom(digits string) (number int64) {
	for _, digit := range digits {
		number = 10*number + int64(digit-'0')
	}
	return number
}

// nearPlainly takes the nearest word that is left again and again.
func nearPlainly(c impl.Costs, words []string, text string, most int64) (near []impl.Near) {
	tooLong := func(text string) bool { return len(text) > 65536 || len(charsPlainly(text)) > 200 }
	if !areRightCosts(c) || tooLong(text) || most < 0 || len(words) > 100 {
		return nil
	}
	costs := map[int]int64{}
	for at, word := range words {
		if !tooLong(word) && distancePlainly(c, text, word) <= most {
			costs[at] = distancePlainly(c, text, word)
		}
	}
	for len(costs) > 0 && len(near) < 20 {
		best := -1
		for at := range words {
			if cost, left := costs[at]; left && (best < 0 || cost < costs[best]) {
				best = at
			}
		}
		near = append(near, impl.Near{Word: words[best], Cost: costs[best]})
		delete(costs, best)
	}
	return near
}

func areNear(t *testing.T, c impl.Costs, words []string, text string, most int64, want []impl.Near) {
	t.Helper()
	if got := impl.NearWords(c, words, text, most); !slices.Equal(got, want) {
		t.Errorf("NearWords by %+v of %d words, %+.200q, of %d bytes, %+.60q, most %d:\n got %.300s\nwant %.300s", c, len(words), words, len(text), text, most, fmt.Sprint(got), fmt.Sprint(want))
	}
}

func TestNearWordsByHand(t *testing.T) {
	for _, row := range []struct {
		costs string
		words string
		text  string
		most  int64
		want  string
	}{
		{"1 1 1 0 1", "abc xyz ab", "ab", 1, "ab:0 abc:1"},
		{"1 1 1 0 1", "abc xyz ab", "ab", 0, "ab:0"}, {"1 1 1 0 1", "abc xyz ab", "ab", -1, ""}, {"1 1 1 0 1", "abc xyz ab", "ab", math.MinInt64, ""},
		{"1 1 1 0 1", "abc xyz ab", "ab", 2, "ab:0 abc:1"}, {"1 1 1 0 1", "abc xyz ab", "ab", 3, "ab:0 abc:1 xyz:3"}, {"1 1 1 0 1", "abc xyz ab", "ab", math.MaxInt64, "ab:0 abc:1 xyz:3"},
		{"1 1 1 0 1", "", "ab", 100, ""}, {"1 1 1 0 1", "a b", "", 1, "a:1 b:1"}, {"1 1 1 0 1", "a b", "", 0, ""},
		// From the text to the word: what is put costs 1, what is dropped 3.
		{"1 3 4 0 1", "abc a ab abcd", "ab", 3, "ab:0 abc:1 abcd:2 a:3"}, {"3 1 4 0 1", "abc a ab abcd", "ab", 5, "ab:0 a:1 abc:3"}, {"3 1 4 0 1", "abc a ab abcd", "ab", 6, "ab:0 a:1 abc:3 abcd:6"},
		// Those that are alike far, and those that are there twice, stay as they stand.
		{"1 1 1 1 1", "xb ax ab b ba a abc", "ab", 1, "ab:0 xb:1 ax:1 b:1 ba:1 a:1 abc:1"}, {"1 1 1 1 1", "b ab b ab c", "ab", 2, "ab:0 ab:0 b:1 b:1 c:2"},
		{"1 1 1 0 1", "AB ab Ab aB", "ab", 0, "AB:0 ab:0 Ab:0 aB:0"}, {"1 1 2 1 1", "AB Ab ab aB xy", "ab", 2, "ab:0 Ab:1 aB:1 AB:2"},
		{"1000 1000 1000 1000 1000", "aaaa aaa", "", 3999, "aaa:3000"}, {"1000 1000 1000 1000 1000", "aaaa aaa", "", 4000, "aaa:3000 aaaa:4000"},
	} {
		areNear(t, costsFrom(row.costs), strings.Fields(row.words), row.text, row.most, nearFrom(row.want))
		areNear(t, costsFrom(row.costs), strings.Fields(row.words), row.text, row.most, nearPlainly(costsFrom(row.costs), strings.Fields(row.words), row.text, row.most))
	}
	areNear(t, costsFrom("1 1 1 1 1"), []string{"", "a", ""}, "", 1, []impl.Near{{}, {}, {Word: "a", Cost: 1}})
	areNear(t, costsFrom("1 1 1 1 1"), nil, "", math.MaxInt64, nil)
	areNear(t, costsFrom("3 3 3 1 3", "xy"), []string{"\xfe", "y\u1000", "y", "X"}, "x", 3, []impl.Near{{Word: "y", Cost: 1}, {Word: "X", Cost: 1}, {Word: "\xfe", Cost: 3}, {Word: "y\u1000", Cost: 3}})
}

// wordsOf has so many, of lengths that go up and down.
func wordsOf(count int) (words []string) {
	for at := range count {
		words = append(words, strings.Repeat("a", 1+at*7%13)+fmt.Sprint(at%4))
	}
	return words
}

func TestNearWordsSizes(t *testing.T) {
	c := costsFrom("1 2 2 0 1")
	for _, count := range []int{0, 1, 19, 20, 21, 22, 99, 100} {
		words := wordsOf(count)
		got := impl.NearWords(c, words, "aaa", 1000)
		if len(got) != min(count, 20) {
			t.Errorf("of %d words %d are told", count, len(got))
		}
		areNear(t, c, words, "aaa", 1000, nearPlainly(c, words, "aaa", 1000))
		areNear(t, c, words, "aaa", 4, nearPlainly(c, words, "aaa", 4))
		areNear(t, impl.Costs{}, words, "aaa", 1000, nil)
		areNear(t, c, words, "aaa", -1, nil)
	}
	for _, count := range []int{101, 102, 1000, 1001, 5000} {
		areNear(t, c, wordsOf(count), "aaa", 1000, nil)
	}
	// The nearest one stands last, behind more than 20 others.
	last := append(slices.Repeat([]string{"xxx"}, 99), "aaa")
	areNear(t, c, last, "aaa", 6, append([]impl.Near{{Word: "aaa"}}, slices.Repeat([]impl.Near{{Word: "xxx", Cost: 6}}, 19)...))
	alike := slices.Repeat([]string{"aa"}, 30)
	areNear(t, c, alike, "aa", 0, slices.Repeat([]impl.Near{{Word: "aa"}}, 20))
}

func TestNearWordsTooLong(t *testing.T) {
	c := costsFrom("1 1 1 1 1")
	full := "b" + strings.Repeat("\u1000", 21845)
	long, whole := strings.Repeat("a", 201), strings.Repeat("a", 200)
	words := []string{long, "ab", full + "\u1000", whole, full, strings.Repeat("a", 65537), "a", strings.Repeat("\xff", 201)}
	areNear(t, c, words, "a", math.MaxInt64, []impl.Near{{Word: "a"}, {Word: "ab", Cost: 1}, {Word: full, Cost: 1}, {Word: whole, Cost: 199}})
	areNear(t, c, words, "a", 1, []impl.Near{{Word: "a"}, {Word: "ab", Cost: 1}, {Word: full, Cost: 1}})
	areNear(t, c, words, whole, 0, []impl.Near{{Word: whole}})
	areNear(t, c, words, full, 0, []impl.Near{{Word: full}})
	areNear(t, c, words, long, math.MaxInt64, nil)
	areNear(t, c, words, full+"\u1000", math.MaxInt64, nil)
	areNear(t, c, []string{full + "a"}, full+"a", math.MaxInt64, nil)
	areNear(t, c, slices.Repeat([]string{long}, 100), "a", math.MaxInt64, nil)
	areNear(t, c, append(slices.Repeat([]string{long}, 99), "a"), "a", 0, []impl.Near{{Word: "a"}})
	areNear(t, c, append(slices.Repeat([]string{long}, 100), "a"), "a", 0, nil)
}

// TestNearWordsInOrder looks at P40, beside the plain reading.
func TestNearWordsInOrder(t *testing.T) {
	r := rand.New(rand.NewSource(164))
	for range 600 {
		c, text := randomCosts(r), randomNormText(r, nearAlphabet(), 8)
		words := make([]string, r.Intn(60))
		for at := range words {
			words[at] = nearTo(r, text)
		}
		most := []int64{0, 1, 3, 10, 40, 5000}[r.Intn(6)]
		near := impl.NearWords(c, words, text, most)
		areNear(t, c, words, text, most, nearPlainly(c, words, text, most))
		for at, n := range near {
			if n.Cost > most || n.Cost != impl.Distance(c, text, n.Word) || at > 0 && n.Cost < near[at-1].Cost || !slices.Contains(words, n.Word) {
				t.Errorf("NearWords of %q: %+v at %d of %v", text, n, at, near)
			}
		}
	}
}

// TestMeasurersHaveEnded looks for goroutines that would go on behind their calls.
func TestMeasurersHaveEnded(t *testing.T) {
	c, words := costsFrom("1 1 1 1 1"), append(wordsOf(99), strings.Repeat("a", 70000))
	before := runtime.NumGoroutine()
	for range 100 {
		impl.NearWords(c, words, "aaaaaa", 3)
	}
	haveEnded(t, before)
}

func TestMeasuredAtOnce(t *testing.T) {
	c, words := costsFrom("1 1 1 0 1", "ab", "01"), wordsOf(100)
	want := nearPlainly(c, words, "baba1", 9)
	answers := make([][]impl.Near, 16)
	var askers sync.WaitGroup
	for n := range answers {
		askers.Go(func() { answers[n] = impl.NearWords(c, words, "baba1", 9) })
	}
	askers.Wait()
	for _, got := range answers {
		if !slices.Equal(got, want) {
			t.Errorf("asked at once: got %v, want %v", got, want)
		}
	}
}

// soundPlainly goes by the letters of each digit as chapter 17 has them.
func soundPlainly(text string) string {
	letters := ""
	for _, p := range plainNormal(impl.NormD, plainFold(readPlainly(text))) {
		if p >= 'a' && p <= 'z' {
			letters += string(rune(p))
		}
	}
	if letters == "" {
		return ""
	}
	digits := strings.Map(func(letter rune) rune {
		for at, row := range []string{"bfpv", "cgjkqsxz", "dt", "l", "mn", "r"} {
			if strings.ContainsRune(row, letter) {
				return '1' + rune(at)
			}
		}
		return '0'
	}, letters)
	told := ""
	for at := 1; at < len(digits); at++ {
		if digits[at] != '0' && digits[at] != digits[at-1] {
			told += digits[at : at+1]
		}
	}
	return letters[:1] + (told + "0000")[:4]
}

func isSound(t *testing.T, text string, want string) {
	t.Helper()
	if got := impl.SoundOf(text); got != want {
		t.Errorf("SoundOf of %d bytes, %+.100q: got %q, want %q", len(text), text, got, want)
	}
}

func TestSoundsByHand(t *testing.T) {
	for text, want := range map[string]string{
		"Robert": "r1630", "1": "", "": "", "a": "a0000", "z": "z0000", "hello": "h4000", "Wolf": "w4100", "abc": "a1200",
		// Each letter's digit.
		"ab": "a1000", "af": "a1000", "ap": "a1000", "av": "a1000", "ac": "a2000", "ag": "a2000", "aj": "a2000", "ak": "a2000", "aq": "a2000", "as": "a2000", "ax": "a2000", "az": "a2000",
		"ad": "a3000", "at": "a3000", "al": "a4000", "am": "a5000", "an": "a5000", "ar": "a6000", "aaeiouhwy": "a0000",
		// The digit of the letter ahead, the first one's among them, and a letter of digit 0 between.
		"bb": "b0000", "bf": "b0000", "bab": "b1000", "bhb": "b1000", "abb": "a1000", "abf": "a1000", "abab": "a1100", "abhf": "a1100", "abcb": "a1210", "bfpv": "b0000", "bfd": "b3000", "bdb": "b3100", "sc": "s0000", "sac": "s2000", "mnm": "m0000", "amn": "a5000", "aman": "a5500", "llama": "l5000",
		// Four digits, more and fewer.
		"abdl": "a1340", "abdlm": "a1345", "abdlmr": "a1345", "abdlmrb": "a1345", "abdlllm": "a1345", "abdlmm": "a1345", "abcdefghijklmnopqrstuvwxyz": "a1231", "rrrr": "r0000",
		// What is no letter of script 1 is not there at all.
		"1b-f": "b0000", "a b 1 f": "a1000", "\u0200b\u0500d": "b3000", "\u0200": "", "\u0600\u0620 12": "", "\u6000a\u3000b": "a1000", "b\u1000f": "b0000", "\u2700": "", "\u2731": "", "a\u2700b": "a1000",
		"\xffa\xfeb": "a1000", "\xff": "", "a\u00a0b": "a1000",
		// Letters with marks, upper and title ones, other writings, letters that fold to two.
		"ROBERT": "r1630", "\u2000\u2008": "a1000", "\u20d0\u20d8": "a1000", "A\u1000B\u1001": "a1000", "\u2200": "a0000", "\u2408": "b0000", "\u24d8\u2008": "b0000", "\u2601\u2602": "b2000", "\u2600": "a0000",
		"\u0260": "", "a\u0260b": "a1000", "\u0244b": "b0000", "b\u0260f": "b0000",
	} {
		isSound(t, text, want)
		isSound(t, text, soundPlainly(text))
	}
}

func TestSoundsOfAllPoints(t *testing.T) {
	for p := int64(0); p <= impl.LastKnown; p++ {
		for _, text := range []string{textWritten(p), textWritten('r', p), textWritten('b', p, 'f')} {
			isSound(t, text, soundPlainly(text))
		}
	}
}

func TestSoundsOfTexts(t *testing.T) {
	for count := range 7 {
		eachCutRow([]int64{'a', 'b', 'f', 't', '1'}, count, func(text string) { isSound(t, text, soundPlainly(text)) })
	}
	shape := regexp.MustCompile(`^[a-z][1-6]{0,4}0*$`)
	eachRandomText(165, 1500, []int64{'a', 'b', 'c', 'D', 'l', 'M', 'r', 0x2000, 0x2408, 0x2611, 0x260, 0x1000, ' '}, func(text string) {
		isSound(t, text, soundPlainly(text))
		if sound := impl.SoundOf(text); sound != "" && (len(sound) != 5 || !shape.MatchString(sound)) {
			t.Errorf("SoundOf of %+q: %q", text, sound)
		}
	})
}

// TestSoundSizes: a text of 200 characters has a sound, one of more is too long, as are 65537 bytes of one
// character.
func TestSoundSizes(t *testing.T) {
	isSound(t, strings.Repeat("a", 199)+"b", "a1000")
	isSound(t, strings.Repeat("a", 200), "a0000")
	isSound(t, strings.Repeat("a", 201), "")
	isSound(t, strings.Repeat("a", 65536), "")
	isSound(t, strings.Repeat("1", 199)+"b", "b0000")
	isSound(t, strings.Repeat("1", 200)+"b", "")
	isSound(t, "b"+strings.Repeat("1", 200), "")
	isSound(t, strings.Repeat("\xff", 199)+"b", "b0000")
	isSound(t, strings.Repeat("\xff", 200)+"b", "")
	// Characters are counted, not points, and not what the text folds to.
	isSound(t, strings.Repeat("b\u1000", 200), "b0000")
	isSound(t, strings.Repeat("b\u1000", 201), "")
	isSound(t, "b"+strings.Repeat("\u0260", 198)+"d", "b3000")
	isSound(t, strings.Repeat("\u2408\u2418", 100), "b3131")
	isSound(t, strings.Repeat("\u2408\u2418", 100)+"b", "")
	for _, marked := range []string{strings.Repeat("b\u1000", 200), strings.Repeat("\u0260", 200)} {
		if count := len(charsPlainly(marked)); count != 200 {
			t.Errorf("%d characters of a text that should have 200", count)
		}
	}
	// One character of many points.
	isSound(t, "b"+strings.Repeat("\u1000", 21845), "b0000")
	isSound(t, "b"+strings.Repeat("\u1000", 21845)+"d", "")
}

func TestNearIsNewMemory(t *testing.T) {
	c := costsFrom("2 2 3 1 1")
	c.Kins = spare([]string{strings.Clone("xy"), strings.Clone("bd")})
	words := spare([]string{strings.Clone("abcd"), strings.Clone("bacd"), strings.Clone("abxd"), strings.Clone("abcd")})
	a, b := strings.Clone("xabcd"), strings.Clone("ybaeddz")
	told := func() string {
		return fmt.Sprint(c, c.Kins[:cap(c.Kins)], words[:cap(words)], a, b)
	}
	given, first := told(), ""
	for range 3 {
		fault, distance, edits, near, sound := impl.CostsFault(c), impl.Distance(c, a, b), impl.EditsOf(c, a, b), impl.NearWords(c, words, a, 50), impl.SoundOf(a)
		again := fmt.Sprint(fault, distance, edits, near, sound)
		if first == "" {
			first = again
		}
		if again != first || len(edits) < 4 || len(near) != 4 {
			t.Errorf("asked again: %s, want %s", again, first)
		}
		texts := []string{sound}
		for _, edit := range edits {
			texts = append(texts, edit.Text)
		}
		for _, n := range near {
			texts = append(texts, n.Word)
		}
		for at, text := range texts {
			isApart(t, "an answer", []string{text}, append(append([]string{a, b}, words...), texts[at+1:]...)...)
		}
		clear(edits[:cap(edits)])
		clear(near[:cap(near)])
		if got := told(); got != given {
			t.Errorf("what was given became %s, it was %s", got, given)
		}
	}
}
