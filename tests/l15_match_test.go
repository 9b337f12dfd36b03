package tests

import (
	"fmt"
	"iter"
	"math"
	"math/rand"
	"regexp"
	"slices"
	"strconv"
	"strings"
	"sync"
	"testing"

	"loop.example/g00044/impl"
)

var matchCodes = map[string]int64{"none": impl.ErrNone, "limit": impl.ErrLimit, "form": impl.ErrForm, "size": impl.ErrSize, "right": impl.ErrRight}

// stretchFrom reads `1-3`, or `-` of nothing.
func stretchFrom(word string) impl.Found {
	if word == "-" {
		return impl.Found{First: -1, Last: -1}
	}
	first, last, _ := strings.Cut(word, "-")
	return impl.Found{First: numbersOf(first)[0], Last: numbersOf(last)[0]}
}

// matchFrom reads a code, or what was taken, with groups in brackets; and the steps behind it.
func matchFrom(row string) (match impl.Match) {
	words := strings.Fields(strings.NewReplacer("(", "", ")", "").Replace(row))
	code, wrong := matchCodes[words[0]]
	switch {
	case wrong && len(words) == 1:
		return impl.Match{Code: code}
	case wrong:
		return impl.Match{Code: code, Steps: numbersOf(words[1])[0]}
	}
	last := len(words) - 1
	match.Steps, _ = strconv.ParseInt(words[last], 10, 64)
	whole := stretchFrom(words[0])
	match.First, match.Last = whole.First, whole.Last
	for _, word := range words[1:last] {
		match.Groups = append(match.Groups, stretchFrom(word))
	}
	return match
}

func sameMatch(a impl.Match, b impl.Match) bool {
	return a.Code == b.Code && a.First == b.First && a.Last == b.Last && a.Steps == b.Steps && slices.Equal(a.Groups, b.Groups)
}

// asked is what a match is asked of.
type asked struct {
	nodes    []impl.PatNode
	text     string
	from     int64
	caseless bool
}

func (a asked) String() string {
	return fmt.Sprintf("%+.100q (%.200s) in %d bytes, %+.100q, from %d, caseless %t", impl.ShowPattern(a.nodes), fmt.Sprint(a.nodes), len(a.text), a.text, a.from, a.caseless)
}

func patternIn(pattern string, text string) asked {
	return asked{nodes: impl.ReadPattern(pattern).Nodes, text: text}
}

func (a asked) back(budget int64) impl.Match {
	return impl.MatchBack(a.nodes, a.text, a.from, a.caseless, budget)
}

func (a asked) states() impl.Match {
	return impl.MatchStates(a.nodes, a.text, a.from, a.caseless)
}

func isMatchBack(t *testing.T, a asked, budget int64, want impl.Match) {
	t.Helper()
	if got := a.back(budget); !sameMatch(got, want) {
		t.Errorf("MatchBack of %s, budget %d: got %+v, want %+v", a, budget, got, want)
	}
}

func isMatchStates(t *testing.T, a asked, want impl.Match) {
	t.Helper()
	if got := a.states(); !sameMatch(got, want) {
		t.Errorf("MatchStates of %s: got %+v, want %+v", a, got, want)
	}
}

// isMatch asks both engines, where they can be asked, and for each budget about the steps.
func isMatch(t *testing.T, a asked, want impl.Match) {
	t.Helper()
	isMatchBack(t, a, impl.MaxBudget, want)
	isMatchBack(t, a, want.Steps, want)
	isMatchBack(t, a, want.Steps-1, impl.Match{Code: map[bool]int64{true: impl.ErrForm, false: impl.ErrLimit}[want.Steps == 0]})
	if impl.IsSimple(a.nodes) {
		want.Steps = 0
		isMatchStates(t, a, want)
	}
}

func areMatches(t *testing.T, rows [][3]string) {
	t.Helper()
	for _, row := range rows {
		if read := impl.ReadPattern(row[0]); read.Code != impl.OK {
			t.Errorf("%q is no pattern: %+v", row[0], read)
		}
		isMatch(t, patternIn(row[0], row[1]), matchFrom(row[2]))
	}
}

// plainMatcher tells the ways of nodes one after the other, as chapter 16 tells of them.
type plainMatcher struct {
	points   []int64
	cuts     []bool
	caseless bool
	steps    int64
	budget   int64
}

type plainWay struct {
	at     int
	groups [10][2]int
}

type plainOut struct{}

func casesPlainly(p int64) []int64 {
	if row, known := plainCases[caseKey(p)]; known {
		return row
	}
	return []int64{p}
}

func (m *plainMatcher) areAlike(p int64, q int64) bool {
	return p == q || m.caseless && slices.Contains(casesPlainly(p), q)
}

func (m *plainMatcher) isInSet(set []impl.Span, p int64) bool {
	points := []int64{p}
	if m.caseless {
		points = casesPlainly(p)
	}
	return slices.ContainsFunc(set, func(s impl.Span) bool {
		return slices.ContainsFunc(points, func(p int64) bool { return p >= s.First && p <= s.Last })
	})
}

// standsAt tells whether a node without kids stands at a place, and how many points it takes.
func (m *plainMatcher) standsAt(node impl.PatNode, way plainWay) (bool, int) {
	rest := m.points[way.at:]
	switch node.Kind {
	case impl.PtEmpty:
		return true, 0
	case impl.PtBegin:
		return way.at == 0, 0
	case impl.PtEnd:
		return len(rest) == 0, 0
	case impl.PtWord:
		return m.cuts[way.at], 0
	case impl.PtPoint:
		return len(rest) > 0 && m.areAlike(node.Num, rest[0]), 1
	case impl.PtAny:
		return len(rest) > 0 && rest[0] != 0xA, 1
	case impl.PtSet:
		return len(rest) > 0 && m.isInSet(node.Set, rest[0]), 1
	}
	taken := way.groups[node.Num]
	if taken[0] < 0 {
		return false, 0
	}
	piece := m.points[taken[0]:taken[1]]
	return len(piece) <= len(rest) && slices.EqualFunc(piece, rest[:len(piece)], m.areAlike), len(piece)
}

func (m *plainMatcher) ways(tree plainPattern, at plainWay) iter.Seq[plainWay] {
	return func(yield func(plainWay) bool) {
		m.steps++
		if m.steps > m.budget {
			panic(plainOut{})
		}
		switch tree.node.Kind {
		case impl.PtRow:
			m.row(tree.kids, at)(yield)
		case impl.PtOr:
			m.oneOf(tree.kids, at)(yield)
		case impl.PtTimes:
			m.times(tree, at)(yield)
		case impl.PtGroup:
			for way := range m.ways(tree.kids[0], at) {
				if tree.node.Num > 0 {
					way.groups[tree.node.Num] = [2]int{at.at, way.at}
				}
				if !yield(way) {
					return
				}
			}
		case impl.PtAhead, impl.PtNot:
			first, found := m.first(tree.kids[0], at)
			switch {
			case found && tree.node.Kind == impl.PtAhead:
				yield(plainWay{at.at, first.groups})
			case !found && tree.node.Kind == impl.PtNot:
				yield(at)
			}
		default:
			if stands, size := m.standsAt(tree.node, at); stands {
				yield(plainWay{at.at + size, at.groups})
			}
		}
	}
}

func (m *plainMatcher) first(tree plainPattern, at plainWay) (plainWay, bool) {
	for way := range m.ways(tree, at) {
		return way, true
	}
	return plainWay{}, false
}

func (m *plainMatcher) row(kids []plainPattern, at plainWay) iter.Seq[plainWay] {
	return func(yield func(plainWay) bool) {
		if len(kids) == 0 {
			yield(at)
			return
		}
		for way := range m.ways(kids[0], at) {
			for last := range m.row(kids[1:], way) {
				if !yield(last) {
					return
				}
			}
		}
	}
}

func (m *plainMatcher) oneOf(kids []plainPattern, at plainWay) iter.Seq[plainWay] {
	return func(yield func(plainWay) bool) {
		for _, kid := range kids {
			for way := range m.ways(kid, at) {
				if !yield(way) {
					return
				}
			}
		}
	}
}

func (m *plainMatcher) times(tree plainPattern, at plainWay) iter.Seq[plainWay] {
	if tree.node.Way < 2 {
		return m.timesAfter(tree, 0, at)
	}
	return func(yield func(plainWay) bool) {
		count, ends := int64(0), false
		for count != tree.node.Most && !ends {
			way, found := m.first(tree.kids[0], at)
			if !found {
				break
			}
			count, ends, at = count+1, way.at == at.at, way
		}
		if ends || count >= tree.node.Least {
			yield(at)
		}
	}
}

func (m *plainMatcher) timesAfter(tree plainPattern, n int64, at plainWay) iter.Seq[plainWay] {
	node := tree.node
	ends := func(yield func(plainWay) bool) {
		if n >= node.Least {
			yield(at)
		}
	}
	more := func(yield func(plainWay) bool) {
		if n == node.Most {
			return
		}
		for way := range m.ways(tree.kids[0], at) {
			if n >= node.Least && way.at == at.at {
				continue
			}
			for last := range m.timesAfter(tree, n+1, way) {
				if !yield(last) {
					return
				}
			}
		}
	}
	parts := [][]iter.Seq[plainWay]{{more, ends}, {ends, more}}[node.Way]
	return func(yield func(plainWay) bool) {
		for _, part := range parts {
			for way := range part {
				if !yield(way) {
					return
				}
			}
		}
	}
}

// allPlaces are the places of all points, and the end.
func allPlaces(text string) []int64 {
	return append(placesPlainly(text), int64(len(text)))
}

func plainMatcherOf(text string, caseless bool, budget int64) *plainMatcher {
	m := &plainMatcher{points: readPlainly(text), caseless: caseless, budget: budget}
	cuts := plainWordCuts(text, nil)
	for _, place := range allPlaces(text) {
		m.cuts = append(m.cuts, slices.Contains(cuts, place))
	}
	return m
}

func isMuchPlainly(nodes []impl.PatNode, text string) bool {
	return len(nodes) > impl.MaxList || len(text) > impl.MaxBytes || len(readPlainly(text)) > impl.MaxList
}

func backPlainly(a asked, budget int64) (match impl.Match) {
	switch {
	case isMuchPlainly(a.nodes, a.text):
		return impl.Match{Code: impl.ErrSize}
	case !isRightPlainly(a.nodes), budget < 0, budget > impl.MaxBudget:
		return impl.Match{Code: impl.ErrForm}
	}
	defer func() {
		if recover() == any(plainOut{}) {
			match = impl.Match{Code: impl.ErrLimit}
		}
	}()
	m, places := plainMatcherOf(a.text, a.caseless, budget), allPlaces(a.text)
	tree, _, _ := treePlainly(a.nodes)
	begin := plainWay{}
	for num := range begin.groups {
		begin.groups[num] = [2]int{-1, -1}
	}
	for at, place := range places {
		if place < a.from {
			continue
		}
		begin.at = at
		if way, found := m.first(tree, begin); found {
			match = impl.Match{First: place, Last: places[way.at], Steps: m.steps}
			for _, group := range way.groups[1 : 1+groupsIn(a.nodes)] {
				told := impl.Found{First: -1, Last: -1}
				if group[0] >= 0 {
					told = impl.Found{First: places[group[0]], Last: places[group[1]]}
				}
				match.Groups = append(match.Groups, told)
			}
			return match
		}
	}
	return impl.Match{Code: impl.ErrNone, Steps: m.steps}
}

// takesNonePlainly tells whether a node has a way that takes no point at one place of a text.
func takesNonePlainly(tree plainPattern, m *plainMatcher, at int) bool {
	takes := func(kid plainPattern) bool { return takesNonePlainly(kid, m, at) }
	switch tree.node.Kind {
	case impl.PtRow:
		return !slices.ContainsFunc(tree.kids, func(kid plainPattern) bool { return !takes(kid) })
	case impl.PtOr, impl.PtGroup:
		return slices.ContainsFunc(tree.kids, takes)
	case impl.PtTimes:
		return tree.node.Least == 0 || takes(tree.kids[0])
	}
	stands, size := m.standsAt(tree.node, plainWay{at: at})
	return stands && size == 0
}

// textsOfPlaces have all that a place can be together: a beginning, an end, a cut.
var textsOfPlaces = sync.OnceValue(func() []*plainMatcher {
	return []*plainMatcher{plainMatcherOf("", false, 0), plainMatcherOf("aa", false, 0), plainMatcherOf("a a", false, 0)}
})

func simplePlainly(tree plainPattern, texts []*plainMatcher) bool {
	switch tree.node.Kind {
	case impl.PtAhead, impl.PtNot, impl.PtAgain:
		return false
	}
	for _, kid := range tree.kids {
		if !simplePlainly(kid, texts) {
			return false
		}
	}
	if tree.node.Kind != impl.PtTimes {
		return true
	}
	for _, m := range texts {
		for at := range len(m.points) + 1 {
			if takesNonePlainly(tree.kids[0], m, at) {
				return false
			}
		}
	}
	return tree.node.Way < 2
}

func isSimplePlainly(nodes []impl.PatNode) bool {
	if !isRightPlainly(nodes) {
		return false
	}
	tree, _, _ := treePlainly(nodes)
	return simplePlainly(tree, textsOfPlaces())
}

func statesOf(tree plainPattern) float64 {
	if len(tree.kids) == 0 {
		return 1
	}
	sum := 0.0
	for _, kid := range tree.kids {
		sum += statesOf(kid)
	}
	switch {
	case tree.node.Kind != impl.PtTimes:
		return sum
	case tree.node.Most == -1:
		return sum * float64(tree.node.Least+1)
	}
	return sum * float64(tree.node.Most)
}

// statesPlainly is known only where MatchBack has enough steps.
func statesPlainly(a asked) (match impl.Match, known bool) {
	tree, _, _ := treePlainly(a.nodes)
	switch {
	case isMuchPlainly(a.nodes, a.text):
		return impl.Match{Code: impl.ErrSize}, true
	case !isRightPlainly(a.nodes):
		return impl.Match{Code: impl.ErrForm}, true
	case !isSimplePlainly(a.nodes):
		return impl.Match{Code: impl.ErrRight}, true
	case statesOf(tree) > impl.MaxStates:
		return impl.Match{Code: impl.ErrLimit}, true
	}
	match = backPlainly(a, impl.MaxBudget)
	match.Steps = 0
	return match, match.Code != impl.ErrLimit
}

func allPlainly(a asked) (matches []impl.Match, code int64) {
	budget := int64(impl.MaxBudget)
	for _, place := range allPlaces(a.text) {
		if place < a.from {
			continue
		}
		a.from = place
		match := backPlainly(a, budget)
		if match.Code != impl.OK {
			return matches, match.Code
		}
		matches = append(matches, match)
		budget -= match.Steps
		a.from = match.Last
		if match.First == match.Last {
			a.from++
		}
	}
	return matches, impl.OK
}

var dollarWord = regexp.MustCompile(`\$[0-9$]`)

func replacedPlainly(a asked, with string) impl.Written {
	matches, code := allPlainly(a)
	text, end := "", int64(0)
	for _, match := range matches {
		text += a.text[end:match.First] + dollarWord.ReplaceAllStringFunc(with, func(word string) string {
			if word == "$$" {
				return "$"
			}
			groups := append([]impl.Found{{First: match.First, Last: match.Last}}, match.Groups...)
			num := int(word[1] - '0')
			if num >= len(groups) || groups[num].First < 0 {
				return ""
			}
			return a.text[groups[num].First:groups[num].Last]
		})
		end = match.Last
	}
	text += a.text[end:]
	switch {
	case isMuchPlainly(a.nodes, a.text), isMuchPlainly(nil, with):
		return impl.Written{Code: impl.ErrSize}
	case !isRightPlainly(a.nodes):
		return impl.Written{Code: impl.ErrForm}
	case len(text) > impl.MaxBytes:
		return impl.Written{Code: impl.ErrSize}
	case code == impl.ErrLimit:
		return impl.Written{Code: impl.ErrLimit}
	}
	return impl.Written{Text: text, Steps: int64(len(matches))}
}

func isReplaced(t *testing.T, a asked, with string, want impl.Written) {
	t.Helper()
	if got := impl.ReplaceAll(a.nodes, a.text, a.caseless, with); got != want {
		t.Errorf("ReplaceAll of %s, with %+.100q: got %+.300q, want %+.300q", a, with, fmt.Sprint(got), fmt.Sprint(want))
	}
}

// areAll asks for all matches, and for what stands between them.
func areAll(t *testing.T, a asked, want []impl.Found) {
	t.Helper()
	if got := impl.MatchAll(a.nodes, a.text, a.caseless); !slices.Equal(got, want) {
		t.Errorf("MatchAll of %s: got %.300s, want %.300s", a, fmt.Sprint(got), fmt.Sprint(want))
	}
	pieces, end := []string{}, int64(0)
	for _, match := range want {
		pieces = append(pieces, a.text[end:match.First])
		end = match.Last
	}
	pieces = append(pieces, a.text[end:])
	if got := impl.SplitBy(a.nodes, a.text, a.caseless); !slices.Equal(got, pieces) {
		t.Errorf("SplitBy of %s: got %+.300q, want %+.300q", a, got, pieces)
	}
}

func areAllPlainly(t *testing.T, a asked, withs ...string) {
	t.Helper()
	matches, _ := allPlainly(a)
	var want []impl.Found
	for _, match := range matches {
		want = append(want, impl.Found{First: match.First, Last: match.Last})
	}
	areAll(t, a, want)
	for _, with := range withs {
		isReplaced(t, a, with, replacedPlainly(a, with))
	}
}

func TestNumbersOfMatching(t *testing.T) {
	if impl.MaxBudget != 100000 || impl.MaxStates != 2000 {
		t.Error("a number of chapter 16 is another one")
	}
}

func TestLeavesByHand(t *testing.T) {
	areMatches(t, [][3]string{
		{"", "", "0-0 1"}, {"", "ab", "0-0 1"},
		{"a", "", "none 1"}, {"a", "a", "0-1 1"}, {"a", "ba", "1-2 2"}, {"a", "bb", "none 3"}, {"a", "A", "none 2"},
		{"\u1000", "a\u1000", "1-4 2"}, {"\U00010000", "\U00010000", "0-4 1"},
		{".", "", "none 1"}, {".", "\n", "none 2"}, {".", "\na", "1-2 2"}, {".", "\xFF", "0-1 1"}, {".", "\r", "0-1 1"}, {".", "\U0010FFFF", "0-4 1"}, {".", "\x00", "0-1 1"},
		{"[ab]", "cb", "1-2 2"}, {"[ab]", "c", "none 2"}, {"[b-dx]", "aexd", "2-3 3"}, {"[^a]", "a\n", "1-2 2"}, {"[^a]", "\u8000b", "3-4 2"}, {"[^a]", "\u7FFF", "0-3 1"}, {`\u`, "aB", "1-2 2"},
		{"^", "", "0-0 1"}, {"^", "ab", "0-0 1"}, {"$", "", "0-0 1"}, {"$", "ab", "2-2 3"}, {"$", "a\n", "2-2 3"},
		{`\b`, "", "none 1"}, {`\b`, "ab", "0-0 1"}, {`.\b`, "ab", "1-2 6"}, {`.\b`, "a b", "0-1 3"}, {"\n", "a\n", "1-2 2"},
		{"\uFFFD", "\xFF", "0-1 1"}, {"\uFFFD", "\uFFFD", "0-3 1"}, {"\uFFFD", "a\xC0\xAFb", "1-2 2"},
	})
}

func TestRowsAndOrsByHand(t *testing.T) {
	areMatches(t, [][3]string{
		{"ab", "aab", "1-3 6"}, {"ab", "a", "none 5"}, {"abc", "abc", "0-3 4"}, {"a.c", "abcadc", "0-3 4"},
		{"a|b", "cb", "1-2 6"}, {"a|ab", "ab", "0-1 2"}, {"ab|a", "ab", "0-2 4"}, {"ab|a", "ac", "0-1 5"}, {"|a", "a", "0-0 2"}, {"a|", "b", "0-0 3"}, {"a||b", "b", "0-0 3"},
		{"(?:a|ab)c", "abc", "0-3 9"}, {"(?:a|ab)(?:c|bcd)", "abcd", "0-4 11"}, {"(a|ab)(c|bcd)(d*)", "abcd", "0-4 (0-1 1-4 4-4) 14"},
		{"a^", "a", "none 5"}, {"a$", "a", "0-1 3"}, {"^a", "ba", "none 7"}, {"$a", "a", "none 5"}, {"^$", "", "0-0 3"}, {"^$", "a", "none 5"}, {`a\bb`, "ab", "none 7"}, {`a\b b`, "a b", "0-3 5"}, {`^\b$`, "", "none 3"},
	})
}

func TestTimesOfMatchesByHand(t *testing.T) {
	areMatches(t, [][3]string{
		{"a*", "aab", "0-2 4"}, {"a*?", "aab", "0-0 1"}, {"a*+", "aab", "0-2 4"}, {"a*", "b", "0-0 2"}, {"a*?", "b", "0-0 1"}, {"a*+", "b", "0-0 2"},
		{"a+", "aab", "0-2 4"}, {"a+?", "aab", "0-1 2"}, {"a++", "aab", "0-2 4"}, {"a+", "b", "none 4"}, {"a+?", "b", "none 4"}, {"a++", "b", "none 4"},
		{"a?", "aa", "0-1 2"}, {"a??", "aa", "0-0 1"}, {"a?+", "aa", "0-1 2"}, {"a?", "b", "0-0 2"}, {"a?+", "b", "0-0 2"},
		{"a{0}", "a", "0-0 1"}, {"a{0}?", "a", "0-0 1"}, {"a{0}+", "a", "0-0 1"}, {"a{0,0}b", "b", "0-1 3"},
		{"a{2}", "aaa", "0-2 3"}, {"a{2}?", "aaa", "0-2 3"}, {"a{2}+", "aaa", "0-2 3"}, {"a{2}", "a", "none 5"}, {"a{1}", "a", "0-1 2"},
		{"a{2,3}", "aaaa", "0-3 4"}, {"a{2,3}?", "aaaa", "0-2 3"}, {"a{2,3}+", "aaaa", "0-3 4"}, {"a{2,3}", "aab", "0-2 4"}, {"a{2,3}+", "a", "none 5"},
		{"a{2,}", "aaaa", "0-4 6"}, {"a{2,}?", "aaaa", "0-2 3"}, {"a{2,}+", "aaaa", "0-4 6"}, {"a{3,}", "aa", "none 9"}, {"a{0,}", "aa", "0-2 4"}, {"a{1,}", "aa", "0-2 4"}, {"a{0,2}", "aaa", "0-2 3"},
		{"a*a", "aa", "0-2 7"}, {"a*?a", "aa", "0-1 3"}, {"a*+a", "aa", "none 15"}, {"a*?b", "aab", "0-3 7"}, {"a{0,2}+a", "aaa", "0-3 5"}, {"a{1,2}a", "aa", "0-2 6"}, {"a{1,2}?a", "aa", "0-2 4"}, {"a?+a", "a", "none 8"}, {"a{2,}?b", "aaab", "0-4 7"},
		{"(?:a|ab)*+c", "abc", "2-3 27"}, {"(?:ab|a)*+b", "ab", "1-2 21"}, {"(?:a|ab)*c", "abc", "0-3 20"}, {"(?:a|ab){2}+", "aba", "none 30"},
	})
}

func TestTimesOfNoPointByHand(t *testing.T) {
	areMatches(t, [][3]string{
		{"(?:)*", "a", "0-0 3"}, {"(?:)*?", "a", "0-0 1"}, {"(?:)*+", "a", "0-0 3"}, {"(?:)+", "a", "0-0 5"}, {"(?:)+?", "a", "0-0 3"}, {"(?:)++", "a", "0-0 3"},
		{"(?:){2}", "", "0-0 5"}, {"(?:){2}?", "", "0-0 5"}, {"(?:){2}+", "", "0-0 3"}, {"(?:){50}+", "", "0-0 3"}, {"(?:){50}", "", "0-0 101"},
		{"(?:){2,}", "", "0-0 7"}, {"(?:){2,}?", "", "0-0 5"}, {"(?:){2,}+", "", "0-0 3"}, {"(?:){2,4}", "", "0-0 7"}, {"(?:){0,4}", "", "0-0 3"}, {"(?:){0,4}?b", "b", "0-1 3"}, {"(?:){0}", "", "0-0 1"},
		{"(?:)*?a", "b", "none 10"}, {"(?:a|)*b", "aab", "0-3 13"}, {"(?:|a)*b", "aab", "0-3 15"}, {"(?:|a)*+b", "ab", "1-2 12"}, {"(?:|a)+?b", "ab", "0-2 11"}, {"(?:a|){2,}b", "b", "0-1 15"},
		{"(?:a*)*", "aa", "0-2 9"}, {"(?:a*)*", "b", "0-0 4"}, {"(?:a*?)*b", "ab", "0-2 9"}, {"(?:a?){3}", "a", "0-1 10"}, {"(?:a?){3}+", "a", "0-1 7"}, {"(?:a?){3}+", "aaaa", "0-3 10"}, {"(?:^)*a", "a", "0-1 5"}, {"(?:$)+", "a", "1-1 8"}, {`(?:\b)+?a`, "a", "0-1 5"},
		{"(a|)+", "a", "0-1 (0-1) 8"}, {"(a|){2}", "a", "0-1 (1-1) 8"}, {"(a|)*", "", "0-0 (-) 5"}, {"(|a)*", "a", "0-1 (0-1) 9"}, {"(|a)*+", "a", "0-0 (0-0) 4"}, {"(|a)*?", "a", "0-0 (-) 1"}, {"(|a)+?", "a", "0-0 (0-0) 4"},
	})
}

func TestGroupsOfMatchesByHand(t *testing.T) {
	areMatches(t, [][3]string{
		{"()", "a", "0-0 (0-0) 2"}, {"(a)", "ba", "1-2 (1-2) 4"}, {"(a)", "b", "none 4"}, {"(?:a)", "a", "0-1 2"},
		{"(a)|(b)", "b", "0-1 (- 0-1) 5"}, {"(a)|(b)", "a", "0-1 (0-1 -) 3"}, {"(a)?b", "b", "0-1 (-) 5"}, {"(a){0}", "a", "0-0 (-) 1"}, {"(a)??", "a", "0-0 (-) 1"},
		{"((a)(b))", "ab", "0-2 (0-2 0-1 1-2) 6"}, {"(\u1000)(b)", "\u1000b", "0-4 (0-3 3-4) 5"},
		{"(?:(a)|b)*", "ab", "0-2 (0-1) 15"}, {"(?:(a)|(b))*", "aba", "0-3 (2-3 1-2) 21"}, {"(?:(a)|(b))*+", "aba", "0-3 (2-3 1-2) 21"}, {"(a|b)*", "ab", "0-2 (1-2) 12"}, {"(a*)*", "aa", "0-2 (0-2) 9"}, {"(a){2}", "aa", "0-2 (1-2) 5"},
		// what a way has taken that is gone back on is not taken
		{"(?:(a)b|a)c", "ac", "0-2 (-) 9"}, {"(?:(a)|ab)c", "abc", "0-3 (-) 10"}, {"(a*)(a)", "aa", "0-2 (0-1 1-2) 10"}, {"(a)*a", "aa", "0-2 (0-1) 10"},
	})
}

func TestLooksAheadByHand(t *testing.T) {
	areMatches(t, [][3]string{
		{"(?=a)a", "a", "0-1 4"}, {"(?=a)", "ba", "1-1 4"}, {"(?=a)b", "ab", "none 10"}, {"(?=)", "", "0-0 2"}, {"(?=$)", "a", "1-1 4"},
		{"(?=(a))", "ba", "1-1 (1-2) 6"}, {`(?=(a|ab))\1b`, "ab", "0-2 (0-1) 7"}, {`(?=(a|ab))\1c`, "abc", "none 28"}, {"(?=(a))b|a", "a", "0-1 (-) 7"},
		{"(?!a).", "ab", "1-2 7"}, {"(?!)", "a", "none 4"}, {"(?!a)", "", "0-0 2"}, {"(?!a)", "a", "1-1 4"}, {"(?!(a))(?:)", "b", "0-0 (-) 6"}, {`(?!(a)b)\1`, "a", "none 13"}, {"(?!(a)b)a", "ac", "0-1 (-) 7"},
		{"(?!(?!a))a", "a", "0-1 5"}, {"(?!(?=(a)))b", "b", "0-1 (-) 6"}, {"(?=(?!(a))(b))b", "b", "0-1 (- 0-1) 9"}, {"(?:(?=a)a)*", "aa", "0-2 15"}, {"(?=a*?)", "a", "0-0 2"}, {"(?=(a*))a", "aa", "0-1 (0-2) 8"},
	})
}

func TestAgainByHand(t *testing.T) {
	areMatches(t, [][3]string{
		{`(a)\1`, "aa", "0-2 (0-1) 4"}, {`(a)\1`, "ab", "none 10"}, {`(a)\1`, "aA", "none 10"}, {`()\1`, "x", "0-0 (0-0) 4"}, {`(a)|b\1`, "b", "none 11"}, {`(a)?\1`, "a", "none 11"},
		{`(ab)\1`, "abab", "0-4 (0-2) 6"}, {`(ab)\1`, "aba", "none 19"}, {`(.)\1`, "abb", "1-3 (1-2) 8"}, {`(a*)\1`, "aaa", "0-2 (0-1) 10"}, {`(a*?)\1b`, "aab", "0-3 (0-1) 8"},
		{`(.)(.)\2\1`, "abba", "0-4 (0-1 1-2) 7"}, {`(?:(a)\1)*`, "aaaa", "0-4 (2-3) 15"}, {`(?:(.)\1)*`, "aabbc", "0-4 (2-3) 16"}, {`(a)\1*`, "aaa", "0-3 (0-1) 7"}, {`(a)\1{2}`, "aaa", "0-3 (0-1) 6"}, {`(a)\1*+a`, "aa", "none 16"}, {`(a)\1{2}+`, "aaa", "0-3 (0-1) 6"},
		{`()\1*`, "", "0-0 (0-0) 5"}, {`()\1{2}+`, "", "0-0 (0-0) 5"}, {`(a)(?=\1)`, "aaa", "0-1 (0-1) 5"}, {`(a)(?!\1).`, "aab", "1-3 (1-2) 11"}, {"(\n)\\1", "\n\n", "0-2 (0-1) 4"},
		{`(.)\1`, "\xFF\xFE", "0-2 (0-1) 4"}, {`(.)\1`, "\xFF\uFFFD", "0-4 (0-1) 4"}, {`(.)\1`, "\uFFFD\xFF", "0-4 (0-3) 4"}, {`(.)\1`, "\u1000\u1000", "0-6 (0-3) 4"}, {`(.)\1`, "\u1000\u1001", "none 11"},
	})
}

// TestFirstPlaces is about from.
func TestFirstPlaces(t *testing.T) {
	text := "a\u0251\u1000\xFFb"
	places := []int64{0, 1, 3, 6, 7, 8}
	for from := int64(-2); from <= 10; from++ {
		a := patternIn("", text)
		a.from = from
		want := impl.Match{Code: impl.ErrNone}
		if at := slices.IndexFunc(places, func(place int64) bool { return place >= from }); at >= 0 {
			want = impl.Match{First: places[at], Last: places[at], Steps: 1}
		}
		isMatch(t, a, want)
	}
	for _, from := range []int64{math.MinInt64, math.MinInt64 + 1, -1 << 32, -1} {
		a := patternIn("b", text)
		a.from = from
		isMatch(t, a, impl.Match{First: 7, Last: 8, Steps: 5})
	}
	for _, from := range []int64{9, 1 << 32, math.MaxInt64} {
		a := patternIn("|.*", text)
		a.from = from
		isMatch(t, a, impl.Match{Code: impl.ErrNone})
		isMatchBack(t, a, 0, impl.Match{Code: impl.ErrNone})
	}
	// the places ahead of from are there still
	for _, row := range []struct {
		pattern string
		from    int64
		want    string
	}{
		{"^", 1, "none 5"}, {"$", 8, "8-8 1"}, {`\b.`, 1, "6-7 7"}, {"(.)$", 2, "7-8 (7-8) 12"}, {".", 4, "6-7 1"}, {".", 8, "none 1"}, {`\b`, 8, "8-8 1"},
	} {
		a := patternIn(row.pattern, text)
		a.from = row.from
		isMatch(t, a, matchFrom(row.want))
	}
}

// TestCutsInMatches asks for a cut at each place of texts.
func TestCutsInMatches(t *testing.T) {
	alphabet := []int64{'a', '1', ' ', '.', '\'', '_', '\n', 0x1000, 0x1F00, 0x3000}
	for length := range 4 {
		eachCutRow(alphabet, length, func(text string) {
			cuts := plainWordCuts(text, nil)
			for _, from := range allPlaces(text) {
				want := impl.Match{Code: impl.ErrNone}
				for _, place := range allPlaces(text) {
					if place >= from && want.Code != impl.OK {
						want.Steps++
						if slices.Contains(cuts, place) {
							want = impl.Match{First: place, Last: place, Steps: want.Steps}
						}
					}
				}
				a := patternIn(`\b`, text)
				a.from = from
				isMatch(t, a, want)
			}
		})
	}
}

// isAlikeByEach asks a point, a set of it and a group again, which stand for p, whether they take q.
func isAlikeByEach(t *testing.T, p int64, q int64, caseless bool, alike bool) {
	t.Helper()
	want := func(steps int64, groups ...impl.Found) impl.Match {
		if alike {
			return impl.Match{Last: int64(len(textWritten(q))), Steps: steps, Groups: groups}
		}
		return impl.Match{Code: impl.ErrNone, Steps: 2 * steps}
	}
	text := textWritten(q)
	isMatch(t, asked{nodes: []impl.PatNode{{Kind: impl.PtPoint, Num: p}}, text: text, caseless: caseless}, want(1))
	if p <= impl.LastKnown {
		isMatch(t, asked{nodes: []impl.PatNode{{Kind: impl.PtSet, Set: []impl.Span{{First: p, Last: p, Value: 1}}}}, text: text, caseless: caseless}, want(1))
	}
	if p == 0xA {
		return
	}
	both := textWritten(p, q)
	again := asked{nodes: impl.ReadPattern(`^(.)\1`).Nodes, text: both, caseless: caseless}
	match := impl.Match{Code: impl.ErrNone, Steps: 9}
	if alike {
		match = impl.Match{Last: int64(len(both)), Groups: []impl.Found{{First: 0, Last: int64(len(textWritten(p)))}}, Steps: 5}
	}
	isMatch(t, again, match)
}

func TestCasesInMatchesByHand(t *testing.T) {
	rows := [][]int64{{'a', 'A', 0x2600}, {'z', 'Z', 0x2619}, {0x2000, 0x20D0}, {'1'}, {0x1000}, {0xA}, {impl.MaxPoint}, {0xFFFD}}
	for _, b := range []int64{0x200, 0x300, 0x400} {
		rows = append(rows, []int64{b + 0x12, b + 0x32, b + 0x61}, []int64{b + 0x40, b + 0x44, b + 0x48}, []int64{b + 0x60}, []int64{b, b + 0x20})
	}
	for i, row := range rows {
		for _, p := range row {
			for j, other := range rows {
				for _, q := range other {
					isAlikeByEach(t, p, q, true, i == j)
					isAlikeByEach(t, p, q, false, p == q)
				}
			}
		}
	}
	areCaseless := func(pattern string, text string, want string) {
		t.Helper()
		a := patternIn(pattern, text)
		a.caseless = true
		isMatch(t, a, matchFrom(want))
	}
	areCaseless("aB", "Ab", "0-2 3")
	// what is not a is A, too, which is a case of a
	areCaseless("[^a]", "a", "0-1 1")
	areCaseless("[^aA\u2600]", "ab", "1-2 2")
	areCaseless(`\u`, "a", "0-1 1")
	areCaseless(`\l`, "A", "0-1 1")
	areCaseless(`\t`, "\u0240\u0248", "0-2 1")
	areCaseless(`(ab)\1`, "aBAb", "0-4 (0-2) 6")
	areCaseless(`(.)\1`, "\u0212\u0261", "0-4 (0-2) 4")
	areCaseless(".", "\n", "none 2")
	areCaseless("(?!a)[a-c]+", "Abc", "1-3 10")
	areCaseless("\u0260", "\u0212\u0212", "none 3")
}

func TestCasesOfAllPointsInMatches(t *testing.T) {
	for p := int64(0); p <= impl.LastKnown; p++ {
		cases := casesPlainly(p)
		for _, q := range append([]int64{p + 0x20, p - 0x20, p ^ 1}, cases...) {
			if len(cases) > 1 && q >= 0 {
				isAlikeByEach(t, p, q, true, slices.Contains(cases, q))
				isAlikeByEach(t, p, q, false, p == q)
			}
		}
	}
}

// TestSetsOfManySpansInMatches has a set that no list of chapter 5 may have.
func TestSetsOfManySpansInMatches(t *testing.T) {
	for _, count := range []int{1, 2, impl.MaxList, impl.MaxList + 1, 5000} {
		set := impl.PatNode{Kind: impl.PtSet, Set: everySecond(0x100, count)}
		last := set.Set[count-1].Last
		for _, p := range []int64{0, 0xFE, 0xFF, 0x100, 0x101, 0x102, 0x103, last - 2, last - 1, last, last + 1, last + 2, impl.LastKnown, impl.LastKnown + 1} {
			a := asked{nodes: []impl.PatNode{set}, text: textWritten(p)}
			isMatch(t, a, backPlainly(a, 10))
		}
	}
}

func TestSetsOfEachPointInMatches(t *testing.T) {
	nodes := []impl.PatNode{{Kind: impl.PtSet, Set: spansFrom(spanRow{2, 2, 1}, spanRow{4, 7, 1}, spanRow{'A', 'C', 1}, spanRow{0x100, 0x2FF, 1}, spanRow{impl.LastKnown - 1, impl.LastKnown, 1})}}
	for _, p := range append(pointsApart(), impl.LastKnown-2, impl.LastKnown-1, impl.LastKnown, impl.LastKnown+1) {
		for _, caseless := range []bool{false, true} {
			a := asked{nodes: nodes, text: textWritten(p), caseless: caseless}
			isMatch(t, a, backPlainly(a, 10))
		}
	}
}

func TestBudgetsOfMatches(t *testing.T) {
	a := patternIn("b+", "abbc")
	for budget := int64(-3); budget < 10; budget++ {
		isMatchBack(t, a, budget, backPlainly(a, budget))
	}
	isMatchBack(t, a, 5, impl.Match{Code: impl.ErrLimit})
	isMatchBack(t, a, 0, impl.Match{Code: impl.ErrLimit})
	isMatchBack(t, a, 6, matchFrom("1-3 6"))
	for budget, want := range map[int64]string{
		-1: "form", impl.MaxBudget + 1: "form", math.MinInt64: "form", math.MaxInt64: "form", 1<<32 + 5: "form", -1<<32 + 5: "form",
		impl.MaxBudget: "1-3 6", 0: "limit", 1: "limit",
	} {
		isMatchBack(t, a, budget, matchFrom(want))
	}
	// of n times a and m times c these are n*n + 5n + 4 + 4m steps
	many := patternIn("a*b", strings.Repeat("a", 312)+strings.Repeat("c", 273))
	isMatch(t, many, impl.Match{Code: impl.ErrNone, Steps: impl.MaxBudget})
	many.text += "c"
	isMatchBack(t, many, impl.MaxBudget, impl.Match{Code: impl.ErrLimit})
	isMatchStates(t, many, impl.Match{Code: impl.ErrNone})
	many.text += "b"
	isMatchBack(t, many, impl.MaxBudget, impl.Match{Code: impl.ErrLimit})
	isMatchStates(t, many, impl.Match{First: 312 + 274, Last: 312 + 275})
	// what is begun within a look ahead and within times that give nothing back counts as well
	for _, pattern := range []string{"(?=a*b)", "(?!a*b)b", "(?:a*b)*+b", "(?:(?:(?:){50}){50}){50}", "(?:a?){50}(?:a?){50}a{50}b", "(a*)*b", `(a*)(?:\1)*b`} {
		hard := patternIn(pattern, strings.Repeat("a", 900))
		isMatchBack(t, hard, impl.MaxBudget, impl.Match{Code: impl.ErrLimit})
		isMatchBack(t, hard, 1, impl.Match{Code: impl.ErrLimit})
	}
}

// TestOutOfStepsIsNoMatch has patterns that would have a match, if a look ahead or times that were left could be
// taken for ones without a way.
func TestOutOfStepsIsNoMatch(t *testing.T) {
	for _, pattern := range []string{"(?!aaaa)", "(?!aaaa)a*", "(?:aaaa)*+", "(?:aaaa)?+a", "(?:(?!aaab)a)*+", "(?=a*)(?!b)", "(?:a{2,4}+){0,3}+"} {
		a := patternIn(pattern, "aaaab")
		want := backPlainly(a, impl.MaxBudget)
		isMatch(t, a, want)
		for budget := range want.Steps {
			isMatchBack(t, a, budget, impl.Match{Code: impl.ErrLimit})
		}
	}
}

func areSimple(t *testing.T, simple bool, patterns ...string) {
	t.Helper()
	for _, pattern := range patterns {
		nodes := impl.ReadPattern(pattern).Nodes
		if len(nodes) == 0 {
			t.Errorf("%q is no pattern", pattern)
		}
		if got := impl.IsSimple(nodes); got != simple {
			t.Errorf("IsSimple of %q: %t", pattern, got)
		}
		want := matchFrom("right")
		if simple {
			want = backPlainly(asked{nodes: nodes, text: "ab"}, impl.MaxBudget)
			want.Steps = 0
		}
		isMatchStates(t, asked{nodes: nodes, text: "ab"}, want)
	}
}

func TestSimplePatternsByHand(t *testing.T) {
	areSimple(t, true, "", "a", ".", "[ab]", "ab", "a|b", "a|", "a*", "a+?", "a{2,3}", "a{0}", "(a)", "(?:a)", "()", "^", "$", `\b`, `^$\b`,
		"(?:a|b)*", "(a|bc)+", "(?:a*b)*", "(?:ab*)*", "(?:^a$)*", `(?:\ba)+?`, "(?:(?:)a)*", "(?:a+){2}", "(?:a{1,2}){0}", "(?:a|b|(c)){3,}", "()a*|^", "(?:a(?:|b))*")
	areSimple(t, false, "(?=a)", "(?!a)", `(a)\1`, "a*+", "a?+", "a{2}+", "a{0}+", "a(?:b(?=c))", "(a|(?!b))", "(?:a++)*", "x*(?:y|z{2}+)",
		"(?:)*", "(?:)*?", "(?:){2}", "(?:){0}", "()*", "(?:a|)*", "(?:|a)+", "(?:a*)*", "(?:a?){2}", "(?:a{0})*", "(?:a{0,3})+", "(?:^)*", "(?:$)*", `(?:\b)*`, "(^)+", "(?:^|a)*", "(?:(?:^))*", "(?:(?:a*))*", "((a?))?",
		"(?:^$)*", `(?:^\b)*`, `(?:\b$)*`, "(?:a*b*)*", "(?:(?:a|)(?:|b))*", "(?:(?:a+|)(?:b))*(?:a?)*", `(?:^|$|\b)*`, "a(?:b(?:c?)*)", "a|(?:b?)*", "(?:(?:b?){1}c)*", "(?:(?:^){2}c)*")
	// nothing is a beginning, an end and a cut at once, as the empty text has no cuts
	areSimple(t, true, `(?:^$\b)*`, `(?:^\b$)+?`, `(?:$(\b)(?:^))*a`, `(?:(?:^|a)(?:$|b)\b)*`, `(?:^(?:$\b|a))*`, `(?:$\b^|$^\b){2}`)
	areSimple(t, false, `(?:^(?:$\b|))*`, `(?:(?:^|)$\b)*`, `(?:^$\b|)*`, `(?:(?:^$|\b)(?:^|$))*`, `(?:^$\ba*|^$)*`)
}

func TestSimpleOfWrongNodes(t *testing.T) {
	for _, row := range []string{"", "row1 pa", "row2 pa", "pa pa", "times0,-1,0", "times0,-1,3 pa", "times2,1,0 pa", "group1", "group2 pa", "or2 pa", "again1", "set", "u110000", "uD800"} {
		var nodes []impl.PatNode
		if row != "set" {
			nodes = nodesFrom(row)
		} else {
			nodes = []impl.PatNode{{Kind: impl.PtSet}}
		}
		if impl.IsSimple(nodes) {
			t.Errorf("IsSimple of %q", row)
		}
		a := asked{nodes: nodes, text: "a"}
		isMatchBack(t, a, 10, matchFrom("form"))
		isMatchStates(t, a, matchFrom("form"))
		if all, pieces := impl.MatchAll(nodes, "a", false), impl.SplitBy(nodes, "a", false); len(all) > 0 || len(pieces) > 0 {
			t.Errorf("%q: %v %q", row, all, pieces)
		}
		isReplaced(t, a, "b", impl.Written{Code: impl.ErrForm})
	}
	if impl.IsSimple(nil) || impl.IsSimple([]impl.PatNode{}) || impl.IsSimple(nodesFrom("row200 "+strings.Repeat("pa ", 200))) || !impl.IsSimple(nodesFrom("row199 "+strings.Repeat("pa ", 199))) {
		t.Error("IsSimple of none, of 200 nodes or of 201")
	}
	for kind := int64(-1); kind < 20; kind++ {
		nodes := []impl.PatNode{{Kind: kind}}
		if got := impl.IsSimple(nodes); got != isSimplePlainly(nodes) {
			t.Errorf("IsSimple of kind %d: %t", kind, got)
		}
	}
}

func TestCountsOfStates(t *testing.T) {
	for pattern, want := range map[string]string{
		// 2000 and one more
		"(?:a{50}){40}": "none", "(?:a{50}){40}b": "limit", "(?:a{50}){39}a{50}": "none", "(?:a{50}){39}a{50}|": "limit", "(?:a{50}){39}a{49}|": "none", "(?:a{50}){39}a{49}(^)": "none", "(?:a{50}){39}a{49}()$": "limit",
		"(?:a{40}){49,}": "none", "(?:a{40}){49,}.": "limit", "(?:a{40}){50,}": "limit", "(?:(?:ab){20}){50}": "none", "(?:(?:ab){20}){50}[c]": "limit", "(?:(?:ab){20}){49}(?:ab){20}": "none",
		"(?:(?:a|b){0,20}c){5,48}": "none", "(?:(?:a|b){0,20}c){5,49}": "limit", "(?:a{24,}){40}c{50}": "none", "(?:(?:a{49,}){39,}c)": "limit", "(?:a{49,}){39,}": "none", "(?:a{49,}){39,}?(?:)": "limit",
		// those of none at all
		"(?:(?:a{50}){50}){0}z": "none", "(?:(?:(?:a{50}){50}){50}){0,0}z{50}": "none", "(?:(?:a{50}){50}){1}z": "limit", "(?:(?:a{50}){0}b){50}": "none",
		// more than a number has, or nearly
		nested("(?:", "a{50}", "){50}", 9): "limit", nested("(?:", "a{50,}", "){50,}", 9): "limit", "(?:" + nested("(?:", "a{50,}", "){50,}", 7) + "){0}z": "none",
	} {
		nodes := impl.ReadPattern(pattern).Nodes
		tree, _, whole := treePlainly(nodes)
		a := asked{nodes: nodes, text: "zyx", from: 1}
		expected := matchFrom(want)
		if want == "none" && strings.HasSuffix(pattern, "|") {
			expected = impl.Match{First: 1, Last: 1}
		}
		if isLimit := statesOf(tree) > impl.MaxStates; !whole || isLimit != (want == "limit") || !impl.IsSimple(nodes) {
			t.Errorf("%q has %.0f states", pattern, statesOf(tree))
		}
		isMatchStates(t, a, expected)
	}
}

// TestHardPatterns has patterns that MatchBack has not steps enough for.
func TestHardPatterns(t *testing.T) {
	many := strings.Repeat("a", 1000)
	for _, row := range [][3]string{
		{"(?:a|a)*b", many, "none"}, {"(?:a|a)*b", many[:999] + "b", "0-1000 0"}, {"(ab){0}(?:(a)|(a))*?b", many[:999] + "b", "0-1000 (- 998-999 -) 0"}, {"(?:a+b)*c", many, "none"}, {"(?:a{1,20}){1,50}b", many, "none"},
		{"(?:a{1,20}){1,50}b", many[:600] + "b", "0-601 0"}, {"(?:(?:a|aa)+(?:b|)){3}c", many, "none"}, {strings.Repeat("a?", 60) + strings.Repeat("a", 60), many[:60], "0-60 0"},
		{"(?:a|b)*(a|b)(?:a|b){40}c", strings.Repeat("ab", 499) + "c", "0-999 (957-958) 0"}, {"(?:.*?a)*?c", many + "", "none"}, {"[^b]*[^c]*[^d]*[^e]*f", many, "none"}, {"(a|b(?:x{0}|y{0})(?:x{0}|y{0}))*c", many, "none"},
	} {
		a := patternIn(row[0], row[1])
		isMatchStates(t, a, matchFrom(row[2]))
	}
}

// shortMatchTexts are texts on which short patterns are tried.
func shortMatchTexts() []string {
	return []string{"", "a", "ab", "ba1b", "aabaab", "a\n\xFFa\u1000", "A=2", "b 5!"}
}

// TestShortPatternsInTexts holds all short patterns against the plain reading.
func TestShortPatternsInTexts(t *testing.T) {
	codes, simple, budget := map[int64]int{}, 0, int64(3000)
	texts, count := shortMatchTexts(), 0
	eachPatternText(func(pattern string) {
		nodes := impl.ReadPattern(pattern).Nodes
		if len(nodes) == 0 {
			return
		}
		count++
		a := asked{nodes: nodes, text: texts[count%len(texts)], from: int64(count/len(texts)) % 3, caseless: count%16 < 8}
		want := backPlainly(a, budget)
		isMatchBack(t, a, budget, want)
		codes[want.Code]++
		plainly := isSimplePlainly(nodes)
		if got := impl.IsSimple(nodes); got != plainly {
			t.Errorf("IsSimple of %q: %t", pattern, got)
		}
		if plainly {
			simple++
		}
		if states, known := statesPlainly(a); known {
			isMatchStates(t, a, states)
		}
	})
	if codes[impl.OK] < 10000 || codes[impl.ErrNone] < 3000 || simple < 10000 || count-simple < 2000 {
		t.Errorf("codes %v, %d simple ones of %d", codes, simple, count)
	}
}

// matchAlphabet has letters of several cases, some that are alike by case alone, and others.
func matchAlphabet() []int64 {
	return []int64{'a', 'a', 'a', 'b', 'b', 'A', 0x2600, 0x212, 0x232, 0x261, ' ', '\n', 0xFFFD}
}

func matchSets() [][]impl.Span {
	return [][]impl.Span{spansFrom(spanRow{'a', 'a', 1}), spansFrom(spanRow{'a', 'b', 1}), spansFrom(spanRow{'A', 'B', 1}), spansFrom(spanRow{'b', 'b', 1}, spanRow{0x212, 0x212, 1}), spansFrom(spanRow{0, ' ', 1}, spanRow{'b', impl.LastKnown, 1})}
}

// matchPattern makes patterns of few points, with small times.
func matchPattern(r *rand.Rand) []impl.PatNode {
	grower := patternGrower{Rand: r, points: matchAlphabet(), left: 1 + r.Intn(20)}
	nodes := grower.pattern(2 + r.Intn(8)).nodes()
	sets := matchSets()
	for at := range nodes {
		switch node := &nodes[at]; node.Kind {
		case impl.PtSet:
			node.Set = sets[r.Intn(len(sets))]
		case impl.PtTimes:
			node.Least = r.Int63n(3)
			node.Most = []int64{-1, -1, node.Least, node.Least + 1, node.Least + 2}[r.Intn(5)]
		}
	}
	return nodes
}

// plainerPattern makes a pattern without what no simple one has, but for times of what may take no point.
func plainerPattern(nodes []impl.PatNode) []impl.PatNode {
	nodes = slices.Clone(nodes)
	for at := range nodes {
		switch node := &nodes[at]; node.Kind {
		case impl.PtAhead, impl.PtNot:
			*node = impl.PatNode{Kind: impl.PtGroup, Kids: 1}
		case impl.PtAgain:
			*node = impl.PatNode{Kind: impl.PtAny}
		case impl.PtTimes:
			node.Way %= 2
		}
	}
	return nodes
}

func matchedText(r *rand.Rand, most int) string {
	alphabet := matchAlphabet()
	var text strings.Builder
	for range r.Intn(most + 1) {
		if r.Intn(15) == 0 {
			text.WriteString("\xFF")
			continue
		}
		text.WriteString(writtenBytes(alphabet[r.Intn(len(alphabet))]))
	}
	return text.String()
}

func randomAsked(r *rand.Rand, nodes []impl.PatNode) asked {
	return asked{nodes: nodes, text: matchedText(r, 9), from: r.Int63n(4) - 1, caseless: r.Intn(2) == 0}
}

// TestMatchesNeedTheirSteps is the thirty-seventh promise.
func TestMatchesNeedTheirSteps(t *testing.T) {
	r := rand.New(rand.NewSource(151))
	codes := map[int64]int{}
	for range 60000 {
		a := randomAsked(r, matchPattern(r))
		budget := r.Int63n(4000)
		want := backPlainly(a, budget)
		codes[want.Code]++
		isMatchBack(t, a, budget, want)
		if got := a.back(impl.MaxBudget); got.Code == impl.OK || got.Code == impl.ErrNone {
			isMatchBack(t, a, got.Steps, got)
			isMatchBack(t, a, got.Steps-1, impl.Match{Code: map[bool]int64{true: impl.ErrForm, false: impl.ErrLimit}[got.Steps == 0]})
			if got.Steps > 0 {
				isMatchBack(t, a, r.Int63n(got.Steps), impl.Match{Code: impl.ErrLimit})
			}
		}
	}
	if codes[impl.OK] < 20000 || codes[impl.ErrNone] < 5000 || codes[impl.ErrLimit] < 100 {
		t.Errorf("the codes were %v", codes)
	}
}

// TestBothEnginesHaveOneMatch is the thirty-sixth promise.
func TestBothEnginesHaveOneMatch(t *testing.T) {
	r := rand.New(rand.NewSource(152))
	simple, groups := 0, 0
	for range 30000 {
		nodes := plainerPattern(matchPattern(r))
		a := randomAsked(r, nodes)
		plainly := isSimplePlainly(nodes)
		if got := impl.IsSimple(nodes); got != plainly {
			t.Errorf("IsSimple of %s: %t", a, got)
		}
		if want, known := statesPlainly(a); known {
			isMatchStates(t, a, want)
		}
		back := a.back(impl.MaxBudget)
		if !plainly || back.Code == impl.ErrLimit {
			continue
		}
		simple++
		if len(back.Groups) > 0 {
			groups++
		}
		back.Steps = 0
		isMatchStates(t, a, back)
	}
	if simple < 15000 || groups < 1500 {
		t.Errorf("%d simple ones, %d with groups", simple, groups)
	}
}

// TestMatchesOfWildPatterns has patterns of all points, classes and times.
func TestMatchesOfWildPatterns(t *testing.T) {
	r := rand.New(rand.NewSource(153))
	for range 4000 {
		a := randomAsked(r, randomPattern(r))
		isMatchBack(t, a, 5000, backPlainly(a, 5000))
		if want, known := statesPlainly(a); known {
			isMatchStates(t, a, want)
		}
	}
}

func TestAllMatchesByHand(t *testing.T) {
	for _, row := range [][3]string{
		{"a", "", ""}, {"a", "b", ""}, {"a", "a", "0-1"}, {"a", "aba", "0-1 2-3"}, {"a+", "aabaa", "0-2 3-5"}, {"ab|a", "aab", "0-1 1-3"},
		{"", "", "0-0"}, {"", "ab", "0-0 1-1 2-2"}, {"", "\u1000\xFFb", "0-0 3-3 4-4 5-5"}, {"a*", "aa", "0-2 2-2"}, {"a*", "baac", "0-0 1-3 3-3 4-4"}, {"a*?", "aa", "0-0 1-1 2-2"}, {"a?", "ab", "0-1 1-1 2-2"},
		{"^", "ab", "0-0"}, {"$", "ab", "2-2"}, {"^|$", "ab", "0-0 2-2"}, {`\b`, "ab c", "0-0 2-2 3-3 4-4"}, {"$", "", "0-0"}, {"|a", "aa", "0-0 1-1 2-2"}, {"(?=a)", "aba", "0-0 2-2"}, {"(?!a)", "aba", "1-1 3-3"}, {"b|", "aab", "0-0 1-1 2-3 3-3"},
		{".", "a\n\u1000", "0-1 2-5"}, {"aa", "aaaaa", "0-2 2-4"}, {`(.)\1`, "aabbb", "0-2 2-4"}, {"^a", "aa", "0-1"}, {"a$", "aa", "1-2"},
	} {
		var want []impl.Found
		for _, word := range strings.Fields(row[2]) {
			want = append(want, stretchFrom(word))
		}
		a := patternIn(row[0], row[1])
		areAll(t, a, want)
		areAllPlainly(t, a, "", "x", "[$0]", "$1$2$$$")
	}
	caseless := patternIn("a", "aAb\u2600")
	caseless.caseless = true
	areAll(t, caseless, []impl.Found{{First: 0, Last: 1}, {First: 1, Last: 2}, {First: 3, Last: 6}})
	isReplaced(t, caseless, "$0$0", impl.Written{Text: "aaAAb\u2600\u2600", Steps: 3})
}

func TestSplitByHand(t *testing.T) {
	for _, row := range []struct {
		pattern string
		text    string
		want    []string
	}{
		{",", "a,b", []string{"a", "b"}}, {",", "", []string{""}}, {",", "ab", []string{"ab"}}, {",", ",", []string{"", ""}}, {",", ",a,", []string{"", "a", ""}}, {",", ",,", []string{"", "", ""}}, {",+", "a,,b", []string{"a", "b"}},
		{"", "", []string{"", ""}}, {"", "ab", []string{"", "a", "b", ""}}, {"x*", "axb", []string{"", "a", "", "b", ""}}, {"$", "ab", []string{"ab", ""}}, {"^", "ab", []string{"", "ab"}}, {"ab", "ab", []string{"", ""}}, {"(a)", "bab", []string{"b", "b"}},
		{",", "\xFF,\u1000", []string{"\xFF", "\u1000"}},
	} {
		if got := impl.SplitBy(impl.ReadPattern(row.pattern).Nodes, row.text, false); !slices.Equal(got, row.want) {
			t.Errorf("SplitBy of %q in %q: got %q, want %q", row.pattern, row.text, got, row.want)
		}
	}
}

func TestReplacedByHand(t *testing.T) {
	for _, row := range []struct {
		pattern string
		text    string
		with    string
		want    string
		steps   int64
	}{
		{"(.)b", "abcb", "<$1>", "<a><c>", 2}, {"a", "", "x", "", 0}, {"a", "b", "x", "b", 0}, {"a", "aba", "", "b", 2}, {"", "ab", "-", "-a-b-", 3}, {"a*", "baac", "x", "xbxxcx", 4},
		{"a", "a", "$0$0", "aa", 1}, {"a", "a", "$", "$", 1}, {"a", "a", "$$", "$", 1}, {"a", "a", "$$$", "$$", 1}, {"a", "a", "$$$$", "$$", 1}, {"a", "a", "$$0", "$0", 1}, {"a", "a", "$$$0", "$a", 1}, {"a", "a", "x$", "x$", 1}, {"a", "a", "$x", "$x", 1}, {"a", "a", "$ 1", "$ 1", 1}, {"a", "a", "$/$:$-", "$/$:$-", 1},
		{"a", "a", "$1", "", 1}, {"a", "a", "<$1$9>", "<>", 1}, {"(a)|(b)", "ab", "[$1,$2,$3]", "[a,,][,b,]", 2}, {"(a)", "a", "$10", "a0", 1}, {"(a)", "a", "$01", "a1", 1}, {"(a)", "a", "$1$1", "aa", 1}, {"()a", "a", "<$1>", "<>", 1}, {"(a)?b", "b", "<$1>", "<>", 1},
		{"(a)(b)(c)(d)(e)(f)(g)(h)(i)", "abcdefghi", "$9$8$7$6$5$4$3$2$1$0", "ihgfedcbaabcdefghi", 1}, {"(?=(a+))", "aa", "<$1>", "<aa>a<a>a", 2}, {"(\u1000)", "a\u1000", "$1$1", "a\u1000\u1000", 1},
		{"a", "\xFFa\xFE", "\xC0$0\xFF", "\xFF\xC0a\xFF\xFE", 1}, {".", "\xFF", "$0$0", "\xFF\xFF", 1}, {"a", "a", "$\u0663", "$\u0663", 1}, {"$", "ab", "!", "ab!", 1}, {"^", "ab", "$$1", "$1ab", 1},
	} {
		isReplaced(t, patternIn(row.pattern, row.text), row.with, impl.Written{Text: row.want, Steps: row.steps})
	}
	// each sign behind a $
	for b := range 128 {
		with, want := "<$"+string(rune(b))+">", "<$"+string(rune(b))+">"
		switch {
		case b == '$':
			want = "<$>"
		case b == '0':
			want = "<ab>"
		case b == '1' || b == '2':
			want = "<" + "ab"[b-'1':b-'0'] + ">"
		case b >= '3' && b <= '9':
			want = "<>"
		}
		isReplaced(t, patternIn("(a)(b)", "xaby"), with, impl.Written{Text: "x" + want + "y", Steps: 1})
	}
}

// TestStepsOfAllMatches has a pattern of 100 steps a match.
func TestStepsOfAllMatches(t *testing.T) {
	many := strings.Repeat("a", 1000)
	a := patternIn("(?:a)(?:){48}", many[:1])
	isMatch(t, a, impl.Match{Last: 1, Steps: 100})
	eachOne := func(count int) []impl.Found {
		var all []impl.Found
		for at := range count {
			all = append(all, impl.Found{First: int64(at), Last: int64(at + 1)})
		}
		return all
	}
	// behind 999 matches there are 100 steps for the end, which needs 3
	a.text = many[:999]
	areAll(t, a, eachOne(999))
	isReplaced(t, a, "b", impl.Written{Text: strings.Repeat("b", 999), Steps: 999})
	// behind 1000 there is none
	a.text = many
	areAll(t, a, eachOne(1000))
	isReplaced(t, a, "b", impl.Written{Code: impl.ErrLimit})
	// it runs out within a match: 102 steps each
	within := patternIn("(?:a)(?:){49}", many)
	isMatchBack(t, within, impl.MaxBudget, impl.Match{Last: 1, Steps: 102})
	areAll(t, within, eachOne(980))
	isReplaced(t, within, "b", impl.Written{Code: impl.ErrLimit})
	within.text = many[:980]
	areAll(t, within, eachOne(980))
	isReplaced(t, within, "b", impl.Written{Text: strings.Repeat("b", 980), Steps: 980})
	// at once
	hard := patternIn("a*b", many)
	areAll(t, hard, nil)
	isReplaced(t, hard, "b", impl.Written{Code: impl.ErrLimit})
	// what comes of the matches ahead of it is too long by itself
	isReplaced(t, within, strings.Repeat("b", 100), impl.Written{Code: impl.ErrSize})
	within.text = many
	isReplaced(t, within, strings.Repeat("b", 66), impl.Written{Code: impl.ErrLimit})
	isReplaced(t, within, strings.Repeat("b", 67), impl.Written{Code: impl.ErrSize})
	isReplaced(t, a, strings.Repeat("b", 65), impl.Written{Code: impl.ErrLimit})
	isReplaced(t, a, strings.Repeat("b", 66), impl.Written{Code: impl.ErrSize})
}

// TestMatchesAndPiecesAreTheText is the thirty-eighth promise.
func TestMatchesAndPiecesAreTheText(t *testing.T) {
	r := rand.New(rand.NewSource(154))
	counts := map[int]int{}
	for range 8000 {
		a := randomAsked(r, matchPattern(r))
		a.from = 0
		all, pieces := impl.MatchAll(a.nodes, a.text, a.caseless), impl.SplitBy(a.nodes, a.text, a.caseless)
		counts[min(len(all), 3)]++
		if len(pieces) != len(all)+1 {
			t.Fatalf("%s: %d matches, %d pieces", a, len(all), len(pieces))
		}
		text := pieces[0]
		for at, match := range all {
			text += a.text[match.First:match.Last] + pieces[at+1]
		}
		isText(t, "matches and pieces", a.String(), text, a.text)
		if got := impl.ReplaceAll(a.nodes, a.text, a.caseless, "$0"); got.Code == impl.OK {
			isText(t, "ReplaceAll by $0", a.String(), got.Text, a.text)
		}
		if !slices.IsSortedFunc(all, func(a, b impl.Found) int { return int(a.First - b.First) }) {
			t.Errorf("%s: %v", a, all)
		}
		if matches, _ := allPlainly(asked{a.nodes, a.text, 0, a.caseless}); len(matches) < 50 {
			areAllPlainly(t, a, "", "$1-$2$$")
		}
	}
	for count := range 4 {
		if counts[count] < 500 {
			t.Errorf("the counts were %v", counts)
		}
	}
}

func TestSizesOfMatches(t *testing.T) {
	wide := strings.Repeat("\U00010000", impl.MaxList)
	for _, row := range []struct {
		text string
		much bool
	}{
		{strings.Repeat("a", impl.MaxList), false}, {strings.Repeat("a", impl.MaxList+1), true}, {wide, false}, {wide + "a", true}, {strings.Repeat("\xFF", impl.MaxList), false}, {strings.Repeat("\xFF", impl.MaxList+1), true},
		{strings.Repeat("\U00010000", impl.MaxBytes/4), true}, {strings.Repeat("a", impl.MaxBytes), true}, {strings.Repeat("a", impl.MaxBytes+1), true}, {strings.Repeat("\U00010000", impl.MaxBytes/4) + "a", true},
	} {
		a := patternIn(".$", row.text)
		count := int64(len([]rune(row.text)))
		size := int64(len(row.text)) / count
		want, pieces, replaced := impl.Match{First: size * (count - 1), Last: size * count, Steps: 3 * count}, 2, impl.Written{Text: row.text[:size*(count-1)] + "xy", Steps: 1}
		if row.much {
			want, pieces, replaced = impl.Match{Code: impl.ErrSize}, 0, impl.Written{Code: impl.ErrSize}
		}
		isMatchBack(t, a, impl.MaxBudget, want)
		want.Steps = 0
		isMatchStates(t, a, want)
		if all, split := impl.MatchAll(a.nodes, a.text, false), impl.SplitBy(a.nodes, a.text, false); len(split) != pieces || len(all) != max(pieces, 1)-1 {
			t.Errorf("%d bytes: %v, %d pieces", len(a.text), all, len(split))
		}
		isReplaced(t, a, "xy", replaced)
		isReplaced(t, patternIn("b", "abc"), row.text, map[bool]impl.Written{true: {Code: impl.ErrSize}, false: {Text: "a" + row.text + "c", Steps: 1}}[row.much])
	}
	// an answer of all points, and the longest list
	areAll(t, patternIn("", strings.Repeat("a", impl.MaxList)), func() (all []impl.Found) {
		for at := range int64(impl.MaxList + 1) {
			all = append(all, impl.Found{First: at, Last: at})
		}
		return all
	}())
}

func TestReplacedThatIsTooLong(t *testing.T) {
	a := patternIn("a", strings.Repeat("a", 512))
	with := strings.Repeat("xy", 64)
	isReplaced(t, a, with, impl.Written{Text: strings.Repeat(with, 512), Steps: 512})
	a.text += "b"
	isReplaced(t, a, with, impl.Written{Code: impl.ErrSize})
	a.text = "b" + a.text[:512]
	isReplaced(t, a, with, impl.Written{Code: impl.ErrSize})
	// $0 of 992 bytes, 66 times, and 64
	one := patternIn("(a+)", strings.Repeat("a", 992))
	isReplaced(t, one, strings.Repeat("$0", 66)+strings.Repeat("x", 64), impl.Written{Text: strings.Repeat("a", 992*66) + strings.Repeat("x", 64), Steps: 1})
	isReplaced(t, one, strings.Repeat("$1", 66)+strings.Repeat("x", 65), impl.Written{Code: impl.ErrSize})
	isReplaced(t, patternIn("(?=(a+))", strings.Repeat("a", 400)), strings.Repeat("$1", 500), impl.Written{Code: impl.ErrSize})
	// what comes may have more points than a text that is given
	isReplaced(t, patternIn("", strings.Repeat("b", impl.MaxList)), "a", impl.Written{Text: strings.Repeat("ab", impl.MaxList) + "a", Steps: impl.MaxList + 1})
}

// TestFirstOfFaultsOfMatches has each fault beside each other one.
func TestFirstOfFaultsOfMatches(t *testing.T) {
	long, hard := strings.Repeat("a", impl.MaxList+1), strings.Repeat("a", impl.MaxList)
	right, wrong, many := nodesFrom("pb"), nodesFrom("row1 pb"), nodesFrom(strings.Repeat("group0 ", impl.MaxList)+"pb")
	much, kept, big := nodesFrom(strings.Repeat("group0 ", 300)+"pb"), impl.ReadPattern("b++").Nodes, impl.ReadPattern("(?:b{50}){50}").Nodes
	both := impl.ReadPattern("(?:b{50}){50}+").Nodes
	for _, row := range []struct {
		nodes  []impl.PatNode
		text   string
		budget int64
		back   string
		states string
	}{
		{right, "a", 9, "none 2", "none 0"}, {right, "a", 1, "limit", "none 0"}, {right, "a", -1, "form", "none 0"}, {right, "a", impl.MaxBudget + 1, "form", "none 0"},
		{right, long, 9, "size", "size"}, {right, long, -1, "size", "size"}, {right, long, 0, "size", "size"},
		{wrong, "a", 9, "form", "form"}, {wrong, "a", -1, "form", "form"}, {wrong, "a", 0, "form", "form"}, {wrong, long, 9, "size", "size"}, {wrong, long, -1, "size", "size"},
		{nil, "a", 9, "form", "form"}, {nil, long, 9, "size", "size"}, {many, "a", 9, "size", "size"}, {many, long, 9, "size", "size"}, {many, "a", -1, "size", "size"}, {many[1:], "a", 9, "form", "form"}, {much, "a", 9, "form", "form"},
		{kept, "a", 9, "none 4", "right"}, {kept, "b", 1, "limit", "right"}, {kept, long, 9, "size", "size"}, {kept, "b", -1, "form", "right"},
		{big, "a", 9, "none 8", "limit"}, {big, long, 9, "size", "size"}, {big, "b", -1, "form", "limit"}, {both, "a", 9, "none 8", "right"}, {both, hard, 9, "limit", "right"},
	} {
		a := asked{nodes: row.nodes, text: row.text}
		isMatchBack(t, a, row.budget, matchFrom(row.back))
		isMatchStates(t, a, matchFrom(row.states))
	}
	out := impl.ReadPattern("a*b").Nodes
	for _, row := range []struct {
		nodes []impl.PatNode
		text  string
		with  string
		code  int64
	}{
		{wrong, "a", "b", impl.ErrForm}, {wrong, long, "b", impl.ErrSize}, {wrong, "a", long, impl.ErrSize}, {right, "a", long, impl.ErrSize}, {right, long, "", impl.ErrSize}, {many, "a", "b", impl.ErrSize}, {many[1:], "a", "b", impl.ErrForm}, {nil, "", "", impl.ErrForm},
		{out, hard, "b", impl.ErrLimit}, {out, hard, long, impl.ErrSize}, {wrong, hard, "b", impl.ErrForm}, {out, long, "b", impl.ErrSize},
	} {
		isReplaced(t, asked{nodes: row.nodes, text: row.text}, row.with, impl.Written{Code: row.code})
	}
	for _, row := range []asked{{nodes: wrong, text: "b"}, {nodes: many, text: "b"}, {nodes: right, text: long}, {nodes: nil, text: "b"}, {nodes: much, text: "b"}} {
		if all, pieces := impl.MatchAll(row.nodes, row.text, false), impl.SplitBy(row.nodes, row.text, false); len(all) > 0 || len(pieces) > 0 {
			t.Errorf("%s: %v %q", row, all, pieces)
		}
	}
}

func TestMatchesAreNewMemory(t *testing.T) {
	nodes, text, with := spareNodes(impl.ReadPattern(`(a|[b-dx])(\u)?.`).Nodes), strings.Clone("--xaB-+cdE--fg"), strings.Clone("<$1>")
	told := func() string {
		row := fmt.Sprint(text, with, nodes[:cap(nodes)])
		for _, node := range nodes {
			row += fmt.Sprint(node.Set[:cap(node.Set)])
		}
		return row
	}
	given, first := told(), ""
	for range 3 {
		back, states := impl.MatchBack(nodes, text, 0, true, 1000), impl.MatchStates(nodes, text, 0, true)
		all, pieces, replaced := impl.MatchAll(nodes, text, true), impl.SplitBy(nodes, text, true), impl.ReplaceAll(nodes, text, true, with)
		again := fmt.Sprint(back, states, all, pieces, replaced)
		if first == "" {
			first = again
		}
		if again != first || len(back.Groups) != 2 || len(all) < 2 {
			t.Errorf("asked again: %s, want %s", again, first)
		}
		isApart(t, "SplitBy", pieces, text, with)
		isApart(t, "ReplaceAll", []string{replaced.Text}, text, with)
		for at, piece := range pieces {
			isApart(t, "SplitBy", []string{piece}, pieces[at+1:]...)
		}
		clear(back.Groups[:cap(back.Groups)])
		clear(states.Groups[:cap(states.Groups)])
		clear(all[:cap(all)])
		clear(pieces[:cap(pieces)])
		if got := told(); got != given {
			t.Errorf("what was given became %s, it was %s", got, given)
		}
	}
	none := impl.ReplaceAll(impl.ReadPattern("z").Nodes, text, false, with)
	isApart(t, "ReplaceAll without a match", []string{none.Text}, text)
	isApart(t, "SplitBy without a match", impl.SplitBy(impl.ReadPattern("z").Nodes, text, false), text)
}
