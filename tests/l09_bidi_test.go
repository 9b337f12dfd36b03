package tests

import (
	"fmt"
	"math/rand"
	"regexp"
	"slices"
	"strconv"
	"strings"
	"testing"

	"loop.example/g00044/impl"
)

// dirClasses: L R as the document names them, A AN, E EN, + ES, "," CS, B, S WS, M NSM, a LRE, b RLE, c PDF,
// d LRO, f RLO, i LRI, j RLI, k FSI, P PDI, o BN; all others are N, ON.
var dirClasses = []classRange{
	{0x500, 0x51F, "R"}, {0x1F0B, 0x1F0B, "R"},
	{0x550, 0x559, "A"},
	{0x30, 0x39, "E"}, {0x250, 0x259, "E"}, {0x350, 0x359, "E"}, {0x450, 0x459, "E"}, {0x650, 0x659, "E"}, {0x2720, 0x2729, "E"},
	{'+', '+', "+"}, {'-', '-', "+"},
	{',', ',', ","}, {'.', '.', ","}, {':', ':', ","}, {'/', '/', ","},
	{0x0A, 0x0A, "B"}, {0x0D, 0x0D, "B"},
	{0x20, 0x20, "S"}, {0xA0, 0xA0, "S"}, {0x1F80, 0x1F80, "S"}, {0x09, 0x09, "S"},
	{0x620, 0x62B, "M"}, {0x630, 0x631, "M"}, {0x1000, 0x103F, "M"},
	{0x1F02, 0x1F02, "a"}, {0x1F03, 0x1F03, "b"}, {0x1F04, 0x1F04, "c"}, {0x1F05, 0x1F05, "d"}, {0x1F06, 0x1F06, "f"},
	{0x1F07, 0x1F07, "i"}, {0x1F08, 0x1F08, "j"}, {0x1F09, 0x1F09, "k"}, {0x1F0A, 0x1F0A, "P"},
	{0x00, 0x08, "o"}, {0x0B, 0x0C, "o"}, {0x0E, 0x1F, "o"}, {0x7F, 0x9F, "o"},
	{0xAD, 0xAD, "o"}, {0x1F00, 0x1F01, "o"}, {0x1F11, 0x1F12, "o"},
	{'A', 'Z', "L"}, {'a', 'z', "L"},
	{0x200, 0x24B, "L"}, {0x260, 0x261, "L"}, {0x300, 0x34B, "L"}, {0x360, 0x361, "L"}, {0x400, 0x44B, "L"}, {0x460, 0x461, "L"},
	{0x600, 0x61F, "L"}, {0x700, 0x712, "L"}, {0x720, 0x734, "L"}, {0x741, 0x75B, "L"}, {0x800, 0x82F, "L"},
	{0x2000, 0x219F, "L"}, {0x2200, 0x239F, "L"}, {0x2400, 0x259F, "L"}, {0x2600, 0x2619, "L"}, {0x3000, 0x5BA3, "L"}, {0x6000, 0x67FF, "L"},
}

func dirClass(p int64) string {
	for _, row := range dirClasses {
		if p >= row.first && p <= row.last {
			return row.class
		}
	}
	return "N"
}

var (
	closedIsolate = regexp.MustCompile("[ijk][^ijkP]*P")
	dirEnd        = regexp.MustCompile("[SijkPabcdfo]*(B|$)")
	looseRow      = regexp.MustCompile("[NSijkP]+")
)

// plainBase takes the innermost isolates out until none is left that has a PDI.
func plainBase(kinds string) int64 {
	kinds, _, _ = strings.Cut(kinds, "B")
	for closedIsolate.MatchString(kinds) {
		kinds = closedIsolate.ReplaceAllString(kinds, "")
	}
	if at := strings.IndexAny(kinds, "ijk"); at >= 0 {
		kinds = kinds[:at]
	}
	if at := strings.IndexAny(kinds, "LR"); at >= 0 && kinds[at] == 'R' {
		return 1
	}
	return 0
}

// plainPDI is the place of the PDI that belongs to the isolate at a place, -1 without one.
func plainPDI(kinds string, at int) int {
	open := 0
	for i := at; i < len(kinds) && kinds[i] != 'B'; i++ {
		switch {
		case strings.Contains("ijk", kinds[i:i+1]):
			open++
		case kinds[i] == 'P':
			open--
		}
		if open == 0 {
			return i
		}
	}
	return -1
}

func isTurned(kinds string, at int) bool {
	if kinds[at] != 'k' {
		return strings.Contains("bfj", kinds[at:at+1])
	}
	within := kinds[at+1:]
	if end := plainPDI(kinds, at); end >= 0 {
		within = kinds[at+1 : end]
	}
	return plainBase(within) == 1
}

type plainEntry struct {
	level    int64
	override string
	isolate  bool
}

// plainExplicit is step 1: levels, and the classes with what is overridden.
func plainExplicit(kinds string, base int64) ([]int64, string) {
	levels, classes := []int64{}, ""
	stack, overIsolates, overEmbeddings, open := []plainEntry{{level: base}}, 0, 0, 0
	for at := range kinds {
		kind := kinds[at : at+1]
		if kind == "B" {
			stack, overIsolates, overEmbeddings, open = stack[:1], 0, 0, 0
		}
		if kind == "P" && overIsolates > 0 {
			overIsolates--
		} else if kind == "P" && open > 0 {
			overEmbeddings = 0
			for last := (plainEntry{}); !last.isolate; {
				last, stack = stack[len(stack)-1], stack[:len(stack)-1]
			}
			open--
		}
		top := stack[len(stack)-1]
		levels = append(levels, top.level)
		if top.override != "" && !strings.Contains("abcdfoB", kind) {
			classes += top.override
		} else {
			classes += kind
		}
		next := top.level + 1
		if isTurned(kinds, at) != (next%2 == 1) {
			next++
		}
		fits := overIsolates == 0 && overEmbeddings == 0 && next <= 10
		switch {
		case strings.Contains("abdf", kind) && fits:
			stack = append(stack, plainEntry{next, map[string]string{"d": "L", "f": "R"}[kind], false})
		case strings.Contains("abdf", kind) && overIsolates == 0:
			overEmbeddings++
		case strings.Contains("ijk", kind) && fits:
			stack, open = append(stack, plainEntry{next, "", true}), open+1
		case strings.Contains("ijk", kind):
			overIsolates++
		case kind == "c" && overIsolates == 0 && overEmbeddings > 0:
			overEmbeddings--
		case kind == "c" && overIsolates == 0 && !top.isolate && len(stack) > 1:
			stack = stack[:len(stack)-1]
		}
	}
	return levels, classes
}

// plainRows leads from point to point: to the next one of the same level, or from an isolate to its PDI.
func plainRows(kinds string, levels []int64, seen []int) [][]int {
	next, isNext := map[int]int{}, map[int]bool{}
	for i, at := range seen {
		to := -1
		if i+1 < len(seen) && levels[at] == levels[seen[i+1]] && kinds[at] != 'B' && kinds[seen[i+1]] != 'B' {
			to = seen[i+1]
		} else if strings.Contains("ijk", kinds[at:at+1]) {
			to = plainPDI(kinds, at)
		}
		if to >= 0 {
			next[at], isNext[to] = to, true
		}
	}
	rows := [][]int{}
	for _, at := range seen {
		if isNext[at] {
			continue
		}
		row := []int{at}
		for to, found := next[at]; found; to, found = next[to] {
			row = append(row, to)
		}
		rows = append(rows, row)
	}
	return rows
}

func levelClass(level int64) string {
	return []string{"L", "R"}[level%2]
}

// besideRow is the level beside a row, at a place among those that are seen.
func besideRow(kinds string, levels []int64, seen []int, i int, base int64) int64 {
	if i < 0 || i >= len(seen) || kinds[seen[i]] == 'B' {
		return base
	}
	return levels[seen[i]]
}

// replacing is a pattern of classes and what stands in its place.
type replacing struct {
	pattern *regexp.Regexp
	by      string
}

// weakRules are those of step 3, in their order.
var weakRules = []replacing{
	{regexp.MustCompile("([ijkP])M"), "${1}N"},
	{regexp.MustCompile("LM"), "LL"}, {regexp.MustCompile("RM"), "RR"}, {regexp.MustCompile("AM"), "AA"}, {regexp.MustCompile("EM"), "EE"},
	{regexp.MustCompile("[+]M"), "++"}, {regexp.MustCompile(",M"), ",,"}, {regexp.MustCompile("SM"), "SS"}, {regexp.MustCompile("NM"), "NN"},
	{regexp.MustCompile("E[+,]E"), "EEE"}, {regexp.MustCompile("A,A"), "AAA"},
	{regexp.MustCompile("[+,]"), "N"},
	{regexp.MustCompile("L([^LR]*)E"), "L${1}L"},
}

// plainWeak is step 3, with sos ahead of the row.
func plainWeak(sos string, row string) string {
	row = sos + row
	for _, rule := range weakRules {
		for rule.pattern.MatchString(row) {
			row = rule.pattern.ReplaceAllString(row, rule.by)
		}
	}
	return row[1:]
}

func asStrong(classes string) string {
	return strings.NewReplacer("E", "R", "A", "R").Replace(classes)
}

// plainBracketPairs finds the pairs of step 4 by asking of each closing bracket which ones are still free.
func plainBracketPairs(points []int64, row string) [][2]int {
	pairs, free := [][2]int{}, map[int]bool{}
	for at, p := range points {
		if row[at] != 'N' {
			continue
		}
		free[at] = strings.ContainsRune("([{<", rune(p))
		sign := map[int64]int64{')': '(', ']': '[', '}': '{', '>': '<'}[p]
		for i := at - 1; i >= 0 && sign != 0; i-- {
			if free[i] && points[i] == sign {
				pairs = append(pairs, [2]int{i, at})
				for k := i; k < at; k++ {
					free[k] = false
				}
				break
			}
		}
	}
	slices.SortFunc(pairs, func(a, b [2]int) int { return a[0] - b[0] })
	return pairs
}

// plainBrackets is step 4.
func plainBrackets(points []int64, row string, sos string, e string) string {
	for _, pair := range plainBracketPairs(points, row) {
		within, become := asStrong(row[pair[0]+1:pair[1]]), ""
		switch {
		case strings.Contains(within, e):
			become = e
		case strings.ContainsAny(within, "LR"):
			ahead := asStrong(sos + row[:pair[0]])
			become = ahead[strings.LastIndexAny(ahead, "LR"):][:1]
		default:
			continue
		}
		row = row[:pair[0]] + become + row[pair[0]+1:pair[1]] + become + row[pair[1]+1:]
	}
	return row
}

// plainNeutral is step 5.
func plainNeutral(row string, sos string, eos string, e string) string {
	beside := asStrong(sos + row + eos)
	for _, place := range looseRow.FindAllStringIndex(row, -1) {
		become := e
		if ahead := beside[place[0] : place[0]+1]; ahead == beside[place[1]+1:place[1]+2] {
			become = ahead
		}
		row = row[:place[0]] + strings.Repeat(become, place[1]-place[0]) + row[place[1]:]
	}
	return row
}

// plainMore is step 6.
var plainMore = map[string]int64{"L0": 0, "R0": 1, "A0": 2, "E0": 2, "L1": 1, "R1": 0, "A1": 1, "E1": 1}

func plainLevels(points []int64, base int64) []int64 {
	kinds := classesOf(points, dirClass)
	if base == -1 {
		base = plainBase(kinds)
	}
	if len(points) > impl.MaxList || base != 0 && base != 1 {
		return nil
	}
	levels, classes := plainExplicit(kinds, base)
	seen := []int{}
	for at := range kinds {
		if !strings.Contains("abcdfo", kinds[at:at+1]) {
			seen = append(seen, at)
		}
	}
	told := slices.Clone(levels)
	for _, places := range plainRows(kinds, levels, seen) {
		first, last := places[0], places[len(places)-1]
		level, row, rowPoints := levels[first], "", []int64{}
		for _, at := range places {
			row, rowPoints = row+classes[at:at+1], append(rowPoints, points[at])
		}
		e := levelClass(level)
		sos := levelClass(max(level, besideRow(kinds, levels, seen, slices.Index(seen, first)-1, base)))
		eos := levelClass(max(level, besideRow(kinds, levels, seen, slices.Index(seen, last)+1, base)))
		if strings.Contains("ijk", kinds[last:last+1]) {
			eos = levelClass(max(level, base))
		}
		row = plainNeutral(plainBrackets(rowPoints, plainWeak(sos, row), sos, e), sos, eos, e)
		for i, at := range places {
			told[at] = level + plainMore[row[i:i+1]+strconv.FormatInt(level%2, 10)]
		}
	}
	return plainEnds(kinds, told, base)
}

// plainEnds is step 7.
func plainEnds(kinds string, levels []int64, base int64) []int64 {
	told, isEnd := slices.Clone(levels), map[int]bool{}
	for _, place := range dirEnd.FindAllStringIndex(kinds, -1) {
		for at := place[0]; at < place[1]; at++ {
			isEnd[at] = true
		}
	}
	for at := range kinds {
		switch {
		case isEnd[at]:
			told[at] = base
		case strings.Contains("abcdfo", kinds[at:at+1]) && at == 0:
			told[at] = base
		case strings.Contains("abcdfo", kinds[at:at+1]):
			told[at] = told[at-1]
		}
	}
	return told
}

// plainOrderOf goes from the lowest level up: each row of a level or a higher one is ordered by itself, then
// turned.
func plainOrderOf(levels []int64, places []int64, least int64) []int64 {
	if least > 20 {
		return places
	}
	told, row := []int64{}, []int64{}
	flush := func() {
		row = slices.Clone(plainOrderOf(levels, row, least+1))
		slices.Reverse(row)
		told, row = append(told, row...), nil
	}
	for _, at := range places {
		if levels[at] >= least {
			row = append(row, at)
			continue
		}
		if len(row) > 0 {
			flush()
		}
		told = append(told, at)
	}
	if len(row) > 0 {
		flush()
	}
	return told
}

func placesBelow(count int) []int64 {
	places := []int64{}
	for at := range count {
		places = append(places, int64(at))
	}
	return places
}

func plainVisual(points []int64, base int64) string {
	levels := plainLevels(points, base)
	text := ""
	for _, at := range plainOrderOf(levels, placesBelow(len(levels)), 1) {
		sign := writtenBytes(points[at])
		if i := strings.Index("()<>[]{}", sign); i >= 0 && levels[at]%2 == 1 {
			sign = "()<>[]{}"[i^1:][:1]
		}
		if !strings.Contains("abcdfo", dirClass(points[at])) {
			text += sign
		}
	}
	return text
}

// namedPoints are the points that rows by hand name by their class; all others are written as they are.
var namedPoints = map[string]int64{
	"L": 'a', "R": 0x500, "AN": 0x550, "EN": '1', "ES": '+', "CS": ',', "B": 0x0A, "WS": ' ', "NSM": 0x1000,
	"LRE": 0x1F02, "RLE": 0x1F03, "PDF": 0x1F04, "LRO": 0x1F05, "RLO": 0x1F06, "LRI": 0x1F07, "RLI": 0x1F08, "FSI": 0x1F09, "PDI": 0x1F0A,
	"BN": 0x1F00, "ON": '!',
}

// named is the text of a row of names; 5*LRE stands for five of them.
func named(row string) string {
	points := []int64{}
	for _, name := range strings.Fields(row) {
		count, bare, isMany := strings.Cut(name, "*")
		if !isMany {
			count, bare = "1", name
		}
		many, _ := strconv.Atoi(count)
		p, found := namedPoints[bare]
		if !found {
			p = int64([]rune(bare)[0])
		}
		points = append(points, slices.Repeat([]int64{p}, many)...)
	}
	return textWritten(points...)
}

func numbersOf(row string) []int64 {
	numbers := []int64{}
	for _, word := range strings.Fields(row) {
		number, _ := strconv.ParseInt(word, 10, 64)
		numbers = append(numbers, number)
	}
	return numbers
}

func isLeveled(t *testing.T, text string, base int64, want []int64) {
	t.Helper()
	if got := impl.Levels(text, base); !slices.Equal(got, want) {
		t.Errorf("Levels of %q %+q, base %d: %d, want %d", classesOf(readPlainly(text), dirClass), text, base, got, want)
	}
}

func isBased(t *testing.T, text string, want int64) {
	t.Helper()
	if got := impl.BaseOf(text); got != want {
		t.Errorf("BaseOf of %q %+q: %d, want %d", classesOf(readPlainly(text), dirClass), text, got, want)
	}
}

// areLevels holds rows of base, points and levels against both the program and the plain reading.
func areLevels(t *testing.T, rows [][3]string) {
	t.Helper()
	for _, row := range rows {
		base, _ := strconv.ParseInt(row[0], 10, 64)
		text, want := named(row[1]), numbersOf(row[2])
		isLeveled(t, text, base, want)
		if plain := plainLevels(readPlainly(text), base); !slices.Equal(plain, want) {
			t.Errorf("%s, base %d: the plain reading has %d, want %d", row[1], base, plain, want)
		}
	}
}

func TestBasesByHand(t *testing.T) {
	for row, want := range map[string]int64{
		"": 0, "L": 0, "R": 1, "L R": 0, "R L": 1, "EN": 0, "AN": 0, "AN EN ES CS WS NSM ON BN": 0,
		"AN R": 1, "EN ON WS R": 1, "NSM R": 1, "RLO L R": 0, "LRO R L": 1, "RLE L": 0, "RLE": 0, "PDF R": 1,
		"LRI L PDI R": 1, "RLI R PDI L": 0, "FSI L PDI R": 1, "FSI R PDI L": 0, "LRI L PDI": 0, "RLI R PDI": 0,
		"RLI R": 0, "LRI L R": 0, "FSI R": 0, "RLI R L R": 0,
		"LRI LRI L PDI L PDI R": 1, "RLI LRI R PDI R PDI L": 0, "LRI LRI L PDI R": 0, "LRI L PDI LRI L PDI R": 1, "LRI L PDI RLI R": 0,
		"PDI R": 1, "PDI L": 0, "PDI PDI R": 1, "LRI PDI PDI R": 1, "LRI PDI PDI RLI R": 0, "LRI PDI LRI R PDI R": 1,
		"LRI PDF R": 0, "LRI LRE PDI PDF R": 1,
		"B R": 0, "ON B R": 0, "R B L": 1, "LRI B R": 0, "LRI L B PDI R": 0, "B": 0,
	} {
		isBased(t, named(row), want)
		if plain := plainBase(classesOf(readPlainly(named(row)), dirClass)); plain != want {
			t.Errorf("%s: the plain reading has %d, want %d", row, plain, want)
		}
	}
	isBased(t, "\r\u0500", 0)
	isBased(t, "!\u1F0B", 1)
}

func TestLevelsOfBases(t *testing.T) {
	alone := map[string][2]int64{
		"L": {0, 2}, "R": {1, 1}, "AN": {2, 2}, "EN": {0, 2}, "ES": {0, 1}, "CS": {0, 1}, "B": {0, 1}, "WS": {0, 1}, "NSM": {0, 1},
		"LRE": {0, 1}, "RLE": {0, 1}, "PDF": {0, 1}, "LRO": {0, 1}, "RLO": {0, 1}, "LRI": {0, 1}, "RLI": {0, 1}, "FSI": {0, 1}, "PDI": {0, 1},
		"BN": {0, 1}, "ON": {0, 1},
	}
	for name := range namedPoints {
		for base, want := range alone[name] {
			isLeveled(t, named(name), int64(base), []int64{want})
		}
		for _, base := range []int64{-2, 2, 3, 10, -1 << 63, 1<<63 - 1} {
			isLeveled(t, named(name), base, nil)
			isLeveled(t, "", base, nil)
			isText(t, "Visual", name, impl.Visual(named(name), base), "")
		}
	}
	for base := int64(-1); base <= 1; base++ {
		isLeveled(t, "", base, nil)
	}
	areLevels(t, [][3]string{
		{"-1", "L", "0"}, {"-1", "R", "1"}, {"-1", "ON R", "1 1"}, {"-1", "ON", "0"}, {"-1", "R L", "1 2"}, {"-1", "L R", "0 1"},
		{"-1", "ON B R ON", "0 0 1 0"}, {"-1", "R B ON L", "1 1 1 2"}, {"-1", "LRI L PDI R", "1 2 1 1"}, {"-1", "RLI R PDI L", "0 1 0 0"},
		{"-1", "RLI R", "0 1"}, {"-1", "EN", "0"}, {"-1", "EN R", "2 1"},
	})
}

func TestEmbeddings(t *testing.T) {
	areLevels(t, [][3]string{
		{"0", "LRE L", "0 2"}, {"0", "LRE R", "0 3"}, {"0", "RLE L", "0 2"}, {"0", "RLE R", "0 1"},
		{"1", "LRE L", "1 2"}, {"1", "LRE R", "1 3"}, {"1", "RLE L", "1 4"}, {"1", "RLE R", "1 3"},
		{"0", "LRO R", "0 2"}, {"0", "LRO EN", "0 2"}, {"0", "LRO AN", "0 2"}, {"0", "RLO L", "0 1"}, {"0", "RLO EN", "0 1"}, {"0", "RLO AN", "0 1"},
		{"0", "RLO ON L NSM ES CS EN L", "0 1 1 1 1 1 1 1"},
		{"0", "RLE L PDF L", "0 2 2 0"}, {"0", "RLO L PDF L", "0 1 1 0"}, {"0", "LRO R PDF R", "0 2 2 1"},
		{"0", "RLE LRE L PDF L PDF L", "0 0 2 2 2 2 0"}, {"0", "RLO LRE R PDF L PDF L", "0 0 3 3 1 1 0"},
		{"0", "PDF L", "0 0"}, {"0", "PDF PDF R", "0 0 1"}, {"0", "RLE PDF PDF RLE L", "0 0 0 0 2"}, {"1", "PDF PDF L", "1 1 2"},
		{"0", "RLE PDI L", "0 1 2"}, {"0", "RLO PDI L", "0 1 1"}, {"0", "RLE L PDI PDF L", "0 2 1 1 0"},
		{"0", "RLE L B L PDF L", "0 2 0 0 0 0"}, {"0", "LRE RLO L B L", "0 0 3 0 0"}, {"1", "LRE L B L", "1 2 1 2"}, {"0", "RLO B L", "0 0 0"},
	})
}

func TestIsolates(t *testing.T) {
	areLevels(t, [][3]string{
		{"0", "RLI L PDI L", "0 2 0 0"}, {"0", "RLI L PDI R", "0 2 0 1"}, {"0", "R RLI L PDI R", "1 1 2 1 1"}, {"0", "R LRI L PDI R", "1 1 2 1 1"},
		{"1", "LRI R PDI L", "1 3 1 2"}, {"1", "RLI R PDI L", "1 3 1 2"}, {"1", "L RLI R PDI L", "2 2 3 2 2"},
		{"0", "RLO LRI L PDI L PDF L", "0 1 2 1 1 1 0"}, {"0", "RLO RLI L PDI L", "0 1 4 1 1"}, {"0", "RLO FSI L PDI L", "0 1 2 1 1"},
		{"0", "LRO RLI R PDI R", "0 2 3 2 2"}, {"1", "LRO LRI R PDI R", "1 2 5 2 2"},
		{"0", "R FSI R PDI R", "1 1 1 1 1"}, {"0", "R FSI L PDI R", "1 1 2 1 1"}, {"0", "R FSI EN PDI R", "1 1 2 1 1"}, {"0", "R FSI PDI R", "1 1 1 1"},
		{"0", "FSI ON R PDI L", "0 1 1 0 0"}, {"0", "FSI ON L PDI L", "0 2 2 0 0"}, {"1", "FSI R PDI R", "1 3 1 1"}, {"1", "FSI L PDI R", "1 2 1 1"},
		{"0", "FSI R", "0 1"}, {"0", "FSI L", "0 2"}, {"0", "FSI EN", "0 2"}, {"0", "FSI ON R L", "0 1 1 2"},
		{"0", "FSI ON B R", "0 2 0 1"}, {"0", "FSI ON R B L", "0 1 1 0 0"}, {"0", "FSI ON PDI R", "0 2 0 1"}, {"1", "FSI ON PDI R", "1 2 1 1"},
		{"0", "FSI RLI R PDI L PDI", "0 2 3 2 2 0"}, {"0", "FSI LRI L PDI R PDI", "0 1 2 1 1 0"}, {"0", "FSI RLI R", "0 2 3"}, {"0", "FSI FSI R PDI PDI L", "0 2 3 2 0 0"},
		{"0", "PDI L", "0 0"}, {"0", "R PDI R", "1 1 1"}, {"0", "R PDI L", "1 0 0"}, {"0", "LRI PDI PDI R PDI R", "0 0 0 1 1 1"},
		{"0", "RLE LRI PDF L PDI L", "0 1 1 2 1 2"}, {"0", "LRI RLE L PDI L", "0 0 4 0 0"}, {"0", "LRI RLE RLO L PDI L PDF L", "0 0 0 5 0 0 0 0"},
		{"0", "RLE LRI RLE L PDI L PDF L", "0 1 1 4 1 2 2 0"}, {"0", "RLI RLE PDF PDF L PDI L", "0 0 0 0 2 0 0"},
		{"0", "RLI L B PDI L", "0 2 0 0 0"}, {"1", "RLI L B PDI L", "1 4 1 1 2"}, {"0", "RLI RLI L B L PDI PDI L", "0 1 4 0 0 0 0 0"},
		{"0", "RLI PDI L", "0 0 0"}, {"0", "R RLI BN PDI R", "1 1 1 1 1"},
	})
}

func TestLevelsThatAreOver(t *testing.T) {
	zeros := func(count int) string { return strings.Repeat("0 ", count) }
	areLevels(t, [][3]string{
		{"0", "5*LRE L", zeros(5) + "10"}, {"0", "6*LRE L", zeros(6) + "10"}, {"0", "5*RLE R", zeros(5) + "9"}, {"0", "6*RLE R", zeros(6) + "9"},
		{"0", "5*LRE R", zeros(5) + "11"}, {"0", "5*LRE AN", zeros(5) + "12"}, {"0", "5*RLE LRE L", zeros(6) + "10"}, {"0", "5*LRE RLE L", zeros(6) + "10"},
		{"0", "6*RLE LRE L", zeros(7) + "10"}, {"0", "5*RLE RLO L", zeros(6) + "10"}, {"0", "5*LRE LRO R", zeros(6) + "11"},
		{"0", "6*LRE L PDF L PDF L", zeros(6) + "10 10 10 10 8"}, {"0", "7*LRE PDF PDF PDF L", zeros(10) + "8"}, {"0", "5*LRE PDF L", zeros(6) + "8"},
		{"0", "5*LRI L", "0 2 4 6 8 10"}, {"0", "6*LRI L", "0 2 4 6 8 10 10"}, {"0", "5*RLI R", "0 1 3 5 7 9"}, {"0", "6*RLI R", "0 1 3 5 7 9 9"},
		{"0", "6*LRI L PDI L PDI L", "0 2 4 6 8 10 10 10 10 8 8"}, {"0", "7*LRI PDI PDI PDI L", "0 2 4 6 8 10 10 10 10 8 8"},
		{"0", "6*LRI PDF L PDI L", "0 2 4 6 8 10 10 10 10 10"}, {"0", "6*LRI LRE PDI PDF L", "0 2 4 6 8 10 10 10 10 10"},
		{"0", "6*LRI LRE PDI PDI L", "0 2 4 6 8 10 10 10 8 8"}, {"0", "4*LRI 2*LRE PDI L", "0 2 4 6 6 6 6 6"}, {"0", "4*LRI 3*LRE PDI RLE L", "0 2 4 6 6 6 6 6 6 8"},
		{"0", "6*LRE LRI L PDI PDF PDF L", zeros(6) + "10 10 10 10 10 8"}, {"0", "6*LRE LRI PDF PDI PDF PDF L", zeros(6) + "10 10 10 10 10 8"},
		{"0", "5*LRE LRI L PDI PDF L", zeros(5) + "10 10 10 10 8"}, {"0", "5*LRE LRI LRE PDI PDF L", zeros(5) + "10 10 10 10 8"},
		{"0", "LRI 6*LRE PDI L RLE L", "0 0 0 0 0 0 0 0 0 0 2"}, {"0", "6*LRE B LRE L", zeros(7) + "0 2"}, {"0", "6*LRI B LRI L", zeros(8) + "2"},
		{"0", "6*LRI L B PDI L PDF L", "0 2 4 6 8 10 10 0 0 0 0 0"}, {"0", "5*RLE FSI L PDI L", zeros(5) + "9 10 9 10"}, {"0", "5*RLE FSI R PDI L", zeros(5) + "9 9 9 10"},
		{"1", "4*RLE R", "1 1 1 1 9"}, {"1", "5*RLE R", "1 1 1 1 1 9"}, {"1", "5*LRE L", "1 1 1 1 1 10"}, {"1", "6*LRE L", "1 1 1 1 1 1 10"},
	})
}

func TestRowsOfRuns(t *testing.T) {
	areLevels(t, [][3]string{
		{"0", "R LRI L PDI EN", "1 1 2 1 2"}, {"0", "L RLI R PDI EN", "0 0 1 0 0"}, {"0", "R LRI L PDI LRI L PDI EN", "1 1 2 1 1 2 1 2"},
		{"0", "R RLI L LRI R PDI EN PDI EN", "1 1 2 2 3 2 2 1 2"}, {"0", "R LRI L BN PDI BN EN", "1 1 2 2 1 1 2"},
		{"0", "R BN EN", "1 1 2"}, {"0", "L RLE PDF R", "0 0 0 1"}, {"0", "EN RLE PDF CS EN R", "0 0 0 0 0 1"}, {"1", "EN BN CS LRE PDF EN", "2 2 2 2 2 2"},
		{"0", "RLE L PDF EN", "0 2 2 2"}, {"0", "LRE L PDF EN", "0 2 2 0"}, {"0", "RLE L PDF BN EN", "0 2 2 2 2"}, {"0", "RLI L PDI EN", "0 2 0 0"},
		{"0", "R ON RLE L", "1 1 1 2"}, {"0", "R ON LRE L", "1 0 0 2"}, {"0", "R ON BN RLE BN L", "1 1 1 1 1 2"}, {"0", "RLE L PDF ON R", "0 2 2 1 1"},
		{"0", "LRE L PDF ON R", "0 2 2 0 1"}, {"0", "R ON B", "1 0 0"}, {"1", "L ON B L", "2 1 1 2"}, {"0", "RLE R B EN", "0 1 0 0"}, {"0", "R ON B RLE R", "1 0 0 0 1"},
		{"0", "RLE R ON B R", "0 1 1 0 1"}, {"0", "B ON R", "0 0 1"}, {"1", "B ON L", "1 1 2"}, {"0", "R B R", "1 0 1"}, {"0", "R B ON R", "1 0 0 1"},
		{"0", "R ON RLI L", "1 0 0 2"}, {"0", "R RLI L", "1 0 2"}, {"0", "R ON RLI L PDI", "1 0 0 2 0"}, {"1", "L LRI R", "2 1 3"}, {"0", "R LRI B", "1 0 0"},
		{"0", "RLE R LRI L PDF L", "0 1 1 2 2 2"}, {"0", "RLE L RLI L", "0 2 1 4"}, {"1", "LRE R LRI R", "1 3 2 5"},
		{"0", "RLE L LRI R PDI RLE R", "0 2 1 3 1 1 3"}, {"0", "LRE R LRI L PDI RLE R", "0 3 3 4 3 3 3"},
	})
}

func TestWeakClasses(t *testing.T) {
	areLevels(t, [][3]string{
		{"0", "NSM", "0"}, {"1", "NSM", "1"}, {"0", "NSM R", "0 1"}, {"1", "NSM L", "1 2"}, {"0", "NSM EN", "0 0"}, {"0", "RLE L PDF NSM EN L", "0 2 2 1 2 0"},
		{"0", "R NSM EN", "1 1 2"}, {"0", "R NSM NSM L", "1 1 1 0"}, {"0", "L NSM NSM R", "0 0 0 1"}, {"0", "R ON NSM R", "1 1 1 1"}, {"0", "R ON NSM L", "1 0 0 0"},
		{"0", "AN NSM R", "2 2 1"}, {"1", "EN NSM NSM L", "2 2 2 2"}, {"1", "EN NSM CS NSM EN", "2 2 1 1 2"}, {"1", "EN NSM CS EN", "2 2 2 2"}, {"1", "AN NSM CS AN", "2 2 2 2"},
		{"0", "R LRI NSM PDI R", "1 1 2 1 1"}, {"0", "R RLI NSM PDI R", "1 1 1 1 1"}, {"0", "R LRI PDI NSM R", "1 1 1 1 1"}, {"0", "R LRI PDI NSM NSM L", "1 0 0 0 0 0"},
		{"0", "R LRI L PDI NSM NSM EN", "1 1 2 1 1 1 2"}, {"0", "R PDI NSM L", "1 0 0 0"}, {"0", "5*LRE R LRI NSM R", "0 0 0 0 0 11 11 11 11"}, {"0", "5*LRE R LRI NSM L", "0 0 0 0 0 11 10 10 10"},
		{"0", "R WS NSM", "1 0 0"}, {"0", "R B NSM", "1 0 0"}, {"1", "L BN NSM", "2 2 2"}, {"0", "RLO RLI PDI PDF RLE NSM L L", "0 1 1 1 1 1 2 2"}, {"0", "RLE L RLI PDI NSM L", "0 2 2 2 2 2"},
		{"1", "EN ES EN", "2 2 2"}, {"1", "EN CS EN", "2 2 2"}, {"1", "AN CS AN", "2 2 2"}, {"1", "AN ES AN", "2 1 2"}, {"1", "EN CS AN", "2 1 2"}, {"1", "AN CS EN", "2 1 2"},
		{"1", "EN ES AN", "2 1 2"}, {"1", "AN ES EN", "2 1 2"}, {"1", "EN ES ES EN", "2 1 1 2"}, {"1", "EN CS CS EN", "2 1 1 2"}, {"1", "EN CS ES EN", "2 1 1 2"}, {"1", "AN CS CS AN", "2 1 1 2"},
		{"1", "EN CS EN ES EN", "2 2 2 2 2"}, {"1", "AN CS AN CS AN", "2 2 2 2 2"}, {"1", "AN CS AN CS EN", "2 2 2 1 2"}, {"1", "EN ES", "2 1"}, {"1", "ES EN", "1 2"}, {"1", "CS", "1"},
		{"1", "CS EN CS", "1 2 1"}, {"1", "EN ON EN", "2 1 2"}, {"1", "EN WS CS EN", "2 1 1 2"}, {"1", "R CS EN", "1 1 2"}, {"1", "R CS R", "1 1 1"}, {"1", "L ES L", "2 2 2"},
		{"0", "R EN CS EN", "1 2 2 2"}, {"0", "L EN ES EN", "0 0 0 0"},
		{"0", "L EN", "0 0"}, {"0", "R EN", "1 2"}, {"0", "EN", "0"}, {"1", "EN", "2"}, {"0", "L ON EN", "0 0 0"}, {"0", "R ON EN", "1 1 2"}, {"0", "R L EN", "1 0 0"},
		{"0", "L R EN", "0 1 2"}, {"0", "L AN EN", "0 2 0"}, {"0", "R AN EN", "1 2 2"}, {"0", "L EN EN R EN EN", "0 0 0 1 2 2"}, {"0", "L CS EN B R EN", "0 0 0 0 1 2"},
		{"1", "L ON EN R", "2 2 2 1"}, {"1", "L EN ON L", "2 2 2 2"}, {"1", "R EN ON L", "1 2 1 2"},
	})
}

func TestBracketPairs(t *testing.T) {
	areLevels(t, [][3]string{
		{"0", "R ( L ) R", "1 0 0 0 1"}, {"0", "R ( R ) R", "1 1 1 1 1"}, {"0", "L ( R ) R", "0 0 1 0 1"}, {"0", "( R ) R", "0 1 0 1"}, {"0", "R ( R ) L", "1 1 1 1 0"},
		{"0", "R ( R L ) R", "1 0 1 0 0 1"}, {"0", "R ( L R ) R", "1 0 0 1 0 1"}, {"0", "R ( ON ) L", "1 0 0 0 0"}, {"0", "R ( ON ) R", "1 1 1 1 1"}, {"0", "L ( ) R", "0 0 0 1"}, {"0", "R ( ) R", "1 1 1 1"},
		{"0", "R ( EN ) L", "1 1 2 1 0"}, {"0", "R ( AN ) L", "1 1 2 1 0"}, {"0", "L ( AN ) R", "0 0 2 0 1"}, {"0", "L ( EN ) R", "0 0 0 0 1"}, {"0", "R ON ( R ) L", "1 1 1 1 1 0"},
		{"0", "L AN ( R ) L", "0 2 1 1 1 0"}, {"0", "L ( R ) EN [ R ] L", "0 0 1 0 2 1 1 1 0"}, {"0", "R EN ( R ) L", "1 2 1 1 1 0"},
		{"0", "R ( [ L ] R ) R", "1 0 0 0 0 1 0 1"}, {"0", "R ( R [ L ] ) R", "1 0 1 0 0 0 0 1"}, {"0", "R ( R [ R ] ) L", "1 1 1 1 1 1 1 0"}, {"0", "L ( R [ R ] ) L", "0 0 1 1 1 1 0 0"},
		{"0", "L ( [ R ] ) R", "0 0 0 1 0 0 1"}, {"0", "R ( L [ R ] ) R", "1 0 0 0 1 0 0 1"},
		{"0", "R [ ( R ] L )", "1 1 1 1 1 0 0"}, {"0", "L ( [ R ) R ]", "0 0 0 1 0 1 0"}, {"0", "L ( ( R ) R ) R", "0 0 0 1 0 1 0 1"}, {"0", "L ( R ) R ) R", "0 0 1 0 1 1 1"}, {"0", "R ( ( L ) R", "1 0 0 0 0 1"},
		{"0", "R ) R ( R", "1 1 1 1 1"}, {"0", "L ( R", "0 0 1"}, {"0", "L ( R ] R", "0 0 1 1 1"}, {"0", "L ( R > R", "0 0 1 1 1"}, {"0", "L ) R ( R", "0 0 1 1 1"}, {"0", "L [ R ) R ] R", "0 0 1 1 1 0 1"},
		{"0", "L [ R ] R", "0 0 1 0 1"}, {"0", "L { R } R", "0 0 1 0 1"}, {"0", "L < R > R", "0 0 1 0 1"}, {"0", "L > R < R", "0 0 1 1 1"}, {"0", "L < [ { ( R ) } ] > R", "0 0 0 0 0 1 0 0 0 0 1"},
		{"0", "L ( R ) [ R ]", "0 0 1 0 0 1 0"}, {"0", "L ( R ) [ R ] R", "0 0 1 0 0 1 0 1"}, {"0", "R ( R ) L [ R ] R", "1 1 1 1 0 0 1 0 1"}, {"0", "R ( L ) [ R ] R", "1 0 0 0 0 1 0 1"},
		{"0", "RLO ( PDF RLE L ) L", "0 1 1 1 2 2 2"}, {"0", "RLE ( PDF RLO L PDF RLE ) L", "0 1 1 1 1 1 1 1 2"}, {"0", "RLO ( L )", "0 1 1 1"}, {"0", "LRO R ( R ) R", "0 2 2 2 2 2"}, {"0", "L ( RLO R PDF ) R", "0 0 0 1 1 1 1"},
		{"0", "L ( RLI R PDI ) R", "0 0 0 1 0 0 1"}, {"0", "L ( RLI ) PDI R ) R", "0 0 0 1 0 1 0 1"}, {"0", "R ( LRI R PDI R ) L", "1 1 1 3 1 1 1 0"}, {"0", "L ( B R ) R", "0 0 0 1 1 1"}, {"0", "L ( BN R BN ) R", "0 0 0 1 1 0 1"},
		{"0", "L ( R ) NSM R", "0 0 1 0 0 1"}, {"0", "R ( R ) NSM L", "1 1 1 1 0 0"}, {"0", "L ( NSM R ) R", "0 0 0 1 0 1"}, {"0", "L ( R NSM ) NSM NSM R", "0 0 1 1 0 0 0 1"},
		{"1", "L ( R ) L", "2 1 1 1 2"}, {"1", "L ( L ) L", "2 2 2 2 2"}, {"1", "R ( L ) L", "1 1 2 1 2"}, {"1", "( L ) L", "1 2 1 2"}, {"1", "L ( L ) R", "2 2 2 2 1"}, {"1", "L ( ON ) R", "2 1 1 1 1"},
		{"1", "L ( EN ) L", "2 2 2 2 2"}, {"1", "R ( EN ) L", "1 1 2 1 2"}, {"1", "L ( AN ) L", "2 1 2 1 2"}, {"1", "L AN ( L ) L", "2 2 1 2 1 2"}, {"1", "L ( L [ R ] ) L", "2 1 2 1 1 1 1 2"},
	})
}

func TestNeutralRows(t *testing.T) {
	areLevels(t, [][3]string{
		{"0", "ON", "0"}, {"1", "ON", "1"}, {"0", "ON R", "0 1"}, {"0", "R ON", "1 0"}, {"0", "ON L", "0 0"}, {"1", "ON L", "1 2"}, {"1", "L ON", "2 1"}, {"1", "ON R", "1 1"},
		{"0", "R ON R", "1 1 1"}, {"0", "R ON L", "1 0 0"}, {"0", "L ON R", "0 0 1"}, {"0", "L ON L", "0 0 0"}, {"1", "L ON L", "2 2 2"}, {"1", "L ON R", "2 1 1"}, {"1", "R ON L", "1 1 2"}, {"1", "R ON R", "1 1 1"},
		{"0", "R ON AN", "1 1 2"}, {"0", "AN ON R", "2 1 1"}, {"0", "AN ON AN", "2 1 2"}, {"0", "AN ON EN", "2 0 0"}, {"1", "AN ON EN", "2 1 2"}, {"0", "R EN ON R", "1 2 1 1"}, {"0", "R ON EN", "1 1 2"}, {"1", "L ON AN", "2 1 2"},
		{"0", "R ON WS ON CS ES R", "1 1 1 1 1 1 1"}, {"0", "R ON WS LRI PDI PDI ON R", "1 1 1 1 1 1 1 1"}, {"0", "R RLI PDI L", "1 0 0 0"}, {"0", "R PDI FSI PDI R", "1 1 1 1 1"}, {"0", "R WS L WS R WS R", "1 0 0 0 1 1 1"},
		{"0", "RLE ON R", "0 1 1"}, {"0", "RLE ON L", "0 1 2"}, {"0", "LRE R ON PDF R", "0 3 2 2 1"}, {"0", "RLE L ON PDF L", "0 2 1 1 0"}, {"0", "R ON RLE R", "1 1 1 1"}, {"1", "L ON LRE L", "2 2 2 2"},
		{"0", "RLE L PDF ON RLE L", "0 2 2 1 1 2"}, {"0", "LRE R PDF ON LRE R", "0 3 3 0 0 3"},
	})
}

func TestEndsOfLevels(t *testing.T) {
	areLevels(t, [][3]string{
		{"0", "RLE R WS B", "0 1 0 0"}, {"0", "RLE R WS", "0 1 0"}, {"0", "RLE R WS PDF WS BN", "0 1 0 0 0 0"}, {"0", "RLE R WS L", "0 1 1 2"}, {"0", "RLE R ON", "0 1 1"}, {"0", "RLE R ON B", "0 1 1 0"},
		{"0", "RLE R LRI", "0 1 0"}, {"0", "RLE R RLI B", "0 1 0 0"}, {"0", "RLE R FSI PDI WS LRE RLE LRO RLO PDF BN B", "0 1 0 0 0 0 0 0 0 0 0 0"}, {"0", "RLE R PDI", "0 1 0"}, {"0", "RLE R PDI R", "0 1 1 1"},
		{"0", "RLE R WS ON WS", "0 1 1 1 0"}, {"0", "RLO L WS", "0 1 0"}, {"0", "RLO L WS LRI PDI", "0 1 0 0 0"}, {"0", "RLO L WS L", "0 1 1 1"}, {"0", "RLO ON NSM", "0 1 1"}, {"0", "RLE R CS", "0 1 1"}, {"0", "RLE R EN", "0 1 2"},
		{"0", "RLE WS B WS R WS B WS", "0 0 0 0 1 0 0 0"}, {"1", "LRE L WS B WS", "1 2 1 1 1"}, {"1", "LRE L PDF B L", "1 2 1 1 2"}, {"1", "LRE L BN", "1 2 1"}, {"0", "B B", "0 0"}, {"1", "B B", "1 1"}, {"0", "R B B R", "1 0 0 1"},
		{"1", "BN L", "1 2"}, {"0", "BN R", "0 1"}, {"1", "PDF BN LRE L", "1 1 1 2"}, {"0", "RLE L BN L", "0 2 2 2"}, {"0", "L RLE R", "0 0 1"}, {"0", "R BN L", "1 1 0"}, {"0", "R RLE BN L", "1 1 1 2"}, {"0", "R B BN R", "1 0 0 1"},
		{"1", "L B BN BN L", "2 1 1 1 2"}, {"0", "RLE R PDF BN L", "0 1 1 1 0"}, {"0", "AN BN R", "2 2 1"}, {"0", "WS BN R", "0 0 1"}, {"0", "R WS BN R", "1 1 1 1"}, {"0", "RLI BN R PDI BN R", "0 0 1 0 0 1"},
	})
}

// dirContexts are rows with a hole, in which unlike classes have unlike levels.
var dirContexts = []string{
	"_", "R _ R", "R _ L", "R _", "_ R", "_ L", "EN _ EN", "AN _ AN", "RLE L _ L", "RLE R _", "_ R PDI L", "_ L PDI R", "LRI L _ L", "RLE _ L", "RLI R _ EN", "L _ EN",
}

// signatureOf tells the levels of a point in all contexts.
func signatureOf(p int64, tell func(text string, base int64) []int64) string {
	signature := []int64{}
	for _, context := range dirContexts {
		text := strings.ReplaceAll(named(context), "_", writtenBytes(p))
		signature = append(signature, tell(text, 0)...)
		signature = append(signature, tell(text, 1)...)
	}
	return fmt.Sprint(signature)
}

func TestDirectionsOfAllPoints(t *testing.T) {
	wants, classes := map[string]string{}, map[string]string{}
	for name, p := range namedPoints {
		want := signatureOf(p, func(text string, base int64) []int64 { return plainLevels(readPlainly(text), base) })
		if classes[want] != "" {
			t.Errorf("no context tells %s from %s", name, classes[want])
		}
		wants[dirClass(p)], classes[want] = want, name
	}
	holds := func(p int64) {
		if got := signatureOf(p, impl.Levels); got != wants[dirClass(p)] {
			t.Fatalf("U+%X, of class %s: %s, want %s", p, dirClass(p), got, wants[dirClass(p)])
		}
	}
	for _, row := range dirClasses {
		for _, p := range []int64{row.first - 1, row.first, row.last, row.last + 1} {
			if p >= 0 {
				holds(p)
			}
		}
	}
	for p := int64(0); p < 0x2800; p++ {
		holds(p)
	}
	for p := int64(0x2800); p < impl.MaxPoint; p += 97 {
		if p < 0xD800 || p > 0xDFFF {
			holds(p)
		}
	}
	for _, p := range []int64{impl.LastKnown, impl.LastKnown + 1, 0xD7FF, 0xE000, impl.Broken, 0xFFFF, 0x10000, impl.MaxPoint} {
		holds(p)
	}
}

// dirAlphabet has a point of each class, and brackets.
func dirAlphabet() []int64 {
	points := []int64{'(', ')', '[', ']'}
	for _, p := range namedPoints {
		points = append(points, p)
	}
	slices.Sort(points)
	return points
}

// eachDirText hands on short texts of all classes, longer ones of classes that act on one another, and
// random ones, also with brackets and levels that lie deep.
func eachDirText(look func(text string)) {
	for count := range 4 {
		eachCutRow(dirAlphabet(), count, look)
	}
	for _, row := range []string{"LRE RLO PDF L R", "LRI FSI PDI L R", "RLE LRI PDF PDI R", "R L ( ) AN", "EN AN CS NSM R", "ON L R EN B", "RLE WS BN B R", "RLO RLI PDI NSM L"} {
		for count := 3; count < 6; count++ {
			eachCutRow(readPlainly(named(row)), count, look)
		}
	}
	eachRandomText(17, 400, dirAlphabet(), look)
	r := rand.New(rand.NewSource(18))
	for range 1000 {
		look(randomNormText(r, dirAlphabet(), 40))
		look(randomNormText(r, readPlainly(named("( ) [ ] < > { } L R R EN AN ON")), 24))
		look(randomNormText(r, readPlainly(named("LRE RLE LRO RLO LRI RLI FSI 3*PDF 3*PDI L R EN WS ON NSM")), 60))
		look(randomNormText(r, readPlainly(named("LRE RLE LRI RLI")), 14) + randomNormText(r, readPlainly(named("LRE LRI 3*PDF 3*PDI L R ON")), 30))
	}
}

func TestBasesOfTexts(t *testing.T) {
	eachDirText(func(text string) { isBased(t, text, plainBase(classesOf(readPlainly(text), dirClass))) })
}

func TestLevelsOfTexts(t *testing.T) {
	eachDirText(func(text string) {
		points := readPlainly(text)
		for base := int64(-1); base <= 1; base++ {
			isLeveled(t, text, base, plainLevels(points, base))
		}
	})
}

func isOrdered(t *testing.T, levels []int64, want []int64) {
	t.Helper()
	if got := impl.OrderOf(levels); !slices.Equal(got, want) {
		t.Errorf("OrderOf of %d: %d, want %d", levels, got, want)
	}
}

func TestOrdersByHand(t *testing.T) {
	for levels, want := range map[string]string{
		"": "", "0": "0", "1": "0", "2": "0", "20": "0", "19": "0",
		"0 0": "0 1", "1 1": "1 0", "2 2": "0 1", "3 3": "1 0", "20 20": "0 1", "19 19": "1 0",
		"0 1 1": "0 2 1", "1 1 0": "1 0 2", "0 1 0": "0 1 2", "0 1 1 0 1 1": "0 2 1 3 5 4", "0 2 2": "0 1 2", "1 2 2": "1 2 0", "2 2 1": "2 0 1",
		"1 2 1": "2 1 0", "2 1 2": "2 1 0", "2 3": "0 1", "3 2": "0 1", "1 2 3": "1 2 0", "2 3 3": "0 2 1", "3 3 2": "1 0 2", "1 2 2 3 3 1": "5 1 2 4 3 0",
		"0 20 20 1 0": "0 3 1 2 4", "0 19 19 1 0": "0 3 2 1 4", "1 0 1": "0 1 2", "5 0 5 5": "0 1 3 2",
	} {
		isOrdered(t, numbersOf(levels), numbersOf(want))
	}
	for _, levels := range []string{"21", "-1", "0 21", "-1 0", "0 0 1000", "9223372036854775807", "-9223372036854775808", "1 1 21", "21 -1"} {
		isOrdered(t, numbersOf(levels), nil)
	}
}

// eachLevels hands on all short rows of levels, and random longer ones.
func eachLevels(look func(levels []int64)) {
	rows := [][]int64{{}}
	for range 5 {
		longer := [][]int64{}
		for _, row := range rows {
			look(row)
			for level := range int64(5) {
				longer = append(longer, append(slices.Clone(row), level))
			}
		}
		rows = longer
	}
	r := rand.New(rand.NewSource(19))
	for i := range 600 {
		row := make([]int64, r.Intn(20))
		for at := range row {
			row[at] = r.Int63n([]int64{2, 4, 21}[i%3])
		}
		look(row)
	}
}

func TestOrdersOfLevels(t *testing.T) {
	eachLevels(func(levels []int64) { isOrdered(t, levels, plainOrderOf(levels, placesBelow(len(levels)), 1)) })
}

func TestOrdersHaveEachPlaceOnce(t *testing.T) {
	holds := func(levels []int64) {
		order := impl.OrderOf(levels)
		slices.Sort(order)
		if !slices.Equal(order, placesBelow(len(levels))) {
			t.Errorf("OrderOf of %d has the places %d", levels, order)
		}
	}
	eachLevels(holds)
	eachDirText(func(text string) { holds(impl.Levels(text, -1)) })
	holds(slices.Repeat([]int64{0, 20, 1, 19}, 250))
}

// TestTextsThatStay: controls are left out of what is shown, but they have their place in the order.
func TestTextsThatStay(t *testing.T) {
	known := slices.DeleteFunc(allPoints()[:impl.LastKnown+1], func(p int64) bool {
		return impl.Script(p) == 5 || impl.Category(p) == impl.CatFormat
	})
	holds := func(text string) {
		points := readPlainly(text)
		isOrdered(t, impl.Levels(text, 0), placesBelow(len(points)))
		shown := textWritten(slices.DeleteFunc(points, func(p int64) bool { return dirClass(p) == "o" })...)
		isText(t, "Visual", text, impl.Visual(text, 0), shown)
	}
	for _, p := range known {
		holds(writtenBytes(p))
	}
	r := rand.New(rand.NewSource(20))
	alphabet := slices.DeleteFunc(dirAlphabet(), func(p int64) bool { return impl.Script(p) == 5 || impl.Category(p) == impl.CatFormat })
	for range 1500 {
		holds(randomNormText(r, known, 12))
		holds(randomNormText(r, alphabet, 12))
		holds(cutBytes(r, randomNormText(r, alphabet, 12)))
	}
	eachCutRow(alphabet, 3, holds)
	holds(strings.Repeat("a 1(\x02", 200))
}

func TestShownByHand(t *testing.T) {
	for _, row := range [][3]string{
		{"0", "", ""}, {"0", "a", "a"}, {"0", "R", "R"}, {"0", "a R", "a R"}, {"0", "R a", "R a"}, {"1", "R a", "a R"}, {"-1", "R a", "a R"}, {"-1", "a R", "a R"},
		{"0", "R ( R ) a", "( R ) R a"}, {"0", "( R )", "( R )"}, {"1", "( R )", "( R )"}, {"1", "( a )", "( a )"}, {"1", "( ( a", "a ) )"}, {"0", "( ( a", "( ( a"},
		{"1", "( [ { < !", "! > } ] )"}, {"1", ") ] } >", "< { [ ("}, {"0", "R < R", "R > R"}, {"0", "R EN 2", "EN 2 R"}, {"0", "a R EN 2 b", "a EN 2 R b"},
		{"1", "LRE a ( b", "a ( b"}, {"1", "LRE a ( b PDF", "a ( b"}, {"0", "RLO a ( b PDF c", "b ) a c"}, {"0", "RLO a b", "b a"}, {"0", "LRO R ( R", "R ( R"},
		{"0", "a BN b", "a b"}, {"0", "BN", ""}, {"0", "LRE RLE LRO RLO PDF BN", ""}, {"0", "a RLI b c PDI d", "a RLI b c PDI d"}, {"0", "R RLI a PDI R", "R PDI a RLI R"},
		{"0", "R WS B R", "R WS B R"}, {"1", "a WS B b", "b B WS a"}, {"0", "R NSM", "NSM R"},
		{"2", "a", ""}, {"-2", "R", ""},
	} {
		base, _ := strconv.ParseInt(row[0], 10, 64)
		isText(t, "Visual", row[1], impl.Visual(named(row[1]), base), named(row[2]))
	}
	isText(t, "Visual", "broken", impl.Visual("\u0500\xFF\u0501(\u0502\xE2\x80", 1), "\uFFFD\uFFFD\u0502)\u0501\uFFFD\u0500")
	isText(t, "Visual", "controls", impl.Visual("a\x00\x09\x1F\u00ADb\u0085", 0), "a\x09b")
}

func TestShownTexts(t *testing.T) {
	eachDirText(func(text string) {
		for base := int64(-1); base <= 1; base++ {
			isText(t, "Visual", text, impl.Visual(text, base), plainVisual(readPlainly(text), base))
		}
	})
}

// plainCaret looks a point up in the line and tells on which side of it the caret is.
func plainCaret(levels []int64, base int64, at int, ahead bool) int64 {
	count := len(levels)
	if ahead && at == 0 {
		return []int64{0, int64(count)}[base]
	}
	if !ahead && at == count {
		return []int64{int64(count), 0}[base]
	}
	point, right := at, levels[min(at, count-1)]%2 == 1
	if ahead {
		point, right = at-1, levels[at-1]%2 == 0
	}
	x := slices.Index(plainOrderOf(levels, placesBelow(count), 1), int64(point))
	if right {
		x++
	}
	return int64(x)
}

func isCaret(t *testing.T, levels []int64, base int64, at int64, ahead bool, want int64) {
	t.Helper()
	if got := impl.CaretOf(levels, base, at, ahead); got != want {
		t.Errorf("CaretOf of %d, base %d, at %d, ahead %v: %d, want %d", levels, base, at, ahead, got, want)
	}
}

func isPlace(t *testing.T, levels []int64, base int64, x int64, ahead bool, want int64) {
	t.Helper()
	if got := impl.PlaceOf(levels, base, x, ahead); got != want {
		t.Errorf("PlaceOf of %d, base %d, x %d, ahead %v: %d, want %d", levels, base, x, ahead, got, want)
	}
}

// TestCaretsByHand has the carets of all places with ahead, then without, and the places of all carets
// likewise.
func TestCaretsByHand(t *testing.T) {
	for _, row := range [][6]string{
		{"", "0", "0", "0", "0", "0"}, {"", "1", "0", "0", "0", "0"},
		{"0", "0", "0 1", "0 1", "0 1", "0 1"}, {"0", "1", "1 1", "0 0", "-1 0", "0 -1"},
		{"1", "0", "0 0", "1 1", "0 -1", "-1 0"}, {"1", "1", "1 0", "1 0", "1 0", "1 0"},
		{"0 0", "0", "0 1 2", "0 1 2", "0 1 2", "0 1 2"}, {"1 1", "1", "2 1 0", "2 1 0", "2 1 0", "2 1 0"},
		{"0 1", "0", "0 1 1", "0 2 2", "0 1 -1", "0 -1 1"}, {"1 0", "0", "0 0 2", "1 1 2", "0 -1 2", "-1 0 2"},
		{"0 1 1 0", "0", "0 1 2 1 4", "0 3 2 3 4", "0 1 2 -1 4", "0 -1 2 1 4"}, {"1 2 2 1", "1", "4 3 2 3 0", "4 1 2 1 0", "4 -1 2 1 0", "4 1 2 -1 0"},
		{"0 1 2", "0", "0 1 2 2", "0 3 1 3", "0 1 2 -1", "0 2 -1 1"},
	} {
		levels, wants := numbersOf(row[0]), row[2:]
		base := numbersOf(row[1])[0]
		for i, ahead := range []bool{true, false} {
			for at, want := range numbersOf(wants[i]) {
				isCaret(t, levels, base, int64(at), ahead, want)
			}
			for x, want := range numbersOf(wants[i+2]) {
				isPlace(t, levels, base, int64(x), ahead, want)
			}
		}
	}
}

func TestCaretsOfLevels(t *testing.T) {
	eachLevels(func(levels []int64) {
		for base := range int64(2) {
			for _, ahead := range []bool{true, false} {
				carets := []int64{}
				for at := range len(levels) + 1 {
					carets = append(carets, plainCaret(levels, base, at, ahead))
					isCaret(t, levels, base, int64(at), ahead, carets[at])
				}
				for x := int64(-2); x <= int64(len(levels))+2; x++ {
					isPlace(t, levels, base, x, ahead, int64(slices.Index(carets, x)))
				}
			}
		}
	})
}

func TestPlacesHaveCarets(t *testing.T) {
	holds := func(levels []int64, base int64, ahead bool) {
		for at := range int64(len(levels)) + 1 {
			x := impl.CaretOf(levels, base, at, ahead)
			place := impl.PlaceOf(levels, base, x, ahead)
			if x < 0 || x > int64(len(levels)) || place < 0 || place > at || impl.CaretOf(levels, base, place, ahead) != x {
				t.Errorf("%d, base %d, ahead %v: place %d has the caret %d, which has the place %d", levels, base, ahead, at, x, place)
			}
		}
	}
	look := func(levels []int64) {
		for base := range int64(2) {
			holds(levels, base, true)
			holds(levels, base, false)
		}
	}
	eachLevels(look)
	eachRandomText(21, 100, dirAlphabet(), func(text string) { look(impl.Levels(text, -1)) })
}

func TestCaretsOfWhatIsWrong(t *testing.T) {
	long := make([]int64, impl.MaxList+1)
	for _, ahead := range []bool{true, false} {
		for _, levels := range [][]int64{{21}, {-1}, {0, 21}, {-1, 0}, {0, 1 << 62}, {-1 << 63}, long} {
			for base := range int64(2) {
				for at := int64(-1); at < 4; at++ {
					isCaret(t, levels, base, at, ahead, -1)
					isPlace(t, levels, base, at, ahead, -1)
				}
			}
		}
		for _, base := range []int64{-1, 2, 3, -2, 1 << 62, -1 << 63, 1<<63 - 1} {
			for at := int64(-1); at < 4; at++ {
				isCaret(t, []int64{0, 1}, base, at, ahead, -1)
				isPlace(t, []int64{0, 1}, base, at, ahead, -1)
				isCaret(t, nil, base, at, ahead, -1)
				isPlace(t, nil, base, at, ahead, -1)
			}
		}
		for _, at := range []int64{-1, 3, 4, 1 << 62, -1 << 63, 1<<63 - 1} {
			for base := range int64(2) {
				isCaret(t, []int64{0, 1}, base, at, ahead, -1)
				isPlace(t, []int64{0, 1}, base, at, ahead, -1)
			}
		}
		isCaret(t, nil, 0, 1, ahead, -1)
		isPlace(t, nil, 1, 1, ahead, -1)
	}
}

func isSelected(t *testing.T, levels []int64, from int64, to int64, want []impl.Stretch) {
	t.Helper()
	if got := impl.Selected(levels, from, to); !slices.Equal(got, want) {
		t.Errorf("Selected of %d from %d to %d: %d, want %d", levels, from, to, got, want)
	}
}

func stretchesOf(row string) []impl.Stretch {
	stretches := []impl.Stretch{}
	for pair := range slices.Chunk(numbersOf(row), 2) {
		stretches = append(stretches, impl.Stretch{First: pair[0], Last: pair[1]})
	}
	return stretches
}

func TestSelectedByHand(t *testing.T) {
	for _, row := range [][3]string{
		{"", "0 0", ""}, {"0", "0 0", ""}, {"0", "1 1", ""}, {"0", "0 1", "0 1"}, {"1", "0 1", "0 1"}, {"0 0", "1 1", ""},
		{"0 1 1", "1 2", "2 3"}, {"0 1 1", "2 3", "1 2"}, {"0 1 1", "0 2", "0 1 2 3"}, {"0 1 1", "1 3", "1 3"}, {"0 1 1", "0 3", "0 3"}, {"0 1 1", "0 1", "0 1"},
		{"1 1 1", "0 2", "1 3"}, {"0 0 0 0", "1 3", "1 3"}, {"0 1 1 1 0", "0 3", "0 1 2 4"}, {"0 1 1 1 0", "2 5", "1 3 4 5"}, {"0 1 1 1 0", "1 4", "1 4"},
		{"1 2 2 1", "1 3", "1 3"}, {"1 2 2 1", "0 2", "1 2 3 4"}, {"1 2 2 2 1", "0 3", "1 3 4 5"}, {"0 1 1 0 1 1", "1 5", "1 4 5 6"}, {"0 1 1 0 1 1", "2 5", "1 2 3 4 5 6"},
		{"20 20", "0 1", "0 1"}, {"19 19", "0 1", "1 2"},
	} {
		places := numbersOf(row[1])
		isSelected(t, numbersOf(row[0]), places[0], places[1], stretchesOf(row[2]))
	}
	for _, places := range [][2]int64{{-1, 0}, {-1, 1}, {-1, 3}, {0, 4}, {3, 4}, {4, 4}, {2, 1}, {3, 0}, {1, 0}, {0, -1}, {-1, -1}, {0, 1 << 62}, {-1 << 63, 1<<63 - 1}, {1<<63 - 1, -1 << 63}} {
		isSelected(t, []int64{0, 1, 1}, places[0], places[1], nil)
		isSelected(t, nil, places[0], places[1], nil)
	}
	for _, levels := range [][]int64{{21, 0}, {-1, 0}, {0, 21}, make([]int64, impl.MaxList+1)} {
		for from := range int64(3) {
			for to := range int64(3) {
				isSelected(t, levels, from, to, nil)
			}
		}
	}
}

// TestSelectedAndTheRest lays the stretches of what is ahead, of a selection and of what is behind onto a
// line.
func TestSelectedAndTheRest(t *testing.T) {
	holds := func(levels []int64, from int64, to int64) {
		order, line := impl.OrderOf(levels), make([]int64, len(levels))
		for part, places := range [][2]int64{{0, from}, {from, to}, {to, int64(len(levels))}} {
			last := int64(-1)
			for _, stretch := range impl.Selected(levels, places[0], places[1]) {
				if stretch.First <= last || stretch.Last <= stretch.First || stretch.Last > int64(len(levels)) {
					t.Errorf("%d, from %d to %d: stretch %d behind %d", levels, places[0], places[1], stretch, last)
					return
				}
				for x := stretch.First; x < stretch.Last; x++ {
					line[x] += 1 << (8 * part)
				}
				last = stretch.Last
			}
		}
		for x, at := range order {
			want := int64(1)
			if at >= from {
				want = 1 << 8
			}
			if at >= to {
				want = 1 << 16
			}
			if line[x] != want {
				t.Errorf("%d, from %d to %d: at %d stand the parts %x, want %x", levels, from, to, x, line[x], want)
			}
		}
	}
	eachLevels(func(levels []int64) {
		for to := range int64(len(levels)) + 1 {
			for from := range to + 1 {
				holds(levels, from, to)
			}
		}
	})
}

func TestSizesOfDirections(t *testing.T) {
	rights := func(count int) string { return strings.Repeat("\u0500", count) }
	most := impl.MaxList
	for _, text := range []string{rights(most), rights(most - 1), rights(1) + strings.Repeat("\xFF", most-1), rights(1) + strings.Repeat("\U0010FFFF", most-1)} {
		isBased(t, text, 1)
		for base := int64(-1); base <= 1; base++ {
			points := readPlainly(text)
			isLeveled(t, text, base, plainLevels(points, base))
			isText(t, "Visual", "a long text", impl.Visual(text, base), plainVisual(points, base))
		}
	}
	long := []string{rights(most + 1), rights(1) + strings.Repeat("\xFF", most), strings.Repeat("\u0500", impl.MaxBytes/2), rights(impl.MaxBytes/2) + "a", rights(1) + strings.Repeat("\U0010FFFF", most)}
	for _, text := range long {
		isBased(t, text, 0)
		for base := int64(-1); base <= 1; base++ {
			isLeveled(t, text, base, nil)
			isText(t, "Visual", "a text that is too long", impl.Visual(text, base), "")
		}
	}
}

// TestDeepTexts are as long as a list may be, with all isolates, brackets or embeddings open at once.
func TestDeepTexts(t *testing.T) {
	for _, row := range []string{"500*LRI 500*PDI", "999*FSI R", "1000*FSI", "500*( R 499*)", "999*( R", "R 999*)", "999*NSM R", "500*RLE 499*PDF R", "333*LRI 333*RLE 333*PDI R", "R 998*ON R", "R 998*BN R", "R 999*WS", "1000*B", "250*( 250*[ 250*] 249*) R"} {
		text := named(row)
		points := readPlainly(text)
		if len(points) != impl.MaxList {
			t.Errorf("%s has %d points", row, len(points))
		}
		for base := int64(-1); base <= 1; base++ {
			isLeveled(t, text, base, plainLevels(points, base))
		}
	}
}

func TestSizesOfOrders(t *testing.T) {
	for _, level := range []int64{0, 1, 2, 19, 20} {
		levels := slices.Repeat([]int64{level}, impl.MaxList+1)
		most := placesBelow(impl.MaxList)
		if level%2 == 1 {
			slices.Reverse(most)
		}
		isOrdered(t, levels[1:], most)
		isOrdered(t, levels, nil)
		isSelected(t, levels[1:], 0, impl.MaxList, []impl.Stretch{{First: 0, Last: impl.MaxList}})
		isSelected(t, levels, 0, 1, nil)
		isCaret(t, levels[1:], 0, impl.MaxList, false, impl.MaxList)
		isPlace(t, levels[1:], 1, 0, false, []int64{0, impl.MaxList}[level%2])
	}
	spread := make([]int64, impl.MaxList)
	for at := range spread {
		spread[at] = int64(at) % 21
	}
	isOrdered(t, spread, plainOrderOf(spread, placesBelow(len(spread)), 1))
}

func TestDirectionsAreNewMemory(t *testing.T) {
	text, levels := named("R ( L ) EN RLI R PDI"), numbersOf("1 0 2 2 1 20")
	given := slices.Clone(levels)
	first := fmt.Sprint(impl.Levels(text, 0), impl.OrderOf(levels), impl.Visual(text, 0), impl.Selected(levels, 1, 4), impl.CaretOf(levels, 0, 2, true), impl.PlaceOf(levels, 0, 2, true))
	for range 2 {
		leveled, order, shown, stretches := impl.Levels(text, 0), impl.OrderOf(levels), impl.Visual(text, 0), impl.Selected(levels, 1, 4)
		if got := fmt.Sprint(leveled, order, shown, stretches, impl.CaretOf(levels, 0, 2, true), impl.PlaceOf(levels, 0, 2, true)); got != first {
			t.Errorf("asked again: %s, want %s", got, first)
		}
		if !slices.Equal(levels, given) {
			t.Errorf("the levels became %d", levels)
		}
		clear(leveled)
		clear(order)
		clear(stretches)
	}
	for _, text := range []string{"a", "abc", "a b"} {
		if sharesMemory(text, impl.Visual(text, 0)) {
			t.Errorf("Visual of %q shares its memory", text)
		}
	}
}
