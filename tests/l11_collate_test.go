package tests

import (
	"encoding/binary"
	"fmt"
	"math"
	"math/rand"
	"regexp"
	"slices"
	"strconv"
	"strings"
	"testing"
	"unicode/utf8"

	"loop.example/g00044/impl"
)

// elementsFrom reads elements that are told as First/Second/Third.
func elementsFrom(row string) []impl.Element {
	var elements []impl.Element
	for _, word := range strings.Fields(row) {
		numbers := numbersOf(strings.ReplaceAll(word, "/", " "))
		elements = append(elements, impl.Element{First: numbers[0], Second: numbers[1], Third: numbers[2]})
	}
	return elements
}

// entriesFrom reads entries, each a Text, a colon and its elements, with a bar between them.
func entriesFrom(row string) []impl.Entry {
	var entries []impl.Entry
	for _, piece := range strings.Split(row, "|") {
		text, elements, found := strings.Cut(piece, ":")
		if found {
			entries = append(entries, impl.Entry{Text: text, Elements: elementsFrom(elements)})
		}
	}
	return entries
}

// tableOfElements has the rows of the chapter's table, for all points that D may have.
func tableOfElements() map[int64][]impl.Element {
	table := map[int64][]impl.Element{}
	put := func(first int64, last int64, tell func(p int64) []impl.Element) {
		for p := first; p <= last; p++ {
			table[p] = tell(p)
		}
	}
	one := func(first int64, third int64) []impl.Element {
		return []impl.Element{{First: 1000 * first, Second: 1, Third: third}}
	}
	plus := func(by int64) func(p int64) []impl.Element {
		return func(p int64) []impl.Element { return one(by+p, 1) }
	}
	mark := func(p int64) []impl.Element { return []impl.Element{{Second: 2 + p&0xFFF, Third: 1}} }
	put(0x620, 0x62B, mark)
	put(0x630, 0x631, mark)
	put(0x1000, 0x103F, mark)
	put(0x21, 0x7E, plus(20000))
	put(0xA1, 0xBF, plus(30000))
	put(0x1E00, 0x1E44, plus(30000))
	put(0x1E50, 0x1E69, plus(30000))
	delete(table, 0xAD)
	for _, p := range []int64{0x20, 0xA0, 0x1F80} {
		put(p, p, plus(10000))
	}
	for i := range int64(26) {
		table[0x41+i], table[0x61+i], table[0x2700+i] = one(200000+0x61+i, 3), one(200000+0x61+i, 1), one(200000+0x61+i, 6)
	}
	for i, letters := range []string{"ff", "fi", "fl", "st"} {
		table[0x2730+int64(i)] = append(one(200000+int64(letters[0]), 6), one(200000+int64(letters[1]), 6)...)
	}
	for system, first := range []int64{0x30, 0x250, 0x350, 0x450, 0x550, 0x650, 0x2720} {
		put(first, first+9, func(p int64) []impl.Element { return one(100000+p-first, 1+int64(system)) })
	}
	for _, b := range []int64{0x200, 0x300, 0x400} {
		put(b, b+0x1F, func(p int64) []impl.Element { return one(200000+p+0x20, 3) })
		put(b+0x20, b+0x3F, plus(200000))
		table[b+0x61] = one(200000+b+0x32, 4)
		table[b+0x60] = append(one(200000+b+0x32, 5), one(200000+b+0x32, 5)...)
		for j := range int64(3) {
			for k := range int64(4) {
				table[b+0x40+4*j+k] = append(one(200000+b+0x20+2*k, 3-j), one(200000+b+0x21+2*k, 3-j)...)
			}
		}
	}
	for _, row := range [][2]int64{{0x500, 0x51F}, {0x600, 0x61F}, {0x700, 0x712}, {0x720, 0x734}, {0x741, 0x75B}, {0x800, 0x82F}} {
		put(row[0], row[1], plus(300000))
	}
	put(0x6000, 0x67FF, func(p int64) []impl.Element { return one(400000+3000*(1+p%24)+p-0x6000, 1) })
	return table
}

// plainCollation reads a collator as the chapter does, entry by entry at each place.
type plainCollation struct {
	impl.Collator
	table map[int64][]impl.Element
}

func collatedPlainly(c impl.Collator) plainCollation {
	return plainCollation{Collator: c, table: tableOfElements()}
}

func isPassedBySkip(p int64) bool {
	return slices.Contains([]int64{impl.CatSpace, impl.CatPunct}, impl.Category(p))
}

func (c plainCollation) elements(text string) []impl.Element {
	rest := plainNormalText(impl.NormD, text)
	var told []impl.Element
	for rest != "" {
		best := impl.Entry{}
		for _, entry := range c.Entries {
			if strings.HasPrefix(rest, entry.Text) && len(entry.Text) > len(best.Text) {
				best = entry
			}
		}
		if best.Text == "" {
			p, size := utf8.DecodeRuneInString(rest)
			best.Text = rest[:size]
			if !c.Skip || !isPassedBySkip(int64(p)) {
				best.Elements = c.table[int64(p)]
			}
		}
		told = append(told, best.Elements...)
		rest = rest[len(best.Text):]
	}
	return told
}

func (c plainCollation) key(text string) string {
	var levels [3][]int64
	for _, element := range c.elements(text) {
		levels[0], levels[1], levels[2] = append(levels[0], element.First), append(levels[1], element.Second), append(levels[2], element.Third)
	}
	var key []byte
	for level, numbers := range levels[:min(c.Strength, 3)] {
		numbers = slices.DeleteFunc(numbers, func(n int64) bool { return n == 0 })
		if level > 0 {
			numbers = append([]int64{0}, numbers...)
		}
		for _, number := range numbers {
			key = append(key, binary.BigEndian.AppendUint64(nil, uint64(number))[2:]...)
		}
	}
	if c.Strength == 4 {
		key = append(key, "\x00\x00\x00\x00\x00\x00"+plainNormalText(impl.NormD, text)...)
	}
	return string(key)
}

func sameElements(a []impl.Element, b []impl.Element) bool {
	return slices.Equal(a, b)
}

func isElements(t *testing.T, c impl.Collator, text string, want []impl.Element) {
	t.Helper()
	if got := impl.ElementsOf(c, text); !sameElements(got, want) {
		t.Errorf("ElementsOf of %+q by %+v: got %v, want %v", text, c, got, want)
	}
}

func TestMostEntries(t *testing.T) {
	isNumber(t, "MaxEntries", 0, impl.MaxEntries, 200)
}

func TestElementsByHand(t *testing.T) {
	rows := []struct {
		points []int64
		want   string
	}{
		{[]int64{0, 0x1F, 0x7F, 0x9F, 0xAD, 0x1F00, 0x1F0B, 0x1F11, 0x1F12}, ""},
		{[]int64{0xC0, 0x1FF, 0x24C, 0x24F, 0x25A, 0x25F, 0x262, 0x2FF, 0x34C, 0x362, 0x44C, 0x45F, 0x462, 0x4FF, 0x520, 0x54F, 0x55A, 0x5FF, 0x62C, 0x62F, 0x632, 0x64F, 0x65A, 0x6FF, 0x713, 0x71F, 0x735, 0x740, 0x75C, 0x7FF, 0x830, 0xFFF}, ""},
		{[]int64{0x1040, 0x1DFF, 0x1E45, 0x1E4F, 0x1E6A, 0x1EFF, 0x1F0C, 0x1F10, 0x1F13, 0x1F7F, 0x1F81, 0x1FFF, 0x21A0, 0x25FF, 0x261A, 0x26FF, 0x271A, 0x271F, 0x272A, 0x272F, 0x2734, 0x2FFF, 0x5BA4, 0x5FFF, 0x6800, 0x7FFF, 0x8000, 0xFFFD, 0x10000, 0x11000, impl.MaxPoint}, ""},
		{[]int64{0x620}, "0/1570/1"}, {[]int64{0x62B}, "0/1581/1"}, {[]int64{0x630}, "0/1586/1"}, {[]int64{0x631}, "0/1587/1"}, {[]int64{0x1000}, "0/2/1"}, {[]int64{0x1010}, "0/18/1"}, {[]int64{0x103F}, "0/65/1"},
		{[]int64{0x20}, "10032000/1/1"}, {[]int64{0xA0}, "10160000/1/1"}, {[]int64{0x1F80}, "18064000/1/1"},
		{[]int64{'!'}, "20033000/1/1"}, {[]int64{'/'}, "20047000/1/1"}, {[]int64{':'}, "20058000/1/1"}, {[]int64{'@'}, "20064000/1/1"}, {[]int64{'['}, "20091000/1/1"}, {[]int64{'`'}, "20096000/1/1"}, {[]int64{'{'}, "20123000/1/1"}, {[]int64{'~'}, "20126000/1/1"},
		{[]int64{0xA1}, "30161000/1/1"}, {[]int64{0xAC}, "30172000/1/1"}, {[]int64{0xAE}, "30174000/1/1"}, {[]int64{0xBF}, "30191000/1/1"}, {[]int64{0x1E00}, "37680000/1/1"}, {[]int64{0x1E3F}, "37743000/1/1"}, {[]int64{0x1E40}, "37744000/1/1"}, {[]int64{0x1E44}, "37748000/1/1"}, {[]int64{0x1E50}, "37760000/1/1"}, {[]int64{0x1E69}, "37785000/1/1"},
		{[]int64{0x2700}, "200097000/1/6"}, {[]int64{0x2719}, "200122000/1/6"},
		{[]int64{0x2730}, "200102000/1/6 200102000/1/6"}, {[]int64{0x2731}, "200102000/1/6 200105000/1/6"}, {[]int64{0x2732}, "200102000/1/6 200108000/1/6"}, {[]int64{0x2733}, "200115000/1/6 200116000/1/6"},
		{[]int64{'0'}, "100000000/1/1"}, {[]int64{'9'}, "100009000/1/1"}, {[]int64{0x250}, "100000000/1/2"}, {[]int64{0x259}, "100009000/1/2"}, {[]int64{0x350}, "100000000/1/3"}, {[]int64{0x359}, "100009000/1/3"}, {[]int64{0x450}, "100000000/1/4"}, {[]int64{0x459}, "100009000/1/4"},
		{[]int64{0x550}, "100000000/1/5"}, {[]int64{0x559}, "100009000/1/5"}, {[]int64{0x650}, "100000000/1/6"}, {[]int64{0x659}, "100009000/1/6"}, {[]int64{0x2720}, "100000000/1/7"}, {[]int64{0x2729}, "100009000/1/7"},
		{[]int64{'a'}, "200097000/1/1"}, {[]int64{'z'}, "200122000/1/1"}, {[]int64{'A', 0x2600}, "200097000/1/3"}, {[]int64{'Z', 0x2619}, "200122000/1/3"},
		{[]int64{0x200}, "200544000/1/3"}, {[]int64{0x21F}, "200575000/1/3"}, {[]int64{0x220}, "200544000/1/1"}, {[]int64{0x23F}, "200575000/1/1"}, {[]int64{0x300}, "200800000/1/3"}, {[]int64{0x43F}, "201087000/1/1"},
		{[]int64{0x212}, "200562000/1/3"}, {[]int64{0x232}, "200562000/1/1"}, {[]int64{0x261}, "200562000/1/4"}, {[]int64{0x361}, "200818000/1/4"}, {[]int64{0x461}, "201074000/1/4"}, {[]int64{0x260}, "200562000/1/5 200562000/1/5"}, {[]int64{0x360}, "200818000/1/5 200818000/1/5"}, {[]int64{0x460}, "201074000/1/5 201074000/1/5"},
		{[]int64{0x240}, "200544000/1/3 200545000/1/3"}, {[]int64{0x241}, "200546000/1/3 200547000/1/3"}, {[]int64{0x242}, "200548000/1/3 200549000/1/3"}, {[]int64{0x243}, "200550000/1/3 200551000/1/3"},
		{[]int64{0x244}, "200544000/1/2 200545000/1/2"}, {[]int64{0x245}, "200546000/1/2 200547000/1/2"}, {[]int64{0x246}, "200548000/1/2 200549000/1/2"}, {[]int64{0x247}, "200550000/1/2 200551000/1/2"},
		{[]int64{0x248}, "200544000/1/1 200545000/1/1"}, {[]int64{0x249}, "200546000/1/1 200547000/1/1"}, {[]int64{0x24A}, "200548000/1/1 200549000/1/1"}, {[]int64{0x24B}, "200550000/1/1 200551000/1/1"}, {[]int64{0x340}, "200800000/1/3 200801000/1/3"}, {[]int64{0x44B}, "201062000/1/1 201063000/1/1"},
		{[]int64{0x500}, "301280000/1/1"}, {[]int64{0x51F}, "301311000/1/1"}, {[]int64{0x600}, "301536000/1/1"}, {[]int64{0x61F}, "301567000/1/1"}, {[]int64{0x700}, "301792000/1/1"}, {[]int64{0x712}, "301810000/1/1"}, {[]int64{0x720}, "301824000/1/1"}, {[]int64{0x734}, "301844000/1/1"}, {[]int64{0x741}, "301857000/1/1"}, {[]int64{0x75B}, "301883000/1/1"}, {[]int64{0x800}, "302048000/1/1"}, {[]int64{0x82F}, "302095000/1/1"},
		{[]int64{0x6000}, "403000000/1/1"}, {[]int64{0x6001}, "406001000/1/1"}, {[]int64{0x6017}, "472023000/1/1"}, {[]int64{0x6018}, "403024000/1/1"}, {[]int64{0x67FF}, "426047000/1/1"},
		{[]int64{0x2000}, "200097000/1/3 0/2/1"}, {[]int64{0x219F}, "200122000/1/1 0/9/1"}, {[]int64{0x2200}, "200097000/1/3 0/18/1"}, {[]int64{0x2407}, "200097000/1/3 0/25/1 0/2/1"}, {[]int64{0x3000}, "301792000/1/1 301824000/1/1"}, {[]int64{0x5BA3}, "301810000/1/1 301844000/1/1 301883000/1/1"},
	}
	for _, row := range rows {
		for _, p := range row.points {
			isElements(t, impl.Collator{Strength: 1}, textWritten(p), elementsFrom(row.want))
		}
	}
}

func TestElementsOfAllPoints(t *testing.T) {
	plain, skipping := collatedPlainly(impl.Collator{Strength: 2}), collatedPlainly(impl.Collator{Strength: 3, Skip: true})
	for _, p := range allPoints() {
		text := textWritten(p)
		isElements(t, plain.Collator, text, plain.elements(text))
		isElements(t, skipping.Collator, text, skipping.elements(text))
	}
}

func TestElementsOfTextsByHand(t *testing.T) {
	c, skipping := impl.Collator{Strength: 4}, impl.Collator{Strength: 4, Skip: true}
	rows := []struct {
		c    impl.Collator
		text string
		want string
	}{
		{c, "", ""}, {skipping, "", ""}, {c, "ab", "200097000/1/1 200098000/1/1"}, {c, "ba", "200098000/1/1 200097000/1/1"},
		{c, "a\xFFb", "200097000/1/1 200098000/1/1"}, {c, "\xFF", ""}, {c, "\uFFFD", ""}, {c, "\xE2\x80a\x80", "200097000/1/1"}, {c, "\x00a\x1F", "200097000/1/1"},
		{c, "a\u1000\u1010", "200097000/1/1 0/18/1 0/2/1"}, {c, "a\u1010\u1000", "200097000/1/1 0/18/1 0/2/1"}, {c, "a\u1000\u1F00\u1010", "200097000/1/1 0/2/1 0/18/1"}, {c, "\u1000", "0/2/1"}, {c, "\u20D0\u1010", "200097000/1/1 0/18/1 0/2/1"},
		{c, "a b-1", "200097000/1/1 10032000/1/1 200098000/1/1 20045000/1/1 100001000/1/1"}, {skipping, "a b-1", "200097000/1/1 200098000/1/1 100001000/1/1"}, {skipping, "\u00A0\u1F80 !~", ""}, {skipping, "\u00A1\u1000\u2700", "30161000/1/1 0/2/1 200097000/1/6"},
	}
	for _, row := range rows {
		isElements(t, row.c, row.text, elementsFrom(row.want))
	}
}

func TestEntriesByHand(t *testing.T) {
	entries := entriesFrom("a:1/1/1|ab:2/2/2 3/3/3|abc:4/4/4|b:5/5/5|bcd:|x\u1000y:6/6/6|\u0700\u0720:7/7/7|\u1000:8/8/8|\uFFFD:9/9/9")
	rows := [][2]string{
		{"a", "1/1/1"}, {"aa", "1/1/1 1/1/1"}, {"ab", "2/2/2 3/3/3"}, {"abc", "4/4/4"}, {"abd", "2/2/2 3/3/3 200100000/1/1"}, {"abcd", "4/4/4 200100000/1/1"}, {"aab", "1/1/1 2/2/2 3/3/3"}, {"aabc", "1/1/1 4/4/4"}, {"ababc", "2/2/2 3/3/3 4/4/4"},
		{"b", "5/5/5"}, {"bc", "5/5/5 200099000/1/1"}, {"bcd", ""}, {"bcdb", "5/5/5"}, {"bbcd", "5/5/5"}, {"abcbcd", "4/4/4"}, {"bcbcd", "5/5/5 200099000/1/1"}, {"c", "200099000/1/1"}, {"cab", "200099000/1/1 2/2/2 3/3/3"},
		{"A", "200097000/1/3"}, {"aB", "1/1/1 200098000/1/3"}, {"a b", "1/1/1 10032000/1/1 5/5/5"}, {"a\u1000b", "1/1/1 8/8/8 5/5/5"}, {"\u20D0", "1/1/1 8/8/8"}, {"\u20D0b", "1/1/1 8/8/8 5/5/5"}, {"a\u0001b", "1/1/1 5/5/5"},
		{"x\u1000", "200120000/1/1 8/8/8"}, {"x\u1000y", "6/6/6"}, {"\u2188y", "6/6/6"}, {"\u2188", "200120000/1/1 8/8/8"}, {"x\u1010\u1000y", "200120000/1/1 0/18/1 8/8/8 200121000/1/1"},
		{"\u3000", "7/7/7"}, {"\u3001", "7/7/7 301857000/1/1"}, {"\u0700\u0720", "7/7/7"}, {"\u0700", "301792000/1/1"}, {"\u301C", "301792000/1/1 301825000/1/1"},
		{"\uFFFD", "9/9/9"}, {"\xFFa\x80", "9/9/9 1/1/1 9/9/9"},
	}
	for _, row := range rows {
		isElements(t, impl.Collator{Entries: entries, Strength: 1}, row[0], elementsFrom(row[1]))
		isElements(t, impl.Collator{Entries: entries, Strength: 4}, row[0], elementsFrom(row[1]))
	}
}

// TestEntriesAndSkip has entries of points that Skip passes by, which give what they say all the same.
func TestEntriesAndSkip(t *testing.T) {
	entries := entriesFrom(" :1/1/1|!a:2/2/2|--:|a-:3/3/3")
	rows := [][3]string{
		{" ", "1/1/1", "1/1/1"}, {"!", "20033000/1/1", ""}, {"!a", "2/2/2", "2/2/2"}, {"! a", "20033000/1/1 1/1/1 200097000/1/1", "1/1/1 200097000/1/1"}, {"-", "20045000/1/1", ""}, {"--", "", ""}, {"---", "20045000/1/1", ""},
		{"a-", "3/3/3", "3/3/3"}, {"a--", "3/3/3 20045000/1/1", "3/3/3"}, {"b-", "200098000/1/1 20045000/1/1", "200098000/1/1"}, {"\u00A0!-", "10160000/1/1 20033000/1/1 20045000/1/1", ""}, {"a", "200097000/1/1", "200097000/1/1"},
	}
	for _, row := range rows {
		isElements(t, impl.Collator{Entries: entries, Strength: 2}, row[0], elementsFrom(row[1]))
		isElements(t, impl.Collator{Entries: entries, Strength: 2, Skip: true}, row[0], elementsFrom(row[2]))
	}
}

func collateAlphabet() []int64 {
	return []int64{'a', 'b', 'A', ' ', '-', 0x1000, 0x1010, 0x20D0, 0x24D0, 0x1F00, 0x260}
}

// randomEntries have Texts of few points, so that they stand within each other.
func randomEntries(r *rand.Rand, most int) []impl.Entry {
	weights := []int64{0, 1, 2, 3, 1001, 200097000, 1000000000000}
	var entries []impl.Entry
	for range r.Intn(most + 1) {
		entry := impl.Entry{Text: plainNormalText(impl.NormD, randomNormText(r, collateAlphabet(), 3))}
		if !within(strconv.Itoa(utf8.RuneCountInString(entry.Text)), 1, 3) {
			continue
		}
		for range r.Intn(4) {
			entry.Elements = append(entry.Elements, impl.Element{First: weights[r.Intn(len(weights))], Second: weights[r.Intn(len(weights))], Third: weights[r.Intn(len(weights))]})
		}
		entries = append(entries, entry)
	}
	slices.SortStableFunc(entries, func(a impl.Entry, b impl.Entry) int { return strings.Compare(a.Text, b.Text) })
	return slices.CompactFunc(entries, func(a impl.Entry, b impl.Entry) bool { return a.Text == b.Text })
}

func randomCollator(r *rand.Rand) impl.Collator {
	return impl.Collator{Entries: randomEntries(r, 8), Strength: 1 + r.Int63n(4), Skip: r.Intn(2) == 0}
}

// eachCollatedText looks at all short texts by one collator after the other, and at random ones.
func eachCollatedText(seed int64, look func(c plainCollation, text string)) {
	r := rand.New(rand.NewSource(seed))
	c := collatedPlainly(impl.Collator{Strength: 3})
	for count := range 5 {
		eachCutRow(collateAlphabet(), count, func(text string) {
			if r.Intn(20) == 0 {
				c.Collator = randomCollator(r)
			}
			look(c, text)
		})
	}
	eachRandomText(seed, 1000, collateAlphabet(), func(text string) {
		c.Collator = randomCollator(r)
		look(c, text)
	})
}

func TestElementsOfTexts(t *testing.T) {
	eachCollatedText(111, func(c plainCollation, text string) {
		if fault := impl.CollatorFault(c.Collator); fault != impl.OK {
			t.Errorf("%+v: fault %d", c.Collator, fault)
		}
		isElements(t, c.Collator, text, c.elements(text))
	})
}

func TestSizesOfElements(t *testing.T) {
	many := impl.Collator{Entries: []impl.Entry{{Text: "a", Elements: slices.Repeat(elementsFrom("1/2/3"), 20)}}, Strength: 1}
	rows := []struct {
		c    impl.Collator
		text string
		want int
	}{
		{impl.Collator{Strength: 1}, strings.Repeat("a", impl.MaxBytes), impl.MaxBytes}, {impl.Collator{Strength: 1}, strings.Repeat("a", impl.MaxBytes+1), 0},
		{impl.Collator{Strength: 1}, strings.Repeat("\u2400", impl.MaxBytes/3) + "a", impl.MaxBytes/3*3 + 1}, {impl.Collator{Strength: 1}, strings.Repeat("\u2400", impl.MaxBytes/3) + "aa", 0},
		{many, strings.Repeat("a", impl.MaxBytes), 20 * impl.MaxBytes}, {many, strings.Repeat("a", impl.MaxBytes+1), 0},
		{impl.Collator{Strength: 1}, strings.Repeat("\xFF", impl.MaxBytes), 0}, {impl.Collator{Strength: 1, Skip: true}, strings.Repeat(" ", impl.MaxBytes), 0},
	}
	for _, row := range rows {
		if got := impl.ElementsOf(row.c, row.text); len(got) != row.want {
			t.Errorf("ElementsOf of %d bytes: got %d, want %d", len(row.text), len(got), row.want)
		}
	}
}

// tailoringPiece is a piece of a tailoring: its kind is & < = or s (a string), ! (a broken byte), or $ (the
// end).
type tailoringPiece struct {
	kind byte
	text string
	at   int
}

var tailoringKinds = regexp.MustCompile(`_+|&|<{1,3}|=|s+|!`)

// tailoringPieces finds the pieces in a row of one letter for each point.
func tailoringPieces(text string) []tailoringPiece {
	points := pointTexts(text)
	row := ""
	for _, point := range points {
		switch {
		case strings.Contains("&<=", point):
			row += point
		case strings.Contains(" \n\r", point):
			row += "_"
		case !utf8.ValidString(point):
			row += "!"
		default:
			row += "s"
		}
	}
	var pieces []tailoringPiece
	for _, ends := range tailoringKinds.FindAllStringIndex(row, -1) {
		piece := tailoringPiece{row[ends[0]], strings.Join(points[ends[0]:ends[1]], ""), len(strings.Join(points[:ends[0]], ""))}
		if piece.kind != '_' {
			pieces = append(pieces, piece)
		}
	}
	return append(pieces, tailoringPiece{'$', "", len(text)}, tailoringPiece{'$', "", len(text)})
}

func (piece tailoringPiece) isString() bool {
	return piece.kind == 's' && len(plainNormal(impl.NormD, readPlainly(piece.text))) <= 3
}

func (piece tailoringPiece) isStep() bool {
	return piece.kind == '<' || piece.kind == '='
}

func (piece tailoringPiece) wrong(code int64) impl.TailoringRead {
	return impl.TailoringRead{Code: code, At: int64(piece.at)}
}

func stepPlainly(step string, element impl.Element) impl.Element {
	return map[string]impl.Element{
		"<":   {First: element.First + 1, Second: 1, Third: 1},
		"<<":  {First: element.First, Second: element.Second + 1000, Third: 1},
		"<<<": {First: element.First, Second: element.Second, Third: element.Third + 10},
		"=":   element,
	}[step]
}

func (c *plainCollation) putEntry(text string, elements []impl.Element) {
	c.Entries = slices.DeleteFunc(c.Entries, func(entry impl.Entry) bool { return entry.Text == text })
	c.Entries = append(c.Entries, impl.Entry{Text: text, Elements: elements})
}

func plainTailoring(text string, table map[int64][]impl.Element) impl.TailoringRead {
	c := plainCollation{table: table}
	pieces := tailoringPieces(text)
	for pieces[0].kind != '$' {
		if pieces[0].kind != '&' {
			return pieces[0].wrong(impl.ErrSyntax)
		}
		if !pieces[1].isString() {
			return pieces[1].wrong(impl.ErrSyntax)
		}
		elements := c.elements(pieces[1].text)
		if len(elements) == 0 {
			return pieces[1].wrong(impl.ErrNone)
		}
		pieces = pieces[2:]
		if !pieces[0].isStep() {
			return pieces[0].wrong(impl.ErrSyntax)
		}
		for pieces[0].isStep() {
			last := len(elements) - 1
			elements = append(slices.Clone(elements[:last]), stepPlainly(pieces[0].text, elements[last]))
			if !pieces[1].isString() {
				return pieces[1].wrong(impl.ErrSyntax)
			}
			c.putEntry(plainNormalText(impl.NormD, pieces[1].text), elements)
			if len(c.Entries) > 200 {
				return impl.TailoringRead{Code: impl.ErrCount}
			}
			pieces = pieces[2:]
		}
	}
	slices.SortFunc(c.Entries, func(a impl.Entry, b impl.Entry) int { return strings.Compare(a.Text, b.Text) })
	return impl.TailoringRead{Entries: c.Entries}
}

func sameEntry(a impl.Entry, b impl.Entry) bool {
	return a.Text == b.Text && slices.Equal(a.Elements, b.Elements)
}

func isTailoring(t *testing.T, text string, want impl.TailoringRead) {
	t.Helper()
	got := impl.ReadTailoring(text)
	if got.Code != want.Code || got.At != want.At || !slices.EqualFunc(got.Entries, want.Entries, sameEntry) {
		t.Errorf("ReadTailoring of %+q: got %+v, want %+v", text, got, want)
	}
}

func TestTailoringsByHand(t *testing.T) {
	rows := [][2]string{
		{"", ""}, {" ", ""}, {"\n", ""}, {" \n\r\n ", ""},
		{"&a<b", "b:200097001/1/1"}, {"&a<<b", "b:200097000/1001/1"}, {"&a<<<b", "b:200097000/1/11"}, {"&a=b", "b:200097000/1/1"},
		{"&A<b", "b:200097001/1/1"}, {"&A<<b", "b:200097000/1001/1"}, {"&A<<<b", "b:200097000/1/13"}, {"&A=b", "b:200097000/1/3"},
		{" & a < b ", "b:200097001/1/1"}, {"\n&\na\n<\nb\n", "b:200097001/1/1"}, {"\r\n&\r\na \r\n<<<\n\n  b\r", "b:200097000/1/11"}, {"  &a=b", "b:200097000/1/1"},
		{"&a<b<c", "b:200097001/1/1|c:200097002/1/1"}, {"&a<c<b", "b:200097002/1/1|c:200097001/1/1"}, {"&a<<b<c", "b:200097000/1001/1|c:200097001/1/1"}, {"&a<b<<c<<<d=e<f", "b:200097001/1/1|c:200097001/1001/1|d:200097001/1001/11|e:200097001/1001/11|f:200097002/1/1"}, {"&a<<<b<<c", "b:200097000/1/11|c:200097000/1001/1"}, {"&a<<b<<c<<<d<<<e", "b:200097000/1001/1|c:200097000/2001/1|d:200097000/2001/11|e:200097000/2001/21"}, {"&a=b=c", "b:200097000/1/1|c:200097000/1/1"},
		{"&a<x&b<y", "x:200097001/1/1|y:200098001/1/1"}, {"&b<y &a<x", "x:200097001/1/1|y:200098001/1/1"}, {"&a<x\n&x<y", "x:200097001/1/1|y:200097002/1/1"}, {"&x<y&a<x", "x:200097001/1/1|y:200120001/1/1"},
		{"&ab<c", "c:200097000/1/1 200098001/1/1"}, {"&abc<<d", "d:200097000/1/1 200098000/1/1 200099000/1001/1"}, {"&a<bcd", "bcd:200097001/1/1"}, {"&a<ab&ab<abc&abc<d", "ab:200097001/1/1|abc:200097002/1/1|d:200097003/1/1"}, {"&a<ab&xab<y", "ab:200097001/1/1|y:200120000/1/1 200097002/1/1"}, {"&a<b&bab<<<c", "b:200097001/1/1|c:200097001/1/1 200097000/1/1 200097001/1/11"},
		{"&\u0260<a", "a:200562000/1/5 200562001/1/1"}, {"&\u2731<<a", "a:200102000/1/6 200105000/1001/1"}, {"&\u2731<<<a", "a:200102000/1/6 200105000/1/16"},
		{"&a<b&c<b", "b:200099001/1/1"}, {"&a<b<b", "b:200097002/1/1"}, {"&a<b&b<b", "b:200097002/1/1"}, {"&a<a", "a:200097001/1/1"}, {"&a<a<b&a<c", "a:200097001/1/1|b:200097002/1/1|c:200097002/1/1"},
		{"&a<\u20D0", "a\u1000:200097001/1/1"}, {"&a<\u24D0", "a\u1010\u1000:200097001/1/1"}, {"&\u20D0<b", "b:200097000/1/1 1/1/1"}, {"&a\u1000<<b", "b:200097000/1/1 0/1002/1"}, {"&a<x\u1000\u1010", "x\u1010\u1000:200097001/1/1"}, {"&a<x\u1010\u1000&b<x\u1000\u1010", "x\u1010\u1000:200098001/1/1"}, {"&a<\u20D0&b<a\u1000", "a\u1000:200098001/1/1"}, {"&a<\u2600&A<b", "A:200097001/1/1|b:200097002/1/1"}, {"&\u3001<b", "b:301792000/1/1 301824000/1/1 301857001/1/1"}, {"&a<\u3001", "\u0700\u0720\u0741:200097001/1/1"},
		{"&\u1000<a", "a:1/1/1"}, {"&\u1000<<<a", "a:0/2/11"}, {"&a<\u1000", "\u1000:200097001/1/1"}, {"&a<\u1F00", "\u1F00:200097001/1/1"}, {"&a<\x00\t", "\x00\t:200097001/1/1"}, {"&a<\t&\t<b", "\t:200097001/1/1|b:200097002/1/1"}, {"&a<\uFFFD", "\uFFFD:200097001/1/1"}, {"&a<\uFFFD&\uFFFD=b", "b:200097001/1/1|\uFFFD:200097001/1/1"}, {"&a<\U0010FFFF\U0010FFFF\U0010FFFF", "\U0010FFFF\U0010FFFF\U0010FFFF:200097001/1/1"},
		{"&a<\u00A0", "\u00A0:200097001/1/1"}, {"&\u00A0<>", ">:10160001/1/1"}, {"&-<#", "#:20045001/1/1"}, {"&a\u1F00<b", "b:200097001/1/1"}, {"&\u1F00a\x00<b", "b:200097001/1/1"}, {"&5<b", "b:100005001/1/1"},
	}
	for _, row := range rows {
		isTailoring(t, row[0], impl.TailoringRead{Entries: entriesFrom(row[1])})
	}
}

func TestFaultsOfTailorings(t *testing.T) {
	rows := []struct {
		text string
		code int64
		at   int64
	}{
		{"a", impl.ErrSyntax, 0}, {" a", impl.ErrSyntax, 1}, {"\n\r a&b<c", impl.ErrSyntax, 3}, {"<", impl.ErrSyntax, 0}, {"=a", impl.ErrSyntax, 0}, {"\xFF", impl.ErrSyntax, 0}, {" \xFF&a<b", impl.ErrSyntax, 1}, {"\t&a<b", impl.ErrSyntax, 0}, {"a<b", impl.ErrSyntax, 0}, {"abcd", impl.ErrSyntax, 0},
		{"&", impl.ErrSyntax, 1}, {"& ", impl.ErrSyntax, 2}, {"&\n\r", impl.ErrSyntax, 3}, {"&<b", impl.ErrSyntax, 1}, {"& <b", impl.ErrSyntax, 2}, {"&=b", impl.ErrSyntax, 1}, {"&&a<b", impl.ErrSyntax, 1}, {"&\xFF", impl.ErrSyntax, 1}, {"& \xFFa<b", impl.ErrSyntax, 2},
		{"&a", impl.ErrSyntax, 2}, {"&a ", impl.ErrSyntax, 3}, {"&a\n\n", impl.ErrSyntax, 4}, {"&a&b<c", impl.ErrSyntax, 2}, {"&a &b<c", impl.ErrSyntax, 3}, {"&a b<c", impl.ErrSyntax, 3}, {"&a\xFF<b", impl.ErrSyntax, 2}, {"&\u20D0", impl.ErrSyntax, 4}, {"&a>b", impl.ErrSyntax, 4}, {"&a\xE2\x80<b", impl.ErrSyntax, 2},
		{"&a<", impl.ErrSyntax, 3}, {"&a< ", impl.ErrSyntax, 4}, {"&a<<", impl.ErrSyntax, 4}, {"&a<<<", impl.ErrSyntax, 5}, {"&a=", impl.ErrSyntax, 3}, {"&a<&b", impl.ErrSyntax, 3}, {"&a<=b", impl.ErrSyntax, 3}, {"&a==b", impl.ErrSyntax, 3}, {"&a=<b", impl.ErrSyntax, 3}, {"&a< <b", impl.ErrSyntax, 4}, {"&a<<<<b", impl.ErrSyntax, 5}, {"&a<< <b", impl.ErrSyntax, 5}, {"&a<\xFF", impl.ErrSyntax, 3}, {"&a<\xFFb", impl.ErrSyntax, 3},
		{"&a<b c", impl.ErrSyntax, 5}, {"&a<b\xFF", impl.ErrSyntax, 4}, {"&a<b \n<", impl.ErrSyntax, 7}, {"&a<b&", impl.ErrSyntax, 5}, {"&a<b&c", impl.ErrSyntax, 6}, {"&a<b&c<", impl.ErrSyntax, 7}, {"&a<b\xC3", impl.ErrSyntax, 4}, {"&a<b\t<\xFF", impl.ErrSyntax, 6},
		{"&abcd<e", impl.ErrSyntax, 1}, {"& abcd<e", impl.ErrSyntax, 2}, {"&abcd", impl.ErrSyntax, 1}, {"&a<bcde", impl.ErrSyntax, 3}, {"&a< bcde", impl.ErrSyntax, 4}, {"&abcd\xFF", impl.ErrSyntax, 1}, {"&a<\x01\x02\x03\x04", impl.ErrSyntax, 3}, {"&\u1F00\u1F00\u1F00\u1F00<a", impl.ErrSyntax, 1},
		{"&\u20D0\u20D0<a", impl.ErrSyntax, 1}, {"&a<\u24D0b", impl.ErrSyntax, 3}, {"&a<\u3001a", impl.ErrSyntax, 3}, {"&a<\u3000\u3000", impl.ErrSyntax, 3}, {"&a<b<\u20D0ab", impl.ErrSyntax, 5},
		{"&\u1F00<a", impl.ErrNone, 1}, {"&  \u1F00<a", impl.ErrNone, 3}, {"&\u1F00", impl.ErrNone, 1}, {"&\u1F00 \xFF", impl.ErrNone, 1}, {"&\x00\x01\x02<a", impl.ErrNone, 1}, {"&\t<a", impl.ErrNone, 1}, {"&\uFFFD<a", impl.ErrNone, 1}, {"&a<b&\U0010FFFF<c", impl.ErrNone, 5}, {"&\u1F00<a&", impl.ErrNone, 1}, {"&a<b &\n\u00AD=\xFF", impl.ErrNone, 7},
	}
	for _, row := range rows {
		isTailoring(t, row.text, impl.TailoringRead{Code: row.code, At: row.at})
	}
}

// tailoringOf has rules that make an entry each.
func tailoringOf(count int) string {
	var text strings.Builder
	for n := range count {
		text.WriteString("&a<" + textWritten(0x2F00+int64(n)) + "\n")
	}
	return text.String()
}

func TestCountsOfTailorings(t *testing.T) {
	most := tailoringOf(200)
	if got := impl.ReadTailoring(most); got.Code != impl.OK || len(got.Entries) != 200 || got.Entries[199].Text != "\u2FC7" {
		t.Errorf("200 entries: got the code %d and %d entries", got.Code, len(got.Entries))
	}
	if got := impl.ReadTailoring(most + "&b<\u2F00<\u2FC7"); got.Code != impl.OK || len(got.Entries) != 200 || !sameElements(got.Entries[199].Elements, elementsFrom("200098002/1/1")) {
		t.Errorf("200 entries, two of them again: got the code %d and %d entries", got.Code, len(got.Entries))
	}
	long := "&a" + strings.Repeat("<b", 30000)
	if got := impl.ReadTailoring(long); got.Code != impl.OK || len(got.Entries) != 1 || !sameElements(got.Entries[0].Elements, elementsFrom("200127000/1/1")) {
		t.Errorf("one entry 30000 times: got %v", got)
	}
	rows := []struct {
		text string
		code int64
		at   int64
	}{
		{tailoringOf(201), impl.ErrCount, 0}, {most + "&b<c", impl.ErrCount, 0}, {most + "&b<\u2F00<c", impl.ErrCount, 0}, {most + "&b<c<", impl.ErrCount, 0}, {most + "&b<c\xFF", impl.ErrCount, 0}, {most + "&b<c&\u1F00<d", impl.ErrCount, 0},
		{most + "&b<", impl.ErrSyntax, int64(len(most) + 3)}, {most + "&\u1F00<c", impl.ErrNone, int64(len(most) + 1)}, {most + "&b<cdef", impl.ErrSyntax, int64(len(most) + 3)}, {"\xFF" + most + "&b<c", impl.ErrSyntax, 0},
	}
	for _, row := range rows {
		isTailoring(t, row.text, impl.TailoringRead{Code: row.code, At: row.at})
	}
}

func TestSizesOfTailorings(t *testing.T) {
	blanks := strings.Repeat(" ", impl.MaxBytes-4)
	isTailoring(t, "&a<b"+blanks, impl.TailoringRead{Entries: entriesFrom("b:200097001/1/1")})
	isTailoring(t, blanks+"&a<b", impl.TailoringRead{Entries: entriesFrom("b:200097001/1/1")})
	isTailoring(t, blanks+" &a<", impl.TailoringRead{Code: impl.ErrSyntax, At: impl.MaxBytes})
	isTailoring(t, "&a<b "+blanks, impl.TailoringRead{Code: impl.ErrSize})
	isTailoring(t, "\xFF    "+blanks, impl.TailoringRead{Code: impl.ErrSize})
	isTailoring(t, strings.Repeat("\xFF", impl.MaxBytes), impl.TailoringRead{Code: impl.ErrSyntax})
	isTailoring(t, "&"+strings.Repeat("a", impl.MaxBytes-1), impl.TailoringRead{Code: impl.ErrSyntax, At: 1})
}

// grownTailoring has rules of which each makes three times as many elements as the one ahead of it.
func grownTailoring(count int) string {
	var text strings.Builder
	for n := range int64(count) {
		text.WriteString("&" + strings.Repeat(textWritten('a'+n), 3) + "<" + textWritten('a'+n+1))
	}
	return text.String()
}

// TestGrownTailorings has entries of more elements than a right collator may have: nothing bounds them.
func TestGrownTailorings(t *testing.T) {
	table := tableOfElements()
	for count := range 9 {
		for _, behind := range []string{"", "&ebf<<g", "&abc<<<b=c", "&cc<a&aa<b&ab<c"} {
			isTailoring(t, grownTailoring(count)+behind, plainTailoring(grownTailoring(count)+behind, table))
		}
	}
	want := 1
	for count := 1; count <= 12; count++ {
		want *= 3
		got := impl.ReadTailoring(grownTailoring(count))
		if got.Code != impl.OK || got.At != 0 || len(got.Entries) != count || len(got.Entries[count-1].Elements) != want {
			t.Errorf("%d rules: got the code %d at %d and %d entries", count, got.Code, got.At, len(got.Entries))
		}
	}
	thousand := "&aa<b&bb<c&ccc<d&da<e&dde<f&fff<g&ggg<h&ha<i&hhi<j&ja<k"
	isTailoring(t, thousand, plainTailoring(thousand, table))
	again := impl.ReadTailoring(strings.Repeat("&aa<a", 20))
	if again.Code != impl.OK || len(again.Entries) != 1 || len(again.Entries[0].Elements) != 1<<20 {
		t.Errorf("20 times twice as many: got the code %d and %d entries", again.Code, len(again.Entries))
	}
	wide := strings.Repeat("&ba<a", impl.MaxBytes/5)
	isTailoring(t, wide, impl.TailoringRead{Entries: []impl.Entry{{Text: "a", Elements: append(slices.Repeat(elementsFrom("200098000/1/1"), 13107), elementsFrom("200110107/1/1")...)}}})
}

// TestOutgrownTailorings has entries that no memory holds, which are none of what is told, or all of it.
func TestOutgrownTailorings(t *testing.T) {
	grown := grownTailoring(25)
	rows := "b:200097001/1/1"
	text := grown + "&a<b"
	for n := range int64(24) {
		text += "<" + textWritten('c'+n)
		rows += "|" + textWritten('c'+n) + ":" + strconv.FormatInt(200097002+n, 10) + "/1/1"
	}
	isTailoring(t, text, impl.TailoringRead{Entries: entriesFrom(rows)})
	again := strings.Repeat("&aaa<a", impl.MaxBytes/6-1)
	isTailoring(t, again+"&b<a", impl.TailoringRead{Entries: entriesFrom("a:200098001/1/1")})
	isTailoring(t, again+"&b<", impl.TailoringRead{Code: impl.ErrSyntax, At: int64(len(again) + 3)})
	isTailoring(t, again+"&\u1F00<b", impl.TailoringRead{Code: impl.ErrNone, At: int64(len(again) + 1)})
	isTailoring(t, grown+tailoringOf(176), impl.TailoringRead{Code: impl.ErrCount})
	isTailoring(t, again, impl.TailoringRead{Code: impl.ErrSize})
	isTailoring(t, grown, impl.TailoringRead{Code: impl.ErrSize})
	isTailoring(t, grown+tailoringOf(175), impl.TailoringRead{Code: impl.ErrSize})
}

func TestShortTailorings(t *testing.T) {
	table := tableOfElements()
	alphabet := []int64{'&', '<', '=', ' ', '\n', 'a', 'b', 0x24D0, 0x1F00}
	for count := range 6 {
		eachCutRow(alphabet, count, func(text string) { isTailoring(t, text, plainTailoring(text, table)) })
	}
	for count := range 5 {
		eachCutRow([]int64{'&', '<', 'a', 0x24D0, 0x1010, '='}, count, func(text string) {
			isTailoring(t, "&a<b"+text, plainTailoring("&a<b"+text, table))
			isTailoring(t, text+"\xFF", plainTailoring(text+"\xFF", table))
		})
	}
}

func TestRandomTailorings(t *testing.T) {
	r, table := rand.New(rand.NewSource(112)), tableOfElements()
	texts := []string{"a", "b", "ab", "abc", "A", "\u1000", "a\u1010", "\u20D0", "\u24D0", "\u3000", "\u0260", "-", "\u1F00a", "x", "y"}
	odd := []string{"\xFF", "\u1F00", "abcd", "", "&", "<", "\u20D0\u20D0", "\uFFFD", "\r\n"}
	signs := []string{"<", "<<", "<<<", "="}
	blanks := []string{"", "", "", " ", "\n", " \r\n "}
	for range 20000 {
		var text strings.Builder
		put := func(pieces []string) {
			if r.Intn(60) == 0 {
				pieces = odd
			}
			text.WriteString(pieces[r.Intn(len(pieces))] + blanks[r.Intn(len(blanks))])
		}
		for range r.Intn(5) {
			put([]string{"&"})
			put(texts)
			for range 1 + r.Intn(4) {
				put(signs)
				put(texts)
			}
		}
		isTailoring(t, text.String(), plainTailoring(text.String(), table))
	}
}

func entriesOf(count int) []impl.Entry {
	var entries []impl.Entry
	for n := range count {
		entries = append(entries, impl.Entry{Text: textWritten(0x2F00 + int64(n)), Elements: elementsFrom("1/2/3")})
	}
	return entries
}

func rightCollators() map[string]impl.Collator {
	return map[string]impl.Collator{
		"strength 1": {Strength: 1}, "strength 2": {Strength: 2}, "strength 3": {Strength: 3}, "strength 4": {Strength: 4, Skip: true}, "no entries": {Entries: []impl.Entry{}, Strength: 1},
		"200 entries": {Entries: entriesOf(200), Strength: 1}, "one point": {Entries: entriesFrom("a:1/1/1"), Strength: 1}, "three points": {Entries: entriesFrom("abc:1/1/1"), Strength: 1}, "three long points": {Entries: entriesFrom("\U0010FFFF\U0010FFFF\U0010FFFF:1/1/1"), Strength: 1},
		"marks in order": {Entries: entriesFrom("a\u1010\u1000:1/1/1"), Strength: 1}, "one begins another": {Entries: entriesFrom("a:|a\u1010:|b:"), Strength: 1}, "broken but written": {Entries: entriesFrom("\uFFFD:1/1/1"), Strength: 1},
		"no elements": {Entries: []impl.Entry{{Text: "a"}}, Strength: 1}, "20 elements": {Entries: []impl.Entry{{Text: "a", Elements: slices.Repeat(elementsFrom("1/1/1"), 20)}}, Strength: 1},
		"numbers 0": {Entries: entriesFrom("a:0/0/0"), Strength: 1}, "great numbers": {Entries: entriesFrom("a:1000000000000/1000000000000/1000000000000"), Strength: 1}, "signs": {Entries: entriesFrom(" :|&:|<:"), Strength: 1}, "what K would change": {Entries: entriesFrom("\u00A0:|\u2700:"), Strength: 1},
	}
}

func wrongCollators() map[string]impl.Collator {
	wrong := map[string]impl.Collator{
		"strength 0": {}, "strength 5": {Strength: 5}, "strength -1": {Strength: -1}, "least strength": {Strength: math.MinInt64}, "most strength": {Strength: math.MaxInt64},
		"201 entries": {Entries: entriesOf(201), Strength: 1}, "21 elements": {Entries: []impl.Entry{{Text: "a", Elements: slices.Repeat(elementsFrom("1/1/1"), 21)}}, Strength: 1},
		"a long text": {Entries: []impl.Entry{{Text: strings.Repeat("a", impl.MaxBytes)}}, Strength: 1}, "too long a text": {Entries: []impl.Entry{{Text: strings.Repeat("a", impl.MaxBytes+1)}}, Strength: 1},
	}
	for _, row := range []string{
		":1/1/1", "abcd:1/1/1", "\U0010FFFF\U0010FFFF\U0010FFFFa:", "aaaaaaaaaaaa:", "\u20D0:", "\u2600:", "\u3000:", "a\u1000\u1010:", "\xFF:", "a\xE2\x80:", "\xFFab:",
		"a:|a:", "b:|a:", "a:|b:|b:", "a:|c:|b:", "ab:|a:", "a:|b:|", "z:|\u1000:|a:", "a:|\u20D0:|b:",
		"a:-1/1/1", "a:1/-1/1", "a:1/1/-1", "a:1000000000001/1/1", "a:1/1000000000001/1", "a:1/1/1000000000001", "a:1/1/1 1/1/-1", "a:1/1/1|b:-1/1/1", "a:9223372036854775807/1/1", "a:1/-9223372036854775808/1",
	} {
		if row == "a:|b:|" {
			wrong["the last one empty"] = impl.Collator{Entries: []impl.Entry{{Text: "a"}, {Text: "b"}, {}}, Strength: 1}
			continue
		}
		wrong[fmt.Sprintf("%+q", row)] = impl.Collator{Entries: entriesFrom(row), Strength: 1}
	}
	return wrong
}

func TestCollatorFaults(t *testing.T) {
	for what, c := range rightCollators() {
		if got := impl.CollatorFault(c); got != impl.OK {
			t.Errorf("%s: got %d, want %d", what, got, impl.OK)
		}
	}
	for what, c := range wrongCollators() {
		if got := impl.CollatorFault(c); got != impl.ErrForm {
			t.Errorf("%s: got %d, want %d", what, got, impl.ErrForm)
		}
	}
}

func TestRightCollatorsAnswer(t *testing.T) {
	for what, c := range rightCollators() {
		if impl.ElementsOf(c, "z") == nil || impl.KeyOf(c, "z") == "" || impl.CompareTexts(c, "y", "z") != -1 || len(impl.SortTexts(c, []string{"z"})) != 1 {
			t.Errorf("%s: not all calls answer", what)
		}
	}
}

func TestWrongCollatorsAreRefused(t *testing.T) {
	for what, c := range wrongCollators() {
		if elements, key := impl.ElementsOf(c, "ab"), impl.KeyOf(c, "ab"); len(elements) != 0 || key != "" {
			t.Errorf("%s: got %v and the key %q", what, elements, key)
		}
		if sign, places := impl.CompareTexts(c, "a", "b"), impl.SortTexts(c, []string{"b", "a"}); sign != 0 || len(places) != 0 {
			t.Errorf("%s: got the sign %d and %v", what, sign, places)
		}
	}
}

// weights writes numbers as keys have them, in six bytes each.
func weights(row string) string {
	key := ""
	for _, number := range numbersOf(row) {
		for shift := 40; shift >= 0; shift -= 8 {
			key += string([]byte{byte(number >> shift)})
		}
	}
	return key
}

func isKey(t *testing.T, c impl.Collator, text string, want string) {
	t.Helper()
	isText(t, fmt.Sprintf("KeyOf by %+v", c), text, impl.KeyOf(c, text), want)
}

func TestKeysByHand(t *testing.T) {
	rows := []struct {
		strength int64
		text     string
		want     string
	}{
		{1, "", ""}, {2, "", weights("0")}, {3, "", weights("0 0")}, {4, "", weights("0 0 0")},
		{1, "a", "\x00\x00\x0B\xED\x3C\xE8"}, {1, "a", weights("200097000")}, {2, "a", weights("200097000 0 1")}, {3, "a", weights("200097000 0 1 0 1")}, {4, "a", weights("200097000 0 1 0 1 0") + "a"},
		{1, "Ab", weights("200097000 200098000")}, {2, "Ab", weights("200097000 200098000 0 1 1")}, {3, "Ab", weights("200097000 200098000 0 1 1 0 3 1")}, {4, "Ab", weights("200097000 200098000 0 1 1 0 3 1 0") + "Ab"},
		{1, "\u1000", ""}, {2, "\u1000", weights("0 2")}, {3, "\u1000", weights("0 2 0 1")}, {4, "\u1000", weights("0 2 0 1 0") + "\u1000"}, {1, "\u20D0b", weights("200097000 200098000")}, {3, "\u20D0b", weights("200097000 200098000 0 1 2 1 0 1 1 1")}, {4, "\u20D0", weights("200097000 0 1 2 0 1 1 0") + "a\u1000"},
		{1, "\u1F00", ""}, {3, "\u1F00", weights("0 0")}, {4, "\u1F00", weights("0 0 0") + "\u1F00"}, {4, "\xFF", weights("0 0 0") + "\uFFFD"}, {4, "a\x80", weights("200097000 0 1 0 1 0") + "a\uFFFD"}, {4, "\u3000", weights("301792000 301824000 0 1 1 0 1 1 0") + "\u0700\u0720"},
	}
	for _, row := range rows {
		isKey(t, impl.Collator{Strength: row.strength}, row.text, row.want)
	}
	c := impl.Collator{Entries: entriesFrom("a:0/0/0|b:0/5/0 6/0/0|c:1000000000000/255/256|d:|e:65535/65536/4294967296"), Strength: 3}
	isKey(t, c, "a", weights("0 0"))
	isKey(t, c, "b", weights("6 0 5 0"))
	isKey(t, c, "abdb", weights("6 6 0 5 5 0"))
	isKey(t, c, "c", "\x00\xE8\xD4\xA5\x10\x00"+weights("0 255 0")+"\x00\x00\x00\x00\x01\x00")
	isKey(t, c, "e", "\x00\x00\x00\x00\xFF\xFF"+weights("0")+"\x00\x00\x00\x01\x00\x00"+weights("0")+"\x00\x01\x00\x00\x00\x00")
}

func TestKeysOfTexts(t *testing.T) {
	eachCollatedText(113, func(c plainCollation, text string) { isKey(t, c.Collator, text, c.key(text)) })
}

func TestSizesOfKeys(t *testing.T) {
	a := func(count int) string { return strings.Repeat("a", count) }
	rows := []struct {
		strength int64
		text     string
		want     int
	}{
		{1, a(10922), 65532}, {1, a(10923), 0}, {2, a(5460), 65526}, {2, a(5460) + "\u1000", 65532}, {2, a(5461), 0}, {3, a(3640), 65532}, {3, a(3641), 0}, {3, a(3640) + "\u1F00", 65532},
		{4, a(3448) + strings.Repeat("\x00", 6), 65536}, {4, a(3448) + strings.Repeat("\x00", 7), 0}, {4, a(3448) + "\u1F00\u1F00", 65536}, {4, a(3448) + "\u1F00\u1F00\x00", 0}, {4, a(3448) + "\xFF\xFF", 65536}, {4, a(3448) + "\xFF\xFF\xFF", 0},
		{4, strings.Repeat("\x00", impl.MaxBytes-18), 65536}, {4, strings.Repeat("\x00", impl.MaxBytes-17), 0}, {3, strings.Repeat("\x00", impl.MaxBytes), 12}, {3, strings.Repeat("\x00", impl.MaxBytes+1), 0}, {1, strings.Repeat("\x00", impl.MaxBytes) + "a", 0}, {1, strings.Repeat("\x00", impl.MaxBytes-1) + "a", 6}, {1, strings.Repeat("\xFF", impl.MaxBytes-1) + "a", 6},
		{4, a(1) + strings.Repeat("\xFF", 21833), 65536}, {4, a(2) + strings.Repeat("\xFF", 21833), 0},
	}
	for _, row := range rows {
		if got := impl.KeyOf(impl.Collator{Strength: row.strength}, row.text); len(got) != row.want {
			t.Errorf("KeyOf of %d bytes, strength %d: got %d bytes, want %d", len(row.text), row.strength, len(got), row.want)
		}
	}
}

func isCompared(t *testing.T, c impl.Collator, a string, b string, want int64) {
	t.Helper()
	if got := impl.CompareTexts(c, a, b); got != want {
		t.Errorf("CompareTexts of %+q and %+q by %+v: got %d, want %d", a, b, c, got, want)
	}
	if got := impl.CompareTexts(c, b, a); got != -want {
		t.Errorf("CompareTexts of %+q and %+q by %+v: got %d, want %d", b, a, c, got, -want)
	}
}

func TestComparedByHand(t *testing.T) {
	rows := []struct {
		a     string
		b     string
		signs string
	}{
		{"", "", "0 0 0 0"}, {"a", "a", "0 0 0 0"}, {"", "a", "-1 -1 -1 -1"}, {"a", "b", "-1 -1 -1 -1"}, {"a", "aa", "-1 -1 -1 -1"}, {"b", "aa", "1 1 1 1"}, {"ab", "b", "-1 -1 -1 -1"},
		{"a", "A", "0 0 -1 -1"}, {"a", "a\u1000", "0 -1 -1 -1"}, {"A", "a\u1000", "0 -1 -1 -1"}, {"a\u1000", "a\u1010", "0 -1 -1 -1"}, {"\u20D0", "a\u1000", "0 0 0 0"}, {"ab", "Aa", "1 1 1 1"}, {"a\u1000b", "aB", "0 1 1 1"}, {"\u1000", "", "0 1 1 1"},
		{"a\u1F00", "a", "0 0 0 1"}, {"\x00", "", "0 0 0 1"}, {"\x00", "\x01", "0 0 0 -1"}, {"\xFF", "\uFFFD", "0 0 0 0"}, {"\xFF", "", "0 0 0 1"}, {"a\xFF", "a\x80", "0 0 0 0"}, {"a\uFFFD", "a\U00010000", "0 0 0 -1"},
		{" ", "!", "-1 -1 -1 -1"}, {"~", "\u00A1", "-1 -1 -1 -1"}, {"\u00BF", "0", "-1 -1 -1 -1"}, {"9", "a", "-1 -1 -1 -1"}, {"Z", "\u0500", "-1 -1 -1 -1"}, {"\u082F", "\u6000", "-1 -1 -1 -1"}, {"1", "\u0251", "0 0 -1 -1"}, {"\u2700", "A", "0 0 1 1"}, {"\u2731", "fi", "0 0 1 1"}, {"\u6018", "\u6001", "-1 -1 -1 -1"},
		{"\u0260", "\u0232\u0232", "0 0 1 1"}, {"\u0261", "\u0232", "0 0 1 1"}, {"\u0240", "\u0220\u0221", "0 0 1 1"}, {"\u0248", "\u0220\u0221", "0 0 0 1"}, {"\u0244", "\u0240", "0 0 -1 -1"},
	}
	for _, row := range rows {
		for at, sign := range numbersOf(row.signs) {
			isCompared(t, impl.Collator{Strength: int64(1 + at)}, row.a, row.b, sign)
		}
	}
	isCompared(t, impl.Collator{Strength: 3, Skip: true}, "a b", "ab", 0)
	isCompared(t, impl.Collator{Strength: 4, Skip: true}, "a b", "ab", -1)
	isCompared(t, impl.Collator{Strength: 3}, "a b", "ab", -1)
}

// TestComparedLongKeys has texts whose keys KeyOf would not answer.
func TestComparedLongKeys(t *testing.T) {
	most := strings.Repeat("a", impl.MaxBytes-1)
	for strength := int64(1); strength <= 4; strength++ {
		c := impl.Collator{Strength: strength}
		isCompared(t, c, most+"a", most+"b", -1)
		isCompared(t, c, most, most+"b", -1)
		isCompared(t, c, most+"b", "b", -1)
		isCompared(t, c, most+"a", most+"a", 0)
		isCompared(t, c, most+"A", most+"a", map[bool]int64{true: 1}[strength > 2])
		isCompared(t, c, most+"\x00", most+"\x01", map[bool]int64{true: -1}[strength > 3])
		for _, other := range []string{"", "a", "b", most, most + "bb"} {
			isCompared(t, c, most+"aa", other, 0)
		}
	}
}

func signOf(number int) int64 {
	return int64(min(max(number, -1), 1))
}

// TestComparedIsOrderOfKeys is the first half of the twenty-sixth promise.
func TestComparedIsOrderOfKeys(t *testing.T) {
	r := rand.New(rand.NewSource(114))
	eachCollatedText(115, func(c plainCollation, text string) {
		other := randomNormText(r, collateAlphabet(), 4)
		if r.Intn(4) == 0 {
			other = cutBytes(r, text)
		}
		isCompared(t, c.Collator, text, other, signOf(strings.Compare(impl.KeyOf(c.Collator, text), impl.KeyOf(c.Collator, other))))
		isCompared(t, c.Collator, text, text, 0)
	})
}

func TestComparedIsTotal(t *testing.T) {
	r := rand.New(rand.NewSource(116))
	for range 20000 {
		c := randomCollator(r)
		a, b, d := randomNormText(r, collateAlphabet(), 3), randomNormText(r, collateAlphabet(), 3), randomNormText(r, collateAlphabet(), 3)
		if impl.CompareTexts(c, a, b) <= 0 && impl.CompareTexts(c, b, d) <= 0 && impl.CompareTexts(c, a, d) > 0 {
			t.Errorf("%+q, %+q and %+q go round by %+v", a, b, d, c)
		}
	}
}

func isSorted(t *testing.T, c impl.Collator, texts []string, want []int64) {
	t.Helper()
	if got := impl.SortTexts(c, texts); !slices.Equal(got, want) {
		t.Errorf("SortTexts of %+q by %+v: got %d, want %d", texts, c, got, want)
	}
}

func TestSortedByHand(t *testing.T) {
	c := impl.Collator{Strength: 1}
	isSorted(t, c, nil, nil)
	isSorted(t, c, []string{}, nil)
	isSorted(t, c, []string{""}, numbersOf("0"))
	isSorted(t, c, []string{"a"}, numbersOf("0"))
	isSorted(t, c, []string{"b", "a"}, numbersOf("1 0"))
	isSorted(t, c, []string{"b", "c", "a"}, numbersOf("2 0 1"))
	isSorted(t, c, []string{"A", "a", "\u1000a", "a", "", "\x00"}, numbersOf("4 5 0 1 2 3"))
	isSorted(t, impl.Collator{Strength: 3}, []string{"A", "a", "\u1000a", "a", "", "\x00"}, numbersOf("4 5 1 3 0 2"))
	isSorted(t, impl.Collator{Strength: 4}, []string{"A", "a", "\u1000a", "a", "\x00", ""}, numbersOf("5 4 1 3 0 2"))
	isSorted(t, impl.Collator{Entries: impl.ReadTailoring("&c<a&b=d").Entries, Strength: 2}, []string{"a", "b", "c", "d", "e"}, numbersOf("1 3 2 0 4"))
	isSorted(t, impl.Collator{Strength: 3, Skip: true}, []string{"b", "-a", "a", " b", "a-"}, numbersOf("1 2 4 0 3"))
}

// sortedPlainly puts each place behind all that are not above it.
func sortedPlainly(c impl.Collator, texts []string) []int64 {
	var places []int64
	for at, text := range texts {
		behind := 0
		for behind < len(places) && impl.CompareTexts(c, texts[places[behind]], text) <= 0 {
			behind++
		}
		places = slices.Insert(places, behind, int64(at))
	}
	return places
}

// TestSortedTexts is the second half of the twenty-sixth promise.
func TestSortedTexts(t *testing.T) {
	r := rand.New(rand.NewSource(117))
	for range 1500 {
		c, texts := randomCollator(r), []string(nil)
		for range r.Intn(30) {
			texts = append(texts, randomNormText(r, collateAlphabet(), 3))
			if r.Intn(10) == 0 {
				texts = append(texts, cutBytes(r, texts[r.Intn(len(texts))]))
			}
		}
		isSorted(t, c, texts, sortedPlainly(c, texts))
	}
}

func TestSizesOfSorted(t *testing.T) {
	c := impl.Collator{Strength: 3}
	texts, want := []string{}, []int64{}
	for n := range impl.MaxList {
		texts = append(texts, textWritten(0x6000+24*int64((impl.MaxList-1-n)/20)))
		want = append(want, int64(impl.MaxList-20-n/20*20+n%20))
	}
	isSorted(t, c, texts, want)
	isSorted(t, c, append(texts, "a"), nil)
	long := strings.Repeat("a", impl.MaxBytes)
	isSorted(t, c, []string{long, "b", long[1:], "a"}, numbersOf("3 2 0 1"))
	isSorted(t, c, slices.Repeat([]string{long}, impl.MaxList), placesBelow(impl.MaxList))
	for at := range 3 {
		isSorted(t, c, slices.Insert([]string{"b", "a"}, at, long+"a"), nil)
	}
	isSorted(t, c, []string{long + "a"}, nil)
}

// equivalentTo writes a text's points otherwise: composed, or its marks in another order.
func equivalentTo(r *rand.Rand, text string) []string {
	points := readPlainly(text)
	mixed := plainNormal(impl.NormD, points)
	for at := 1; at < len(mixed); at++ {
		left, right := impl.MarkClass(mixed[at-1]), impl.MarkClass(mixed[at])
		if left != 0 && right != 0 && left != right && r.Intn(2) == 0 {
			mixed[at-1], mixed[at] = mixed[at], mixed[at-1]
		}
	}
	return []string{plainNormalText(impl.NormD, text), plainNormalText(impl.NormC, text), textWritten(points...), textWritten(mixed...)}
}

// TestKeysOfEquivalentTexts is the twenty-seventh promise.
func TestKeysOfEquivalentTexts(t *testing.T) {
	r := rand.New(rand.NewSource(118))
	look := func(c impl.Collator, text string) {
		key, elements := impl.KeyOf(c, text), impl.ElementsOf(c, text)
		for _, other := range equivalentTo(r, text) {
			if !impl.Equivalent(text, other) || impl.KeyOf(c, other) != key || !sameElements(impl.ElementsOf(c, other), elements) || impl.CompareTexts(c, text, other) != 0 {
				t.Errorf("%+q and %+q are not alike by %+v", text, other, c)
			}
		}
	}
	eachCollatedText(119, func(c plainCollation, text string) { look(c.Collator, text) })
	for p := int64(0); p <= impl.LastKnown; p++ {
		look(impl.Collator{Strength: 4}, textWritten(p))
		look(impl.Collator{Strength: 4}, textWritten(p, 0x1000, 0x1010, p))
	}
}

func tailoredLetters() []int64 {
	return []int64{'a', 'b', 'Z', '0', '9', '-', 0xA1, 0x1000, 0x230, 0x232, 0x261, 0x240, 0x500, 0x600, 0x620, 0x700, 0x82F, 0x1E00, 0x2700, 0x6000, 0x67FF}
}

// TestTailoredLetters is the twenty-eighth promise: at the strength of the step and above the two are not
// alike, and no other letter is between them but another writing of the first one.
func TestTailoredLetters(t *testing.T) {
	for step, strength := range map[string]int64{"<": 1, "<<": 2, "<<<": 3, "=": 4} {
		for _, x := range tailoredLetters() {
			for _, y := range tailoredLetters() {
				if x != y {
					isRightBehind(t, textWritten(x), step, textWritten(y), strength)
				}
			}
		}
	}
}

func isRightBehind(t *testing.T, x string, step string, y string, least int64) {
	t.Helper()
	read := impl.ReadTailoring("&" + x + step + y)
	for strength := int64(1); strength <= 3; strength++ {
		c := impl.Collator{Entries: read.Entries, Strength: strength}
		want := int64(0)
		if strength >= least {
			want = -1
		}
		isCompared(t, c, x, y, want)
		for _, p := range tailoredLetters() {
			z := textWritten(p)
			if z == x || z == y {
				continue
			}
			isBetween := impl.CompareTexts(c, x, z) < 0 && impl.CompareTexts(c, z, y) < 0
			if isBetween && impl.CompareTexts(impl.Collator{Entries: read.Entries, Strength: min(least, 2)}, x, z) != 0 {
				t.Errorf("%+q is between %+q and %+q, strength %d, step %s", z, x, y, strength, step)
			}
		}
	}
}

func TestTailoredTexts(t *testing.T) {
	c := impl.Collator{Entries: impl.ReadTailoring("&c < ch <<< Ch\n&h<i<j&n<<\u2000").Entries, Strength: 3}
	rows := []string{"cz", "ch", "Ch", "cha", "Cha", "chb", "d", "hz", "i", "iz", "j", "jz", "k", "n", "A\u1000", "na", "A\u1000a", "nb", "o"}
	for at, a := range rows {
		for _, b := range rows[at+1:] {
			isCompared(t, c, a, b, -1)
		}
	}
}

func TestCollatedAreNewMemory(t *testing.T) {
	entries := spare(entriesFrom("a:1/2/3 4/5/6|ab:7/8/9|b:"))
	for at := range entries {
		entries[at].Elements = spare(entries[at].Elements)
	}
	c := impl.Collator{Entries: entries, Strength: 4}
	texts := spare([]string{"b", "ab", "a", "ab", "\u20D0"})
	rules := "&a<b=c<<d &ab=e=f&a=\u20D0"
	told := func() string {
		row := fmt.Sprint(c, texts[:cap(texts)], entries[:cap(entries)])
		for _, entry := range entries {
			row += fmt.Sprint(entry.Elements[:cap(entry.Elements)])
		}
		return row
	}
	given := told()
	asked := func() (string, []impl.Element, []int64, impl.TailoringRead) {
		elements, places, read := impl.ElementsOf(c, "aab"), impl.SortTexts(c, texts), impl.ReadTailoring(rules)
		alone := impl.ElementsOf(c, "a")
		return fmt.Sprint(elements, alone, places, read, impl.KeyOf(c, "aab"), impl.CollatorFault(c), impl.CompareTexts(c, "a", "b")), alone, places, read
	}
	first, _, _, _ := asked()
	for range 3 {
		again, elements, places, read := asked()
		if again != first {
			t.Errorf("asked again: %s, want %s", again, first)
		}
		clear(elements[:cap(elements)])
		clear(places[:cap(places)])
		for at := range read.Entries {
			clear(read.Entries[at].Elements[:cap(read.Entries[at].Elements)])
			if sharesMemory(read.Entries[at].Text, rules) {
				t.Errorf("the Text %+q is a piece of the tailoring", read.Entries[at].Text)
			}
		}
		if got := told(); got != given {
			t.Errorf("what was given became %s, it was %s", got, given)
		}
	}
}

// TestEntriesShareNothing turns the elements of each entry, which those of no other one may mind.
func TestEntriesShareNothing(t *testing.T) {
	rules := "&abc<d=e<<f=g<<<h=i &d=j=k"
	count := len(impl.ReadTailoring(rules).Entries)
	for at := range count {
		read, want := impl.ReadTailoring(rules), impl.ReadTailoring(rules)
		clear(read.Entries[at].Elements[:cap(read.Entries[at].Elements)])
		for other := range count {
			if other != at && !sameEntry(read.Entries[other], want.Entries[other]) {
				t.Errorf("entry %d minds what is done to entry %d", other, at)
			}
		}
	}
}
