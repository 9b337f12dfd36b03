package tests

import (
	"fmt"
	"math"
	"math/big"
	"math/rand"
	"regexp"
	"slices"
	"strings"
	"testing"

	"loop.example/g00044/impl"
)

const (
	knownPoints  = 32768
	blockCount   = 512
	numberLimit  = 1000000000000
	itemsOfAText = 32768
)

type spanRow = [3]int64

// wrongSpans are spans that are not right, by what is wrong with them.
func wrongSpans() map[string][]impl.Span {
	many := make([]impl.Span, 0, impl.MaxList+1)
	for i := int64(0); i <= impl.MaxList; i++ {
		many = append(many, impl.Span{First: 2 * i, Last: 2 * i, Value: 1})
	}
	return map[string][]impl.Span{
		"First above Last":           spansFrom(spanRow{5, 4, 1}),
		"a later First above Last":   spansFrom(spanRow{1, 2, 1}, spanRow{9, 8, 1}),
		"First below 0":              spansFrom(spanRow{-1, 4, 1}),
		"both below 0":               spansFrom(spanRow{-5, -1, 1}),
		"Last below 0":               spansFrom(spanRow{0, -1, 1}),
		"Last above LastKnown":       spansFrom(spanRow{5, impl.LastKnown + 1, 1}),
		"both above LastKnown":       spansFrom(spanRow{impl.LastKnown + 1, impl.LastKnown + 1, 1}),
		"one right ahead of it":      spansFrom(spanRow{0, 5, 1}, spanRow{7, impl.LastKnown + 1, 1}),
		"beginning at the end":       spansFrom(spanRow{1, 5, 1}, spanRow{5, 9, 1}),
		"beginning within":           spansFrom(spanRow{1, 5, 1}, spanRow{3, 9, 1}),
		"beginning at the beginning": spansFrom(spanRow{1, 5, 1}, spanRow{1, 9, 1}),
		"lying within":               spansFrom(spanRow{1, 9, 1}, spanRow{3, 5, 1}),
		"beginning ahead":            spansFrom(spanRow{5, 9, 1}, spanRow{1, 3, 1}),
		"twice":                      spansFrom(spanRow{5, 5, 1}, spanRow{5, 5, 1}),
		"a third one at the end":     spansFrom(spanRow{1, 2, 1}, spanRow{4, 6, 1}, spanRow{6, 7, 1}),
		"far below":                  spansFrom(spanRow{math.MinInt64, 4, 1}),
		"far above":                  spansFrom(spanRow{0, math.MaxInt64, 1}),
		"far behind":                 spansFrom(spanRow{0, 1, 1}, spanRow{math.MaxInt64, math.MaxInt64, 1}),
		"one point of 64 bits":       spansFrom(spanRow{1 << 32, 1<<32 + 3, 1}),
		"more than MaxList":          many,
		"far more than MaxList":      make([]impl.Span, 70000),
	}
}

// rightSpans are spans at the edges of what is right.
func rightSpans() map[string][]impl.Span {
	single := make([]impl.Span, 0, impl.MaxList)
	for i := int64(0); i < impl.MaxList; i++ {
		single = append(single, impl.Span{First: 32 * i, Last: 32 * i, Value: i - 500})
	}
	blocks := make([]impl.Span, 0, blockCount)
	for i := int64(0); i < blockCount; i++ {
		blocks = append(blocks, impl.Span{First: 64*i + i%64, Last: 64*i + 63, Value: i/64 + 1})
	}
	return map[string][]impl.Span{
		"none":                    nil,
		"an empty list":           {},
		"the first point":         spansFrom(spanRow{0, 0, 7}),
		"the last point":          spansFrom(spanRow{impl.LastKnown, impl.LastKnown, 7}),
		"all points":              spansFrom(spanRow{0, impl.LastKnown, 7}),
		"all points, Value 0":     spansFrom(spanRow{0, impl.LastKnown, 0}),
		"side by side, one Value": spansFrom(spanRow{10, 20, 3}, spanRow{21, 30, 3}, spanRow{31, 31, 3}),
		"side by side, several":   spansFrom(spanRow{10, 20, 3}, spanRow{21, 30, 4}, spanRow{31, 31, 3}),
		"side by side at a block": spansFrom(spanRow{10, 63, 3}, spanRow{64, 70, 3}, spanRow{127, 128, 5}),
		"with gaps":               spansFrom(spanRow{1, 1, 3}, spanRow{3, 3, 3}, spanRow{100, 200, -3}, spanRow{32700, 32767, 3}),
		"like blocks":             spansFrom(spanRow{0, 63, 1}, spanRow{128, 191, 1}, spanRow{192, 255, 2}, spanRow{256, 319, 1}),
		"like pieces of blocks":   spansFrom(spanRow{3, 9, 1}, spanRow{67, 73, 1}, spanRow{131, 137, 1}, spanRow{195, 202, 1}),
		"numbers at their bounds": spansFrom(spanRow{0, 5, -numberLimit}, spanRow{6, 80, numberLimit}, spanRow{81, 81, -1}),
		"MaxList of one point":    single,
		"no like blocks":          blocks,
		"categories":              impl.SpansOf(impl.WhatCategory),
		"scripts":                 impl.SpansOf(impl.WhatScript),
	}
}

// randomSpans are right spans; many of them are side by side, and many values come again.
func randomSpans(r *rand.Rand, most int, step int64) []impl.Span {
	var spans []impl.Span
	for at := r.Int63n(step); at <= impl.LastKnown && len(spans) < most; {
		last := min(at+r.Int63n(step), impl.LastKnown)
		spans = append(spans, impl.Span{First: at, Last: last, Value: r.Int63n(5) - 2})
		at = last + 1
		if r.Intn(3) > 0 {
			at += r.Int63n(step)
		}
	}
	return spans
}

// plainValues asks for each point whether a span has it.
func plainValues(spans []impl.Span, other int64) []int64 {
	values := make([]int64, knownPoints)
	for p := range values {
		values[p] = other
	}
	for _, s := range spans {
		for p := s.First; p <= s.Last; p++ {
			values[p] = s.Value
		}
	}
	return values
}

// plainTrie says chapter 5's sentence on building once more, by the blocks as texts.
func plainTrie(values []int64) impl.Trie {
	var t impl.Trie
	places := map[string]int64{}
	for first := 0; first < len(values); first += 64 {
		block := values[first : first+64]
		name := fmt.Sprint(block)
		if _, known := places[name]; !known {
			places[name] = int64(len(places))
			t.Data = append(t.Data, block...)
		}
		t.Index = append(t.Index, places[name])
	}
	return t
}

func plainRuns(items []int64) string {
	var runs []string
	for len(items) > 0 {
		count := 1
		for count < len(items) && items[count] == items[0] {
			count++
		}
		run := fmt.Sprint(items[0])
		if count != 1 {
			run = fmt.Sprintf("%dx%d", items[0], count)
		}
		runs = append(runs, run)
		items = items[count:]
	}
	return strings.Join(runs, ",")
}

func plainPack(t impl.Trie) string {
	return plainRuns(t.Index) + ";" + plainRuns(t.Data)
}

func plainSpans(values []int64) []impl.Span {
	var spans []impl.Span
	for p, v := range values {
		if p == 0 || values[p-1] != v {
			spans = append(spans, impl.Span{First: int64(p), Value: v})
		}
		spans[len(spans)-1].Last = int64(p)
	}
	return spans
}

func sameTrie(a impl.Trie, b impl.Trie) bool {
	return slices.Equal(a.Index, b.Index) && slices.Equal(a.Data, b.Data)
}

// isTrie holds all that is told of a trie against its values.
func isTrie(t *testing.T, what string, got impl.Trie, values []int64) {
	t.Helper()
	if !sameTrie(got, plainTrie(values)) {
		t.Fatalf("%s: the trie is another one: %d and %d items", what, len(got.Index), len(got.Data))
	}
	if code := impl.TrieFault(got); code != impl.OK {
		t.Errorf("%s: fault %d", what, code)
	}
	if spans := impl.TrieSpans(got); !slices.Equal(spans, plainSpans(values)) {
		t.Errorf("%s: got %d spans, want %d", what, len(spans), len(plainSpans(values)))
	}
	text := impl.PackTrie(got)
	if text != plainPack(got) {
		t.Errorf("%s: got the text %.80q, want %.80q", what, text, plainPack(got))
	}
	back := impl.UnpackTrie(text)
	if back.Code != impl.OK || back.At != 0 || !sameTrie(back.Trie, got) {
		t.Errorf("%s: its text comes back with code %d at %d", what, back.Code, back.At)
	}
}

func TestSpansFault(t *testing.T) {
	for what, spans := range rightSpans() {
		if got := impl.SpansFault(spans); got != impl.OK {
			t.Errorf("%s: got %d", what, got)
		}
	}
	for what, spans := range wrongSpans() {
		if got := impl.SpansFault(spans); got != impl.ErrForm {
			t.Errorf("%s: got %d", what, got)
		}
	}
}

// Promise 7: a trie of right spans is right, tells what they tell, and comes back from its text.
func TestTriesOfRightSpans(t *testing.T) {
	for what, spans := range rightSpans() {
		for _, other := range []int64{0, 1, 3, -1, -numberLimit, numberLimit} {
			isTrie(t, what, impl.BuildTrie(spans, other), plainValues(spans, other))
		}
	}
	r := rand.New(rand.NewSource(4))
	for i := range 60 {
		spans := randomSpans(r, impl.MaxList, []int64{2, 5, 40, 64, 300, 4000}[i%6])
		isTrie(t, fmt.Sprint("random spans ", i), impl.BuildTrie(spans, 1), plainValues(spans, 1))
	}
}

func TestTrieAtOfAllPoints(t *testing.T) {
	for _, what := range []string{"none", "with gaps", "side by side, several", "like blocks", "numbers at their bounds", "categories"} {
		spans := rightSpans()[what]
		trie := impl.BuildTrie(spans, 9)
		for p, want := range plainValues(spans, 9) {
			isNumber(t, what, int64(p), impl.TrieAt(trie, int64(p)), want)
		}
		for _, p := range unknownPoints() {
			isNumber(t, what, p, impl.TrieAt(trie, p), 0)
		}
	}
}

func TestTrieAtOfManyBlocks(t *testing.T) {
	for _, what := range []string{"MaxList of one point", "no like blocks"} {
		spans := rightSpans()[what]
		trie := impl.BuildTrie(spans, -7)
		for p, want := range plainValues(spans, -7) {
			if p%31 == 0 || p%64 == 63 {
				isNumber(t, what, int64(p), impl.TrieAt(trie, int64(p)), want)
			}
		}
	}
}

func TestTriesByHand(t *testing.T) {
	for text, trie := range map[string]impl.Trie{
		"0x512;0x64":      impl.BuildTrie(nil, 0),
		"0x512;-5x64":     impl.BuildTrie(nil, -5),
		"0x511,1;0x127,1": impl.BuildTrie(spansFrom(spanRow{impl.LastKnown, impl.LastKnown, 1}), 0),
		"0,1x511;1,0x127": impl.BuildTrie(spansFrom(spanRow{0, 0, 1}), 0),
		"0,1x511;1x64,-1x64": impl.BuildTrie(
			spansFrom(spanRow{0, 60, 1}, spanRow{61, 63, 1}), -1),
		"0,1,0x510;2x64,1x64": impl.BuildTrie(spansFrom(spanRow{64, 127, 1}), 2),
		"0,1,0,2,0,1,0x506;0x64,1x64,2x64": impl.BuildTrie(
			spansFrom(spanRow{64, 127, 1}, spanRow{192, 255, 2}, spanRow{320, 383, 1}), 0),
		"0,1x511;1000000000000,-1000000000000x63,-1x64": impl.BuildTrie(
			spansFrom(spanRow{0, 0, numberLimit}, spanRow{1, 63, -numberLimit}), -1),
	} {
		if got := impl.PackTrie(trie); got != text {
			t.Errorf("got the text %q, want %q", got, text)
		}
		if back := impl.UnpackTrie(text); back.Code != impl.OK || back.At != 0 || !sameTrie(back.Trie, trie) {
			t.Errorf("%q comes back with code %d at %d", text, back.Code, back.At)
		}
	}
}

func TestTriesOfWrongSpans(t *testing.T) {
	for what, spans := range wrongSpans() {
		if got := impl.BuildTrie(spans, 3); len(got.Index) != 0 || len(got.Data) != 0 {
			t.Errorf("%s: got a trie of %d and %d items", what, len(got.Index), len(got.Data))
		}
	}
}

// Numbers that no text may have are told all the same; only their text does not come back.
func TestTriesOfFarNumbers(t *testing.T) {
	for _, n := range []int64{numberLimit + 1, -numberLimit - 1, math.MaxInt64, math.MinInt64} {
		trie := impl.BuildTrie(spansFrom(spanRow{2, 2, n}), 0)
		isNumber(t, "far number", 2, impl.TrieAt(trie, 2), n)
		isNumber(t, "other", 3, impl.TrieAt(trie, 3), 0)
		want := fmt.Sprintf("0,1x511;0x2,%d,0x125", n)
		if got := impl.PackTrie(trie); got != want {
			t.Errorf("got the text %q, want %q", got, want)
		}
		isUnpacked(t, want, impl.ErrSyntax, int64(len("0,1x511;0x2,")))
	}
}

// handTrie lays blocks, each of one number.
func handTrie(index []int64, numbers ...int64) impl.Trie {
	trie := impl.Trie{Index: slices.Clone(index)}
	for _, n := range numbers {
		trie.Data = append(trie.Data, slices.Repeat([]int64{n}, 64)...)
	}
	return trie
}

func indexOf(items ...int64) []int64 {
	return append(slices.Clone(items), make([]int64, blockCount-len(items))...)
}

func countedIndex() []int64 {
	index := make([]int64, blockCount)
	for i := range index {
		index[i] = int64(i)
	}
	return index
}

func countedNumbers(count int64) []int64 {
	numbers := make([]int64, count)
	for i := range numbers {
		numbers[i] = int64(i) + 10
	}
	return numbers
}

func rightTries() map[string]impl.Trie {
	last := handTrie(indexOf(0, 1), 5, 5)
	last.Data[127] = 6
	first := handTrie(indexOf(0, 1), 5, 5)
	first.Data[64] = 6
	return map[string]impl.Trie{
		"one block":                    handTrie(indexOf(), 5),
		"two blocks":                   handTrie(indexOf(0, 1), 5, 6),
		"blocks again and again":       handTrie(indexOf(0, 1, 0, 1, 2, 1, 0, 3, 2), 5, 6, 7, 8),
		"512 blocks":                   handTrie(countedIndex(), countedNumbers(blockCount)...),
		"the last block at the end":    handTrie(append(indexOf()[:511], 1), 5, 6),
		"blocks unlike at their ends":  last,
		"blocks unlike at their start": first,
		"far numbers":                  handTrie(indexOf(0, 1), math.MinInt64, math.MaxInt64),
	}
}

// wrongTries are tries that are not right, by what is wrong with them.
func wrongTries() map[string]impl.Trie {
	long := handTrie(indexOf(0, 1), 5, 6)
	long.Index = append(long.Index, 0)
	short := handTrie(indexOf(0, 1), 5, 6)
	short.Index = short.Index[:511]
	ragged := handTrie(indexOf(0, 1), 5, 6)
	ragged.Data = ragged.Data[:127]
	more := handTrie(indexOf(0, 1), 5, 6)
	more.Data = append(more.Data, 7)
	swapped := countedIndex()
	swapped[200], swapped[201] = swapped[201], swapped[200]
	return map[string]impl.Trie{
		"nothing":                        {},
		"no Index":                       handTrie(nil, 5),
		"no Data":                        handTrie(indexOf()),
		"an Index of 511":                short,
		"an Index of 513":                long,
		"an Index of 1024":               handTrie(slices.Concat(indexOf(), indexOf()), 5),
		"Data of 127":                    ragged,
		"Data of 129":                    more,
		"Data of 63":                     {Index: indexOf(), Data: make([]int64, 63)},
		"Data of 513 blocks":             handTrie(countedIndex(), countedNumbers(blockCount+1)...),
		"like blocks side by side":       handTrie(indexOf(0, 1), 5, 5),
		"like blocks":                    handTrie(indexOf(0, 1, 2, 3), 5, 6, 7, 6),
		"like blocks at the ends":        handTrie(countedIndex(), append(countedNumbers(511), 10)...),
		"a block below 0":                handTrie(indexOf(0, 1, -1), 5, 6),
		"a first block below 0":          handTrie(indexOf(-1), 5),
		"a block that is not there":      handTrie(indexOf(0, 1, 2), 5, 6),
		"a far block":                    handTrie(indexOf(0, 1, math.MaxInt64), 5, 6),
		"a far block below 0":            handTrie(indexOf(0, 1, math.MinInt64), 5, 6),
		"a block of 64 bits":             handTrie(indexOf(0, 1, 1<<58), 5, 6),
		"a first block that is not 0":    handTrie(append(indexOf(1), 0)[:512], 5, 6),
		"a block ahead of its turn":      handTrie(indexOf(0, 2, 1), 5, 6, 7),
		"a block ahead of the last turn": handTrie(swapped, countedNumbers(blockCount)...),
		"a block passed over":            handTrie(indexOf(0, 2), 5, 6, 7),
		"a block that never comes":       handTrie(indexOf(0, 1), 5, 6, 7),
	}
}

func TestTrieFault(t *testing.T) {
	for what, trie := range rightTries() {
		if got := impl.TrieFault(trie); got != impl.OK {
			t.Errorf("%s: got %d", what, got)
		}
		var values []int64
		for _, place := range trie.Index {
			values = append(values, trie.Data[64*place:64*place+64]...)
		}
		if got := impl.TrieSpans(trie); !slices.Equal(got, plainSpans(values)) {
			t.Errorf("%s: got %d spans, want %d", what, len(got), len(plainSpans(values)))
		}
		for _, p := range []int64{0, 63, 64, 127, 128, 500, 32703, 32704, impl.LastKnown} {
			isNumber(t, what, p, impl.TrieAt(trie, p), values[p])
		}
		if got := impl.PackTrie(trie); got != plainPack(trie) {
			t.Errorf("%s: got the text %.80q, want %.80q", what, got, plainPack(trie))
		}
	}
}

func TestTriesThatAreNotRight(t *testing.T) {
	for what, trie := range wrongTries() {
		if got := impl.TrieFault(trie); got != impl.ErrForm {
			t.Errorf("%s: got %d", what, got)
		}
		for _, p := range []int64{-1, 0, 64, 128, impl.LastKnown, impl.LastKnown + 1} {
			isNumber(t, what, p, impl.TrieAt(trie, p), 0)
		}
		if got := impl.TrieSpans(trie); len(got) != 0 {
			t.Errorf("%s: got %d spans", what, len(got))
		}
		if got := impl.PackTrie(trie); got != "" {
			t.Errorf("%s: got the text %.80q", what, got)
		}
		read := plainUnpack(plainPack(trie))
		isUnpacked(t, plainPack(trie), read.Code, read.At)
	}
}

func isUnpacked(t *testing.T, text string, code int64, at int64) {
	t.Helper()
	got := impl.UnpackTrie(text)
	if got.Code != code || got.At != at {
		t.Errorf("%.80q, %d bytes: got code %d at %d, want %d at %d", text, len(text), got.Code, got.At, code, at)
	}
	if code != impl.OK && (got.Trie.Index != nil || got.Trie.Data != nil) {
		t.Errorf("%.80q: got a trie with code %d", text, got.Code)
	}
}

func TestTextsThatCannotGoOn(t *testing.T) {
	right := "0,1x511;1x64,0x64"
	for text, at := range map[string]int64{
		// At its beginning.
		"": 0, ";": 0, ",": 0, "x": 0, " 0": 0, "+1": 0, "a": 0, "\x00": 0, "\xFF": 0, "x2;0": 0, "--1": 1,
		// Behind a number.
		"0": 1, "12": 2, "-3": 2, "0 ": 1, "7a": 1, "7-1": 1, "7.0": 1, "7\x00;": 1, "-": 1, "-x": 1, "-;": 1, "-,": 1,
		// Behind an x and its count.
		"0x": 2, "0x,": 2, "0x;": 2, "0xx": 2, "0x-2": 2, "0x-": 2, "0x+2": 2, "0x 2": 2, "0x2": 3, "0x2x2": 3, "0x22 ": 4,
		// Behind a comma.
		"0,": 2, "0,,": 2, "0,;": 2, "0,x": 2, "0x2,": 4, "0x2,-": 5, "0, 1": 2, "0,1": 3,
		// Behind the semicolon.
		"0;": 2, "0;;": 2, "0;,": 2, "0;x": 2, "0;-": 3, "0; 0": 2, "0x512;": 6, "0x512;0x64,": 11, "0x512;0x64;": 10,
		"0x512;0x64;0": 10, "0x512;0x64x2": 10, "0x512;0x64 ": 10, "0x512;0x64\n": 10, "0x512;0x64\x00": 10, right + ",": 18,
		// Numbers out of their bounds.
		"1000000000001": 0, "-1000000000001": 0, "1000000000000": 13, "-1000000000000": 14, "0,1000000000001;": 2,
		"9223372036854775807": 0, "9223372036854775808": 0, "18446744073709551616": 0, "-9223372036854775808": 0,
		"0;10000000000000000000000000000000000000000": 2, "0;5x2,-1000000000001x3": 6, "1000000000001x0": 0,
		// Counts out of theirs.
		"0x0": 2, "0x1": 2, "0x32768": 7, "0x32769": 2, "0x32768;": 8, "0;1x0": 4, "0;1x1": 4, "0;1x32769": 4,
		"0x18446744073709551618": 2, "0x4294967298": 2, "5,6x1000000000001": 4, "0x99999999999999999999999": 2,
		// Numbers that begin with 0.
		"00": 1, "01": 1, "00x2": 1, "-0": 1, "-01": 1, "-0x2": 1, "0;07": 3, "1,02;": 3, "0x02": 2, "0x00": 2, "0x012": 2,
		// Too many items.
		"0x32768,1": 8, "0x32768,1x2": 8, "0x32767,1;": 10, "0x32767,1,2": 10, "0x32767,1x2;0": 8, "0x2,1x32767": 4,
		"0x2,1x32766;": 12, "0x3,1x16000,0x16000,5x766": 20, "0x3,1x16000,0x16000,5x765;": 26, "0;7x32768,8": 10,
		"0;7x32767,8,9": 12, "0;7x2,8x32767": 6, "0;7x16384,8x16385": 10, "0;7x16384,8x16384,": 18, "0;1,2x32768": 4,
		// Runs with the number of the one ahead of them.
		"0,0": 2, "5,5": 2, "5,5x2": 2, "5x2,5": 4, "5x2,5x2": 4, "-5,-5": 3, "1,2,2": 4, "0;0,0": 4, "0;3x9,3x2": 6,
		"5,5;": 2, "5,5?": 2, "5,-5": 4, "5,55": 4, "55,5": 4, "1,2,1": 5, "0;1,2,1,2,2": 10, "0x32768,0": 8,
		// A count is looked at ahead of its run.
		"5,5x": 4, "5,5x1": 4, "5,5x32769": 4, "0x32768,1x32769": 10, "0x32768,1x": 10,
	} {
		isUnpacked(t, text, impl.ErrSyntax, at)
	}
	isUnpacked(t, right, impl.OK, 0)
}

func TestTextsOfTriesThatAreNotRight(t *testing.T) {
	for _, text := range []string{
		"0;0", "0x512;0", "0x512;0x63", "0x512;0x65", "0x511;0x64", "0x513;0x64", "0x32768;0x32768", "-1x512;0x64",
		"1x512;0x64", "1x512;0x64,1x64", "0,1x511;1x128", "0,1x511;1x64,0x63", "0,1x511;1x64,0x65", "0x512;0x64,1x64",
		"0,2,1x510;0x64,1x64,2x64", "0,1,2,1x509;0x64,1x64", "0,1,2x510;0x64,1x64,0x64", "0,1000000000000x511;1x64,0x64",
		"0,1x511;1x64,0x32704",
	} {
		isUnpacked(t, text, impl.ErrForm, 0)
	}
}

var (
	plainNumber = regexp.MustCompile(`^(0|-?[1-9][0-9]*)`)
	plainCount  = regexp.MustCompile(`^(0|[1-9][0-9]*)`)
)

// within tells whether digits are a number between two others, both with it.
func within(digits string, least int64, most int64) bool {
	n, _ := new(big.Int).SetString(digits, 10)
	return n.Cmp(big.NewInt(least)) >= 0 && n.Cmp(big.NewInt(most)) <= 0
}

// plainItems reads runs from a place on. It tells the items, where it came to, and whether it could go on.
func plainItems(text string, at int) ([]int64, int, bool) {
	var items []int64
	for {
		begin, count, n := at, int64(1), int64(0)
		digits := plainNumber.FindString(text[at:])
		if digits == "" && strings.HasPrefix(text[at:], "-") {
			return nil, at + 1, false
		}
		if digits == "" || !within(digits, -numberLimit, numberLimit) {
			return nil, at, false
		}
		fmt.Sscan(digits, &n)
		at += len(digits)
		if strings.HasPrefix(text[at:], "x") {
			at++
			digits = plainCount.FindString(text[at:])
			if digits == "" || !within(digits, 2, itemsOfAText) {
				return nil, at, false
			}
			fmt.Sscan(digits, &count)
			at += len(digits)
		}
		if len(items) > 0 && items[len(items)-1] == n || int64(len(items))+count > itemsOfAText {
			return nil, begin, false
		}
		items = append(items, slices.Repeat([]int64{n}, int(count))...)
		if !strings.HasPrefix(text[at:], ",") {
			return items, at, true
		}
		at++
	}
}

// plainUnpack reads a text by patterns. A trie is right if the one of its values is the same.
func plainUnpack(text string) impl.TrieRead {
	index, at, ok := plainItems(text, 0)
	if !ok || !strings.HasPrefix(text[at:], ";") {
		return impl.TrieRead{Code: impl.ErrSyntax, At: int64(at)}
	}
	data, at, ok := plainItems(text, at+1)
	if !ok || at < len(text) {
		return impl.TrieRead{Code: impl.ErrSyntax, At: int64(at)}
	}
	trie, wrong := impl.Trie{Index: index, Data: data}, impl.TrieRead{Code: impl.ErrForm}
	var values []int64
	for _, place := range index {
		if place < 0 || 64*place+64 > int64(len(data)) || len(values) > knownPoints {
			return wrong
		}
		values = append(values, data[64*place:64*place+64]...)
	}
	if len(values) != knownPoints || !sameTrie(plainTrie(values), trie) {
		return wrong
	}
	return impl.TrieRead{Trie: trie}
}

func isUnpackedPlainly(t *testing.T, text string) {
	t.Helper()
	want := plainUnpack(text)
	isUnpacked(t, text, want.Code, want.At)
	if want.Code == impl.OK && !sameTrie(impl.UnpackTrie(text).Trie, want.Trie) {
		t.Errorf("%.80q: another trie", text)
	}
}

func TestUnpackOfAnyText(t *testing.T) {
	letters := "012-x,;"
	var try func(text string, more int)
	try = func(text string, more int) {
		isUnpackedPlainly(t, text)
		for i := 0; more > 0 && i < len(letters); i++ {
			try(text+letters[i:i+1], more-1)
		}
	}
	try("", 6)
	for _, begin := range []string{
		"0x512;0x64", "0,1x511;1x64,0x6", "0x3276", "0x32767,", "99999999999", "-100000000000", "0;3x32766,", "0x512;0x3276",
	} {
		try(begin, 3)
	}
}

// A text of which one byte is another one, is left out, or comes twice.
func TestUnpackOfChangedTexts(t *testing.T) {
	for _, text := range []string{
		"0x512;0x64", "0,1x511;1x64,0x64", "0,1,0,2,0,1,0x506;-3x64,1,2x63,3x60,-1000000000000,3x3", "0x511,1;0x127,1",
	} {
		isUnpackedPlainly(t, text)
		for at := range text {
			isUnpackedPlainly(t, text[:at])
			isUnpackedPlainly(t, text[:at]+text[at+1:])
			isUnpackedPlainly(t, text[:at]+text[at:at+1]+text[at:])
			for b := range 256 {
				isUnpackedPlainly(t, text[:at]+string([]byte{byte(b)})+text[at+1:])
			}
		}
	}
}

// trieOfSize is a right trie, laid by hand, with a text of so many bytes.
func trieOfSize(size int) impl.Trie {
	index := countedIndex()
	for i := 256; i < blockCount; i++ {
		index[i] = 0
	}
	trie := handTrie(index, countedNumbers(256)...)
	for i := range trie.Data {
		trie.Data[i] = 100 + int64(i%2)
		if i%64 == 1 {
			trie.Data[i] = 200 + int64(i/64)
		}
	}
	// Each item that loses a digit takes a byte away, and is still unlike the two beside it.
	for i := range len(plainPack(trie)) - size {
		trie.Data[4*i+3] = 11
	}
	return trie
}

func TestSizesOfTextsOfTries(t *testing.T) {
	trie := trieOfSize(impl.MaxBytes)
	text := plainPack(trie)
	if len(text) != impl.MaxBytes {
		t.Fatalf("the test's own text has %d bytes", len(text))
	}
	if got := impl.PackTrie(trie); got != text {
		t.Errorf("a text of MaxBytes bytes: got %d bytes", len(got))
	}
	if back := impl.UnpackTrie(text); back.Code != impl.OK || !sameTrie(back.Trie, trie) {
		t.Errorf("a text of MaxBytes bytes comes back with code %d at %d", back.Code, back.At)
	}
	trie.Data[0] = 1000
	text = plainPack(trie)
	if len(text) != impl.MaxBytes+1 || impl.TrieFault(trie) != impl.OK {
		t.Fatalf("the test's own text has %d bytes", len(text))
	}
	if got := impl.PackTrie(trie); got != "" {
		t.Errorf("a text of more bytes: got %d bytes", len(got))
	}
	isUnpacked(t, text, impl.ErrSize, 0)
	isNumber(t, "a trie with a long text", 0, impl.TrieAt(trie, 0), 1000)
}

func TestLongTextsOfTries(t *testing.T) {
	isUnpacked(t, strings.Repeat("?", impl.MaxBytes+1), impl.ErrSize, 0)
	isUnpacked(t, strings.Repeat("1", impl.MaxBytes+1), impl.ErrSize, 0)
	isUnpacked(t, "0x512;0x64"+strings.Repeat(" ", impl.MaxBytes), impl.ErrSize, 0)
	isUnpacked(t, strings.Repeat("?", impl.MaxBytes), impl.ErrSyntax, 0)
	isUnpacked(t, strings.Repeat("1", impl.MaxBytes), impl.ErrSyntax, 0)
	isUnpacked(t, "0x512;0x64"+strings.Repeat(" ", impl.MaxBytes-10), impl.ErrSyntax, 10)
	isUnpacked(t, strings.Repeat("1,2,", impl.MaxBytes/4), impl.ErrSyntax, impl.MaxBytes)
	isUnpacked(t, strings.Repeat("1,2,", impl.MaxBytes/4-1)+"1;2", impl.ErrForm, 0)
	far := impl.BuildTrie(rightSpans()["MaxList of one point"], math.MinInt64)
	if got := impl.PackTrie(far); got != plainPack(far) || got == "" {
		t.Errorf("spans of MaxList points and a far number: got %d bytes", len(got))
	}
	var long impl.Trie
	for i := range int64(blockCount * 64) {
		long.Data = append(long.Data, math.MinInt64+i)
	}
	long.Index = countedIndex()
	if impl.TrieFault(long) != impl.OK || impl.PackTrie(long) != "" {
		t.Errorf("a trie of far numbers: got a fault or a text")
	}
	if got := impl.TrieSpans(long); len(got) != knownPoints {
		t.Errorf("a trie of unlike numbers: got %d spans", len(got))
	}
}

func TestTriesAreNewMemory(t *testing.T) {
	spans := rightSpans()["with gaps"]
	kept := slices.Clone(spans)
	first, second := impl.BuildTrie(spans, 0), impl.BuildTrie(spans, 0)
	text := impl.PackTrie(first)
	_ = append(first.Index, 77)
	first.Index[3] = 99
	_ = append(first.Data, 77)
	first.Data[3] = 99
	if impl.PackTrie(second) != text || !slices.Equal(spans, kept) {
		t.Errorf("a trie changed by writing into another one")
	}
	read := impl.UnpackTrie(text).Trie
	_ = append(read.Index, 77)
	if !sameTrie(read, second) {
		t.Errorf("Index runs into Data")
	}
	told := impl.TrieSpans(second)
	told[0].Value = 99
	if impl.PackTrie(second) != text {
		t.Errorf("a trie changed by writing into its spans")
	}
	trie := impl.Trie{Index: slices.Clone(second.Index), Data: slices.Clone(second.Data)}
	impl.TrieFault(trie)
	impl.TrieAt(trie, 3)
	impl.PackTrie(trie)
	if !sameTrie(trie, second) {
		t.Errorf("a trie was changed by asking it")
	}
}

// setCalls are the three that make sets of two, each with what it says of one point.
func setCalls() map[string]setCall {
	return map[string]setCall{
		"joined":     {impl.JoinSets, func(a bool, b bool) bool { return a || b }},
		"met":        {impl.MeetSets, func(a bool, b bool) bool { return a && b }},
		"taken away": {impl.LessSets, func(a bool, b bool) bool { return a && !b }},
	}
}

type setCall struct {
	call func([]impl.Span, []impl.Span) []impl.Span
	has  func(bool, bool) bool
}

func plainHas(spans []impl.Span) []bool {
	has := make([]bool, knownPoints)
	for _, s := range spans {
		for p := s.First; p <= s.Last; p++ {
			has[p] = true
		}
	}
	return has
}

// plainSet has the points as a set, each row of them as one span.
func plainSet(has []bool) []impl.Span {
	var set []impl.Span
	for p, is := range has {
		if is && (p == 0 || !has[p-1]) {
			set = append(set, impl.Span{First: int64(p), Value: 1})
		}
		if is {
			set[len(set)-1].Last = int64(p)
		}
	}
	return set
}

func isMerged(t *testing.T, a []impl.Span, b []impl.Span) {
	t.Helper()
	inA, inB := plainHas(a), plainHas(b)
	for what, c := range setCalls() {
		both := make([]bool, knownPoints)
		for p := range both {
			both[p] = c.has(inA[p], inB[p])
		}
		if got := c.call(a, b); !slices.Equal(got, plainSet(both)) {
			t.Errorf("%s: %.60v and %.60v: got %.60v, want %.60v", what, a, b, got, plainSet(both))
		}
	}
}

// Promise 8: sets joined, met and taken away have the points that they should.
func TestSetsOfRightSpans(t *testing.T) {
	for _, a := range rightSpans() {
		for _, b := range rightSpans() {
			isMerged(t, a, b)
		}
	}
	r := rand.New(rand.NewSource(8))
	for i := range 300 {
		step := []int64{2, 5, 60, 3000}[i%4]
		isMerged(t, randomSpans(r, 1+i*3, step), randomSpans(r, 1000-i*3, step))
	}
}

// All pairs of sets of the points 0 to 5, and, of those, of the last six points.
func TestSetsOfFewPoints(t *testing.T) {
	for _, shift := range []int64{0, impl.LastKnown - 5} {
		var sets [][]impl.Span
		for bits := range 1 << 6 {
			has := make([]bool, knownPoints)
			for i := range int64(6) {
				has[shift+i] = bits>>i&1 == 1
			}
			sets = append(sets, plainSet(has))
		}
		for _, a := range sets {
			for _, b := range sets {
				isMerged(t, a, b)
			}
		}
	}
}

func TestSetsByHand(t *testing.T) {
	for _, row := range []struct {
		a, b, joined, met, less []impl.Span
	}{
		{},
		{a: spansFrom(spanRow{1, 3, 5}), joined: spansFrom(spanRow{1, 3, 1}), less: spansFrom(spanRow{1, 3, 1})},
		{b: spansFrom(spanRow{1, 3, 0}), joined: spansFrom(spanRow{1, 3, 1})},
		// They touch.
		{a: spansFrom(spanRow{1, 3, 5}), b: spansFrom(spanRow{4, 6, 0}),
			joined: spansFrom(spanRow{1, 6, 1}), less: spansFrom(spanRow{1, 3, 1})},
		{a: spansFrom(spanRow{4, 6, 5}), b: spansFrom(spanRow{1, 3, 5}, spanRow{7, 7, 5}),
			joined: spansFrom(spanRow{1, 7, 1}), less: spansFrom(spanRow{4, 6, 1})},
		// A point lies between.
		{a: spansFrom(spanRow{1, 3, 1}), b: spansFrom(spanRow{5, 6, 1}),
			joined: spansFrom(spanRow{1, 3, 1}, spanRow{5, 6, 1}), less: spansFrom(spanRow{1, 3, 1})},
		// One lies in the other.
		{a: spansFrom(spanRow{1, 9, 1}), b: spansFrom(spanRow{3, 5, 1}), joined: spansFrom(spanRow{1, 9, 1}),
			met: spansFrom(spanRow{3, 5, 1}), less: spansFrom(spanRow{1, 2, 1}, spanRow{6, 9, 1})},
		{a: spansFrom(spanRow{3, 5, 1}), b: spansFrom(spanRow{1, 9, 1}), joined: spansFrom(spanRow{1, 9, 1}),
			met: spansFrom(spanRow{3, 5, 1})},
		// They are the same.
		{a: spansFrom(spanRow{3, 5, 1}, spanRow{8, 8, 1}), b: spansFrom(spanRow{3, 5, 7}, spanRow{8, 8, -1}),
			joined: spansFrom(spanRow{3, 5, 1}, spanRow{8, 8, 1}), met: spansFrom(spanRow{3, 5, 1}, spanRow{8, 8, 1})},
		// Side by side within one.
		{a: spansFrom(spanRow{1, 2, 4}, spanRow{3, 4, 5}), b: spansFrom(spanRow{2, 2, 1}, spanRow{3, 3, 2}),
			joined: spansFrom(spanRow{1, 4, 1}), met: spansFrom(spanRow{2, 3, 1}),
			less: spansFrom(spanRow{1, 1, 1}, spanRow{4, 4, 1})},
		// All points.
		{a: spansFrom(spanRow{0, impl.LastKnown, 0}), b: spansFrom(spanRow{0, 0, 1}, spanRow{impl.LastKnown, impl.LastKnown, 1}),
			joined: spansFrom(spanRow{0, impl.LastKnown, 1}), less: spansFrom(spanRow{1, impl.LastKnown - 1, 1}),
			met: spansFrom(spanRow{0, 0, 1}, spanRow{impl.LastKnown, impl.LastKnown, 1})},
	} {
		for i, got := range [][]impl.Span{impl.JoinSets(row.a, row.b), impl.MeetSets(row.a, row.b), impl.LessSets(row.a, row.b)} {
			if want := [][]impl.Span{row.joined, row.met, row.less}[i]; !slices.Equal(got, want) {
				t.Errorf("call %d of %v and %v: got %v, want %v", i, row.a, row.b, got, want)
			}
		}
	}
}

// An answer may have more spans than may be handed in.
func TestSetsOfManySpans(t *testing.T) {
	var a, b []impl.Span
	for i := int64(0); i < impl.MaxList; i++ {
		a = append(a, impl.Span{First: 4 * i, Last: 4 * i, Value: 1})
		b = append(b, impl.Span{First: 4*i + 2, Last: 4*i + 2, Value: 1})
	}
	isMerged(t, a, b)
	if got := impl.JoinSets(a, b); len(got) != 2*impl.MaxList || impl.SpansFault(got) != impl.ErrForm {
		t.Errorf("joined: got %d spans", len(got))
	}
	isMerged(t, spansFrom(spanRow{0, impl.LastKnown, 1}), a)
}

func TestSetsOfWrongSpans(t *testing.T) {
	right := spansFrom(spanRow{0, 40, 1})
	for what, wrong := range wrongSpans() {
		for name, c := range setCalls() {
			for _, pair := range [][2][]impl.Span{{wrong, right}, {right, wrong}, {wrong, nil}, {nil, wrong}, {wrong, wrong}} {
				if got := c.call(pair[0], pair[1]); len(got) != 0 {
					t.Errorf("%s: %s: got %d spans", name, what, len(got))
				}
			}
		}
		for _, s := range wrong[:min(len(wrong), 3)] {
			if impl.SetHas(wrong, s.First) || impl.SetHas(wrong, s.Last) {
				t.Errorf("%s: a set that is not right has a point", what)
			}
		}
	}
}

func TestSetHas(t *testing.T) {
	for what, spans := range rightSpans() {
		for p, want := range plainHas(spans) {
			if got := impl.SetHas(spans, int64(p)); got != want {
				t.Fatalf("%s: U+%X: got %v", what, p, got)
			}
		}
		for _, p := range unknownPoints() {
			if impl.SetHas(spans, p) {
				t.Errorf("%s: has U+%X", what, p)
			}
		}
	}
}

func TestSetsAreNewMemory(t *testing.T) {
	a, b := spansFrom(spanRow{1, 3, 5}, spanRow{9, 12, 5}), spansFrom(spanRow{2, 10, 7})
	keptA, keptB := slices.Clone(a), slices.Clone(b)
	for what, c := range setCalls() {
		for _, got := range [][]impl.Span{c.call(a, b), c.call(a, nil), c.call(nil, b), c.call(a, a)} {
			for i := range got {
				got[i] = impl.Span{First: -1, Last: -1, Value: -1}
			}
		}
		if !slices.Equal(a, keptA) || !slices.Equal(b, keptB) {
			t.Errorf("%s: what was handed in has changed", what)
		}
	}
}
