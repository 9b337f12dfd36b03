package impl

import "unicode/utf8"

// Constants, see chapter 2.
const (
	MaxPoint     = 1114111
	LastKnown    = 32767
	Broken       = 65533
	WhatCategory = 1
	WhatScript   = 2
	WhatClass    = 3
	WhatAge      = 4
)

// Categories, see chapter 2.
const (
	CatNone = iota
	CatControl
	CatSpace
	CatMark
	CatUpper
	CatLower
	CatTitle
	CatOther
	CatDigit
	CatPunct
	CatSymbol
	CatFormat
)

// Span is a thing of chapter 2.
type Span struct {
	First int64
	Last  int64
	Value int64
}

// repertoireRow has small fields because a table at package level is to be short.
type repertoireRow struct {
	first    uint16
	last     uint16
	category uint8
	script   uint8
}

// repertoire rises, so that a row is found by halving. Scripts 3 and 4 are left out: twinOf leads them
// to the rows of script 2.
var repertoire = [...]repertoireRow{
	{0x0, 0x1F, CatControl, 0},
	{0x20, 0x20, CatSpace, 0},
	{0x21, 0x2F, CatPunct, 0},
	{0x30, 0x39, CatDigit, 0},
	{0x3A, 0x40, CatPunct, 0},
	{0x41, 0x5A, CatUpper, 1},
	{0x5B, 0x60, CatPunct, 0},
	{0x61, 0x7A, CatLower, 1},
	{0x7B, 0x7E, CatPunct, 0},
	{0x7F, 0x9F, CatControl, 0},
	{0xA0, 0xA0, CatSpace, 0},
	{0xA1, 0xAC, CatSymbol, 0},
	{0xAD, 0xAD, CatFormat, 0},
	{0xAE, 0xBF, CatSymbol, 0},
	{0x200, 0x21F, CatUpper, 2},
	{0x220, 0x23F, CatLower, 2},
	{0x240, 0x243, CatUpper, 2},
	{0x244, 0x247, CatTitle, 2},
	{0x248, 0x24B, CatLower, 2},
	{0x250, 0x259, CatDigit, 2},
	{0x260, 0x261, CatLower, 2},
	{0x500, 0x51F, CatOther, 5},
	{0x550, 0x559, CatDigit, 5},
	{0x600, 0x61F, CatOther, 6},
	{0x620, 0x62B, CatMark, 6},
	{0x630, 0x631, CatMark, 6},
	{0x650, 0x659, CatDigit, 6},
	{0x700, 0x712, CatOther, 7},
	{0x720, 0x734, CatOther, 7},
	{0x741, 0x75B, CatOther, 7},
	{0x800, 0x82F, CatOther, 8},
	{0x1000, 0x103F, CatMark, 0},
	{0x1E00, 0x1E44, CatSymbol, 0},
	{0x1E50, 0x1E69, CatSymbol, 0},
	{0x1F00, 0x1F0B, CatFormat, 0},
	{0x1F11, 0x1F12, CatFormat, 0},
	{0x1F80, 0x1F80, CatSpace, 0},
	{0x2000, 0x20CF, CatUpper, 1},
	{0x20D0, 0x219F, CatLower, 1},
	{0x2200, 0x22CF, CatUpper, 1},
	{0x22D0, 0x239F, CatLower, 1},
	{0x2400, 0x24CF, CatUpper, 1},
	{0x24D0, 0x259F, CatLower, 1},
	{0x2600, 0x2619, CatUpper, 1},
	{0x2700, 0x2719, CatSymbol, 0},
	{0x2720, 0x2729, CatDigit, 0},
	{0x2730, 0x2733, CatSymbol, 0},
	{0x3000, 0x5BA3, CatOther, 7},
	{0x6000, 0x67FF, CatOther, 9},
}

// PointsOf: see chapter 2.
func PointsOf(text string) []int64 {
	if len(text) > MaxBytes {
		return nil
	}
	points := make([]int64, 0, len(text))
	// A range reads a byte at which no point begins as the rune U+FFFD, which is Broken.
	for _, r := range text {
		points = append(points, int64(r))
	}
	return points
}

// TextOf: see chapter 2.
func TextOf(points []int64) string {
	// MaxList points have at most 4 * MaxList bytes, so the text is never longer than MaxBytes.
	if len(points) > MaxList {
		return ""
	}
	return written(points)
}

// Category: see chapter 2.
func Category(p int64) int64 {
	return int64(rowOf(twinOf(p)).category)
}

// Script: see chapter 2.
func Script(p int64) int64 {
	twin := twinOf(p)
	script := int64(rowOf(twin).script)
	if script == 0 {
		return 0
	}
	return script + (p-twin)/0x100
}

// MarkClass: see chapter 2.
func MarkClass(p int64) int64 {
	switch {
	case p == 0x630:
		return 9
	case p == 0x631:
		return 7
	case p < 0x1000:
		return 0
	case p < 0x1010:
		return 230
	case p < 0x1020:
		return 220
	case p < 0x1028:
		return 202
	case p < 0x1030:
		return 1
	case p < 0x1038:
		return 232
	}
	return 0
}

// Age: see chapter 2.
func Age(p int64) int64 {
	switch {
	case Category(p) == CatNone:
		return 0
	case p < 0x1000:
		return 1
	case p < 0x3000:
		return 2
	case p < 0x6000:
		return 3
	}
	return 4
}

// DigitOf: see chapter 2.
func DigitOf(p int64) int64 {
	twin := twinOf(p)
	row := rowOf(twin)
	if row.category != CatDigit {
		return -1
	}
	return twin - int64(row.first)
}

// Strokes: see chapter 2.
func Strokes(p int64) int64 {
	if !isIdeograph(p) {
		return 0
	}
	// U+6000 is a multiple of 24: counted from 0 or from the first ideograph, p comes to the same.
	return 1 + p%24
}

// MirrorOf: see chapter 2.
func MirrorOf(p int64) int64 {
	switch p {
	case '(':
		return ')'
	case ')':
		return '('
	case '<':
		return '>'
	case '>':
		return '<'
	case '[':
		return ']'
	case ']':
		return '['
	case '{':
		return '}'
	case '}':
		return '{'
	}
	if !isPoint(p) {
		return 0
	}
	return p
}

// SpansOf: see chapter 2.
func SpansOf(what int64) []Span {
	if what < WhatCategory || what > WhatAge {
		return nil
	}
	return spansBy(func(p int64) int64 { return propertyOf(what, p) })
}

// spansBy tells what a call says of the points 0 to LastKnown, as spans.
func spansBy(tell func(p int64) int64) []Span {
	var spans []Span
	first, value := int64(0), tell(0)
	for p := int64(1); p <= LastKnown; p++ {
		next := tell(p)
		if next != value {
			spans = append(spans, Span{First: first, Last: p - 1, Value: value})
			first, value = p, next
		}
	}
	return append(spans, Span{First: first, Last: LastKnown, Value: value})
}

// written is TextOf without a bound, for what is made within a call.
func written(points []int64) string {
	text := make([]byte, 0, len(points))
	for _, p := range points {
		if !isPoint(p) {
			p = Broken
		}
		text = utf8.AppendRune(text, rune(p))
	}
	return string(text)
}

func isPoint(p int64) bool {
	return p >= 0 && p <= MaxPoint && (p < 0xD800 || p > 0xDFFF)
}

func isIdeograph(p int64) bool {
	return Script(p) == 9
}

// twinOf leads the points of scripts 3 and 4 to those of script 2 at the same places, since the three
// are laid out alike; every other number stays.
func twinOf(p int64) int64 {
	if p >= 0x300 && p < 0x500 {
		return 0x200 + p%0x100
	}
	return p
}

// rowOf tells the row of the repertoire that has p, or the zero row, which stands for CatNone.
func rowOf(p int64) repertoireRow {
	low, high := 0, len(repertoire)
	for low < high {
		middle := (low + high) / 2
		if int64(repertoire[middle].last) < p {
			low = middle + 1
		} else {
			high = middle
		}
	}
	if low == len(repertoire) || p < int64(repertoire[low].first) {
		return repertoireRow{}
	}
	return repertoire[low]
}

func propertyOf(what int64, p int64) int64 {
	switch what {
	case WhatCategory:
		return Category(p)
	case WhatScript:
		return Script(p)
	case WhatClass:
		return MarkClass(p)
	}
	return Age(p)
}
