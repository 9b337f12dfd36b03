package tests

import (
	"fmt"
	"math"
	"math/big"
	"math/rand"
	"reflect"
	"regexp"
	"slices"
	"strconv"
	"strings"
	"testing"
	"unicode/utf8"

	"loop.example/g00044/impl"
)

// plainSystems has the first digit of each system, as chapter 18 names them.
var plainSystems = []int64{0x30, 0x250, 0x350, 0x450, 0x550, 0x650, 0x2720}

var (
	namePlainly = regexp.MustCompile(`^[a-z][a-z0-9-]{0,19}$`)
	testPlainly = regexp.MustCompile(`^([ifvn])(?:%(0|[1-9][0-9]*))?(!?=)(0|[1-9][0-9]*)(?:\.\.(0|[1-9][0-9]*))?$`)
)

func isPlainName(text string) bool {
	return namePlainly.MatchString(text) && !strings.HasSuffix(text, "\n")
}

// fullLocale is right, with something in each field.
func fullLocale() impl.Locale {
	l := impl.Locale{Name: "a-b", Parent: "c", Point: ".", Comma: ",", Minus: "-", Sizes: []int64{3, 2}, System: 1}
	l.Plurals = []impl.PluralRule{{Name: "few", When: "n%10=2..4&n%100!=12..14"}, {Name: "one", When: "i=1&v=0"}}
	l.Two, l.Start, l.Middle, l.End = "{0} & {1}", "<{0}; {1}", "({0}: {1})", "{0} and {1}>"
	l.Months = strings.Fields("ma mb mc md me mf mg mh mi mj mk ml mm")
	l.Days = strings.Fields("da db dc dd de df dg")
	l.Date = "w, d. m (n) y"
	return l
}

// localeWritten has all of a locale; an empty list and none are the same.
func localeWritten(l impl.Locale) string {
	var texts []string
	for _, text := range textsWithin(&l) {
		texts = append(texts, *text)
	}
	return fmt.Sprintf("%+q %d %d %d %d %d", texts, l.Sizes, l.System, len(l.Plurals), len(l.Months), len(l.Days))
}

// wholePlainNumber reads a number of a rule that the regular expression has let pass.
func wholePlainNumber(text string) *big.Int {
	number, _ := new(big.Int).SetString(text, 10)
	return number
}

func isRightRule(when string) bool {
	if len(when) > 200 {
		return false
	}
	most := big.NewInt(1000000)
	for _, row := range strings.Split(when, "|") {
		for _, test := range strings.Split(row, "&") {
			found := testPlainly.FindStringSubmatch(test)
			if found == nil || found[2] == "0" {
				return false
			}
			for _, number := range []string{found[2], found[4], found[5]} {
				if number != "" && wholePlainNumber(number).Cmp(most) > 0 {
					return false
				}
			}
		}
	}
	return true
}

// holdsPlainly goes by the digits of the number as they are written.
func holdsPlainly(when string, num int64, places int64) bool {
	digits := strings.TrimPrefix(strconv.FormatInt(num, 10), "-")
	for len(digits) <= int(places) {
		digits = "0" + digits
	}
	whole, behind := wholePlainNumber(digits[:len(digits)-int(places)]), wholePlainNumber("0"+digits[len(digits)-int(places):])
	for _, row := range strings.Split(when, "|") {
		all := true
		for _, test := range strings.Split(row, "&") {
			found := testPlainly.FindStringSubmatch(test)
			value := map[string]*big.Int{"i": whole, "f": behind, "v": big.NewInt(places), "n": whole}[found[1]]
			if found[2] != "" {
				value = new(big.Int).Mod(value, wholePlainNumber(found[2]))
			}
			last := found[4]
			if found[5] != "" {
				last = found[5]
			}
			equal := value.Cmp(wholePlainNumber(found[4])) >= 0 && value.Cmp(wholePlainNumber(last)) <= 0
			if found[1] == "n" && behind.Sign() > 0 {
				equal = false
			}
			all = all && equal == (found[3] == "=")
		}
		if all {
			return true
		}
	}
	return false
}

func isRuleTold(t *testing.T, when string, want bool) {
	t.Helper()
	code := int64(impl.ErrForm)
	if want {
		code = impl.OK
	}
	if got := impl.RuleFault(when); got != code {
		t.Errorf("RuleFault of %+.300q: got %d, want %d", when, got, code)
	}
	if got := isRightRule(when); got != want {
		t.Errorf("the plain reading of %+.300q: %v", when, got)
	}
	l := impl.Locale{Name: "a", Plurals: []impl.PluralRule{{Name: "one", When: when}}}
	if got := impl.LocaleFault(l); got != code {
		t.Errorf("LocaleFault with %+.300q: got %d, want %d", when, got, code)
	}
}

func TestPluralRulesByHand(t *testing.T) {
	for _, when := range []string{
		"i=1", "f=0", "v=0", "n=5", "i!=1", "i%10=1", "i%10!=1", "i=1..5", "i!=1..5", "i%10=1..5", "i%10!=1..5", "n%100=11..14",
		"i=5..1", "i!=5..1", "i%3=5..1", "i=1..1", "i=0..0", "i=0", "i=1000000", "i%1000000=1000000..1000000", "i%1=0", "i=1|i=2", "i=1&v=0", "i=1&v=0|f=1&n=2|v=9",
		"i=1&i=2&i=3&i=4", "i=1|i=1", "n%10=2..4&n%100!=12..14|v=1", "f%999999=999999",
	} {
		isRuleTold(t, when, true)
	}
	for _, when := range []string{
		"", "|", "&", "i=1|", "|i=1", "i=1&", "&i=1", "i=1||i=2", "i=1&&i=2", "i=1|&i=2", "i=1&|i=2", "||", "&&",
		"i", "i=", "i!", "i!=", "=", "=1", "!=1", "1", "i1", "i%", "i%10", "i%10=", "i%10!", "i%10!=", "%10=1", "%=1", "i%=1", "i%!=1", "i%10%10=1",
		"i%0=1", "i%00=1", "i%01=1", "i%0!=1", "i%1000001=1", "i=1000001", "i=1..1000001", "i=1000001..1", "i=10000000", "i%10000000=0", "i=99999999999999999999999", "i=18446744073709551617",
		"i=00", "i=01", "i=1..01", "i=1..00", "i=00..1", "i=-1", "i=+1", "i=1..-1", "i%-1=1", "i%+2=1", "i=1_0", "i=0x1", "i=1e3", "i=1.0", "i=a",
		"i=1..", "i=..1", "i=..", "i=1.2", "i=1...2", "i=1..2..3", "i=1..2.", "i=1.", "i=1 ..2", "i= 1", "i =1", " i=1", "i=1 ", "i=1 & v=0", "i=1| v=0", "i %10=1", "i% 10=1", "i = 1",
		"i==1", "i===1", "i=!1", "i!!=1", "i!==1", "i=1=1", "i<1", "i>1", "ii=1", "iv=1", "a=1", "e=1", "g=1", "h=1", "j=1", "m=1", "o=1", "u=1", "w=1", "t=1", "z=1", "I=1", "N=1", "{=1", "`=1", "\x00=1", "\xff=1", "n\xff=1", "\u0131=1",
		"i=\u0251", "i=\u2721", "i=1,2", "i=1;v=0", "i=1\n", "i=1\x00", "i,v=1", "(i=1)", "i=1..2,5", "i%10..20=1", "i..f=1", "not i=1",
	} {
		isRuleTold(t, when, false)
	}
}

func TestRuleSizes(t *testing.T) {
	long := strings.Repeat("i=1|", 48) + "i=10&"
	isRuleTold(t, long+"v=1", true)
	if len(long+"v=1") != 200 {
		t.Fatalf("%d bytes", len(long+"v=1"))
	}
	isRuleTold(t, long+"v=10", false)
	isRuleTold(t, long+"v=", false)
	isRuleTold(t, strings.Repeat("i=1|", 49)+"i=1", true)
	isRuleTold(t, strings.Repeat("i=1|", 50)+"i=1", false)
	isRuleTold(t, strings.Repeat("i=1&", 50)+"i=1", false)
	isRuleTold(t, strings.Repeat("i=1|", 17000)+"i=1", false)
	isRuleTold(t, strings.Repeat("i", 65537), false)
}

// TestRulesCutAndGrown cuts right rules short at each place, and puts or changes one sign at each.
func TestRulesCutAndGrown(t *testing.T) {
	signs := []string{"i", "f", "v", "n", "x", "%", "=", "!", ".", "..", "|", "&", "0", "1", "9", " ", "-", "!=", "\xff", "\u0250"}
	for _, when := range []string{"n%10=2..4&n%100!=12..14|v=1", "i=1&v=0", "f!=10|i%1000000=0..999999", "v=9"} {
		for at := range len(when) + 1 {
			isRuleTold(t, when[:at], isRightRule(when[:at]))
			isRuleTold(t, when[at:], isRightRule(when[at:]))
			for _, sign := range signs {
				grown := when[:at] + sign + when[at:]
				isRuleTold(t, grown, isRightRule(grown))
				if at < len(when) {
					changed := when[:at] + sign + when[at+1:]
					isRuleTold(t, changed, isRightRule(changed))
				}
			}
			if at < len(when) {
				without := when[:at] + when[at+1:]
				isRuleTold(t, without, isRightRule(without))
			}
		}
	}
}

func TestAllShortRules(t *testing.T) {
	right := 0
	for count := range 7 {
		eachCutRow([]int64{'i', 'n', '%', '=', '!', '.', '0', '1'}, count, func(when string) {
			want := isRightRule(when)
			if want {
				right++
			}
			if got := impl.RuleFault(when); (got == impl.OK) != want || got != impl.OK && got != impl.ErrForm {
				t.Errorf("RuleFault of %q: got %d, right: %v", when, got, want)
			}
		})
	}
	eachCutRow([]int64{'i', '=', '1', '&', '|'}, 7, func(when string) {
		if got := impl.RuleFault(when); (got == impl.OK) != isRightRule(when) {
			t.Errorf("RuleFault of %q: got %d", when, got)
		}
	})
	if right < 70 {
		t.Errorf("only %d right rules", right)
	}
}

// isPlainSign tells of Point, Comma and Minus.
func isPlainSign(sign string) bool {
	if !utf8.ValidString(sign) || utf8.RuneCountInString(sign) > 3 {
		return false
	}
	for _, p := range readPlainly(sign) {
		for _, first := range plainSystems {
			if p >= first && p < first+10 {
				return false
			}
		}
	}
	return true
}

func beginsEither(a string, b string) bool {
	return a != "" && b != "" && (strings.HasPrefix(a, b) || strings.HasPrefix(b, a))
}

func isPlainFrame(frame string) bool {
	if frame == "" {
		return true
	}
	zero, one := strings.Split(frame, "{0}"), strings.Split(frame, "{1}")
	return len(frame) <= 50 && utf8.ValidString(frame) && len(zero) == 2 && len(one) == 2 && len(zero[0]) < len(one[0])
}

func arePlainTexts(texts []string, count int) bool {
	for _, text := range texts {
		if len(text) < 1 || len(text) > 30 || !utf8.ValidString(text) {
			return false
		}
	}
	return len(texts) == 0 || len(texts) == count
}

func isRightLocale(l impl.Locale) bool {
	right := isPlainName(l.Name) && (l.Parent == "" || isPlainName(l.Parent))
	right = right && isPlainSign(l.Point) && isPlainSign(l.Comma) && isPlainSign(l.Minus)
	right = right && !beginsEither(l.Point, l.Minus) && !beginsEither(l.Point, l.Comma)
	right = right && len(l.Sizes) <= 3 && l.System >= -1 && l.System <= 6 && len(l.Plurals) <= 6
	for _, size := range l.Sizes {
		right = right && size >= 1 && size <= 9
	}
	for at, rule := range l.Plurals {
		right = right && isPlainName(rule.Name) && rule.Name != "other" && isRightRule(rule.When) && (at == 0 || l.Plurals[at-1].Name < rule.Name)
	}
	for _, frame := range []string{l.Two, l.Start, l.Middle, l.End} {
		right = right && isPlainFrame(frame)
	}
	return right && arePlainTexts(l.Months, 13) && arePlainTexts(l.Days, 7) && len(l.Date) <= 50 && utf8.ValidString(l.Date)
}

func isLocaleTold(t *testing.T, l impl.Locale, want bool) {
	t.Helper()
	code := int64(impl.ErrForm)
	if want {
		code = impl.OK
	}
	if got := impl.LocaleFault(l); got != code {
		t.Errorf("LocaleFault of %+.500v: got %d, want %d", localeWritten(l), got, code)
	}
	if got := impl.LocalesFault([]impl.Locale{l}); got != code {
		t.Errorf("LocalesFault of %+.500v: got %d, want %d", localeWritten(l), got, code)
	}
	if got := isRightLocale(l); got != want {
		t.Errorf("the plain reading of %+.500v: %v", localeWritten(l), got)
	}
	isRefused(t, l, !want || l.System == -1)
}

// isRefused asks the calls that take what LocaleFault lets pass, with a System.
func isRefused(t *testing.T, l impl.Locale, want bool) {
	t.Helper()
	code := int64(impl.ErrSyntax)
	if want {
		code = impl.ErrForm
	}
	if got := impl.ReadNumber(l, ""); got != (impl.NumberRead{Code: code}) {
		t.Errorf("ReadNumber by %+.500v: got %v, want the code %d", localeWritten(l), got, code)
	}
	told := []bool{impl.PluralOf(l, 1, 0) == "", impl.NumberText(l, 1, 0) == "", impl.ListText(l, []string{"x"}) == ""}
	l.Date += "d"
	if len(l.Date) <= 50 {
		told = append(told, impl.DateText(l, 0) == "")
	}
	for call, isEmpty := range told {
		if isEmpty != want {
			t.Errorf("call %d by %+.500v: empty is %v", call, localeWritten(l), isEmpty)
		}
	}
}

func TestLocaleNames(t *testing.T) {
	isLocaleTold(t, fullLocale(), true)
	isLocaleTold(t, impl.Locale{Name: "a"}, true)
	isLocaleTold(t, impl.Locale{}, false)
	for text, want := range map[string]bool{
		"a": true, "z": true, "a-": true, "a--": true, "a-b-c": true, "a0": true, "z9-": true, "other": true, "abcdefghij0123456789": true, "a-------------------": true,
		"abcdefghij01234567890": false, "A": false, "aB": false, "0": false, "0a": false, "-": false, "-a": false, " ": false, "a b": false, "a_b": false, "a.b": false, "a\n": false, "\na": false,
		"\u0220": false, "a\u0220": false, "\xff": false, "a\xff": false, "`": false, "{": false, "a{": false, "a`": false, "a/": false, "a:": false, "a,": false, "a\x00": false,
	} {
		l := fullLocale()
		l.Name = text
		isLocaleTold(t, l, want)
		l = fullLocale()
		l.Parent = text
		isLocaleTold(t, l, want)
		l = fullLocale()
		l.Plurals = []impl.PluralRule{{Name: text, When: "i=1"}}
		isLocaleTold(t, l, want && text != "other")
		if got := len(impl.ChainOf(nil, text)) > 0; got != want {
			t.Errorf("ChainOf of %+q: %v", text, got)
		}
	}
	l := fullLocale()
	l.Name = ""
	isLocaleTold(t, l, false)
	l = fullLocale()
	l.Parent = ""
	isLocaleTold(t, l, true)
	l.Parent = l.Name
	isLocaleTold(t, l, true)
	l.Plurals[0].Name = ""
	isLocaleTold(t, l, false)
}

// TestLocaleSigns: each of Point, Comma and Minus by itself, then two beside each other.
func TestLocaleSigns(t *testing.T) {
	set := []func(l *impl.Locale, sign string){
		func(l *impl.Locale, sign string) { l.Point = sign },
		func(l *impl.Locale, sign string) { l.Comma = sign },
		func(l *impl.Locale, sign string) { l.Minus = sign },
	}
	rows := map[string]bool{
		"": true, "x": true, "xy": true, "xyz": true, "xyzx": false, "\u6000\u6001\u6002": true, "\u6000\u6001\u6002\u6003": false, "\U0010FFFF\U0010FFFF\U0010FFFF": true, "\U0010FFFF\U0010FFFF\U0010FFFFx": false,
		"\xff": false, "x\xff": false, "\xe6\x80": false, "\xed\xa0\x80": false, "\uFFFD": true, "\x00": true, "\u1000": true, " ": true, "{0}": false, "{x}": true,
		"/": true, ":": true, "\u024F": true, "\u025A": true, "\u054F": true, "\u055A": true, "\u064F": true, "\u065A": true, "\u271F": true, "\u272A": true, strings.Repeat("x", 70000): false,
	}
	for _, first := range plainSystems {
		for digit := range int64(10) {
			rows[textWritten(first+digit)] = false
		}
		rows[textWritten('x', first+7)] = false
		rows[textWritten('x', 'y', first)] = false
	}
	for sign, want := range rows {
		for _, with := range set {
			l := fullLocale()
			with(&l, sign)
			isLocaleTold(t, l, want)
		}
	}
	for _, row := range []struct {
		a, b string
		want bool
	}{{"x", "x", false}, {"x", "xy", false}, {"xy", "x", false}, {"xy", "xz", true}, {"x", "yx", true}, {"yx", "x", true}, {"", "x", true}, {"x", "", true}, {"", "", true}, {"xyz", "xy", false}, {"\u0300", "\u0301", true}, {"\u0300", "\u0300x", false}} {
		isLocaleTold(t, impl.Locale{Name: "a", Point: row.a, Minus: row.b}, row.want)
		isLocaleTold(t, impl.Locale{Name: "a", Point: row.a, Comma: row.b}, row.want)
		isLocaleTold(t, impl.Locale{Name: "a", Comma: row.a, Minus: row.b}, true)
	}
}

func TestLocaleNumbers(t *testing.T) {
	for row, want := range map[string]bool{"": true, "1": true, "9": true, "1 9": true, "9 1 5": true, "3 3 3": true, "3 3 3 3": false, "0": false, "10": false, "-1": false, "3 0": false, "3 3 10": false, "1 0 1": false, "9223372036854775807": false, "-9223372036854775808": false} {
		l := fullLocale()
		l.Sizes = numbersOf(row)
		isLocaleTold(t, l, want)
	}
	for system, want := range map[int64]bool{-2: false, -1: true, 0: true, 1: true, 5: true, 6: true, 7: false, math.MaxInt64: false, math.MinInt64: false} {
		l := fullLocale()
		l.System = system
		isLocaleTold(t, l, want)
	}
}

func TestLocalePlurals(t *testing.T) {
	for row, want := range map[string]bool{
		"": true, "a": true, "a b": true, "a b c d e f": true, "a b c d e f g": false, "b a": false, "a a": false, "a b b": false, "a c b": false, "a other": false, "other": false, "other z": false, "others": true, "othe other": false,
		"a aa": true, "aa a": false, "a-b a0": true, "a0 a-b": false, "A": false, "a 1": false, "one two": true, "two one": false,
	} {
		l := fullLocale()
		l.Plurals = nil
		for _, name := range strings.Fields(row) {
			l.Plurals = append(l.Plurals, impl.PluralRule{Name: name, When: "i=1"})
		}
		isLocaleTold(t, l, want)
		for at := range l.Plurals {
			l.Plurals[at].When = "i=1|"
			isLocaleTold(t, l, false)
			l.Plurals[at].When = strings.Repeat("i=1|", 50) + "i=1"
			isLocaleTold(t, l, false)
			l.Plurals[at].When = ""
			isLocaleTold(t, l, false)
			l.Plurals[at].When = "v!=3"
			isLocaleTold(t, l, want)
		}
	}
}

func TestLocaleFrames(t *testing.T) {
	set := []func(l *impl.Locale, frame string){
		func(l *impl.Locale, frame string) { l.Two = frame },
		func(l *impl.Locale, frame string) { l.Start = frame },
		func(l *impl.Locale, frame string) { l.Middle = frame },
		func(l *impl.Locale, frame string) { l.End = frame },
	}
	for frame, want := range map[string]bool{
		"": true, "{0}{1}": true, "{0}, {1}": true, "x{0}y{1}z": true, "{1}{0}": false, "{0}": false, "{1}": false, " ": false, "x": false, "{0}{0}": false, "{0}{0}{1}": false, "{0}{1}{0}": false, "{0}{1}{1}": false,
		"{1}{0}{1}": false, "{0} {2}": false, "{0}{1}{2}": true, "{{0}{1}}": true, "{{0}}{{1}}": true, "{0{0}1}{1}": true, "{ 0}{1}": false, "{0}{01}": false, "{0}{1": false, "0}{1}": false, "{\u0250}{1}": false,
		"{0}\xff{1}": false, "\xff{0}{1}": false, "{0}{1}\xff": false, "{0}{1}\xe6\x80": false, "{0}\u6000{1}": true, "{0}\uFFFD{1}": true, "{0}\x00{1}": true,
		strings.Repeat("x", 44) + "{0}{1}": true, "{0}" + strings.Repeat("x", 45) + "{1}": false, "{0}{1}" + strings.Repeat("x", 45): false, "{0}" + strings.Repeat("x", 44) + "{1}": true, strings.Repeat("x", 50): false,
		"{0}{1}" + strings.Repeat("\u0220", 22): true, "{0}{1}" + strings.Repeat("\u0220", 23): false, "{0}{1}" + strings.Repeat("x", 70000): false,
	} {
		for _, with := range set {
			l := fullLocale()
			with(&l, frame)
			isLocaleTold(t, l, want)
		}
	}
}

func TestLocaleDates(t *testing.T) {
	names := func(count int) []string {
		var told []string
		for at := range count {
			told = append(told, "n"+strconv.Itoa(at))
		}
		return told
	}
	for count := range 16 {
		l := fullLocale()
		l.Months = names(count)
		isLocaleTold(t, l, count == 0 || count == 13)
		l = fullLocale()
		l.Days = names(count)
		isLocaleTold(t, l, count == 0 || count == 7)
		l.Months = []string{}
		l.Days = []string{}
		isLocaleTold(t, l, true)
	}
	for text, want := range map[string]bool{"": false, "x": true, " ": true, strings.Repeat("x", 30): true, strings.Repeat("x", 31): false, strings.Repeat("\u6000", 10): true, strings.Repeat("\u6000", 10) + "x": false, "\xff": false, "x\xff": false, "\xe6\x80": false, "\uFFFD": true, "\x00": true, "n0": true} {
		for at := range 13 {
			l := fullLocale()
			l.Months[at] = text
			isLocaleTold(t, l, want)
			l = fullLocale()
			l.Days[at%7] = text
			isLocaleTold(t, l, want)
		}
	}
	for date, want := range map[string]bool{"": true, "y": true, strings.Repeat("y", 50): true, strings.Repeat("y", 51): false, strings.Repeat("\u0220", 25): true, strings.Repeat("\u0220", 25) + "y": false, "\xff": false, "y\xff": false, "y\xe6\x80": false, "\u6000 y": true, "123": true, "\uFFFD": true, "\x00": true, strings.Repeat("y", 70000): false} {
		l := fullLocale()
		l.Date = date
		isLocaleTold(t, l, want)
	}
	l := fullLocale()
	l.Months = make([]string, 2000)
	isLocaleTold(t, l, false)
}

func namedLocales(names ...string) []impl.Locale {
	var all []impl.Locale
	for _, name := range names {
		name, parent, _ := strings.Cut(name, "<")
		all = append(all, impl.Locale{Name: name, Parent: parent})
	}
	return all
}

func TestLocalesFault(t *testing.T) {
	numbered := func(count int) []impl.Locale {
		var all []impl.Locale
		for at := range count {
			all = append(all, impl.Locale{Name: fmt.Sprintf("a%04d", at)})
		}
		return all
	}
	for _, row := range []struct {
		name string
		all  []impl.Locale
		want int64
	}{
		{"none", nil, 0}, {"an empty list", []impl.Locale{}, 0}, {"50", numbered(50), 0}, {"51", numbered(51), 1}, {"1000", numbered(1000), 1}, {"1001", numbered(1001), 1},
		{"rising", namedLocales("a", "a-b", "a0", "ab", "b"), 0}, {"turned", namedLocales("b", "a"), 1}, {"twice", namedLocales("a", "a"), 1}, {"twice behind", namedLocales("a", "b", "b"), 1}, {"out of order behind", namedLocales("a", "c", "b"), 1},
		{"the shorter one first", namedLocales("a", "aa"), 0}, {"the longer one first", namedLocales("aa", "a"), 1}, {"no name", namedLocales("A"), 1}, {"no name behind", namedLocales("a", "b", "{"), 1}, {"a wrong parent", namedLocales("a", "b<B"), 1}, {"a parent", namedLocales("a", "b<z"), 0},
		{"a wrong System", []impl.Locale{{Name: "a"}, {Name: "b", System: 7}}, 1}, {"an open System", []impl.Locale{{Name: "a", System: -1}, {Name: "b", System: 6}}, 0}, {"a wrong first one", []impl.Locale{{Name: "a", System: 7}, {Name: "b"}}, 1},
	} {
		if got := impl.LocalesFault(row.all); got != row.want {
			t.Errorf("LocalesFault of %s: got %d, want %d", row.name, got, row.want)
		}
		if got := impl.ChainOf(row.all, "a"); (len(got) == 0) != (row.want != 0) {
			t.Errorf("ChainOf of %s: got %q", row.name, got)
		}
		if got := impl.LocaleOf(row.all, "a"); (got.Name == "") != (row.want != 0) || row.want != 0 && !reflect.DeepEqual(got, impl.Locale{}) {
			t.Errorf("LocaleOf of %s: got %v", row.name, got)
		}
	}
}

// chainPlainly goes by a table of parents.
func chainPlainly(all []impl.Locale, name string) []string {
	parents := map[string]string{}
	for _, l := range all {
		parents[l.Name] = l.Parent
	}
	var chain []string
	for {
		if len(chain) == 10 || slices.Contains(chain, name) {
			return chain
		}
		chain = append(chain, name)
		next := parents[name]
		if next == "" {
			parts := strings.Split(name, "-")
			next = strings.Join(parts[:len(parts)-1], "-")
		}
		if next == "" {
			return chain
		}
		name = next
	}
}

func isChain(t *testing.T, all []impl.Locale, name string, want []string) {
	t.Helper()
	if got := impl.ChainOf(all, name); !slices.Equal(got, want) {
		t.Errorf("ChainOf %q in %v: got %q, want %q", name, all, got, want)
	}
	if got := chainPlainly(all, name); !slices.Equal(got, want) {
		t.Errorf("the plain chain of %q in %v: %q, want %q", name, all, got, want)
	}
}

func TestChainsByHand(t *testing.T) {
	for _, row := range []struct{ locales, name, want string }{
		{"", "a", "a"}, {"", "a-b", "a-b a"}, {"", "a-b-c", "a-b-c a-b a"}, {"", "a-", "a- a"}, {"", "a--b", "a--b a- a"}, {"", "a---", "a--- a-- a- a"},
		{"a", "a", "a"}, {"a", "b", "b"}, {"a-b", "a-b", "a-b a"}, {"a-b<c", "a-b", "a-b c"}, {"a<c", "a-b", "a-b a c"}, {"a<c", "a-b-d", "a-b-d a-b a c"}, {"a<c-d", "a-b", "a-b a c-d c"}, {"b<c", "b-x", "b-x b c"},
		{"a<b b<c c<d", "a", "a b c d"}, {"a<b b<c c<d", "b", "b c d"}, {"a<b b<c c<d", "x-a", "x-a x"}, {"a<z-y", "a", "a z-y z"}, {"a-b<a a<c", "a-b", ""}, {"a<c a-b<a", "a-b", "a-b a c"},
		// Chains that come back.
		{"a<a", "a", "a"}, {"a<b b<a", "a", "a b"}, {"a<b b<a", "b", "b a"}, {"a<b b<c c<b", "a", "a b c"}, {"a<a-b", "a", "a a-b"}, {"a<a-b", "a-b", "a-b a"}, {"a<a-b-c", "a", "a a-b-c a-b"}, {"a-b<a-b-c", "a-b-c", "a-b-c a-b"}, {"a-b<a-b", "a-b", "a-b"},
		// Ten names and more.
		{"", "a---------", "a--------- a-------- a------- a------ a----- a---- a--- a-- a- a"}, {"", "a----------", "a---------- a--------- a-------- a------- a------ a----- a---- a--- a-- a-"},
		{"a<b b<c c<d d<e e<f f<g g<h h<i i<j", "a", "a b c d e f g h i j"}, {"a<b b<c c<d d<e e<f f<g g<h h<i i<j j<k", "a", "a b c d e f g h i j"}, {"a<b b<c c<d d<e e<f f<g g<h h<i i<j j<a", "a", "a b c d e f g h i j"}, {"a<b b<c c<d d<e e<f f<g g<h h<i i<j j<k", "b", "b c d e f g h i j k"},
		{"a<b b<c c<d d<e e<f f<g g<h h<i i<j-x", "a", "a b c d e f g h i j-x"}, {"a<b b<c c<d d<e e<f f<g g<h h<i-x", "a", "a b c d e f g h i-x i"},
		// A locale that is there without a parent goes on by its name.
		{"a a-b", "a-b", "a-b a"}, {"a-b a-b-c<a-b", "a-b-c", "a-b-c a-b a"}, {"a-b<x", "a-b-c-d", "a-b-c-d a-b-c a-b x"},
	} {
		all := namedLocales(strings.Fields(row.locales)...)
		if row.want == "" {
			if got := impl.ChainOf(all, row.name); len(got) != 0 {
				t.Errorf("ChainOf %q of locales that are not right: %q", row.name, got)
			}
			continue
		}
		isChain(t, all, row.name, strings.Fields(row.want))
	}
	for _, name := range []string{"", "A", "-a", "a b", "a.b", "\xff", strings.Repeat("a", 21), strings.Repeat("a", 65537)} {
		if got := impl.ChainOf(namedLocales("a"), name); len(got) != 0 {
			t.Errorf("ChainOf of no name: %q", got)
		}
		if got := impl.LocaleOf(namedLocales("a"), name); !reflect.DeepEqual(got, impl.Locale{}) {
			t.Errorf("LocaleOf of no name: %v", got)
		}
	}
}

func TestAllShortChains(t *testing.T) {
	names := []string{"a", "a-a", "a-a-a", "a-b", "b", "b-a"}
	parents := append([]string{"", "", "c"}, names...)
	r := rand.New(rand.NewSource(171))
	for range 6000 {
		var all []impl.Locale
		for _, name := range names {
			if r.Intn(3) > 0 {
				all = append(all, impl.Locale{Name: name, Parent: parents[r.Intn(len(parents))], System: -1})
			}
		}
		name := append(names, "a-a-a-a", "c", "b-a-c")[r.Intn(9)]
		isChain(t, all, name, chainPlainly(all, name))
	}
}

// localePlainly fills the fields one by one, by their place in the struct.
func localePlainly(all []impl.Locale, name string) impl.Locale {
	var told impl.Locale
	fields := reflect.ValueOf(&told).Elem()
	last := reflect.ValueOf(impl.Locale{Point: ".", Minus: "-", Two: "{0}, {1}", Start: "{0}, {1}", Middle: "{0}, {1}", End: "{0}, {1}", Date: "d.n.y"})
	for at := range fields.NumField() {
		fields.Field(at).Set(last.Field(at))
		chain := chainPlainly(all, name)
		for link := len(chain) - 1; link >= 0; link-- {
			for _, l := range all {
				given := reflect.ValueOf(l).Field(at)
				if l.Name == chain[link] && (given.Kind() == reflect.Int64 && given.Int() != -1 || given.Kind() != reflect.Int64 && given.Len() > 0) {
					fields.Field(at).Set(given)
				}
			}
		}
	}
	told.Name, told.Parent = name, ""
	return told
}

func isLocale(t *testing.T, all []impl.Locale, name string, want impl.Locale) {
	t.Helper()
	got := impl.LocaleOf(all, name)
	if localeWritten(got) != localeWritten(want) {
		t.Errorf("LocaleOf %q in %v: got %s, want %s", name, all, localeWritten(got), localeWritten(want))
	}
	if isRightLocale(got) {
		comesToItself(t, got)
	}
}

// comesToItself asks P42 of a locale that LocaleOf told: alone it comes to itself, by its own name and as
// the parent of another one.
func comesToItself(t *testing.T, l impl.Locale) {
	t.Helper()
	want := localeWritten(l)
	if got := localeWritten(impl.LocaleOf([]impl.Locale{l}, l.Name)); got != want {
		t.Errorf("%s comes to %s", want, got)
	}
	if len(l.Name) > 18 {
		return
	}
	under := impl.LocaleOf([]impl.Locale{l}, l.Name+"-x")
	under.Name = l.Name
	if got := localeWritten(under); got != want {
		t.Errorf("below %s: %s", want, got)
	}
}

func TestLocalesByHand(t *testing.T) {
	plain := impl.Locale{Name: "x", Point: ".", Minus: "-", Two: "{0}, {1}", Start: "{0}, {1}", Middle: "{0}, {1}", End: "{0}, {1}", Date: "d.n.y"}
	isLocale(t, nil, "x", plain)
	isLocale(t, []impl.Locale{fullLocale()}, "x", plain)
	isLocale(t, []impl.Locale{{Name: "x"}}, "x", plain)
	isLocale(t, []impl.Locale{{Name: "x", System: -1}}, "x", plain)
	isLocale(t, []impl.Locale{{Name: "x", Parent: "y", System: -1}}, "x", plain)
	full := fullLocale()
	want := full
	want.Parent = ""
	isLocale(t, []impl.Locale{full}, "a-b", want)
	want.Name = "a-b-c"
	isLocale(t, []impl.Locale{full}, "a-b-c", want)
	// Each field of the last one of a chain, and of one in its middle that has it, too.
	given := reflect.ValueOf(full)
	for at := 2; at < given.NumField(); at++ {
		first, middle, last := impl.Locale{Name: "a", Parent: "b", System: -1}, impl.Locale{Name: "b", Parent: "c", System: -1}, impl.Locale{Name: "c", System: -1}
		want := plain
		reflect.ValueOf(&last).Elem().Field(at).Set(given.Field(at))
		reflect.ValueOf(&want).Elem().Field(at).Set(given.Field(at))
		want.Name = "a"
		isLocale(t, []impl.Locale{first, middle, last}, "a", want)
		want.Name = "b-q"
		isLocale(t, []impl.Locale{first, middle, last}, "b-q", want)
		want.Name = "c"
		isLocale(t, []impl.Locale{first, middle, last}, "c", want)
		want.Name = "a"
		isLocale(t, []impl.Locale{first, {Name: "b", Parent: "c", System: -1, Sizes: []int64{}, Months: []string{}, Plurals: []impl.PluralRule{}}, last}, "a", want)
		other := otherLocale()
		reflect.ValueOf(&middle).Elem().Field(at).Set(reflect.ValueOf(other).Field(at))
		reflect.ValueOf(&want).Elem().Field(at).Set(reflect.ValueOf(other).Field(at))
		isLocale(t, []impl.Locale{first, middle, last}, "a", want)
		// What is not in the chain is not asked.
		alone := plain
		alone.Name = "d"
		isLocale(t, []impl.Locale{first, middle, last}, "d", alone)
	}
}

// otherLocale is unlike fullLocale in each field.
func otherLocale() impl.Locale {
	l := impl.Locale{Name: "d", Parent: "e", Point: "'", Comma: "_", Minus: "~", Sizes: []int64{4}, System: 6, Plurals: []impl.PluralRule{{Name: "many", When: "v=1"}}}
	l.Two, l.Start, l.Middle, l.End = "{0}+{1}", "{0}/{1}", "{0}*{1}", "{0}={1}"
	l.Months, l.Days, l.Date = slices.Repeat([]string{"mo"}, 13), slices.Repeat([]string{"da"}, 7), "y-n-d"
	return l
}

func TestSystemsAlongAChain(t *testing.T) {
	for _, row := range []struct {
		systems string
		want    int64
	}{{"-1 -1 -1", 0}, {"-1 -1 5", 5}, {"-1 4 5", 4}, {"3 4 5", 3}, {"0 4 5", 0}, {"-1 0 5", 0}, {"6 -1 -1", 6}, {"-1 -1 0", 0}} {
		systems := numbersOf(row.systems)
		all := []impl.Locale{{Name: "a", System: systems[2]}, {Name: "a-b", System: systems[1]}, {Name: "a-b-c", System: systems[0]}}
		if got := impl.LocaleOf(all, "a-b-c").System; got != row.want {
			t.Errorf("systems %s: got %d, want %d", row.systems, got, row.want)
		}
	}
}

// TestLocalesThatAreNotRightTogether: fields are taken one by one, also where they do not go together.
func TestLocalesThatAreNotRightTogether(t *testing.T) {
	isLocale(t, []impl.Locale{{Name: "a", Comma: "."}}, "a", localePlainly([]impl.Locale{{Name: "a", Comma: "."}}, "a"))
	all := []impl.Locale{{Name: "a", Minus: ","}, {Name: "a-b", Point: ","}}
	if got := impl.LocaleOf(all, "a-b"); got.Point != "," || got.Minus != "," {
		t.Errorf("got %s", localeWritten(got))
	}
}

func TestRandomLocales(t *testing.T) {
	r := rand.New(rand.NewSource(172))
	names := []string{"a", "a-a", "a-b", "a-b-c", "b", "b-a"}
	right := 0
	for range 4000 {
		var all []impl.Locale
		for _, name := range names {
			l := randomLocale(r)
			l.Name = name
			l.Parent = append(names, "", "", "", "", "c")[r.Intn(11)]
			if r.Intn(4) > 0 {
				all = append(all, l)
			}
		}
		name := append(names, "a-b-c-d", "c")[r.Intn(8)]
		isLocale(t, all, name, localePlainly(all, name))
		if isRightLocale(impl.LocaleOf(all, name)) {
			right++
		}
	}
	if right < 1000 {
		t.Errorf("only %d right ones", right)
	}
}

// randomLocale is right, with some fields that are empty; its signs are apart from those of all others.
func randomLocale(r *rand.Rand) impl.Locale {
	l := impl.Locale{Name: "a", System: int64(r.Intn(8)) - 1}
	pick := func(texts ...string) string { return texts[r.Intn(len(texts))] }
	l.Point, l.Comma, l.Minus = pick("", ".", "/", "pt", "\u0220\u1000"), pick("", ",", "_", "'\u6000", " ", "-"), pick("", "-", "~", "\u1F00-x", "~~")
	for range r.Intn(4) {
		l.Sizes = append(l.Sizes, int64(r.Intn(9))+1)
	}
	for _, name := range []string{"few", "many", "one", "two", "zero"} {
		if r.Intn(3) == 0 {
			l.Plurals = append(l.Plurals, impl.PluralRule{Name: name, When: randomRule(r)})
		}
	}
	frames := []string{"", "{0}, {1}", "{0}{1}", "<{0}|{1}>", "{0} and {1}", "\u6000{0}\u6001{1}\u6002"}
	l.Two, l.Start, l.Middle, l.End = pick(frames...), pick(frames...), pick(frames...), pick(frames...)
	if r.Intn(2) == 0 {
		l.Months = fullLocale().Months
	}
	if r.Intn(2) == 0 {
		l.Days = fullLocale().Days
	}
	l.Date = pick("", "y", "d.n.y", "w, d m y", "ymdnw", "Year y, day d!", "\u6000y\u6001n")
	return l
}

func randomRule(r *rand.Rand) string {
	rule := ""
	for at := range r.Intn(4) + 1 {
		if at > 0 {
			rule += string("|&&"[r.Intn(3)])
		}
		rule += string("ifvn"[r.Intn(4)])
		if r.Intn(2) == 0 {
			rule += "%" + strconv.Itoa([]int{1, 2, 3, 5, 10, 100, 1000, 1000000}[r.Intn(8)])
		}
		rule += []string{"=", "!="}[r.Intn(2)] + strconv.Itoa(r.Intn(12))
		if r.Intn(3) == 0 {
			rule += ".." + strconv.Itoa([]int{0, 4, 9, 20, 1000000}[r.Intn(5)])
		}
	}
	return rule
}

func pluralPlainly(l impl.Locale, num int64, places int64) string {
	if !isRightLocale(l) || l.System == -1 || places < 0 || places > 9 {
		return ""
	}
	for _, rule := range l.Plurals {
		if holdsPlainly(rule.When, num, places) {
			return rule.Name
		}
	}
	return "other"
}

func isPlural(t *testing.T, l impl.Locale, num int64, places int64, want string) {
	t.Helper()
	if got := impl.PluralOf(l, num, places); got != want {
		t.Errorf("PluralOf %d/%d by %q: got %q, want %q", num, places, l.Plurals, got, want)
	}
	if got := impl.PluralOf(l, -num, places); got != want {
		t.Errorf("PluralOf %d/%d turned, by %q: got %q, want %q", num, places, l.Plurals, got, want)
	}
}

func TestPluralsByHand(t *testing.T) {
	for _, row := range []struct {
		when string
		yes  string
		no   string
	}{
		// A number is written as 150/2 for 1.50.
		{"i=1", "1/0 10/1 15/1 199/2 1999999999/9", "0/0 2/0 9/1 20/1 1/1 1/9 100/0 11/0"},
		{"i=0", "0/0 9/1 0/9 999999999/9", "1/0 10/1 1000000000/9"},
		{"i!=1", "0/0 2/0 21/1", "1/0 15/1"},
		{"f=0", "0/0 1/0 10/1 100/2 9223372036854775807/0", "1/1 11/1 101/2"},
		{"f=5", "5/1 15/1 105/2 5/9", "5/0 50/2 15/0 51/1"},
		{"f=50", "50/2 150/2 1050/3", "5/1 50/1 500/3 500/2"},
		{"v=0", "0/0 1/0 9/0", "0/1 10/1 1/9"},
		{"v=2", "0/2 100/2", "0/0 0/1 100/3"},
		{"v=9", "1/9 0/9", "1/8"},
		{"n=1", "1/0 10/1 100/2 1000000000/9", "0/0 11/1 15/1 101/2 2/0"},
		{"n!=1", "0/0 11/1 15/1 101/2 2/0", "1/0 10/1"},
		{"n=0..9", "0/0 9/0 50/1", "1/1 99/1 10/0"},
		{"n!=0..9", "1/1 99/1 10/0", "0/0 9/0 50/1"},
		{"n%10=1", "1/0 11/0 10/1 110/1", "11/1 1/1 2/0"},
		{"n%10!=1", "11/1 1/1 2/0", "1/0 11/0 10/1 110/1"},
		{"n%1=0", "0/0 5/0 10/1", "1/1 15/1"},
		{"n!=5..1", "0/0 3/0 1/1", ""},
		{"n=5..1", "", "0/0 1/0 3/0 5/0 1/1"},
		{"i=5..1", "", "0/0 1/0 3/0 5/0 6/0"},
		{"i!=5..1", "0/0 1/0 3/0 5/0 6/0", ""},
		{"i=2..4", "2/0 3/0 4/0 49/1", "0/0 1/0 5/0 19/1"},
		{"i!=2..4", "0/0 1/0 5/0 19/1", "2/0 3/0 4/0 49/1"},
		{"i%10=2..4", "2/0 12/0 104/0", "1/0 11/0 15/0"},
		{"i%10=2..4&i%100!=12..14", "2/0 22/0 104/0", "12/0 13/0 114/0 5/0"},
		{"i=1&v=0", "1/0", "10/1 2/0"},
		{"i=1|v=1", "1/0 10/1 150/2 37/1", "2/0 200/2"},
		{"i=1&v=0|i=2&v=1", "1/0 20/1 29/1", "2/0 10/1"},
		{"i%1000000=0", "0/0 1000000/0 9000000/0", "1/0 999999/0"},
		{"i=1000000", "1000000/0 10000000/1", "999999/0 1000001/0"},
		{"i%10=7", "9223372036854775807/0", "9223372036854775807/1"},
		{"f%1000000=775807", "9223372036854775807/9", "9223372036854775807/0"},
		{"v%2=1", "0/1 0/3 0/9", "0/0 0/2"},
	} {
		l := impl.Locale{Name: "a", Plurals: []impl.PluralRule{{Name: "yes", When: row.when}}}
		for want, numbers := range map[string]string{"yes": row.yes, "other": row.no} {
			for _, number := range strings.Fields(numbers) {
				num, places, _ := strings.Cut(number, "/")
				isPlural(t, l, numbersOf(num)[0], numbersOf(places)[0], want)
			}
		}
	}
}

func TestFirstPlural(t *testing.T) {
	l := impl.Locale{Name: "a", Plurals: []impl.PluralRule{{Name: "few", When: "i=2..4"}, {Name: "many", When: "i=4..8|i=2"}, {Name: "one", When: "i=1|i=8"}}}
	for num, want := range []string{"other", "one", "few", "few", "few", "many", "many", "many", "many", "other"} {
		isPlural(t, l, int64(num), 0, want)
	}
	isPlural(t, impl.Locale{Name: "a"}, 1, 0, "other")
}

func TestPluralEdges(t *testing.T) {
	l := impl.Locale{Name: "a", Plurals: []impl.PluralRule{{Name: "eight", When: "i%10=8"}, {Name: "zero", When: "i=0"}}}
	isPlural(t, l, math.MinInt64, 0, "eight")
	isPlural(t, l, math.MinInt64, 9, "other")
	isPlural(t, l, math.MaxInt64, 0, "other")
	isPlural(t, l, 0, 0, "zero")
	for _, places := range []int64{-1, 10, math.MinInt64, math.MaxInt64} {
		isPlural(t, l, 8, places, "")
		if got := impl.NumberText(l, 8, places); got != "" {
			t.Errorf("NumberText of %d places: %q", places, got)
		}
	}
	isPlural(t, l, 8, 0, "eight")
	isPlural(t, l, 8, 9, "zero")
	least := impl.Locale{Name: "a", Plurals: []impl.PluralRule{{Name: "yes", When: "i%1000000=775808&f=0"}}}
	isPlural(t, least, math.MinInt64, 0, "yes")
	behind := impl.Locale{Name: "a", Plurals: []impl.PluralRule{{Name: "yes", When: "f%1000000=775808&i%1000=36|n=1"}}}
	isPlural(t, behind, math.MinInt64, 9, "yes")
	behind.Plurals[0].When = "f%1000000=775808&i%1000=37|n=1"
	isPlural(t, behind, math.MinInt64, 9, "other")
}

func TestRandomPlurals(t *testing.T) {
	r := rand.New(rand.NewSource(173))
	seen := map[string]int{}
	for range 4000 {
		l := randomLocale(r)
		for range 6 {
			num, places := int64(r.Intn(130)), int64(r.Intn(4))
			if r.Intn(4) == 0 {
				num, places = r.Int63()>>r.Intn(60), int64(r.Intn(12))-1
			}
			want := pluralPlainly(l, num, places)
			isPlural(t, l, num, places, want)
			seen[want]++
		}
	}
	for _, name := range []string{"", "other", "few", "many", "one", "two", "zero"} {
		if seen[name] < 100 {
			t.Errorf("only %d of %q", seen[name], name)
		}
	}
}

// numberPlainly lays the digits down one by one from the right.
func numberPlainly(l impl.Locale, num int64, places int64) string {
	left := new(big.Int).Abs(big.NewInt(num))
	text, group, inGroup := "", 0, int64(0)
	for at := int64(0); at <= places || left.Sign() > 0; at++ {
		digit := new(big.Int)
		left.DivMod(left, big.NewInt(10), digit)
		if at == places && places > 0 {
			text = l.Point + text
		}
		if at >= places && len(l.Sizes) > 0 {
			if inGroup == l.Sizes[group] {
				text, inGroup = l.Comma+text, 0
				group = min(group+1, len(l.Sizes)-1)
			}
			inGroup++
		}
		text = textWritten(plainSystems[l.System]+digit.Int64()) + text
	}
	if num < 0 {
		text = l.Minus + text
	}
	return text
}

func isNumberText(t *testing.T, l impl.Locale, num int64, places int64, want string) {
	t.Helper()
	if got := impl.NumberText(l, num, places); got != want {
		t.Errorf("NumberText %d/%d by %s: got %+q, want %+q", num, places, localeWritten(l), got, want)
	}
	if got := numberPlainly(l, num, places); got != want {
		t.Errorf("the plain text of %d/%d by %s: %+q, want %+q", num, places, localeWritten(l), got, want)
	}
}

func groupingLocale(sizes string) impl.Locale {
	return impl.Locale{Name: "a", Point: ".", Comma: ",", Minus: "-", Sizes: numbersOf(sizes)}
}

func TestNumbersByHand(t *testing.T) {
	for _, row := range []struct {
		sizes  string
		num    int64
		places int64
		want   string
	}{
		{"3", 0, 0, "0"}, {"3", 7, 0, "7"}, {"3", 999, 0, "999"}, {"3", 1000, 0, "1,000"}, {"3", 999999, 0, "999,999"}, {"3", 1000000, 0, "1,000,000"}, {"3", -1, 0, "-1"}, {"3", -1000, 0, "-1,000"},
		{"3", 0, 1, "0.0"}, {"3", 0, 9, "0.000000000"}, {"3", 5, 1, "0.5"}, {"3", 5, 2, "0.05"}, {"3", 5, 9, "0.000000005"}, {"3", -5, 2, "-0.05"}, {"3", 50, 1, "5.0"}, {"3", 55, 1, "5.5"}, {"3", 1234567, 2, "12,345.67"}, {"3", -1234567, 2, "-12,345.67"}, {"3", 123456789, 9, "0.123456789"}, {"3", 1234567890, 9, "1.234567890"}, {"3", 100, 2, "1.00"},
		{"3 2", 1234567890, 0, "1,23,45,67,890"}, {"3 2", 12345, 0, "12,345"}, {"3 2", 123456, 0, "1,23,456"}, {"1 2 3", 1234567890, 0, "1,234,567,89,0"}, {"3 2 1", 1234567890, 0, "1,2,3,4,5,67,890"}, {"1", 123, 0, "1,2,3"}, {"9", 1234567890, 0, "1,234567890"}, {"9", 123456789, 0, "123456789"}, {"4", 123456789, 0, "1,2345,6789"}, {"9 1", 123456789012, 0, "1,2,3,456789012"},
		{"", 1234567, 0, "1234567"}, {"", -1234567, 3, "-1234.567"}, {"1", 12345, 3, "1,2.345"}, {"1", 5, 3, "0.005"},
		{"3", math.MaxInt64, 0, "9,223,372,036,854,775,807"}, {"3", math.MinInt64, 0, "-9,223,372,036,854,775,808"}, {"3", math.MinInt64, 9, "-9,223,372,036.854775808"}, {"3", math.MaxInt64, 9, "9,223,372,036.854775807"}, {"3 2", math.MinInt64, 1, "-9,22,33,72,03,68,54,77,580.8"},
	} {
		isNumberText(t, groupingLocale(row.sizes), row.num, row.places, row.want)
	}
	signs := impl.Locale{Name: "a", Point: "pt", Comma: "\u6000x", Minus: "(-)", Sizes: []int64{2}}
	isNumberText(t, signs, -12345, 1, "(-)12\u6000x34pt5")
	isNumberText(t, impl.Locale{Name: "a", Sizes: []int64{2}}, -12345, 1, "12345")
	isNumberText(t, impl.Locale{Name: "a", Comma: ","}, -12345, 1, "12345")
	isNumberText(t, impl.Locale{Name: "a", Minus: "-"}, -12345, 9, "-0000012345")
	isNumberText(t, impl.Locale{Name: "a", Point: "."}, -12345, 2, "123.45")
	isNumberText(t, impl.Locale{Name: "a", Comma: "-", Minus: "-", Sizes: []int64{1}}, -12, 0, "-1-2")
	for system, first := range plainSystems {
		l := groupingLocale("3")
		l.System = int64(system)
		var digits []string
		for digit := range int64(10) {
			digits = append(digits, textWritten(first+digit))
		}
		isNumberText(t, l, -1234567890, 2, "-"+digits[1]+digits[2]+","+digits[3]+digits[4]+digits[5]+","+digits[6]+digits[7]+digits[8]+"."+digits[9]+digits[0])
	}
}

func TestNumbersOfAllPlaces(t *testing.T) {
	for _, sizes := range []string{"", "1", "3", "3 2", "2 3 1", "9 9 9"} {
		l := groupingLocale(sizes)
		for _, num := range []int64{0, 1, 9, 10, 12, 99, 100, 123, 1000, 12345, 99999, 1234567, 99999999, 123456789, 999999999, 1234567890, 1e18, math.MaxInt64, math.MinInt64, -1, -10, -12345, -1e18} {
			for places := range int64(10) {
				isNumberText(t, l, num, places, numberPlainly(l, num, places))
			}
		}
	}
}

// isRead asks for the same of each system that the digits are in, and of mixed ones.
func isRead(t *testing.T, l impl.Locale, text string, want impl.NumberRead) {
	t.Helper()
	for system := range int64(8) {
		given := inSystemPlainly(text, func(at int) int64 {
			if system == 7 {
				return int64(at*3+1) % 7
			}
			return system
		})
		if got := impl.ReadNumber(l, given); got != want {
			t.Errorf("ReadNumber of %+.200q by %s: got %v, want %v", given, localeWritten(l), got, want)
		}
	}
	if got := impl.ReadNumber(l, text); got != want {
		t.Errorf("ReadNumber of %+.200q by %s: got %v, want %v", text, localeWritten(l), got, want)
	}
}

// inSystemPlainly writes each of the digits 0 to 9 of a text in the system that is told for its place.
func inSystemPlainly(text string, system func(at int) int64) string {
	told := ""
	for at := range len(text) {
		if text[at] >= '0' && text[at] <= '9' {
			told += textWritten(plainSystems[system(at)] + int64(text[at]-'0'))
		} else {
			told += text[at : at+1]
		}
	}
	return told
}

func TestReadsByHand(t *testing.T) {
	none := impl.NumberRead{Code: impl.ErrSyntax}
	number := func(num int64, places int64) impl.NumberRead { return impl.NumberRead{Num: num, Places: places} }
	for text, want := range map[string]impl.NumberRead{
		"0": number(0, 0), "7": number(7, 0), "-7": number(-7, 0), "999": number(999, 0), "1,000": number(1000, 0), "-12,345.67": number(-1234567, 2), "0.5": number(5, 1), "-0.5": number(-5, 1), "0.0": number(0, 1), "0.000000000": number(0, 9), "1.234567890": number(1234567890, 9), "0.50": number(50, 2),
		"": none, "-": none, ".": none, ",": none, "-0": none, "-0.0": none, "-0.00": none, "00": none, "01": none, "007": none, "00.5": none, "-00.5": none, "0,000": none, "0,123": none, "+1": none, "--1": none, "1-": none, "1-2": none, "-.5": none, ".5": none, "5.": none, "-5.": none, "1.2.3": none, "1..2": none, "0.0000000000": none, "1.2345678901": none,
		"1000": none, "12345": none, "1,00": none, "1,0000": none, "10,00": none, ",100": none, "100,": none, "1,,000": none, "1,000,": none, ",1,000": none, "1,000000": none, "1000,000": none, "1,2": none, "1.000,5": none, "1,000.5": number(10005, 1), "1.5,000": none, "0.123,456": none, "1,000.000": number(1000000, 3),
		" 1": none, "1 ": none, "1 000": none, "1a": none, "a": none, "0x1": none, "1e3": none, "\xff1": none, "1\xff": none, "1\xe6\x80": none, "\u22121": none, "1\u1000": none,
		"1,000,000,000,000,000,000": number(1e18, 0), "-1,000,000,000,000,000,000": number(-1e18, 0), "1,000,000,000,000,000,001": none, "-1,000,000,000,000,000,001": none, "999,999,999,999,999,999": number(999999999999999999, 0), "1,000,000,000.000000000": number(1e18, 9), "1,000,000,000.000000001": none, "-1,000,000,000.000000001": none, "999,999,999.999999999": number(999999999999999999, 9), "100,000,000,000,000,000.0": number(1e18, 1),
		"9,223,372,036,854,775,807": none, "9,223,372,036,854,775,808": none, "-9,223,372,036,854,775,808": none, "18,446,744,073,709,551,616": none, "18,446,744,073,709,551,617": none, "10,000,000,000,000,000,000": none, "9,999,999,999,999,999,999": none, "0,000,000,000,000,000,000,000": none, "340,282,366,920,938,463,463,374,607,431,768,211,457": none,
	} {
		isRead(t, groupingLocale("3"), text, want)
	}
	if got := impl.ReadNumber(groupingLocale("3"), "\u6251"); got != none {
		t.Errorf("an ideograph: %v", got)
	}
}

func TestReadsOfEachLocaleSystem(t *testing.T) {
	for system := range int64(7) {
		l := groupingLocale("3 2")
		l.System = system
		isRead(t, l, "-1,23,45,678.90", impl.NumberRead{Num: -1234567890, Places: 2})
		isRead(t, l, "12,34,5678.90", impl.NumberRead{Code: impl.ErrSyntax})
	}
}

// TestReadsOfSeveral: of several readings the one of the fewest Places, then the one that is not below 0.
func TestReadsOfSeveral(t *testing.T) {
	none := impl.NumberRead{Code: impl.ErrSyntax}
	number := func(num int64, places int64) impl.NumberRead { return impl.NumberRead{Num: num, Places: places} }
	for _, row := range []struct {
		l    impl.Locale
		text string
		want impl.NumberRead
	}{
		// Without a Point.
		{impl.Locale{Minus: "-"}, "15", number(15, 0)}, {impl.Locale{Minus: "-"}, "05", number(5, 1)}, {impl.Locale{Minus: "-"}, "-05", number(-5, 1)}, {impl.Locale{Minus: "-"}, "015", number(15, 2)}, {impl.Locale{Minus: "-"}, "00", number(0, 1)}, {impl.Locale{Minus: "-"}, "-00", none}, {impl.Locale{Minus: "-"}, "-0", none},
		{impl.Locale{Minus: "-"}, "0000000000", number(0, 9)}, {impl.Locale{Minus: "-"}, "00000000000", none}, {impl.Locale{Minus: "-"}, "0000000005", number(5, 9)}, {impl.Locale{Minus: "-"}, "00000000005", none}, {impl.Locale{Minus: "-"}, "0123456789", number(123456789, 9)}, {impl.Locale{Minus: "-"}, "01234567890", none},
		{impl.Locale{Minus: "-"}, "1000000000000000000", number(1e18, 0)}, {impl.Locale{Minus: "-"}, "1000000000000000001", none}, {impl.Locale{Minus: "-"}, "9999999999999999999", none}, {impl.Locale{Minus: "-"}, "18446744073709551621", none},
		{impl.Locale{Minus: "-", Comma: ",", Sizes: []int64{3}}, "1,234", number(1234, 0)}, {impl.Locale{Minus: "-", Comma: ",", Sizes: []int64{3}}, "1234", number(1234, 1)}, {impl.Locale{Minus: "-", Comma: ",", Sizes: []int64{3}}, "1,2345", number(12345, 1)}, {impl.Locale{Minus: "-", Comma: ",", Sizes: []int64{3}}, "-1,23456", number(-123456, 2)}, {impl.Locale{Minus: "-", Comma: ",", Sizes: []int64{1}}, "1,23", number(123, 1)}, {impl.Locale{Minus: "-", Comma: ",", Sizes: []int64{1}}, "123", number(123, 2)},
		// Without a Minus.
		{impl.Locale{Point: "."}, "15", number(15, 0)}, {impl.Locale{Point: "."}, "-15", none}, {impl.Locale{Point: "."}, "1.5", number(15, 1)}, {impl.Locale{Point: "."}, "0.0", number(0, 1)}, {impl.Locale{Point: "."}, "05", none},
		// Without both.
		{impl.Locale{}, "15", number(15, 0)}, {impl.Locale{}, "05", number(5, 1)}, {impl.Locale{}, "0", number(0, 0)}, {impl.Locale{}, "00", number(0, 1)}, {impl.Locale{}, "", none}, {impl.Locale{}, "1.5", none},
		// Signs that are alike.
		{impl.Locale{Minus: "-", Comma: "-", Sizes: []int64{1}}, "1-2", number(12, 0)}, {impl.Locale{Minus: "-", Comma: "-", Sizes: []int64{1}}, "-1-2", number(-12, 0)}, {impl.Locale{Minus: "-", Comma: "-", Sizes: []int64{1}}, "--1-2", none},
		{impl.Locale{Comma: "-", Minus: "", Point: ".", Sizes: []int64{1}}, "1-2", number(12, 0)}, {impl.Locale{Comma: "-", Sizes: []int64{1}}, "-1", none},
	} {
		row.l.Name = "a"
		isRead(t, row.l, row.text, row.want)
	}
}

// TestReadsOfBrokenBytes: bytes that are no point's are not the point Broken that is written.
func TestReadsOfBrokenBytes(t *testing.T) {
	l := impl.Locale{Name: "a", Point: "\uFFFD", Minus: "-"}
	isNumberText(t, l, 15, 1, "1\uFFFD5")
	isRead(t, l, "1\uFFFD5", impl.NumberRead{Num: 15, Places: 1})
	for _, text := range []string{"1\xff5", "1\xef\xbf5", "1\xed\xa0\x805", "1\uFFFD\xff5", "\xff1\uFFFD5", "1\uFFFD5\xc9"} {
		isRead(t, l, text, impl.NumberRead{Code: impl.ErrSyntax})
	}
	if got := impl.ReadNumber(groupingLocale("3"), "\xc9\xe6\x89"); got.Code != impl.ErrSyntax {
		t.Errorf("broken digits: %v", got)
	}
}

// TestAllShortReads holds ReadNumber against all numbers of the digits 0 to 2 that the plain text writes.
func TestAllShortReads(t *testing.T) {
	var numbers []int64
	for count := 1; count <= 6; count++ {
		eachCutRow([]int64{'0', '1', '2'}, count, func(text string) {
			if number := numbersOf(text)[0]; strconv.FormatInt(number, 10) == text {
				numbers = append(numbers, number)
			}
		})
	}
	for _, l := range []impl.Locale{groupingLocale("2"), groupingLocale("1 2"), groupingLocale(""), {Point: ".", Comma: ",", Sizes: []int64{1}}, {Minus: "-", Comma: ",", Sizes: []int64{2}}, {Comma: ",", Sizes: []int64{3}}, {Minus: "-", Comma: "-", Point: ".", Sizes: []int64{1, 2}}, {Minus: ",", Comma: ",,", Sizes: []int64{1}}, {Minus: ",.", Comma: ",", Sizes: []int64{2}}} {
		l.Name = "a"
		written := map[string]impl.NumberRead{}
		for places := range int64(6) {
			for _, sign := range []int64{1, -1} {
				for _, number := range numbers {
					if text := numberPlainly(l, sign*number, places); written[text] == (impl.NumberRead{}) && text != "0" {
						written[text] = impl.NumberRead{Num: sign * number, Places: places}
					}
				}
			}
		}
		for count := range 7 {
			eachCutRow([]int64{'0', '1', '2', '.', ',', '-'}, count, func(text string) {
				want, some := written[text]
				if !some && text != "0" {
					want = impl.NumberRead{Code: impl.ErrSyntax}
				}
				if got := impl.ReadNumber(l, text); got != want {
					t.Errorf("ReadNumber of %q by %s: got %v, want %v", text, localeWritten(l), got, want)
				}
			})
		}
	}
}

// TestNumbersComeBack asks P41: what was written is read as a number of the same text.
func TestNumbersComeBack(t *testing.T) {
	r := rand.New(rand.NewSource(174))
	for range 20000 {
		l := randomLocale(r)
		l.System = max(l.System, 0)
		num, places := r.Int63n(1e18+1)>>r.Intn(60), int64(r.Intn(10))
		if r.Intn(2) == 0 {
			num = -num
		}
		if r.Intn(50) == 0 {
			num = []int64{1e18, -1e18, 0, 1, -1}[r.Intn(5)]
		}
		text := numberPlainly(l, num, places)
		isNumberText(t, l, num, places, text)
		got := impl.ReadNumber(l, text)
		if got.Code != impl.OK || numberPlainly(l, got.Num, got.Places) != text || got.Places > places || got.Places == places && got.Num < num || got.Num < -1e18 || got.Num > 1e18 {
			t.Errorf("%d/%d by %s was written as %+q and read as %v", num, places, localeWritten(l), text, got)
		}
		if l.Point != "" && l.Minus != "" && got != (impl.NumberRead{Num: num, Places: places}) {
			t.Errorf("%d/%d by %s was written as %+q and read as %v", num, places, localeWritten(l), text, got)
		}
		other := impl.ReadNumber(l, cutBytes(r, text))
		if other.Code != impl.OK && other != (impl.NumberRead{Code: impl.ErrSyntax}) {
			t.Errorf("cut: %v", other)
		}
	}
}

func TestReadFaults(t *testing.T) {
	right, wrong, open := groupingLocale("3"), groupingLocale("3"), groupingLocale("3")
	wrong.Name, open.System = "", -1
	long := strings.Repeat("1", 65537)
	for _, row := range []struct {
		name string
		l    impl.Locale
		text string
		want int64
	}{
		{"a text of 65536 bytes", right, long[1:], impl.ErrSyntax}, {"one of 65537", right, long, impl.ErrSize}, {"65536 noughts", right, strings.Repeat("0", 65536), impl.ErrSyntax}, {"no digits", right, strings.Repeat("x", 65536), impl.ErrSyntax}, {"a digit among many", right, strings.Repeat("x", 65535) + "1", impl.ErrSyntax},
		{"a wrong locale", wrong, "1", impl.ErrForm}, {"an open one", open, "1", impl.ErrForm}, {"a wrong locale and text", wrong, "x", impl.ErrForm}, {"a wrong locale and a long text", wrong, long, impl.ErrSize}, {"an open one and a long text", open, long, impl.ErrSize}, {"a wrong locale and a text that is not too long", wrong, long[1:], impl.ErrForm},
	} {
		if got := impl.ReadNumber(row.l, row.text); got != (impl.NumberRead{Code: row.want}) {
			t.Errorf("%s: got %v, want the code %d", row.name, got, row.want)
		}
	}
}

// listPlainly puts both at once in place of the marks.
func listPlainly(l impl.Locale, items []string) string {
	put := func(frame string, a string, b string) string {
		return strings.NewReplacer("{0}", a, "{1}", b).Replace(frame)
	}
	switch len(items) {
	case 0:
		return ""
	case 1:
		return items[0]
	case 2:
		return put(l.Two, items[0], items[1])
	}
	list := put(l.Start, items[0], items[1])
	for _, item := range items[2 : len(items)-1] {
		list = put(l.Middle, list, item)
	}
	return put(l.End, list, items[len(items)-1])
}

func isList(t *testing.T, l impl.Locale, items []string, want string) {
	t.Helper()
	if got := impl.ListText(l, items); got != want {
		t.Errorf("ListText of %d items, %.200q: got %d bytes, %.200q, want %d, %.200q", len(items), items, len(got), got, len(want), want)
	}
}

func TestListsByHand(t *testing.T) {
	l := fullLocale()
	for row, want := range map[string]string{
		"": "", "x": "x", "x y": "x & y", "x y z": "<x; y and z>", "w x y z": "(<w; x: y) and z>", "v w x y z": "((<v; w: x): y) and z>",
		"{0}": "{0}", "{1}": "{1}", "{1} {0}": "{1} & {0}", "{0} {1}": "{0} & {1}", "{1} {0} {1}": "<{1}; {0} and {1}>", "{1} {0}{1} {0} {1}": "(<{1}; {0}{1}: {0}) and {1}>", "a{1}b c{0}d": "a{1}b & c{0}d",
	} {
		items := strings.Fields(row)
		isList(t, l, items, want)
		isText(t, "the plain list", row, listPlainly(l, items), want)
	}
	isList(t, l, nil, "")
	isList(t, l, []string{""}, "")
	isList(t, l, []string{"", ""}, " & ")
	isList(t, l, []string{"", "", "", ""}, "(<; : ) and >")
	isList(t, l, []string{"\xff", "\xe6\x80"}, "\xff & \xe6\x80")
}

// TestListsOfEmptyFrames: an empty frame has no place for what is put into it.
func TestListsOfEmptyFrames(t *testing.T) {
	for _, row := range []struct{ two, start, middle, end, items, want string }{
		{"", "{0}s{1}", "{0}m{1}", "{0}e{1}", "x y", ""}, {"", "{0}s{1}", "{0}m{1}", "{0}e{1}", "x y z", "xsyez"}, {"{0}t{1}", "", "{0}m{1}", "{0}e{1}", "x y", "xty"}, {"{0}t{1}", "", "{0}m{1}", "{0}e{1}", "x y z", "ez"}, {"{0}t{1}", "", "{0}m{1}", "{0}e{1}", "w x y z", "myez"},
		{"{0}t{1}", "{0}s{1}", "", "{0}e{1}", "x y z", "xsyez"}, {"{0}t{1}", "{0}s{1}", "", "{0}e{1}", "w x y z", "ez"}, {"{0}t{1}", "{0}s{1}", "", "<{0}e{1}>", "v w x y z", "<ez>"}, {"{0}t{1}", "{0}s{1}", "{0}m{1}", "", "x y z", ""}, {"{0}t{1}", "{0}s{1}", "{0}m{1}", "", "x y", "xty"}, {"{0}t{1}", "{0}s{1}", "{0}m{1}", "", "v w x y z", ""}, {"", "", "", "", "x", "x"}, {"", "", "", "", "x y", ""}, {"", "", "", "", "x y z", ""},
		{"", "s{0}{1}", "m{0}{1}", "e{0}{1}", "w x y z", "emswxyz"}, {"", "s{0}{1}", "m{0}{1}", "e{0}{1}", "u v w x y z", "emmmsuvwxyz"},
	} {
		l := impl.Locale{Name: "a", Two: row.two, Start: row.start, Middle: row.middle, End: row.end}
		isList(t, l, strings.Fields(row.items), row.want)
		isText(t, "the plain list", row.items, listPlainly(l, strings.Fields(row.items)), row.want)
	}
}

func TestRandomLists(t *testing.T) {
	r := rand.New(rand.NewSource(175))
	texts := []string{"", "a", "b", "{0}", "{1}", "{0}{1}", "\u6000", "\xff", "{", "0}", "long text"}
	for range 10000 {
		l := randomLocale(r)
		l.System = max(l.System, 0)
		var items []string
		for range r.Intn(8) {
			items = append(items, texts[r.Intn(len(texts))])
		}
		isList(t, l, items, listPlainly(l, items))
	}
}

func TestListSizes(t *testing.T) {
	l := impl.Locale{Name: "a", Two: "{0}, {1}", Start: "<{0}{1}", Middle: "{0}|{1}", End: "{0}; {1}"}
	items := slices.Repeat([]string{"x"}, 1001)
	isList(t, l, items[:1000], listPlainly(l, items[:1000]))
	isList(t, l, items[:999], listPlainly(l, items[:999]))
	isList(t, l, items, "")
	isList(t, l, make([]string, 1000), "<"+strings.Repeat("|", 997)+"; ")
	isList(t, l, make([]string, 1001), "")
	long := func(count int) string { return strings.Repeat("x", count) }
	isList(t, l, []string{long(65536)}, long(65536))
	isList(t, l, []string{long(65537)}, "")
	isList(t, l, []string{long(65533), "y"}, long(65533)+", y")
	isList(t, l, []string{long(65534), "y"}, "")
	isList(t, l, []string{"y", long(65534)}, "")
	isList(t, l, []string{long(32767), long(32767)}, long(32767)+", "+long(32767))
	isList(t, l, []string{long(32767), long(32768)}, "")
	isList(t, l, []string{long(65531), "y", "z"}, "<"+long(65531)+"y; z")
	isList(t, l, []string{long(65532), "y", "z"}, "")
	isList(t, l, []string{"w", "y", long(65529), "z"}, "<wy|"+long(65529)+"; z")
	isList(t, l, []string{"w", "y", long(65530), "z"}, "")
	isList(t, l, slices.Repeat([]string{long(65536)}, 1000), "")
	// What a frame leaves out on the way has no bound.
	isList(t, impl.Locale{Name: "a", End: "{0}; {1}"}, []string{long(65536), long(65536), "z"}, "; z")
	isList(t, impl.Locale{Name: "a", Start: "{0}{1}", End: "{0}; {1}"}, []string{long(65536), long(65536), long(65536), "z"}, "; z")
	// Many long frames, whose answer is too long.
	frame := "{0}" + long(44) + "{1}"
	wide := impl.Locale{Name: "a", Start: frame, Middle: frame, End: frame}
	isList(t, wide, slices.Repeat([]string{long(21)}, 1000), listPlainly(wide, slices.Repeat([]string{long(21)}, 1000)))
	isList(t, wide, slices.Repeat([]string{long(22)}, 1000), "")
}

// plainDay walks from day 0 on, one day after the other.
type plainDay struct {
	day, year, month, inMonth, inWeek int64
}

func (d plainDay) next() plainDay {
	d.day++
	d.inWeek = d.inWeek%7 + 1
	if d.inMonth++; d.inMonth > 28 {
		d.inMonth = 1
		d.month++
	}
	if d.month > 13 {
		d.month = 1
		d.year++
	}
	return d
}

func (d plainDay) told(l impl.Locale) string {
	l.Sizes = nil
	month, inWeek := numberPlainly(l, d.month, 0), numberPlainly(l, d.inWeek, 0)
	if len(l.Months) > 0 {
		month = l.Months[d.month-1]
	}
	if len(l.Days) > 0 {
		inWeek = l.Days[d.inWeek-1]
	}
	told := ""
	for at := range len(l.Date) {
		switch sign := l.Date[at : at+1]; sign {
		case "y":
			told += numberPlainly(l, d.year, 0)
		case "n":
			told += numberPlainly(l, d.month, 0)
		case "m":
			told += month
		case "d":
			told += numberPlainly(l, d.inMonth, 0)
		case "w":
			told += inWeek
		default:
			told += sign
		}
	}
	return told
}

func isDate(t *testing.T, l impl.Locale, day int64, want string) {
	t.Helper()
	if got := impl.DateText(l, day); got != want {
		t.Errorf("DateText of %d by %+q: got %+q, want %+q", day, l.Date, got, want)
	}
}

func TestDatesByHand(t *testing.T) {
	l := impl.Locale{Name: "a", Comma: ",", Sizes: []int64{1}, Date: "w d.n.y"}
	for day, want := range map[int64]string{
		-1: "", 0: "1 1.1.1", 1: "2 2.1.1", 6: "7 7.1.1", 7: "1 8.1.1", 27: "7 28.1.1", 28: "1 1.2.1", 363: "7 28.13.1", 364: "1 1.1.2", 335: "7 28.12.1", 336: "1 1.13.1", 3640: "1 1.1.11", 364 * 999: "1 1.1.1000", 364*1000 - 1: "7 28.13.1000", 9999999: "3 24.7.27473", 10000000: "4 25.7.27473", 10000001: "", math.MaxInt64: "", math.MinInt64: "", -364: "",
	} {
		isDate(t, l, day, want)
	}
	full := fullLocale()
	full.System = 0
	for date, want := range map[string]string{
		"": "", "y": "3", "n": "2", "m": "mb", "d": "9", "w": "db", "yy": "33", "mm": "mbmb", "dd/nn": "99/22", "ww": "dbdb", "w, d. m (n) y": "db, 9. mb (2) 3", "year": "3ear", "Y N M D W": "Y N M D W", "abcefghijklopqrstuvxz": "abcefghijklopqrstuvxz", "\u6000y\u6001": "\u60003\u6001", "1y2": "132", "{0}d": "{0}9", "\u0279": "\u0279", "\u1F00m": "\u1F00mb", "y\x00d": "3\x009",
	} {
		full.Date = date
		isDate(t, full, 364*2+28+8, want)
	}
	full.Date = strings.Repeat("w", 50)
	isDate(t, full, 0, strings.Repeat("da", 50))
	full.Months[1], full.Days[1] = "{ndmwy}", strings.Repeat("y", 30)
	full.Date = "m w"
	isDate(t, full, 364*2+28+8, "{ndmwy} "+strings.Repeat("y", 30))
	full.Months = nil
	isDate(t, full, 364*2+28+8, "2 "+strings.Repeat("y", 30))
	full.Days = nil
	isDate(t, full, 364*2+28+8, "2 2")
	full.System = 6
	isDate(t, full, 364*2+28+8, "\u2722 \u2722")
}

func TestDatesDayByDay(t *testing.T) {
	r := rand.New(rand.NewSource(176))
	today := plainDay{year: 1, month: 1, inMonth: 1, inWeek: 1}
	whole := impl.Locale{Name: "a", Point: ".", Comma: "'", Sizes: []int64{1}, Date: "y/n/m/d/w"}
	for ; today.day <= 10000000; today = today.next() {
		if today.day < 1500 || today.day > 9999900 || r.Intn(3000) == 0 {
			l := randomLocale(r)
			l.System = max(l.System, 0)
			isDate(t, l, today.day, today.told(l))
			isDate(t, whole, today.day, today.told(whole))
		}
	}
	isDate(t, whole, today.day, "")
}

// TestLocalesAreNewMemory: what is handed in stays as it was, and no answer shares memory with it.
func TestLocalesAreNewMemory(t *testing.T) {
	cloned := func(l impl.Locale) impl.Locale {
		for _, text := range textsWithin(&l) {
			*text = strings.Clone(*text)
		}
		return l
	}
	l := fullLocale()
	l.Sizes, l.Plurals, l.Months, l.Days = spare(l.Sizes), spare(l.Plurals), spare(l.Months), spare(l.Days)
	l = cloned(l)
	all := spare([]impl.Locale{l})
	name, text, items := strings.Clone("a-b-c"), strings.Clone("1,23,456.5"), spare([]string{strings.Clone("one"), strings.Clone("two"), strings.Clone("three"), strings.Clone("four")})
	told := func() string {
		return fmt.Sprintf("%v %v %q %q %q %q %q %q", all[:cap(all)], l.Sizes[:cap(l.Sizes)], l.Plurals[:cap(l.Plurals)], l.Months[:cap(l.Months)], l.Days[:cap(l.Days)], name, text, items[:cap(items)])
	}
	given, first := told(), ""
	for range 3 {
		chain, locale := impl.ChainOf(all, name), impl.LocaleOf(all, name)
		answers := []string{impl.PluralOf(l, 2, 0), impl.PluralOf(l, 7, 0), impl.NumberText(l, -1234567, 2), impl.ListText(l, items), impl.ListText(l, items[:1]), impl.ListText(l, items[:2]), impl.DateText(l, 100)}
		again := fmt.Sprintf("%q %s %q %v %d %d %d", chain, localeWritten(locale), answers, impl.ReadNumber(l, text), impl.LocaleFault(l), impl.LocalesFault(all), impl.RuleFault(l.Plurals[0].When))
		if first == "" {
			first = again
		}
		if again != first {
			t.Errorf("asked again: %s, want %s", again, first)
		}
		mine := append([]string{name, text}, items...)
		for _, one := range textsWithin(&l) {
			mine = append(mine, *one)
		}
		isApart(t, "an answer", answers, mine...)
		isApart(t, "a chain", chain, mine...)
		var fields []string
		for _, one := range textsWithin(&locale) {
			fields = append(fields, *one)
		}
		isApart(t, "a locale", fields, mine...)
		clear(chain[:cap(chain)])
		clear(locale.Sizes[:cap(locale.Sizes)])
		clear(locale.Plurals[:cap(locale.Plurals)])
		clear(locale.Months[:cap(locale.Months)])
		clear(locale.Days[:cap(locale.Days)])
		if got := told(); got != given {
			t.Errorf("what was handed in is now %s, was %s", got, given)
		}
	}
}

func textsWithin(l *impl.Locale) []*string {
	texts := []*string{&l.Name, &l.Parent, &l.Point, &l.Comma, &l.Minus, &l.Two, &l.Start, &l.Middle, &l.End, &l.Date}
	for at := range l.Plurals {
		texts = append(texts, &l.Plurals[at].Name, &l.Plurals[at].When)
	}
	for at := range l.Months {
		texts = append(texts, &l.Months[at])
	}
	for at := range l.Days {
		texts = append(texts, &l.Days[at])
	}
	return texts
}
