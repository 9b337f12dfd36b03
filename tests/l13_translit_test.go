package tests

import (
	"fmt"
	"math"
	"math/rand"
	"regexp"
	"slices"
	"strings"
	"testing"
	"unicode/utf8"

	"loop.example/g00044/impl"
)

// passesFrom reads passes with semicolons between them: the Norm, a colon, and rules with blanks between
// them, each of Ahead, Input, Behind, Output and Again with slashes between them.
func passesFrom(row string) []impl.Pass {
	var passes []impl.Pass
	for _, piece := range strings.Split(row, ";") {
		norm, rules, found := strings.Cut(piece, ":")
		if !found {
			continue
		}
		pass := impl.Pass{Norm: numbersOf(norm)[0]}
		for _, rule := range strings.Split(rules, " ") {
			if rule == "" {
				continue
			}
			texts := strings.Split(rule, "/")
			pass.Rules = append(pass.Rules, impl.WriteRule{Ahead: texts[0], Input: texts[1], Behind: texts[2], Output: texts[3], Again: numbersOf(texts[4])[0]})
		}
		passes = append(passes, pass)
	}
	return passes
}

func passOf(rules ...impl.WriteRule) []impl.Pass {
	return []impl.Pass{{Rules: rules}}
}

func samePasses(a []impl.Pass, b []impl.Pass) bool {
	return slices.EqualFunc(a, b, func(a impl.Pass, b impl.Pass) bool { return a.Norm == b.Norm && slices.Equal(a.Rules, b.Rules) })
}

// fitsPlainly holds well-written texts against each other, in which bytes that are alike are points that are.
func fitsPlainly(rule impl.WriteRule, ahead string, behind string) bool {
	return strings.HasSuffix(ahead, rule.Ahead) && strings.HasPrefix(behind, rule.Input+rule.Behind)
}

func lastPoints(text string, count int64) int {
	bytes := 0
	for range count {
		_, size := utf8.DecodeLastRuneInString(text[:len(text)-bytes])
		bytes += size
	}
	return bytes
}

// passPlainly lays the text anew for each rule; whether it came to the end.
func passPlainly(pass impl.Pass, text string, steps *int64) (string, bool) {
	if pass.Norm != 0 {
		text = plainNormalText(pass.Norm, text)
		if len(text) > impl.MaxBytes {
			return "", false
		}
	}
	for cursor := 0; cursor < len(text); {
		at := slices.IndexFunc(pass.Rules, func(rule impl.WriteRule) bool { return fitsPlainly(rule, text[:cursor], text[cursor:]) })
		if at < 0 {
			_, size := utf8.DecodeRuneInString(text[cursor:])
			cursor += size
			continue
		}
		rule := pass.Rules[at]
		text = text[:cursor] + rule.Output + text[cursor+len(rule.Input):]
		cursor += len(rule.Output) - lastPoints(rule.Output, rule.Again)
		*steps++
		if *steps > impl.MaxSteps || len(text) > impl.MaxBytes {
			return "", false
		}
	}
	return text, true
}

// overPlainly takes right passes and a text that is not too long.
func overPlainly(passes []impl.Pass, text string) impl.Written {
	told := impl.Written{Text: textWritten(readPlainly(text)...)}
	for _, pass := range passes {
		next, ended := passPlainly(pass, told.Text, &told.Steps)
		if !ended {
			return impl.Written{Code: impl.ErrLimit}
		}
		told.Text = next
	}
	if len(told.Text) > impl.MaxBytes {
		return impl.Written{Code: impl.ErrSize}
	}
	return told
}

func shownPlainly(passes []impl.Pass) string {
	text := ""
	signs := strings.NewReplacer("[", `\[`, "]", `\]`, ">", `\>`, "|", `\|`, ":", `\:`, " ", `\ `, `\`, `\\`, "\n", `\n`)
	for _, pass := range passes {
		text += ":" + []string{"none", "D", "C", "KD", "KC"}[pass.Norm] + "\n"
		for _, rule := range pass.Rules {
			text += signs.Replace(rule.Ahead) + "[" + signs.Replace(rule.Input) + "]" + signs.Replace(rule.Behind) + " > " + signs.Replace(rule.Output)
			if rule.Again > 0 {
				text += " " + strings.Repeat("|", int(rule.Again))
			}
			text += "\n"
		}
	}
	return text
}

// lineOfRule has the rules of texts of passes as one pattern.
var lineOfRule = regexp.MustCompile(strings.ReplaceAll(`^(TEXT)\[(TEXT)\](TEXT) > (TEXT)(?: (\|+))?\n$`, "TEXT", `(?:[^][>|: \\\n]|\\[][>|: \\n])*`))

func readPassesPlainly(text string) impl.PassesRead {
	signs := strings.NewReplacer(`\\`, `\`, `\n`, "\n", `\`, "")
	var passes []impl.Pass
	for at, line := range strings.SplitAfter(text, "\n") {
		if line == "" {
			break
		}
		if norm := slices.Index([]string{":none\n", ":D\n", ":C\n", ":KD\n", ":KC\n"}, line); norm >= 0 {
			passes = append(passes, impl.Pass{Norm: int64(norm)})
			continue
		}
		pieces := lineOfRule.FindStringSubmatch(line)
		if pieces == nil || len(passes) == 0 {
			return impl.PassesRead{Code: impl.ErrSyntax, At: int64(at)}
		}
		for n := range pieces {
			pieces[n] = signs.Replace(pieces[n])
		}
		last := &passes[len(passes)-1]
		last.Rules = append(last.Rules, impl.WriteRule{Ahead: pieces[1], Input: pieces[2], Behind: pieces[3], Output: pieces[4], Again: int64(len(pieces[5]))})
	}
	if !areRightPlainly(passes) {
		return impl.PassesRead{Code: impl.ErrForm}
	}
	return impl.PassesRead{Passes: passes}
}

func areRightPlainly(passes []impl.Pass) bool {
	rules := 0
	for _, pass := range passes {
		for _, rule := range pass.Rules {
			rules++
			for _, text := range []string{rule.Ahead, rule.Input, rule.Behind, rule.Output} {
				if textWritten(readPlainly(text)...) != text || len(readPlainly(text)) > 20 {
					return false
				}
			}
			if rule.Input == "" || rule.Again < 0 || rule.Again > int64(len(readPlainly(rule.Output))) {
				return false
			}
		}
		if pass.Norm < 0 || pass.Norm > 4 {
			return false
		}
	}
	return rules <= 100 && len(passes) <= 10
}

func turnedPlainly(passes []impl.Pass) ([]impl.Pass, bool) {
	turned := make([]impl.Pass, len(passes))
	for at, pass := range passes {
		back := &turned[len(passes)-1-at]
		back.Norm = pass.Norm
		for _, rule := range pass.Rules {
			if rule.Output == "" {
				return nil, false
			}
			back.Rules = append(back.Rules, impl.WriteRule{Ahead: rule.Ahead, Input: rule.Output, Behind: rule.Behind, Output: rule.Input})
		}
	}
	return turned, true
}

func comesBackPlainly(passes []impl.Pass, text string) bool {
	turned, can := turnedPlainly(passes)
	if !can {
		return false
	}
	there := overPlainly(passes, text)
	back := overPlainly(turned, there.Text)
	return there.Code == impl.OK && back.Code == impl.OK && back.Text == text
}

func isOver(t *testing.T, passes []impl.Pass, text string, want impl.Written) {
	t.Helper()
	if got := impl.WriteOver(passes, text); got != want {
		if len(text) > 100 {
			t.Errorf("WriteOver of %d bytes by %d passes: got code %d, %d bytes, %d steps, want %d, %d, %d", len(text), len(passes), got.Code, len(got.Text), got.Steps, want.Code, len(want.Text), want.Steps)
			return
		}
		t.Errorf("WriteOver of %+q by %+v: got %+v, want %+v", text, passes, got, want)
	}
}

func arePasses(t *testing.T, what string, given any, got []impl.Pass, want []impl.Pass) {
	t.Helper()
	if !samePasses(got, want) {
		t.Errorf("%s of %+v: got %+v, want %+v", what, given, got, want)
	}
}

func isPassesRead(t *testing.T, text string, want impl.PassesRead) {
	t.Helper()
	got := impl.ReadPasses(text)
	if got.Code != want.Code || got.At != want.At || !samePasses(got.Passes, want.Passes) {
		t.Errorf("ReadPasses of %d bytes, %+.200q: got %+.200q, want %+.200q", len(text), text, fmt.Sprint(got), fmt.Sprint(want))
	}
}

func isBack(t *testing.T, passes []impl.Pass, text string, want bool) {
	t.Helper()
	if got := impl.ComesBack(passes, text); got != want {
		t.Errorf("ComesBack of %d bytes, %+.50q, by %+v: got %t", len(text), text, passes, got)
	}
}

// refusesPasses asks each call of passes that are not right.
func refusesPasses(t *testing.T, what string, passes []impl.Pass) {
	t.Helper()
	if got := impl.PassesFault(passes); got != impl.ErrForm {
		t.Errorf("%s: PassesFault tells %d", what, got)
	}
	code := int64(impl.ErrForm)
	if len(passes) > impl.MaxList {
		code = impl.ErrSize
	}
	for _, text := range []string{"", "a", "\xFF"} {
		if got := impl.WriteOver(passes, text); got != (impl.Written{Code: code}) {
			t.Errorf("%s: WriteOver tells %+v", what, got)
		}
		if impl.ComesBack(passes, text) {
			t.Errorf("%s: %+q comes back", what, text)
		}
	}
	if impl.ShowPasses(passes) != "" || len(impl.TurnedPasses(passes)) != 0 {
		t.Errorf("%s: passes are shown or turned", what)
	}
}

// rulesSpread has so many rules, one pass having as many as the next one or one more.
func rulesSpread(rules int, passes int) []impl.Pass {
	spread := make([]impl.Pass, passes)
	for n := range rules {
		pass := &spread[n%passes]
		pass.Rules = append(pass.Rules, impl.WriteRule{Input: "q", Output: "r"})
	}
	return spread
}

func rightPasses() map[string][]impl.Pass {
	widest := strings.Repeat("\U0010FFFF", 20)
	right := map[string][]impl.Pass{
		"nil": nil, "none": {}, "one without rules": {{}}, "10": make([]impl.Pass, 10),
		"100 rules in one": rulesSpread(100, 1), "100 rules in 7": rulesSpread(100, 7), "100 rules in 10": rulesSpread(100, 10),
		"100 rules in the last": append(make([]impl.Pass, 9), rulesSpread(100, 1)...), "100 rules in the first": append(rulesSpread(100, 1), make([]impl.Pass, 9)...),
		"widest texts":  passOf(impl.WriteRule{Ahead: widest, Input: widest, Behind: widest, Output: widest, Again: 20}),
		"Ahead of 20":   passOf(impl.WriteRule{Ahead: strings.Repeat("a", 20), Input: "a"}),
		"Input of 20":   passOf(impl.WriteRule{Input: strings.Repeat("\u1000", 20)}),
		"Behind of 20":  passOf(impl.WriteRule{Input: "a", Behind: strings.Repeat("\u0500", 20)}),
		"Output of 20":  passOf(impl.WriteRule{Input: "a", Output: strings.Repeat("\n", 20)}),
		"Again some":    passesFrom("0: /a//bcd/2"),
		"Again all":     passesFrom("0: /a//\U00010000\u1000/2"),
		"Again of none": passesFrom("0: /a///0"),
		"Broken itself": passesFrom("0: \uFFFD/\uFFFD/\uFFFD/\uFFFD/1"),
		"a zero byte":   passOf(impl.WriteRule{Input: "\x00", Output: "\x00"}),
	}
	for norm := range int64(5) {
		right[fmt.Sprint("Norm ", norm)] = []impl.Pass{{Norm: norm}}
	}
	return right
}

func wrongPasses() map[string][]impl.Pass {
	wrong := map[string][]impl.Pass{
		"11": make([]impl.Pass, 11), "1000": make([]impl.Pass, 1000), "1001": make([]impl.Pass, 1001), "5000": make([]impl.Pass, 5000),
		"101 rules in one": rulesSpread(101, 1), "101 rules in 7": rulesSpread(101, 7), "101 rules in 10": rulesSpread(101, 10), "2000 rules": rulesSpread(2000, 3),
		"one more in the last":  append(append(rulesSpread(100, 1), make([]impl.Pass, 8)...), rulesSpread(1, 1)...),
		"one more in the first": append(rulesSpread(1, 1), rulesSpread(100, 9)...),
		"Input empty":           passesFrom("0: a//b/c/0"),
		"Input empty, all else": passesFrom("0: ////0"),
		"Input empty, last":     passesFrom("0: /a//b/0; 0: /a//b/0 ///b/0"),
	}
	for _, norm := range []int64{-1, 5, 100, math.MinInt64, math.MaxInt64} {
		wrong[fmt.Sprint("Norm ", norm)] = []impl.Pass{{Norm: norm}}
		wrong[fmt.Sprint("Norm of the last ", norm)] = []impl.Pass{{}, {Norm: 4}, {Norm: norm}}
	}
	for _, again := range []int64{-1, 4, math.MinInt64, math.MaxInt64} {
		wrong[fmt.Sprint("Again ", again)] = passOf(impl.WriteRule{Input: "abcd", Output: "\u1000bc", Again: again})
	}
	wrong["Again of none"] = passesFrom("0: /a///1")
	for _, text := range []string{
		strings.Repeat("a", 21), strings.Repeat("\u0500", 21), strings.Repeat("\U0010FFFF", 21), strings.Repeat("a", 100), strings.Repeat("\u1000", 1<<20),
		"\xFF", "a\x80", "\xE2\x80", "\xC0\x80", "\xED\xA0\x80", "\xF4\x90\x80\x80", strings.Repeat("a", 19) + "\xC2",
	} {
		for at, rule := range []impl.WriteRule{{Ahead: text, Input: "a", Output: "b"}, {Input: text, Output: "b"}, {Input: "a", Behind: text, Output: "b"}, {Input: "a", Output: text}} {
			wrong[fmt.Sprintf("text %d is %d of %.30q", at, len(text), text)] = passOf(impl.WriteRule{Input: "a", Output: "b"}, rule)
		}
	}
	return wrong
}

func TestFaultsOfPasses(t *testing.T) {
	for what, passes := range rightPasses() {
		if got := impl.PassesFault(passes); got != impl.OK {
			t.Errorf("%s: PassesFault tells %d", what, got)
		}
		if !areRightPlainly(passes) {
			t.Errorf("%s: not right", what)
		}
		isOver(t, passes, "z", impl.Written{Text: "z"})
		if (impl.ShowPasses(passes) == "") != (len(passes) == 0) {
			t.Errorf("%s: shown as %q", what, impl.ShowPasses(passes))
		}
	}
	for what, passes := range wrongPasses() {
		refusesPasses(t, what, passes)
		if areRightPlainly(passes) {
			t.Errorf("%s: right", what)
		}
	}
}

func TestWrittenByHand(t *testing.T) {
	rows := []struct {
		passes string
		text   string
		want   string
		steps  int64
	}{
		// no passes, and passes without rules
		{"", "", "", 0}, {"", "a", "a", 0}, {"", "abc", "abc", 0}, {"0:", "abc", "abc", 0}, {"0:;0:;0:", "abc", "abc", 0}, {"0: /a//b/0", "", "", 0}, {"0: /a//b/0", "a", "b", 1}, {"0: /a//b/0", "c", "c", 0}, {"0: /a//b/0", "aXa", "bXb", 2},
		// each Norm, ahead of its pass alone
		{"0:", "\u2000\u2731A\u1000", "\u2000\u2731A\u1000", 0}, {"1:", "\u2000\u2731A\u1000", "A\u1000\u2731A\u1000", 0}, {"2:", "\u2000\u2731A\u1000", "\u2000\u2731\u2000", 0}, {"3:", "\u2000\u2731A\u1000", "A\u1000fiA\u1000", 0}, {"4:", "\u2000\u2731A\u1000", "\u2000fi\u2000", 0},
		{"1: /A//B/0", "\u2000", "B\u1000", 1}, {"0: /A//B/0", "\u2000", "\u2000", 0}, {"2: /A//B/0", "A\u1000", "\u2000", 0}, {"2: /A//B/0 /\u2000//C/0", "AA\u1000", "BC", 2}, {"3: /f//g/0", "\u2731f", "gig", 2}, {"4: /\u3000//x/0 /1//2/0", "\u0700\u0720\u2721", "x2", 2},
		{"2: /x//\u1000/0", "Ax", "A\u1000", 1}, {"0: /x//\u1000/0; 2:", "Ax", "\u2000", 1}, {"0: /x//\u1000/0; 2: /\u2000//z/0", "Ax", "z", 2}, {"1:; 2:", "\u2000", "\u2000", 0}, {"2:; 1:", "A\u1000", "A\u1000", 0}, {"1: /\u1000/\u1010//0", "A\u1000\u1010", "A\u1010\u1000", 0}, {"1: /\u1010/\u1000/x/0", "A\u1000\u1010", "Ax\u1000", 1},
		// the first rule that fits, not the longest one
		{"0: /a//x/0 /a//y/0", "aa", "xx", 2}, {"0: /a//x/0 /ab//y/0", "ab", "xb", 1}, {"0: /ab//y/0 /a//x/0", "aba", "yx", 2}, {"0: b/a//x/0 /a//y/0", "aba", "ybx", 2}, {"0: /a/b/x/0 /a//y/0", "aba", "xby", 2}, {"0: q/a//x/0 /a/q/y/0 /a//z/0", "qaqaaq", "qxqxyq", 3}, {"0: /b//x/0 /a//y/0", "ab", "yx", 2},
		// Ahead and Behind
		{"0: x/a//b/0", "a", "a", 0}, {"0: x/a//b/0", "xa", "xb", 1}, {"0: x/a//b/0", "xaa", "xba", 1}, {"0: xy/a//b/0", "ya", "ya", 0}, {"0: xy/a//b/0", "xyaxyya", "xybxyya", 1}, {"0: xa/a//b/0", "xaaa", "xaba", 1}, {"0: abc/d//e/0", "bcd", "bcd", 0}, {"0: abc/d//e/0", "abcd", "abce", 1},
		{"0: /a/x/b/0", "a", "a", 0}, {"0: /a/x/b/0", "ax", "bx", 1}, {"0: /a/x/b/0", "aax", "abx", 1}, {"0: /a/xy/b/0", "ax", "ax", 0}, {"0: /a/xy/b/0", "axyax", "bxyax", 1}, {"0: /a/a/b/0", "aaa", "bba", 2}, {"0: x/a/y/b/0", "xayxaaya", "xbyxaaya", 1}, {"0: x/a/x/b/0", "xaxaxax", "xbxbxbx", 3}, {"0: /a/bcd/e/0", "abcabcd", "abcebcd", 1},
		// Ahead and Behind that were written by a rule just done
		{"0: b/a//c/0 /a//b/0", "aaaa", "bcbc", 4}, {"0: x/a//x/0", "xaaa", "xxxx", 3}, {"0: xx/a//x/0", "xxaa", "xxxx", 2}, {"0: bc/a//d/0 /x//bc/0", "xaa", "bcda", 2}, {"0: x/x//y/0 /a//x/0", "axx", "xyx", 2}, {"0: a/b//x/0 /c//a/0", "cb", "ax", 2}, {"0: c/b//x/0 /c//a/0", "cb", "ab", 1}, {"0: /q//ab/1 /a/b/x/0", "aq", "aab", 1}, {"0: /q//ab/2 /a/b/x/0", "aq", "axb", 2}, {"0: /q//a/1 /a/b/x/0", "qb", "xb", 2}, {"0: /q//qb/1 q/b/b/x/0", "qb", "qxb", 2}, {"0: /q//bb/2 /b/b/x/0", "q", "xb", 2},
		// an Output that is empty, shorter, as long, longer
		{"0: /a///0", "a", "", 1}, {"0: /a///0", "aaa", "", 3}, {"0: /a///0", "banana", "bnn", 3}, {"0: /aa///0", "aaa", "a", 1}, {"0: /ab///0", "aabb", "ab", 1}, {"0: b/a///0", "baaab", "bb", 3}, {"0: /a/b//0", "aaab", "aab", 1}, {"0: /abc//x/0", "abcab", "xab", 1}, {"0: /abc//xyz/0", "abcabc", "xyzxyz", 2}, {"0: /a//xyz/0", "aba", "xyzbxyz", 2}, {"0: /a//aa/0", "aaa", "aaaaaa", 3}, {"0: /a//bbbbb/0", "aaca", "bbbbbbbbbbcbbbbb", 3},
		// Again 0, some and all of Output
		{"0: /a//bc/0 /c//d/0 /b//e/0", "a", "bc", 1}, {"0: /a//bc/1 /c//d/0 /b//e/0", "a", "bd", 2}, {"0: /a//bc/2 /c//d/0 /b//e/0", "a", "ed", 3}, {"0: /a//bcd/2 /cdx//y/0", "ax", "by", 2}, {"0: /a//bcd/3 /bcdx//y/0", "ax", "y", 2}, {"0: /ab//a/1", "abbb", "a", 3}, {"0: /ab//a/0", "abbb", "abb", 1}, {"0: /ab//ba/2", "aab", "aba", 1}, {"0: /ab//ba/1", "abbb", "bbba", 3}, {"0: /a//b/1 /b//c/1 /c//d/1", "aa", "dd", 6}, {"0: /x//\u1000\U00010000/1 /\U00010000//y/0", "x", "\u1000y", 2}, {"0: b/c//d/0 /a//bc/1", "a", "bd", 2}, {"0: b/c//d/0 /a//bc/0", "a", "bc", 1},
		// Steps over several passes, which go one after the other
		{"0: /a//b/0; 0: /b//c/0", "ab", "cc", 3}, {"0: /b//c/0; 0: /a//b/0", "ab", "bc", 2}, {"0: /a//b/0; 0: /b//c/0; 0: /c//a/0", "aaa", "aaa", 9}, {"0: /a//bb/0; 0: /bb//c/0; 0:; 0: /c///0", "aa", "", 6}, {"0: /a//bb/0; 0: /b//aaa/0; 0: /aaaa//c/0", "a", "caa", 4}, {"0: x/a//b/0; 0: /x///0; 0: x/b//a/0", "xa", "b", 2},
		// broken bytes are points
		{"", "\xFF", "\uFFFD", 0}, {"0:", "a\xE2\x80b", "a\uFFFD\uFFFDb", 0}, {"1:", "\xFF\u2000", "\uFFFDA\u1000", 0}, {"0: /\uFFFD//x/0", "\xFF\uFFFD\xE2\x80", "xxxx", 4}, {"0: \uFFFD/a/\uFFFD/b/0", "\xC2a\x80", "\uFFFDb\uFFFD", 1}, {"0: /\uFFFD\uFFFD//x/0", "\xE2\x80\x80\xE2\x80", "\u2000x", 1}, {"0: /a///0", "\xE2a\x80\x80", "\uFFFD\uFFFD\uFFFD", 1}, {"0: /a///0", "\xE2a\x80", "\uFFFD\uFFFD", 1}, {"0: /a//b/0", "\xFFa\xFF", "\uFFFDb\uFFFD", 1},
	}
	for _, row := range rows {
		want := impl.Written{Text: row.want, Steps: row.steps}
		isOver(t, passesFrom(row.passes), row.text, want)
		if got := overPlainly(passesFrom(row.passes), row.text); got != want {
			t.Errorf("plainly %+q by %s: got %+v, want %+v", row.text, row.passes, got, want)
		}
	}
}

// pointsApart are the first points, and others that are ever farther apart.
func pointsApart() []int64 {
	var points []int64
	for p := int64(0); p <= impl.MaxPoint; p += 1 + p/64 {
		if p < 0xD800 || p > 0xDFFF {
			points = append(points, p)
		}
	}
	return points
}

// TestWrittenOfOnePoint has points of all sizes as whole texts.
func TestWrittenOfOnePoint(t *testing.T) {
	for _, p := range pointsApart() {
		text := textWritten(p)
		isOver(t, nil, text, impl.Written{Text: text})
		isOver(t, passOf(impl.WriteRule{Input: text, Output: "ab"}), text, impl.Written{Text: "ab", Steps: 1})
		isOver(t, passOf(impl.WriteRule{Ahead: text, Input: text, Behind: text, Output: ""}), text+text+text, impl.Written{Text: text + text, Steps: 1})
		isBack(t, passOf(impl.WriteRule{Input: text, Output: "abc"}), text, true)
	}
}

// eachRule hands on all rules of short texts of two points.
func eachRule(look func(rule impl.WriteRule)) {
	for _, input := range []string{"a", "b", "aa", "ab", "bab"} {
		for _, ahead := range []string{"", "a", "b", "ab"} {
			for _, behind := range []string{"", "a", "b", "ba"} {
				for _, output := range []string{"", "a", "b", "ab", "bab"} {
					for again := range len(output) + 1 {
						look(impl.WriteRule{Ahead: ahead, Input: input, Behind: behind, Output: output, Again: int64(again)})
					}
				}
			}
		}
	}
}

func TestEachRule(t *testing.T) {
	var texts []string
	for length := range 5 {
		eachCutRow([]int64{'a', 'b'}, length, func(text string) { texts = append(texts, text) })
	}
	codes := map[int64]int{}
	eachRule(func(rule impl.WriteRule) {
		passes := passOf(rule)
		for _, text := range texts {
			// most of these have no end, of which a few are enough
			if rule.Again > 0 && strings.Contains(rule.Output, rule.Input) && len(text) > 2 {
				continue
			}
			want := overPlainly(passes, text)
			codes[want.Code]++
			isOver(t, passes, text, want)
		}
	})
	if codes[impl.OK] < 20000 || codes[impl.ErrLimit] < 50 {
		t.Errorf("the codes were %v", codes)
	}
}

func overAlphabet() []int64 {
	return []int64{'a', 'b', 'A', 0x1000, 0x1010, 0x2000, 0x2731, 0x10000, 0xFFFD}
}

func randomWriteRule(r *rand.Rand, alphabet []int64) impl.WriteRule {
	short := func(most int) string { return randomNormText(r, alphabet, most) }
	rule := impl.WriteRule{Input: writtenBytes(alphabet[r.Intn(len(alphabet))]) + short(1), Output: short(3)}
	if r.Intn(3) == 0 {
		rule.Ahead = short(2)
	}
	if r.Intn(3) == 0 {
		rule.Behind = short(2)
	}
	if r.Intn(10) == 0 {
		rule.Again = int64(r.Intn(1 + len(readPlainly(rule.Output))))
	}
	return rule
}

func randomPasses(r *rand.Rand, alphabet []int64) []impl.Pass {
	var passes []impl.Pass
	for range r.Intn(4) {
		pass := impl.Pass{Norm: max(0, int64(r.Intn(9)-4))}
		for range r.Intn(5) {
			pass.Rules = append(pass.Rules, randomWriteRule(r, alphabet))
		}
		passes = append(passes, pass)
	}
	return passes
}

// eachPasses hands on random passes and texts of the same points, some of them broken.
func eachPasses(seed int64, count int, look func(passes []impl.Pass, text string)) {
	r := rand.New(rand.NewSource(seed))
	for range count {
		alphabet := overAlphabet()[:2+r.Intn(len(overAlphabet())-1)]
		text := randomNormText(r, alphabet, 12)
		look(randomPasses(r, alphabet), text)
		look(randomPasses(r, alphabet), cutBytes(r, text))
	}
}

func TestWrittenByManyPasses(t *testing.T) {
	steps, codes := map[int64]int{}, map[int64]int{}
	eachPasses(130, 6000, func(passes []impl.Pass, text string) {
		want := overPlainly(passes, text)
		isOver(t, passes, text, want)
		steps[min(want.Steps, 5)]++
		codes[want.Code]++
	})
	if codes[impl.ErrLimit] < 20 || steps[0] < 1000 || steps[2] < 500 || steps[5] < 500 {
		t.Errorf("the codes were %v, the steps %v", codes, steps)
	}
}

// TestMostSteps has 20000 rules done, and one more, in one pass and in several.
func TestMostSteps(t *testing.T) {
	a := func(count int) string { return strings.Repeat("a", count) }
	limit := impl.Written{Code: impl.ErrLimit}
	one, two := passesFrom("0: /a//b/0"), passesFrom("0: /a//b/0; 0: /b//c/0")
	isOver(t, one, a(19999), impl.Written{Text: strings.Repeat("b", 19999), Steps: 19999})
	isOver(t, one, a(20000), impl.Written{Text: strings.Repeat("b", 20000), Steps: 20000})
	isOver(t, one, a(20000)+strings.Repeat("x", 45536), impl.Written{Text: strings.Repeat("b", 20000) + strings.Repeat("x", 45536), Steps: 20000})
	isOver(t, one, a(20001), limit)
	isOver(t, one, strings.Repeat("x", 45535)+a(20001), limit)
	isOver(t, passesFrom("0: /a///0"), a(20000), impl.Written{Steps: 20000})
	isOver(t, passesFrom("0: /a///0"), a(20001), limit)
	isOver(t, two, a(10000), impl.Written{Text: strings.Repeat("c", 10000), Steps: 20000})
	isOver(t, two, a(10000)+"b", limit)
	isOver(t, two, a(9999)+"bb", impl.Written{Text: strings.Repeat("c", 10001), Steps: 20000})
	isOver(t, two, a(10001), limit)
	isOver(t, append(one, passesFrom("0:; 1:; 0: /x//y/0")...), a(20000), impl.Written{Text: strings.Repeat("b", 20000), Steps: 20000})
	isOver(t, append(one, passesFrom("0: /x//y/0")...), a(20000)+"x", limit)
}

// TestRulesWithoutEnd are told to be so, whether the text grows, stays or changes to and fro.
func TestRulesWithoutEnd(t *testing.T) {
	rows := []string{"0: /a//a/1", "0: /a//b/1 /b//a/1", "0: /a//ab/2", "0: /a//aaaaaaaaaaaaaaaaaaaa/20", "0: /a//ba/1", "0: /a//bbbbbbbbba/1", "0: /a//b/0; 0: /b//bb/2", "0: /ba//a/1 /a//ba/2", "3: /a//\u1000a/1"}
	for _, row := range rows {
		isOver(t, passesFrom(row), "a", impl.Written{Code: impl.ErrLimit})
		isOver(t, passesFrom(row), "xxax", impl.Written{Code: impl.ErrLimit})
		isOver(t, passesFrom(row), "x", impl.Written{Text: "x"})
		isBack(t, passesFrom(row), "a", false)
	}
}

// TestMostBytes comes to 65536 bytes, and to one more, behind a rule and behind a Norm.
func TestMostBytes(t *testing.T) {
	x := func(count int) string { return strings.Repeat("x", count) }
	limit := impl.Written{Code: impl.ErrLimit}
	grow := passesFrom("0: /a//bb/0")
	isOver(t, grow, "a"+x(65534), impl.Written{Text: "bb" + x(65534), Steps: 1})
	isOver(t, grow, "a"+x(65535), limit)
	isOver(t, grow, x(65534)+"a", impl.Written{Text: x(65534) + "bb", Steps: 1})
	isOver(t, grow, x(65535)+"a", limit)
	isOver(t, grow, x(65536), impl.Written{Text: x(65536)})
	isOver(t, grow, "aa"+x(65532), impl.Written{Text: "bbbb" + x(65532), Steps: 2})
	isOver(t, grow, "aa"+x(65533), limit)
	// too long on the way counts, however short the text would become; one that is shorter first does not
	isOver(t, passesFrom("0: /a//bb/0 /x///0"), "a"+x(65535), limit)
	isOver(t, passesFrom("0: /a//bb/0; 0: /bb//a/0"), "a"+x(65535), limit)
	isOver(t, passesFrom("0: /ax//bbb/2 /bb//c/0"), "a"+x(65535), limit)
	isOver(t, passesFrom("0: /a//bb/0 /c///0"), "ca"+x(65534), impl.Written{Text: "bb" + x(65534), Steps: 2})
	isOver(t, passesFrom("0: /a//bb/0 /c///0"), "ac"+x(65534), limit)
	isOver(t, passesFrom("0: /a//\U00010000/0"), "a"+x(65532), impl.Written{Text: "\U00010000" + x(65532), Steps: 1})
	isOver(t, passesFrom("0: /a//\U00010000/0"), "a"+x(65533), limit)
	isOver(t, passesFrom("0: /\U00010000//\u1000/0"), "\U00010000"+x(65532), impl.Written{Text: "\u1000" + x(65532), Steps: 1})
	for _, form := range []int64{impl.NormD, impl.NormKD} {
		norm := []impl.Pass{{Norm: form}}
		isOver(t, norm, "\u2000"+x(65532), impl.Written{Text: "A\u1000" + x(65532)})
		isOver(t, norm, "\u2000"+x(65533), limit)
		isOver(t, append(passOf(), impl.Pass{Norm: form}), "\u2000"+x(65533), limit)
		isOver(t, []impl.Pass{{Norm: form}, {Norm: impl.NormC}}, "\u2000"+x(65533), limit)
		isOver(t, []impl.Pass{{Norm: form, Rules: []impl.WriteRule{{Input: "A"}}}}, "\u2000"+x(65533), limit)
		isOver(t, []impl.Pass{{Rules: []impl.WriteRule{{Input: "x"}}}, {Norm: form}}, "\u2000"+x(20000), impl.Written{Text: "A\u1000", Steps: 20000})
	}
	isOver(t, []impl.Pass{{Norm: impl.NormC}}, "A\u1000"+x(65532), impl.Written{Text: "\u2000" + x(65532)})
	isOver(t, []impl.Pass{{Norm: impl.NormC}}, strings.Repeat("\u2400", 21845), impl.Written{Text: strings.Repeat("\u2400", 21845)})
	isOver(t, []impl.Pass{{Norm: impl.NormD}}, strings.Repeat("\u2400", 21845), limit)
}

// TestSizesOfWritten has texts of 65536 bytes and of one more, and the order of the faults.
func TestSizesOfWritten(t *testing.T) {
	size := impl.Written{Code: impl.ErrSize}
	long := strings.Repeat("y", impl.MaxBytes)
	endless, wrong := passesFrom("0: /y//y/1"), passesFrom("5:")
	for _, passes := range [][]impl.Pass{nil, passesFrom("0: /a//b/0"), passesFrom("1:;2:;3:;4:")} {
		isOver(t, passes, long, impl.Written{Text: long})
		isOver(t, passes, long+"y", size)
		isBack(t, passes, long, true)
		isBack(t, passes, long+"y", false)
	}
	isOver(t, endless, long, impl.Written{Code: impl.ErrLimit})
	isOver(t, endless, long+"y", size)
	isOver(t, wrong, long, impl.Written{Code: impl.ErrForm})
	isOver(t, wrong, long+"y", size)
	isOver(t, append(endless, wrong...), "y", impl.Written{Code: impl.ErrForm})
	isOver(t, make([]impl.Pass, 1000), "y", impl.Written{Code: impl.ErrForm})
	isOver(t, make([]impl.Pass, 1001), "y", size)
	isOver(t, make([]impl.Pass, 1001), "", size)
	isOver(t, make([]impl.Pass, 1001), long+"y", size)
}

// TestBrokenTextsGrow has broken bytes, each of which is told in three.
func TestBrokenTextsGrow(t *testing.T) {
	broken := func(count int) string { return strings.Repeat("\xFF", count) }
	told := strings.Repeat("\uFFFD", 21845)
	rule := passesFrom("0: /a//b/0")
	for _, passes := range [][]impl.Pass{nil, rule, passesFrom("0:;0:")} {
		isOver(t, passes, broken(21845), impl.Written{Text: told})
		isOver(t, passes, broken(21845)+"x", impl.Written{Text: told + "x"})
		isOver(t, passes, broken(21845)+"xx", impl.Written{Code: impl.ErrSize})
		isOver(t, passes, broken(21846), impl.Written{Code: impl.ErrSize})
		isOver(t, passes, broken(65536), impl.Written{Code: impl.ErrSize})
		isOver(t, passes, broken(65537), impl.Written{Code: impl.ErrSize})
		isBack(t, passes, broken(21845), false)
		isBack(t, passes, broken(21846), false)
	}
	isOver(t, rule, broken(21845)+"a", impl.Written{Text: told + "b", Steps: 1})
	isOver(t, rule, broken(21845)+"ax", impl.Written{Code: impl.ErrLimit})
	isOver(t, passesFrom("0: /\uFFFD//x/0"), broken(21845), impl.Written{Code: impl.ErrLimit})
	isOver(t, passesFrom("0: /\uFFFD//x/0"), broken(20000), impl.Written{Text: strings.Repeat("x", 20000), Steps: 20000})
	isOver(t, passesFrom("0: /\uFFFD\uFFFD//x/0"), broken(21845), impl.Written{Text: strings.Repeat("x", 10922) + "\uFFFD", Steps: 10922})
	isOver(t, passesFrom("2:"), broken(21845), impl.Written{Text: told})
	isOver(t, passesFrom("2:"), broken(21846), impl.Written{Code: impl.ErrLimit})
}

// TestManyRulesOfLongTexts ends soon, though each rule fits nearly everywhere.
func TestManyRulesOfLongTexts(t *testing.T) {
	a := strings.Repeat("a", 20)
	passes := passOf(slices.Repeat([]impl.WriteRule{{Ahead: a, Input: a, Behind: a[:19] + "b", Output: "x"}}, impl.MaxRules)...)
	long := strings.Repeat("a", impl.MaxBytes)
	isOver(t, passes, long, impl.Written{Text: long})
	isOver(t, passes, long[1:]+"b", impl.Written{Text: long[40:] + "x" + a[:19] + "b", Steps: 1})
}

func TestShownPassesByHand(t *testing.T) {
	rows := []struct {
		passes string
		want   string
	}{
		{"", ""}, {"0:", ":none\n"}, {"1:", ":D\n"}, {"2:", ":C\n"}, {"3:", ":KD\n"}, {"4:", ":KC\n"}, {"0:;4:;1:", ":none\n:KC\n:D\n"},
		{"0: /a//b/0", ":none\n[a] > b\n"}, {"0: /a///0", ":none\n[a] > \n"}, {"0: x/a/y/b/0", ":none\nx[a]y > b\n"}, {"0: x/a//b/0", ":none\nx[a] > b\n"}, {"0: /a/y/b/0", ":none\n[a]y > b\n"}, {"0: xx/ab/yy/cd/0", ":none\nxx[ab]yy > cd\n"},
		{"1: x/a//b/1", ":D\nx[a] > b |\n"}, {"0: /a//bcd/3", ":none\n[a] > bcd |||\n"}, {"0: /a//bcd/2", ":none\n[a] > bcd ||\n"}, {"0: /a//b/0 /c//d/1", ":none\n[a] > b\n[c] > d |\n"}, {"2: /a//b/0; 3: /c//d/0 /e//f/0; 0:", ":C\n[a] > b\n:KD\n[c] > d\n[e] > f\n:none\n"},
		{"0: \u1000/\u0500/\U00010000/\uFFFD/1", ":none\n\u1000[\u0500]\U00010000 > \uFFFD |\n"}, {"0: n/n/n/nn/0", ":none\nn[n]n > nn\n"}, {"0: -/(/</{/1", ":none\n-[(]< > { |\n"},
	}
	for _, row := range rows {
		passes := passesFrom(row.passes)
		isText(t, "ShowPasses", row.passes, impl.ShowPasses(passes), row.want)
		isText(t, "plainly", row.passes, shownPlainly(passes), row.want)
		isPassesRead(t, row.want, impl.PassesRead{Passes: passes})
	}
}

// ruleWith has a text at one of the four places of a rule, where it is read as one that is right.
func ruleWith(place int, text string) impl.WriteRule {
	rule := impl.WriteRule{Input: "a", Output: "b"}
	*[]*string{&rule.Ahead, &rule.Input, &rule.Behind, &rule.Output}[place] = text
	return rule
}

// lineWith writes a text at one of the four places of the line of a rule.
func lineWith(place int, text string) string {
	texts := []string{"", "a", "", "b"}
	texts[place] = text
	return texts[0] + "[" + texts[1] + "]" + texts[2] + " > " + texts[3] + "\n"
}

// TestSignsInEachText has each sign alone and among letters, with a byte 92 ahead of it and without.
func TestSignsInEachText(t *testing.T) {
	syntax := impl.PassesRead{Code: impl.ErrSyntax, At: 1}
	for place := range 4 {
		for _, sign := range []string{"[", "]", ">", "|", ":", " ", `\`} {
			for _, beside := range [][2]string{{"", ""}, {"x", ""}, {"", "x"}, {"x", "y"}, {sign, ""}, {"n", "n"}} {
				passes := passOf(ruleWith(place, beside[0]+sign+beside[1]))
				hidden := beside[0] + `\` + sign + beside[1]
				if beside[0] == sign {
					hidden = `\` + sign + `\` + sign
				}
				want := ":none\n" + lineWith(place, hidden)
				isText(t, "ShowPasses", fmt.Sprint(passes), impl.ShowPasses(passes), want)
				isPassesRead(t, want, impl.PassesRead{Passes: passes})
				bare := ":none\n" + lineWith(place, beside[0]+sign+beside[1])
				if sign != `\` {
					isPassesRead(t, bare, syntax)
				}
				isPassesRead(t, bare, readPassesPlainly(bare))
			}
		}
		for _, wrong := range []string{`\a`, `x\y`, `\N`, `\-`, `\<`, `\(`, `\0`, `\r`, `\t`, "\\\x00", "\\\u1000", "\\\xFF", `\\\a`, `\\\`, `\n\`, `\`} {
			isPassesRead(t, ":none\n"+lineWith(place, wrong), syntax)
		}
		passes := passOf(ruleWith(place, "x\ny\n"))
		isText(t, "ShowPasses", "x\ny\n", impl.ShowPasses(passes), ":none\n"+lineWith(place, `x\ny\n`))
		isPassesRead(t, ":none\n"+lineWith(place, `x\ny\n`), impl.PassesRead{Passes: passes})
		isPassesRead(t, ":none\n"+lineWith(place, `x\\ny`), impl.PassesRead{Passes: passOf(ruleWith(place, `x\ny`))})
		bare := ":none\n" + lineWith(place, "x\ny")
		isPassesRead(t, bare, impl.PassesRead{Code: impl.ErrSyntax, At: int64(1 + place/3)})
		isPassesRead(t, ":none\n"+lineWith(place, "x\ry\t"), impl.PassesRead{Passes: passOf(ruleWith(place, "x\ry\t"))})
	}
}

func TestReadByHand(t *testing.T) {
	ok := func(row string) impl.PassesRead { return impl.PassesRead{Passes: passesFrom(row)} }
	wrong := func(at int64) impl.PassesRead { return impl.PassesRead{Code: impl.ErrSyntax, At: at} }
	form := impl.PassesRead{Code: impl.ErrForm}
	rows := []struct {
		text string
		want impl.PassesRead
	}{
		// lines, and their ends
		{"", ok("")}, {"\n", wrong(0)}, {":D\n\n", wrong(1)}, {"\n:D\n", wrong(0)}, {":D", wrong(0)}, {":D\n:C", wrong(1)}, {":D\n[a] > b", wrong(1)}, {":D\n[a] > b\n:none\n:KC", wrong(3)}, {"x", wrong(0)}, {":D\nx", wrong(1)}, {":D\n[a] > b\n\n", wrong(2)}, {":D\r\n", wrong(0)}, {":D\n\\", wrong(1)}, {":D\n ", wrong(1)},
		// a rule ahead of all passes
		{"[a] > b\n", wrong(0)}, {"[a] > b\n:D\n", wrong(0)}, {"[a] > b", wrong(0)}, {":D\n[a] > b\n", ok("1: /a//b/0")},
		// names of forms
		{":none\n", ok("0:")}, {":D\n", ok("1:")}, {":C\n", ok("2:")}, {":KD\n", ok("3:")}, {":KC\n", ok("4:")}, {":\n", wrong(0)}, {": D\n", wrong(0)}, {":D \n", wrong(0)}, {":d\n", wrong(0)}, {":None\n", wrong(0)}, {":non\n", wrong(0)}, {":nonee\n", wrong(0)}, {":K\n", wrong(0)}, {":DK\n", wrong(0)}, {":DC\n", wrong(0)}, {":kd\n", wrong(0)}, {"::D\n", wrong(0)}, {":0\n", wrong(0)}, {":1\n", wrong(0)}, {":D:C\n", wrong(0)}, {"D\n", wrong(0)}, {" :D\n", wrong(0)}, {"\\:D\n", wrong(0)}, {":D\n:[a] > b\n", wrong(1)}, {":D\n\\:[a] > b\n", impl.PassesRead{Passes: []impl.Pass{{Norm: 1, Rules: []impl.WriteRule{{Ahead: ":", Input: "a", Output: "b"}}}}}},
		// bars
		{":D\n[a] > bcd\n", ok("1: /a//bcd/0")}, {":D\n[a] > bcd |\n", ok("1: /a//bcd/1")}, {":D\n[a] > bcd ||\n", ok("1: /a//bcd/2")}, {":D\n[a] > bcd |||\n", ok("1: /a//bcd/3")}, {":D\n[a] > bcd ||||\n", form}, {":D\n[a] >  |\n", form}, {":D\n[a] > bcd | |\n", wrong(1)}, {":D\n[a] > bcd |x\n", wrong(1)}, {":D\n[a] > bcd| |\n", wrong(1)}, {":D\n[a] > bcd|\n", wrong(1)}, {":D\n[a] > bcd | \n", wrong(1)}, {":D\n[a] > |\n", wrong(1)}, {":D\n[a] | > b\n", wrong(1)},
		// blanks too many and too few
		{":D\n[a] > \n", ok("1: /a///0")}, {":D\n[a] >\n", wrong(1)}, {":D\n[a]>\n", wrong(1)}, {":D\n[a]> b\n", wrong(1)}, {":D\n[a] >b\n", wrong(1)}, {":D\n[a]>b\n", wrong(1)}, {":D\n[a]  > b\n", wrong(1)}, {":D\n[a] >  b\n", wrong(1)}, {":D\n[a] > b \n", wrong(1)}, {":D\n[a] >  \n", wrong(1)}, {":D\n[a] > b  |\n", wrong(1)}, {":D\n [a] > b\n", wrong(1)}, {":D\n[ a] > b\n", wrong(1)}, {":D\n[a ] > b\n", wrong(1)}, {":D\n[a]x  > b\n", wrong(1)}, {":D\n[a]\t>\tb\n", wrong(1)},
		// pieces that are not there, or too often
		{":D\n[a]\n", wrong(1)}, {":D\n[a\n", wrong(1)}, {":D\na] > b\n", wrong(1)}, {":D\na > b\n", wrong(1)}, {":D\n[a > b\n", wrong(1)}, {":D\n[a][b] > c\n", wrong(1)}, {":D\n[[a]] > b\n", wrong(1)}, {":D\n[a] > b > c\n", wrong(1)}, {":D\n[a] > [b]\n", wrong(1)}, {":D\n]a[ > b\n", wrong(1)}, {":D\n > \n", wrong(1)}, {":D\n[]\n", wrong(1)}, {":D\n#\n", wrong(1)},
		// At for the first, a middle and the last line that is none; the first of them is told
		{"x\n:D\n:C\n", wrong(0)}, {":D\nx\n:C\n", wrong(1)}, {":D\n:C\nx\n", wrong(2)}, {":D\nx\ny\n", wrong(1)}, {":D\nx\n:C", wrong(1)}, {":D\n[a] > b\n[a] > c\n[a] >d\n[a] > e\n", wrong(3)},
		// passes that can be read and are not right
		{":D\n[] > b\n", form}, {":D\n[] > \n", form}, {":D\nx[]y > b |\n", form}, {":D\n[\xFF] > b\n", form}, {":D\n[a] > \xE2\x80\n", form}, {":D\n\x80[a] > b\n", form}, {":D\n[a]\xC2 > b\n", form}, {":D\n[" + strings.Repeat("a", 20) + "] > b\n", ok("1: /" + strings.Repeat("a", 20) + "//b/0")}, {":D\n[" + strings.Repeat("a", 21) + "] > b\n", form}, {":D\n[a] > " + strings.Repeat("\\n", 21) + "\n", form}, {strings.Repeat(":D\n", 10), ok(strings.Repeat("1:;", 10))}, {strings.Repeat(":D\n", 11), form}, {":D\n" + strings.Repeat("[a] > b\n", 100), ok("1:" + strings.Repeat(" /a//b/0", 100))}, {":D\n" + strings.Repeat("[a] > b\n", 101), form}, {":D\n" + strings.Repeat("[a] > b\n", 50) + ":C\n" + strings.Repeat("[a] > b\n", 51), form},
		// what is no line is told ahead of that
		{":D\n[] > b\nx\n", wrong(2)}, {strings.Repeat(":D\n", 11) + "x\n", wrong(11)}, {":D\n[] > b\n:D", wrong(2)}, {":D\n[\xFF] > b\n[a]\n", wrong(2)},
	}
	for _, row := range rows {
		isPassesRead(t, row.text, row.want)
		isPassesRead(t, row.text, readPassesPlainly(row.text))
	}
}

// TestSizesOfPassesRead has texts of 65536 bytes and of one more.
func TestSizesOfPassesRead(t *testing.T) {
	form, size := impl.PassesRead{Code: impl.ErrForm}, impl.PassesRead{Code: impl.ErrSize}
	fill := func(text string, count int) string { return strings.Repeat(text, count) }
	isPassesRead(t, ":D\n[a] > "+fill("b", impl.MaxBytes-10)+"\n", form)
	isPassesRead(t, ":D\n[a] > "+fill("b", impl.MaxBytes-9)+"\n", size)
	isPassesRead(t, ":D\n[a] > b "+fill("|", impl.MaxBytes-12)+"\n", form)
	isPassesRead(t, fill(":D\n", 21842)+":none\n:KC\n", form)
	isPassesRead(t, fill(":D\n", 21842)+":none\n:KC\n\n", size)
	isPassesRead(t, fill(":D\n", 21845)+"x", impl.PassesRead{Code: impl.ErrSyntax, At: 21845})
	isPassesRead(t, fill(":D\n", 21845)+"xx", size)
	isPassesRead(t, fill("\n", impl.MaxBytes), impl.PassesRead{Code: impl.ErrSyntax})
	isPassesRead(t, fill("\n", impl.MaxBytes+1), size)
	isPassesRead(t, ":D\n"+fill("[a] > b\n", 8191)+":KC\n", impl.PassesRead{Code: impl.ErrForm})
	isPassesRead(t, ":D\n"+fill(`\\`, 32766)+"\n", impl.PassesRead{Code: impl.ErrSyntax, At: 1})
}

// TestLongestShown has as many bytes as right passes can come to, which are fewer than a text may have.
func TestLongestShown(t *testing.T) {
	wide := strings.Repeat("\U0010FFFF", 20)
	rule := impl.WriteRule{Ahead: wide, Input: wide, Behind: wide, Output: wide, Again: 20}
	passes := slices.Repeat(passOf(slices.Repeat([]impl.WriteRule{rule}, 10)...), 10)
	text := impl.ShowPasses(passes)
	if len(text) != 10*6+100*(4*80+5+21+1) {
		t.Errorf("the longest text has %d bytes", len(text))
	}
	isPassesRead(t, text, impl.PassesRead{Passes: passes})
	signs := strings.Repeat("\\", 20)
	passes = passOf(slices.Repeat([]impl.WriteRule{{Ahead: signs, Input: signs, Behind: signs, Output: signs, Again: 20}}, 100)...)
	isPassesRead(t, impl.ShowPasses(passes), impl.PassesRead{Passes: passes})
}

func signAlphabet() []int64 {
	return []int64{'[', ']', '>', '|', ':', ' ', '\\', '\n', 'n', 'D', 'a', 0x1000, 0xFFFD}
}

// TestPassesComeBackFromTheirText is the thirty-third promise.
func TestPassesComeBackFromTheirText(t *testing.T) {
	for _, passes := range rightPasses() {
		isPassesRead(t, impl.ShowPasses(passes), impl.PassesRead{Passes: passes})
	}
	r := rand.New(rand.NewSource(131))
	for range 20000 {
		passes := randomPasses(r, signAlphabet())
		text := impl.ShowPasses(passes)
		isText(t, "ShowPasses", fmt.Sprint(passes), text, shownPlainly(passes))
		isPassesRead(t, text, impl.PassesRead{Passes: passes})
	}
	for _, p := range pointsApart() {
		text := textWritten(p)
		passes := passOf(impl.WriteRule{Ahead: text, Input: text, Behind: text, Output: text, Again: 1})
		isPassesRead(t, impl.ShowPasses(passes), impl.PassesRead{Passes: passes})
	}
}

// TestTextsNearPasses changes some bytes of texts of passes. What can be read is shown as it was.
func TestTextsNearPasses(t *testing.T) {
	r, signs := rand.New(rand.NewSource(132)), "[]>|: \\\nnDKC\xFFa"
	codes := map[int64]int{}
	for range 60000 {
		text := []byte(shownPlainly(randomPasses(r, signAlphabet())))
		for range 1 + r.Intn(2) {
			at := r.Intn(len(text) + 1)
			bytes := [][]byte{nil, {signs[r.Intn(len(signs))]}, []byte("[a] > b\n"), []byte(" |")}[r.Intn(4)]
			text = slices.Replace(text, at, min(len(text), at+r.Intn(2)), bytes...)
		}
		want := readPassesPlainly(string(text))
		codes[want.Code]++
		isPassesRead(t, string(text), want)
		if want.Code == impl.OK {
			isText(t, "ShowPasses", string(text), impl.ShowPasses(impl.ReadPasses(string(text)).Passes), string(text))
		}
	}
	if codes[impl.OK] < 5000 || codes[impl.ErrForm] < 500 || codes[impl.ErrSyntax] < 20000 {
		t.Errorf("the codes were %v", codes)
	}
}

func TestTurnedByHand(t *testing.T) {
	rows := []struct {
		passes string
		want   string
	}{
		{"", ""}, {"0:", "0:"}, {"3:", "3:"}, {"0:;1:;2:;3:;4:", "4:;3:;2:;1:;0:"}, {"0: /a//b/0", "0: /b//a/0"}, {"0: x/a/y/b/0", "0: x/b/y/a/0"}, {"2: xx/abc/yy/d/0", "2: xx/d/yy/abc/0"}, {"0: /a//bcd/2", "0: /bcd//a/0"}, {"1: x/ab/y/cd/2", "1: x/cd/y/ab/0"}, {"0: /a//a/1", "0: /a//a/0"},
		{"0: /a//b/0 /c//d/0 /e//f/1", "0: /b//a/0 /d//c/0 /f//e/0"}, {"1: /a//b/0; 2: /c//d/0 x/e/y/f/0; 0: /g//h/1", "0: /h//g/0; 2: /d//c/0 x/f/y/e/0; 1: /b//a/0"},
		// what cannot be turned
		{"0: /a///0", ""}, {"0: /a//b/0 /c///0", ""}, {"0: /a///0 /c//d/0", ""}, {"0: /a//b/0; 0: /c//d/0 /e///0", ""}, {"0: /a///0; 0:", ""}, {"0: x/a/y//0", ""}, {"5: /a//b/0", ""}, {"0: /a//b/2", ""}, {"0: //x/b/0", ""},
	}
	for _, row := range rows {
		arePasses(t, "TurnedPasses", row.passes, impl.TurnedPasses(passesFrom(row.passes)), passesFrom(row.want))
	}
	wide, narrow := strings.Repeat("\U0010FFFF", 20), strings.Repeat("a", 20)
	arePasses(t, "TurnedPasses", "widest", impl.TurnedPasses(passOf(impl.WriteRule{Ahead: wide, Input: narrow, Behind: narrow, Output: wide, Again: 20})), passOf(impl.WriteRule{Ahead: wide, Input: wide, Behind: narrow, Output: narrow}))
	arePasses(t, "TurnedPasses", "100 rules", impl.TurnedPasses(rulesSpread(100, 1)), passOf(slices.Repeat([]impl.WriteRule{{Input: "r", Output: "q"}}, 100)...))
}

func TestTurnedTwice(t *testing.T) {
	count := 0
	eachPasses(133, 5000, func(passes []impl.Pass, text string) {
		want, _ := turnedPlainly(passes)
		turned := impl.TurnedPasses(passes)
		arePasses(t, "TurnedPasses", passes, turned, want)
		if impl.PassesFault(turned) != impl.OK {
			t.Errorf("turned passes are not right: %+v", turned)
		}
		if len(turned) == 0 {
			return
		}
		for _, pass := range passes {
			for at := range pass.Rules {
				pass.Rules[at].Again = 0
			}
		}
		arePasses(t, "TurnedPasses of turned", passes, impl.TurnedPasses(turned), passes)
		count++
	})
	if count < 1000 {
		t.Errorf("%d were turned", count)
	}
}

func TestComesBackByHand(t *testing.T) {
	rows := []struct {
		passes string
		text   string
		want   bool
	}{
		{"", "", true}, {"", "abc", true}, {"0:", "", true}, {"0:;0:", "abc", true}, {"0: /a//x/0", "", true}, {"0: /a//x/0", "a", true}, {"0: /a//x/0", "abc", true}, {"0: /a//x/0", "bcd", true}, {"0: /a//x/0", "x", false}, {"0: /a//x/0", "ax", false}, {"0: /a//b/0", "ab", false}, {"0: /a//b/0", "ac", true},
		{"0: /a//b/0 /b//a/0", "ab", true}, {"0: /a//b/0 /b//a/0", "abba", true}, {"0: /a//b/0; 0: /b//c/0", "aa", true}, {"0: /a//b/0; 0: /b//c/0", "ab", false}, {"0: /a//b/0; 0: /c//d/0", "ac", true}, {"0: /ab//x/0; 0: /x//y/0", "abab", true}, {"0: /a//bc/0; 0: /bc//d/0", "a", true}, {"0: /a//b/0 /c//b/0", "a", true}, {"0: /a//b/0 /c//b/0", "c", false},
		{"0: x/a//b/0", "xa", true}, {"0: x/a//b/0", "xaa", true}, {"0: x/a//b/0", "a", true}, {"0: /a/a/b/0", "aab", true}, {"0: /a/a/b/0", "aaa", false}, {"0: /a/y/b/0", "aya", true}, {"0: a/b//c/0", "abb", true}, {"0: b/b//c/0", "bbb", true}, {"0: b/b//c/0", "bc", false}, {"0: /a//bb/0", "abb", false}, {"0: /aa//b/0", "aaa", true}, {"0: /aa//b/0", "ab", false},
		// Again is 0 on the way back
		{"0: /a//b/1", "a", true}, {"0: /ab//ba/1", "abb", false}, {"0: /ab//ba/1", "ab", true}, {"0: /a//b/1 /b//c/0", "a", false}, {"0: /a//ab/1", "a", true}, {"0: /a//ab/2", "a", false},
		// Norm
		{"1:", "A\u1000", true}, {"1:", "\u2000", false}, {"2:", "\u2000", true}, {"2:", "A\u1000", false}, {"3:", "\u2731", false}, {"4:", "fi", true}, {"1: /A//B/0", "A\u1000", true}, {"1: /A//B/0", "\u2000", false}, {"2:; 1:", "\u2000", true}, {"1:; 2:", "\u2000", false}, {"2: /\u2000//x/0", "\u2000", true},
		// passes that cannot be turned, or are not right
		{"0: /a///0", "", false}, {"0: /a///0", "b", false}, {"0: /x//y/0; 0: /a///0", "b", false}, {"5:", "", false}, {"0: /a//b/2", "c", false}, {"0: ///b/0", "c", false},
		// texts that are not well written never come back as they were
		{"", "\xFF", false}, {"0: /a//x/0", "a\xE2\x80", false}, {"0: /a//x/0", "a\uFFFD", true}, {"0: /\uFFFD//x/0", "\uFFFD", true}, {"0: /\uFFFD//x/0", "\xFF", false},
	}
	for _, row := range rows {
		isBack(t, passesFrom(row.passes), row.text, row.want)
	}
}

// TestCodesOnTheWay has a code on the way there, and on the way back alone.
func TestCodesOnTheWay(t *testing.T) {
	fill := func(text string, count int) string { return strings.Repeat(text, count) }
	isBack(t, passesFrom("0: /a//b/0"), fill("a", 20000), true)
	isBack(t, passesFrom("0: /a//b/0"), fill("a", 20001), false)
	isBack(t, passesFrom("0: /a//bb/0"), "a"+fill("x", 65534), true)
	isBack(t, passesFrom("0: /a//bb/0"), "a"+fill("x", 65535), false)
	isBack(t, passesFrom("0: /a//a/1"), "a", false)
	isBack(t, passesFrom("0: /ab//x/0 /a//x/0"), fill("ab", 20000), true)
	isBack(t, passesFrom("0: /ab//x/0 /a//x/0"), fill("ab", 20000)+"x", false)
	isBack(t, passesFrom("0: /aaaa//x/0"), fill("a", 65536), true)
	isBack(t, passesFrom("0: /aaaa//x/0"), fill("x", 16384), false)
	isBack(t, passesFrom("0: /aaaa//x/0"), fill("x", 16385), false)
	isBack(t, passesFrom("1: /A//\u2000/0"), fill("A", 100), false)
	isBack(t, passesFrom("0: /x//x/0"), fill("x", 20001), false)
	isBack(t, passesFrom("0: x/x//y/0 /x//x/0"), fill("x", 20001), false)
	// the way there does nothing, the way back has one rule too many, each of which puts what was there
	isBack(t, passesFrom("0: /y//x/0; 0: /x//x/0"), fill("x", 20000), false)
	isBack(t, passesFrom("0: z/x//x/0"), fill("zx", 20000), true)
	isBack(t, passesFrom("0: z/x//x/0"), fill("zx", 20001), false)
}

// TestTurnedPassesGiveTheTextBack is the thirty-fourth promise.
func TestTurnedPassesGiveTheTextBack(t *testing.T) {
	counts := map[bool]int{}
	changed := 0
	eachPasses(134, 10000, func(passes []impl.Pass, text string) {
		got := impl.ComesBack(passes, text)
		isBack(t, passes, text, comesBackPlainly(passes, text))
		counts[got]++
		if !got {
			return
		}
		there := impl.WriteOver(passes, text)
		back := impl.WriteOver(impl.TurnedPasses(passes), there.Text)
		if there.Code != impl.OK || back.Code != impl.OK || back.Text != text {
			t.Errorf("%+q by %+v: there %+v, back %+v", text, passes, there, back)
		}
		if there.Text != text {
			changed++
		}
	})
	if counts[true] < 2000 || counts[false] < 2000 || changed < 500 {
		t.Errorf("%v came back, %d of them changed", counts, changed)
	}
}

// sparePasses has room behind each list.
func sparePasses(passes []impl.Pass) []impl.Pass {
	passes = spare(passes)
	for at := range passes {
		passes[at].Rules = spare(passes[at].Rules)
	}
	return passes
}

// textsOf are all texts of passes.
func textsOf(passes []impl.Pass) []string {
	var texts []string
	for _, pass := range passes {
		for _, rule := range pass.Rules {
			texts = append(texts, rule.Ahead, rule.Input, rule.Behind, rule.Output)
		}
	}
	return texts
}

func isApart(t *testing.T, what string, answers []string, given ...string) {
	t.Helper()
	for _, answer := range answers {
		if slices.ContainsFunc(given, func(text string) bool { return sharesMemory(answer, text) }) {
			t.Errorf("%s: %+q shares its memory", what, answer)
		}
	}
}

func TestPassesAreNewMemory(t *testing.T) {
	passes := sparePasses(passesFrom("1: x/ab/y/abcdefgh/2 /x//yz/1; 0: /c//def/0 f/g//h/0; 3:"))
	text, line := strings.Clone("xabyxxc"), strings.Clone(":D\nxx[abc]yy > def ||\n[aa] > bb\n:none\n[cc] > dd\n")
	told := func() string {
		row := fmt.Sprint(passes[:cap(passes)], text, line)
		for _, pass := range passes {
			row += fmt.Sprint(pass.Rules[:cap(pass.Rules)])
		}
		return row
	}
	given := told()
	asked := func() (string, [][]impl.Pass) {
		turned, read := impl.TurnedPasses(passes), impl.ReadPasses(line)
		over, same, shown := impl.WriteOver(passes, text), impl.WriteOver(nil, text), impl.ShowPasses(passes)
		isApart(t, "TurnedPasses", textsOf(turned), textsOf(passes)...)
		isApart(t, "ReadPasses", textsOf(read.Passes), line)
		isApart(t, "WriteOver, ShowPasses", []string{over.Text, same.Text, shown}, append(textsOf(passes), text)...)
		row := fmt.Sprint(turned, read, over, same, shown, impl.PassesFault(passes), impl.ComesBack(passes, text))
		return row, [][]impl.Pass{turned, read.Passes}
	}
	first, _ := asked()
	for range 3 {
		again, answers := asked()
		if again != first {
			t.Errorf("asked again: %s, want %s", again, first)
		}
		for _, answer := range answers {
			for at := range answer {
				before := fmt.Sprint(slices.Delete(slices.Clone(answer), at, at+1))
				clear(answer[at].Rules[:cap(answer[at].Rules)])
				if after := fmt.Sprint(slices.Delete(slices.Clone(answer), at, at+1)); after != before {
					t.Errorf("two lists of rules share their memory: %s became %s", before, after)
				}
			}
			clear(answer[:cap(answer)])
		}
		if got := told(); got != given {
			t.Errorf("what was given became %s, it was %s", got, given)
		}
	}
}
