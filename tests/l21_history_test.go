package tests

import (
	"fmt"
	"math"
	"math/rand"
	"runtime"
	"slices"
	"strconv"
	"strings"
	"sync"
	"testing"

	"loop.example/g00044/impl"
)

// stepsFrom has a word for each step: At, Gone, Came and, if it is not 0, Group, with a / between.
func stepsFrom(row string) (steps []impl.Step) {
	for word := range strings.SplitSeq(row, " ") {
		if row == "" {
			break
		}
		parts := append(strings.Split(word, "/"), "0")
		at, err := strconv.ParseInt(parts[0], 10, 64)
		if err != nil {
			panic(err)
		}
		group, err := strconv.ParseInt(parts[3], 10, 64)
		if err != nil {
			panic(err)
		}
		steps = append(steps, impl.Step{At: at, Gone: parts[1], Came: parts[2], Group: group})
	}
	return steps
}

func historyFrom(base string, row string, done int64) impl.History {
	return impl.History{Base: base, Steps: stepsFrom(row), Done: done}
}

// versionsPlainly are Base and the text behind each step, if the history is right, sentence by sentence of
// chapter 22.
func versionsPlainly(h impl.History) (texts []string, right bool) {
	texts = []string{h.Base}
	for _, step := range h.Steps {
		text := texts[len(texts)-1]
		if step.At < 0 || step.At > int64(len(text)) || !strings.HasPrefix(text[step.At:], step.Gone) {
			return nil, false
		}
		if step.Gone == step.Came || step.Group < 0 || step.Group > 1000000 {
			return nil, false
		}
		texts = append(texts, text[:step.At]+step.Came+strings.TrimPrefix(text[step.At:], step.Gone))
	}
	for _, text := range texts {
		if len(text) > 65536 {
			return nil, false
		}
	}
	return texts, len(h.Steps) <= 300 && h.Done >= 0 && h.Done <= int64(len(h.Steps))
}

func didPlainly(h impl.History, at int64, drop int64, put string, group int64) impl.HistoryOut {
	if len(put) > 65536 {
		return impl.HistoryOut{Code: impl.ErrSize}
	}
	texts, right := versionsPlainly(h)
	if !right || group < 0 || group > 1000000 {
		return impl.HistoryOut{Code: impl.ErrForm}
	}
	text := texts[h.Done]
	size := int64(len(text))
	if at < 0 || at > size || drop < 0 || drop > size-at {
		return impl.HistoryOut{Code: impl.ErrNone}
	}
	gone := text[at : at+drop]
	if gone == put {
		return impl.HistoryOut{Code: impl.ErrState}
	}
	steps := slices.Clone(h.Steps[:h.Done])
	steps = append(steps, impl.Step{At: at, Gone: gone, Came: put, Group: group})
	if count := len(steps); count > 1 {
		last, next := steps[count-2], steps[count-1]
		if last.Group == group && group > 0 && last.Gone+next.Gone == "" && at == last.At+int64(len(last.Came)) {
			steps[count-2].Came += put
			steps = steps[:count-1]
		}
	}
	text = text[:at] + put + text[at+drop:]
	if len(steps) > 300 || len(text) > 65536 {
		return impl.HistoryOut{Code: impl.ErrLimit}
	}
	return impl.HistoryOut{History: impl.History{Base: h.Base, Steps: steps, Done: int64(len(steps))}, Text: text}
}

// movedOnPlainly takes steps back, or does them again, one by one: the first one whatever it is, and then as long as
// the group is the same.
func movedOnPlainly(h impl.History, by int64) impl.HistoryOut {
	texts, right := versionsPlainly(h)
	if !right {
		return impl.HistoryOut{Code: impl.ErrForm}
	}
	next := func() int64 { // the step that would be moved over
		if by < 0 {
			return h.Done - 1
		}
		return h.Done
	}
	if next() < 0 || next() >= int64(len(h.Steps)) {
		return impl.HistoryOut{Code: impl.ErrNone}
	}
	group := h.Steps[next()].Group
	h.Done += by
	for group > 0 && next() >= 0 && next() < int64(len(h.Steps)) && h.Steps[next()].Group == group {
		h.Done += by
	}
	return impl.HistoryOut{History: h, Text: texts[h.Done]}
}

func sameHistory(a impl.History, b impl.History) bool {
	return a.Base == b.Base && slices.Equal(a.Steps, b.Steps) && a.Done == b.Done
}

// historyTold is a history, or what has one, as a text, short where it is long.
func historyTold(h any) string {
	return fmt.Sprintf("%.600s", fmt.Sprintf("%+q", fmt.Sprintf("%.2000s", fmt.Sprintf("%+v", h))))
}

func isHistoryOut(t *testing.T, what string, got impl.HistoryOut, want impl.HistoryOut) {
	t.Helper()
	if got.Code != want.Code || got.Text != want.Text || !sameHistory(got.History, want.History) {
		t.Errorf("%s: got %s, want %s", what, historyTold(got), historyTold(want))
	}
	if got.Code == impl.OK {
		if impl.HistoryFault(got.History) != impl.OK || impl.TextAt(got.History, got.History.Done) != got.Text {
			t.Errorf("%s: told a history that is not right, or not of its text: %s", what, historyTold(got))
		}
	}
}

// isRightHistory asks for what HistoryFault should tell, and for what all others answer of the history.
func isRightHistory(t *testing.T, what string, h impl.History, right bool) {
	t.Helper()
	want := int64(impl.OK)
	if !right {
		want = impl.ErrForm
	}
	if got := impl.HistoryFault(h); got != want {
		t.Errorf("HistoryFault, %s: got %d, want %d: %s", what, got, want, historyTold(h))
	}
	texts, rightPlainly := versionsPlainly(h)
	if right != rightPlainly {
		t.Errorf("%s: read plainly it is right: %v", what, rightPlainly)
	}
	if !right {
		texts = nil
	}
	count := int64(len(h.Steps))
	for _, done := range []int64{0, 1, 2, count / 2, count - 1, count, h.Done, h.Done + 1, -1, -count, count + 1, 300, 301, math.MaxInt64, math.MinInt64} {
		want := ""
		if done >= 0 && done < int64(len(texts)) {
			want = texts[done]
		}
		if got := impl.TextAt(h, done); got != want {
			t.Errorf("TextAt %d, %s: got %+.100q, want %+.100q", done, what, got, want)
		}
	}
	isHistoryOut(t, "Undo, "+what, impl.Undo(h), movedOnPlainly(h, -1))
	isHistoryOut(t, "Redo, "+what, impl.Redo(h), movedOnPlainly(h, 1))
	isDone(t, h, 0, 0, "x", 0)
	if !right {
		isHistoryOut(t, "Undo, "+what, impl.Undo(h), impl.HistoryOut{Code: impl.ErrForm})
		isHistoryOut(t, "Redo, "+what, impl.Redo(h), impl.HistoryOut{Code: impl.ErrForm})
		for _, group := range []int64{0, -1} {
			isHistoryOut(t, "DoStep, "+what, impl.DoStep(h, -1, 0, "", group), impl.HistoryOut{Code: impl.ErrForm})
		}
	}
}

func isDone(t *testing.T, h impl.History, at int64, drop int64, put string, group int64) impl.HistoryOut {
	t.Helper()
	got := impl.DoStep(h, at, drop, put, group)
	isHistoryOut(t, fmt.Sprintf("DoStep %d, %d, %+.60q, %d of %.300s", at, drop, put, group, historyTold(h)), got, didPlainly(h, at, drop, put, group))
	return got
}

// manySteps put an a each at the beginning.
func manySteps(count int) []impl.Step {
	return slices.Repeat([]impl.Step{{Came: "a"}}, count)
}

func TestNumbersOfHistories(t *testing.T) {
	if impl.MaxHistory != 300 || impl.MaxChars != 300 {
		t.Errorf("numbers: got %d and %d", impl.MaxHistory, impl.MaxChars)
	}
}

func TestHistoriesByHand(t *testing.T) {
	for _, row := range []struct {
		base, steps string
		right       bool
	}{
		{"", "", true},
		{"ab", "", true},
		{"a\xFFb", "", true},
		{"", "0//a", true},
		{"ab", "0/a/", true}, {"ab", "0/a/x", true}, {"ab", "1/b/x", true}, {"ab", "0/ab/", true}, {"ab", "0/ab/ba", true}, {"ab", "0//x", true}, {"ab", "1//x", true}, {"ab", "2//x", true},
		{"ab", "1/a/", false}, {"ab", "0/b/", false}, {"ab", "0/ax/", false}, {"ab", "0/x/a", false}, {"ab", "1/ab/", false},
		{"ab", "0/abc/", false}, {"ab", "1/bc/", false}, {"ab", "2/b/", false}, {"ab", "2/c/x", false}, {"ab", "0/abab/", false}, {"", "0/a/", false},
		{"ab", "3//x", false}, {"ab", "4//x", false}, {"ab", "-1//x", false}, {"ab", "-1/a/", false}, {"ab", "-2/ab/", false}, {"", "1//x", false}, {"", "-1//x", false},
		{"ab", "9223372036854775807//x", false}, {"ab", "9223372036854775807/a/", false}, {"ab", "9223372036854775806/ab/x", false}, {"ab", "-9223372036854775808//x", false}, {"ab", "-9223372036854775808/ab/", false}, {"ab", "4294967296//x", false}, {"ab", "4294967297/b/", false}, {"ab", "65537//x", false},
		{"ab", "0/a/a", false}, {"ab", "0/ab/ab", false}, {"ab", "0//", false}, {"ab", "2//", false}, {"", "0//", false}, {"aa", "0/a/aa", true},
		{"ab", "0//x/-1", false}, {"ab", "0//x/0", true}, {"ab", "0//x/1", true}, {"ab", "0//x/999999", true}, {"ab", "0//x/1000000", true}, {"ab", "0//x/1000001", false}, {"ab", "0//x/9223372036854775807", false}, {"ab", "0//x/-9223372036854775808", false}, {"ab", "0//x/4294967296", false},
		{"ab", "0//x 0/x/", true}, {"ab", "0//x 0/a/", false}, {"ab", "0/a/ 0/b/", true}, {"ab", "0/a/ 1/b/", false}, {"ab", "2//cd 2/cd/ 2//e", true}, {"ab", "2//cd 4//e 5//f", true}, {"ab", "2//cd 4//e 6//f", false}, {"ab", "0/ab/ 0/a/", false}, {"ab", "0/ab/ 0//", false}, {"ab", "0//x/3 1//y/3 2//z/4", true}, {"ab", "0//x 1//y/-1", false}, {"ab", "1//x 2/b/b", false},
		{"a\u1000", "1/\u1000/\u1001", true}, {"a\u1000", "2/\x80/", true}, {"a\u1000", "1/\xE1/\xFF", true}, {"a\u1000", "1/\u1001/", false}, {"a\xFF", "1/\uFFFD/", false}, {"a\xFF", "1/\xFF/\uFFFD", true},
	} {
		count := int64(len(stepsFrom(row.steps)))
		for done := int64(-2); done <= count+2; done++ {
			h := historyFrom(row.base, row.steps, done)
			isRightHistory(t, fmt.Sprintf("%q by %q, %d done", row.base, row.steps, done), h, row.right && done >= 0 && done <= count)
		}
		for _, done := range []int64{math.MinInt64, math.MaxInt64, 1 << 32} {
			isRightHistory(t, fmt.Sprintf("%q by %q, %d done", row.base, row.steps, done), historyFrom(row.base, row.steps, done), false)
		}
	}
}

func TestCountsOfSteps(t *testing.T) {
	for _, count := range []int{0, 1, 2, 299, 300, 301, 302, 1000, 1001, 5000} {
		for _, done := range []int{-1, 0, 1, count - 1, count, count + 1, 300, 301} {
			h := impl.History{Base: "b", Steps: manySteps(count), Done: int64(done)}
			isRightHistory(t, fmt.Sprintf("%d steps, %d done", count, done), h, count <= 300 && done >= 0 && done <= count)
		}
	}
	// All is right but one step, wherever it stands, done or taken back.
	for _, at := range []int{0, 1, 150, 298, 299} {
		for _, wrong := range stepsFrom("-1//x 400//x 0//x/-1 0//x/1000001 0/c/ 0// 0/a/a 300/ba/") {
			steps := manySteps(300)
			steps[at] = wrong
			for _, done := range []int64{0, int64(at), 300} {
				isRightHistory(t, fmt.Sprintf("a wrong step at %d", at), impl.History{Base: "b", Steps: steps, Done: done}, false)
			}
		}
	}
}

func TestSizesOfHistories(t *testing.T) {
	full := strings.Repeat("c", 65536)
	for _, row := range []struct {
		what, base string
		steps      []impl.Step
		right      bool
	}{
		{"a long Base", full[1:], nil, true},
		{"the longest Base", full, nil, true},
		{"too long a Base", full + "c", nil, false},
		{"much too long a Base", full + full, nil, false},
		{"too long a Base that gets shorter", full + "c", []impl.Step{{Gone: "c"}}, false},
		{"too long a Base that is gone", full + "c", []impl.Step{{Gone: full + "c"}}, false},
		{"it grows to the most", full[1:], []impl.Step{{At: 7, Came: "x"}}, true},
		{"it grows beyond", full[1:], []impl.Step{{At: 7, Came: "xy"}}, false},
		{"it grows beyond from the most", full, []impl.Step{{At: 65536, Came: "x"}}, false},
		{"one for one", full, []impl.Step{{At: 65535, Gone: "c", Came: "x"}}, true},
		{"two for one", full, []impl.Step{{At: 65535, Gone: "c", Came: "xy"}}, false},
		{"all for all", full, []impl.Step{{Gone: full, Came: strings.Repeat("d", 65536)}}, true},
		{"more for all", full, []impl.Step{{Gone: full, Came: strings.Repeat("d", 65537)}}, false},
		{"all goes", full, []impl.Step{{Gone: full}}, true},
		{"more than all goes", full, []impl.Step{{Gone: full + "c"}}, false},
		{"all comes", "", []impl.Step{{Came: full}}, true},
		{"more comes", "", []impl.Step{{Came: full + "c"}}, false},
		{"much more comes", "", []impl.Step{{Came: strings.Repeat("d", 1<<20)}}, false},
		{"too long between two alone", full, []impl.Step{{Came: "x"}, {Gone: "x"}}, false},
		{"as long as may be between two", full[1:], []impl.Step{{Came: "x"}, {Gone: "x"}}, true},
		{"too long at the third", full[2:], []impl.Step{{Came: "x"}, {Came: "y"}, {Came: "z"}, {Gone: "zyx"}}, false},
		{"full at the second and the fourth", full[1:], []impl.Step{{Came: "x"}, {Gone: "xc"}, {Came: "yy"}, {Gone: "y"}}, true},
	} {
		for done := range int64(len(row.steps)) + 1 {
			isRightHistory(t, fmt.Sprintf("%s, %d done", row.what, done), impl.History{Base: row.base, Steps: row.steps, Done: done}, row.right)
		}
	}
}

// eachShortHistory hands on all histories of a few small steps, right and wrong ones.
func eachShortHistory(look func(h impl.History)) {
	var steps []impl.Step
	for at := int64(-1); at <= 3; at++ {
		for _, gone := range []string{"", "a", "b", "ab"} {
			for _, came := range []string{"", "a", "bb"} {
				for _, group := range []int64{0, 1} {
					steps = append(steps, impl.Step{At: at, Gone: gone, Came: came, Group: group})
				}
			}
		}
	}
	for _, base := range []string{"", "a", "ab"} {
		look(impl.History{Base: base})
		for _, first := range steps {
			for done := int64(-1); done <= 2; done++ {
				look(impl.History{Base: base, Steps: []impl.Step{first}, Done: done})
			}
			if impl.HistoryFault(impl.History{Base: base, Steps: []impl.Step{first}}) != impl.OK {
				continue
			}
			for _, second := range steps {
				for done := int64(0); done <= 2; done++ {
					look(impl.History{Base: base, Steps: []impl.Step{first, second}, Done: done})
				}
			}
		}
	}
}

func TestAllShortHistories(t *testing.T) {
	right, wrong := 0, 0
	eachShortHistory(func(h impl.History) {
		_, isRight := versionsPlainly(h)
		isRightHistory(t, "short", h, isRight)
		if isRight {
			right++
		} else {
			wrong++
		}
	})
	if right < 1000 || wrong < 1000 {
		t.Errorf("%d right and %d wrong histories", right, wrong)
	}
}

func TestTextsAtByHand(t *testing.T) {
	h := historyFrom("ab", "1//x 0/a/ 2//\u1000/7 0/xb/y/7", 2)
	for done, want := range []string{"ab", "axb", "xb", "xb\u1000", "y\u1000"} {
		for h.Done = 0; h.Done <= 4; h.Done++ { // What is done does not matter.
			if got := impl.TextAt(h, int64(done)); got != want {
				t.Errorf("TextAt %d, %d done: got %q, want %q", done, h.Done, got, want)
			}
		}
	}
	for _, done := range []int64{-1, -2, 5, 6, 301, math.MinInt64, math.MaxInt64, 1 << 32, -1 << 32} {
		if got := impl.TextAt(h, done); got != "" {
			t.Errorf("TextAt %d: got %q", done, got)
		}
	}
	if got := impl.TextAt(impl.History{Base: "ab"}, 0); got != "ab" {
		t.Errorf("TextAt 0 without steps: got %q", got)
	}
	if got := impl.TextAt(impl.History{Base: "ab"}, 1); got != "" {
		t.Errorf("TextAt 1 without steps: got %q", got)
	}
	for _, wrong := range []impl.History{historyFrom("ab", "1//x", 2), historyFrom("ab", "1//x", -1), historyFrom("ab", "3//x", 0), historyFrom("ab", "1//x 0/b/", 1)} {
		if got := impl.TextAt(wrong, 0); got != "" {
			t.Errorf("TextAt 0 of %v: got %q", wrong, got)
		}
	}
}

func TestDoneStepsByHand(t *testing.T) {
	for _, row := range []struct {
		base, steps string
		done        int64
		at, drop    int64
		put         string
		group       int64
		want, text  string
	}{
		{"", "", 0, 0, 0, "a", 0, "0//a", "a"},
		{"ab", "", 0, 0, 0, "x", 0, "0//x", "xab"},
		{"ab", "", 0, 1, 0, "x", 5, "1//x/5", "axb"},
		{"ab", "", 0, 2, 0, "x", 1000000, "2//x/1000000", "abx"},
		{"ab", "", 0, 0, 1, "", 0, "0/a/", "b"},
		{"ab", "", 0, 1, 1, "", 0, "1/b/", "a"},
		{"ab", "", 0, 0, 2, "", 3, "0/ab//3", ""},
		{"ab", "", 0, 0, 2, "xyz", 0, "0/ab/xyz", "xyz"},
		{"ab", "", 0, 1, 1, "bc", 0, "1/b/bc", "abc"},
		{"a\u1000", "", 0, 2, 1, "\xFF", 0, "2/\x80/\xFF", "a\xE1\xFF\x80"},
		// What was taken back goes.
		{"ab", "0//x 0//y 0//z", 3, 0, 0, "w", 0, "0//x 0//y 0//z 0//w", "wzyxab"},
		{"ab", "0//x 0//y 0//z", 2, 0, 0, "w", 0, "0//x 0//y 0//w", "wyxab"},
		{"ab", "0//x 0//y 0//z", 1, 0, 1, "", 0, "0//x 0/x/", "ab"},
		{"ab", "0//x 0//y 0//z", 0, 2, 0, "w", 0, "2//w", "abw"},
		{"ab", "0//x", 0, 0, 0, "x", 0, "0//x", "xab"},
		// It goes behind what came by the last one.
		{"ab", "1//x/1", 1, 2, 0, "y", 1, "1//xy/1", "axyb"},
		{"ab", "1//xy/1", 1, 3, 0, "\u1000", 1, "1//xy\u1000/1", "axy\u1000b"},
		{"ab", "2//x/1000000", 1, 3, 0, "y", 1000000, "2//xy/1000000", "abxy"},
		{"ab", "0//w 1//x/1", 2, 2, 0, "y", 1, "0//w 1//xy/1", "wxyab"},
		{"ab", "1//x/1 0//y 0//z", 1, 2, 0, "y", 1, "1//xy/1", "axyb"},
		{"ab", "1/b//2 1//x/2", 2, 2, 0, "y", 2, "1/b//2 1//xy/2", "axy"},
		// It does not: another Group, the Group 0, another place, something that goes, a last one that was taken back.
		{"ab", "1//x/1", 1, 2, 0, "y", 2, "1//x/1 2//y/2", "axyb"},
		{"ab", "1//x/1", 1, 2, 0, "y", 0, "1//x/1 2//y", "axyb"},
		{"ab", "1//x", 1, 2, 0, "y", 1, "1//x 2//y/1", "axyb"},
		{"ab", "1//x", 1, 2, 0, "y", 0, "1//x 2//y", "axyb"},
		{"ab", "1//x/1", 1, 1, 0, "y", 1, "1//x/1 1//y/1", "ayxb"},
		{"ab", "1//x/1", 1, 3, 0, "y", 1, "1//x/1 3//y/1", "axby"},
		{"ab", "1//xyz/1", 1, 3, 0, "w", 1, "1//xyz/1 3//w/1", "axywzb"},
		{"ab", "1//xyz/1", 1, 5, 0, "w", 1, "1//xyz/1 5//w/1", "axyzbw"},
		{"ab", "1//x/1", 1, 0, 0, "y", 1, "1//x/1 0//y/1", "yaxb"},
		{"ab", "1//x/1", 1, 2, 1, "y", 1, "1//x/1 2/b/y/1", "axy"},
		{"ab", "1//x/1", 1, 2, 1, "", 1, "1//x/1 2/b//1", "ax"},
		{"ab", "1/b/x/1", 1, 2, 0, "y", 1, "1/b/x/1 2//y/1", "axy"},
		{"ab", "1/b//1", 1, 1, 0, "y", 1, "1/b//1 1//y/1", "ay"},
		{"ab", "1//x/1 0//y", 2, 3, 0, "z", 1, "1//x/1 0//y 3//z/1", "yaxzb"},
		{"ab", "0//w 1//x/1", 1, 2, 0, "y", 1, "0//w 2//y/1", "wayb"},
		{"ab", "1//x/1", 0, 2, 0, "y", 1, "2//y/1", "aby"},
	} {
		h := historyFrom(row.base, row.steps, row.done)
		got := isDone(t, h, row.at, row.drop, row.put, row.group)
		want := historyFrom(row.base, row.want, int64(len(stepsFrom(row.want))))
		isHistoryOut(t, fmt.Sprintf("%+v", row), got, impl.HistoryOut{History: want, Text: row.text})
	}
}

func TestFaultsOfDoneSteps(t *testing.T) {
	long := strings.Repeat("p", 65537)
	right, wrong := historyFrom("ab", "1//xc 0/a/", 1), historyFrom("ab", "1//xc 0/b/", 1)
	for _, row := range []struct {
		what     string
		h        impl.History
		at, drop int64
		put      string
		group    int64
		code     int64
	}{
		{"at the end", right, 4, 0, "y", 0, impl.OK},
		{"behind the end", right, 5, 0, "y", 0, impl.ErrNone},
		{"ahead of all", right, -1, 0, "y", 0, impl.ErrNone},
		{"ahead of all, up to the beginning", right, -1, 1, "y", 0, impl.ErrNone},
		{"all", right, 0, 4, "y", 0, impl.OK},
		{"more than all", right, 0, 5, "y", 0, impl.ErrNone},
		{"the last one", right, 3, 1, "y", 0, impl.OK},
		{"more than the last one", right, 3, 2, "y", 0, impl.ErrNone},
		{"one behind the end", right, 4, 1, "y", 0, impl.ErrNone},
		{"a drop below 0", right, 1, -1, "y", 0, impl.ErrNone},
		{"a drop below 0 behind the end", right, 5, -1, "y", 0, impl.ErrNone},
		{"what is taken back does not count", historyFrom("ab", "2//xyz", 0), 3, 0, "y", 0, impl.ErrNone},
		{"the greatest at", right, math.MaxInt64, 0, "y", 0, impl.ErrNone},
		{"the greatest drop", right, 0, math.MaxInt64, "y", 0, impl.ErrNone},
		{"sums that wrap", right, math.MaxInt64, math.MaxInt64, "y", 0, impl.ErrNone},
		{"sums that wrap to what is there", right, 3, math.MaxInt64 - 1, "y", 0, impl.ErrNone},
		{"sums that wrap to 0", right, math.MinInt64, math.MinInt64, "y", 0, impl.ErrNone},
		{"the least at", right, math.MinInt64, 0, "y", 0, impl.ErrNone},
		{"the least drop", right, 0, math.MinInt64, "y", 0, impl.ErrNone},
		{"the greatest at and back", right, math.MaxInt64, -math.MaxInt64, "y", 0, impl.ErrNone},
		{"2^32 and a place", right, 1<<32 + 1, 0, "y", 0, impl.ErrNone},
		{"2^32 and a drop", right, 1, 1<<32 + 1, "y", 0, impl.ErrNone},
		{"nothing for nothing", right, 0, 0, "", 0, impl.ErrState},
		{"nothing for nothing at the end", right, 4, 0, "", 0, impl.ErrState},
		{"nothing for nothing behind a Came", historyFrom("ab", "1//x/1", 1), 2, 0, "", 1, impl.ErrState},
		{"nothing for nothing behind the end", right, 5, 0, "", 0, impl.ErrNone},
		{"what goes comes", right, 1, 2, "xc", 0, impl.ErrState},
		{"all goes and comes", right, 0, 4, "axcb", 7, impl.ErrState},
		{"a Group of -1", right, 0, 0, "y", -1, impl.ErrForm},
		{"a Group of 0", right, 0, 0, "y", 0, impl.OK},
		{"a Group of 1", right, 0, 0, "y", 1, impl.OK},
		{"the last Group", right, 0, 0, "y", 1000000, impl.OK},
		{"one Group too many", right, 0, 0, "y", 1000001, impl.ErrForm},
		{"the greatest Group", right, 0, 0, "y", math.MaxInt64, impl.ErrForm},
		{"the least Group", right, 0, 0, "y", math.MinInt64, impl.ErrForm},
		{"2^32 as a Group", right, 0, 0, "y", 1 << 32, impl.ErrForm},
		{"a wrong history", wrong, 0, 0, "y", 0, impl.ErrForm},
		// Several at once.
		{"a wrong history and a long put", wrong, 0, 0, long, 0, impl.ErrSize},
		{"a wrong Group and a long put", right, 0, 0, long, -1, impl.ErrSize},
		{"all of it", wrong, -1, -1, long, -1, impl.ErrSize},
		{"a long put outside", right, -1, 0, long, 0, impl.ErrSize},
		{"a wrong history outside", wrong, -1, 0, "y", 0, impl.ErrForm},
		{"a wrong history and nothing", wrong, 0, 0, "", 0, impl.ErrForm},
		{"a wrong Group outside", right, 9, 0, "y", 1000001, impl.ErrForm},
		{"a wrong Group and nothing", right, 0, 0, "", -1, impl.ErrForm},
		{"nothing outside", right, 9, 0, "", 0, impl.ErrNone},
		{"a great put outside", right, 9, 0, long[1:], 0, impl.ErrNone},
	} {
		if got := isDone(t, row.h, row.at, row.drop, row.put, row.group); got.Code != row.code {
			t.Errorf("%s: got code %d, want %d", row.what, got.Code, row.code)
		}
	}
}

func TestCountsOfDoneSteps(t *testing.T) {
	typed := append(manySteps(299), impl.Step{Came: "t", Group: 4})
	for _, row := range []struct {
		what     string
		steps    []impl.Step
		done     int64
		at, drop int64
		put      string
		group    int64
		code     int64
		count    int
	}{
		{"the 299th", manySteps(298), 298, 0, 0, "y", 0, impl.OK, 299},
		{"the 300th", manySteps(299), 299, 0, 0, "y", 0, impl.OK, 300},
		{"the 301st", manySteps(300), 300, 0, 0, "y", 0, impl.ErrLimit, 0},
		{"the 301st, in place of one that was taken back", manySteps(300), 299, 0, 0, "y", 0, impl.OK, 300},
		{"the 301st, all taken back", manySteps(300), 0, 0, 0, "y", 0, impl.OK, 1},
		{"the 301st, half of them taken back", manySteps(300), 150, 0, 1, "y", 0, impl.OK, 151},
		{"behind a Came of 300", typed, 300, 1, 0, "y", 4, impl.OK, 300},
		{"ahead of a Came of 300", typed, 300, 0, 0, "y", 4, impl.ErrLimit, 0},
		{"behind a Came of 300, another Group", typed, 300, 1, 0, "y", 5, impl.ErrLimit, 0},
		{"behind a Came of 300, with a drop", typed, 300, 1, 1, "y", 4, impl.ErrLimit, 0},
		{"behind a Came of 300 that was taken back", typed, 299, 1, 0, "y", 4, impl.OK, 300},
		{"outside, of 300", manySteps(300), 300, 302, 0, "y", 0, impl.ErrNone, 0},
		{"nothing for nothing, of 300", manySteps(300), 300, 1, 0, "", 0, impl.ErrState, 0},
		{"of 301", manySteps(301), 300, 0, 0, "y", 0, impl.ErrForm, 0},
		{"of 301, all taken back", manySteps(301), 0, 0, 0, "y", 0, impl.ErrForm, 0},
	} {
		got := isDone(t, impl.History{Base: "b", Steps: row.steps, Done: row.done}, row.at, row.drop, row.put, row.group)
		if got.Code != row.code || len(got.History.Steps) != row.count {
			t.Errorf("%s: got code %d, %d steps", row.what, got.Code, len(got.History.Steps))
		}
	}
	// One after the other, from none on.
	h := impl.History{Base: "b"}
	for i := range 300 {
		out := isDone(t, h, int64(i%3), 0, "y", 0)
		if h = out.History; out.Code != impl.OK || len(h.Steps) != i+1 {
			t.Fatalf("step %d: got code %d, %d steps", i, out.Code, len(h.Steps))
		}
	}
	isDone(t, h, 0, 0, "y", 0)
}

func TestSizesOfDoneSteps(t *testing.T) {
	full := strings.Repeat("c", 65536)
	typed := impl.History{Base: full[2:], Steps: []impl.Step{{At: 3, Came: "x", Group: 2}}, Done: 1}
	long := impl.History{Steps: []impl.Step{{Came: full[1:], Group: 2}}, Done: 1}
	for _, row := range []struct {
		what     string
		h        impl.History
		at, drop int64
		put      string
		group    int64
		code     int64
	}{
		{"the longest put", impl.History{}, 0, 0, full, 0, impl.OK},
		{"too long a put", impl.History{}, 0, 0, full + "c", 0, impl.ErrSize},
		{"much too long a put", impl.History{}, 0, 0, full + full, 0, impl.ErrSize},
		{"the longest put beside one", impl.History{Base: "b"}, 0, 0, full, 0, impl.ErrLimit},
		{"the longest put for one", impl.History{Base: "b"}, 0, 1, full, 0, impl.OK},
		{"too long a put for two", impl.History{Base: "bb"}, 0, 2, full + "c", 0, impl.ErrSize},
		{"one beside the most", impl.History{Base: full}, 65536, 0, "x", 0, impl.ErrLimit},
		{"one for one of the most", impl.History{Base: full}, 65535, 1, "x", 0, impl.OK},
		{"two for one of the most", impl.History{Base: full}, 65535, 1, "xy", 0, impl.ErrLimit},
		{"to the most", impl.History{Base: full[1:]}, 9, 0, "x", 0, impl.OK},
		{"beyond the most", impl.History{Base: full[1:]}, 9, 0, "xy", 0, impl.ErrLimit},
		{"all for all", impl.History{Base: full}, 0, 65536, strings.Repeat("d", 65536), 0, impl.OK},
		{"all goes", impl.History{Base: full}, 0, 65536, "", 0, impl.OK},
		{"all goes and comes", impl.History{Base: full}, 0, 65536, full, 0, impl.ErrState},
		{"nothing for nothing of the most", impl.History{Base: full}, 3, 0, "", 0, impl.ErrState},
		{"outside of the most", impl.History{Base: full}, 65537, 0, "x", 0, impl.ErrNone},
		{"too long a Base", impl.History{Base: full + "c"}, 0, 2, "", 0, impl.ErrForm},
		{"behind a Came, to the most", typed, 4, 0, "y", 2, impl.OK},
		{"behind a Came, beyond the most", typed, 4, 0, "yz", 2, impl.ErrLimit},
		{"the longest Came", long, 65535, 0, "y", 2, impl.OK},
		{"too long a Came", long, 65535, 0, "yz", 2, impl.ErrLimit},
		{"what was taken back does not count", impl.History{Base: "b", Steps: []impl.Step{{Came: full[1:]}}}, 0, 0, full[1:], 0, impl.OK},
		{"what was taken back does not count, but too long", impl.History{Base: "b", Steps: []impl.Step{{Came: full[1:]}}}, 0, 0, full, 0, impl.ErrLimit},
	} {
		if got := isDone(t, row.h, row.at, row.drop, row.put, row.group); got.Code != row.code {
			t.Errorf("%s: got code %d, want %d", row.what, got.Code, row.code)
		}
	}
}

func TestAllShortSteps(t *testing.T) {
	eachShortHistory(func(h impl.History) {
		if len(h.Steps) == 2 && h.Steps[1].At < 0 || impl.HistoryFault(h) != impl.OK {
			return
		}
		for at := int64(-1); at <= 5; at++ {
			for drop := int64(-1); drop <= 3; drop++ {
				isDone(t, h, at, drop, "", 0)
				isDone(t, h, at, drop, "a", 1)
			}
		}
	})
}

func TestMovesByHand(t *testing.T) {
	for _, row := range []struct {
		base, steps string
		undone      []int64 // for each Done from 0 on how many are done behind Undo, and -1 where there is none
		redone      []int64 // likewise of Redo
	}{
		{"ab", "", []int64{-1}, []int64{-1}},
		{"ab", "0//x", []int64{-1, 0}, []int64{1, -1}},
		{"ab", "0//x/1", []int64{-1, 0}, []int64{1, -1}},
		{"ab", "0//x 0//y 0//z", []int64{-1, 0, 1, 2}, []int64{1, 2, 3, -1}},
		{"ab", "0//x/1 0//y/1 0//z/1", []int64{-1, 0, 0, 0}, []int64{3, 3, 3, -1}},
		{"ab", "0//x/1 0//y/2 0//z/3", []int64{-1, 0, 1, 2}, []int64{1, 2, 3, -1}},
		{"ab", "0//x/1 0//y/1 0//z/2", []int64{-1, 0, 0, 2}, []int64{2, 2, 3, -1}},
		{"ab", "0//x/1 0//y/2 0//z/2", []int64{-1, 0, 1, 1}, []int64{1, 3, 3, -1}},
		{"ab", "0//x/1 0//y/2 0//z/1", []int64{-1, 0, 1, 2}, []int64{1, 2, 3, -1}},
		{"ab", "0//x/1 0//y 0//z/1", []int64{-1, 0, 1, 2}, []int64{1, 2, 3, -1}},
		{"ab", "0//x 0//y/1 0//z", []int64{-1, 0, 1, 2}, []int64{1, 2, 3, -1}},
		{"ab", "0//x 0//y 0//z/1", []int64{-1, 0, 1, 2}, []int64{1, 2, 3, -1}},
		{"ab", "0//x 0//y/1 0//z/1 0//w", []int64{-1, 0, 1, 1, 3}, []int64{1, 3, 3, 4, -1}},
		{"ab", "0//x/1000000 0//y/1000000 0/y//1000000 0//w/999999", []int64{-1, 0, 0, 0, 3}, []int64{3, 3, 3, 4, -1}},
		{"ab", "0/a//5 0/b/c/5 1//de/5 1/de//6 0//f/6 0//g/5", []int64{-1, 0, 0, 0, 3, 3, 5}, []int64{3, 3, 3, 5, 5, 6, -1}},
	} {
		texts, _ := versionsPlainly(historyFrom(row.base, row.steps, 0))
		moved := func(what string, h impl.History, got impl.HistoryOut, done int64) {
			t.Helper()
			want := impl.HistoryOut{Code: impl.ErrNone}
			if done >= 0 {
				want = impl.HistoryOut{History: impl.History{Base: h.Base, Steps: h.Steps, Done: done}, Text: texts[done]}
			}
			isHistoryOut(t, fmt.Sprintf("%s of %q by %q, %d done", what, h.Base, row.steps, h.Done), got, want)
		}
		for done := range texts {
			h := historyFrom(row.base, row.steps, int64(done))
			moved("Undo", h, impl.Undo(h), row.undone[done])
			moved("Redo", h, impl.Redo(h), row.redone[done])
		}
	}
}

func TestMovesOfManySteps(t *testing.T) {
	full := strings.Repeat("c", 65535)
	for _, group := range []int64{0, 1} {
		steps := manySteps(300)
		for at := range steps {
			steps[at] = impl.Step{At: int64(at), Gone: "c", Came: "d", Group: group}
		}
		h := impl.History{Base: full, Steps: steps, Done: 300}
		for _, done := range []int64{0, 1, 150, 299, 300} {
			h.Done = done
			isHistoryOut(t, "Undo", impl.Undo(h), movedOnPlainly(h, -1))
			isHistoryOut(t, "Redo", impl.Redo(h), movedOnPlainly(h, 1))
		}
	}
	grown := impl.History{Base: "b", Steps: []impl.Step{{Came: full, Group: 3}, {Gone: full, Group: 3}, {Came: full, Group: 3}}}
	for grown.Done = 0; grown.Done <= 3; grown.Done++ {
		isHistoryOut(t, "Undo", impl.Undo(grown), movedOnPlainly(grown, -1))
		isHistoryOut(t, "Redo", impl.Redo(grown), movedOnPlainly(grown, 1))
	}
}

// isTakenBack asks for P50: one that is taken back and done again, and all of them.
func isTakenBack(t *testing.T, h impl.History, at int64, drop int64, put string, group int64) {
	t.Helper()
	before := impl.TextAt(h, h.Done)
	did := impl.DoStep(h, at, drop, put, group)
	if did.Code != impl.OK {
		return
	}
	undone := impl.Undo(did.History)
	redone := impl.Redo(undone.History)
	if redone.Code != impl.OK || redone.Text != did.Text || !sameHistory(redone.History, did.History) {
		t.Errorf("done again: got %s, want %s", historyTold(redone), historyTold(did))
	}
	isFirst := group == 0 || h.Done == 0 || h.Steps[h.Done-1].Group != group
	if isFirst && (undone.Text != before || undone.History.Done != h.Done) {
		t.Errorf("taken back: got %s, want %+q", historyTold(undone), before)
	}
	out := did
	for range len(did.History.Steps) + 1 {
		if out.History.Done == 0 {
			break
		}
		out = impl.Undo(out.History)
	}
	if out.Code != impl.OK || out.Text != h.Base || out.History.Done != 0 {
		t.Errorf("all taken back: got %s, want %+q", historyTold(out), h.Base)
	}
	if code := impl.Undo(out.History).Code; code != impl.ErrNone {
		t.Errorf("one more taken back: got code %d", code)
	}
	for range len(did.History.Steps) + 1 {
		if out.History.Done == int64(len(did.History.Steps)) {
			break
		}
		out = impl.Redo(out.History)
	}
	if out.Code != impl.OK || out.Text != did.Text || !sameHistory(out.History, did.History) {
		t.Errorf("all done again: got %s, want %s", historyTold(out), historyTold(did))
	}
	if code := impl.Redo(out.History).Code; code != impl.ErrNone {
		t.Errorf("one more done again: got code %d", code)
	}
}

func TestRandomHistories(t *testing.T) {
	r := rand.New(rand.NewSource(2101))
	points := []int64{'a', 'b', '\n', 0x200, 0x1000}
	codes := map[int64]int{}
	for range 300 {
		h := impl.History{Base: randomNormText(r, points, 8)}
		for range 25 {
			size := int64(len(impl.TextAt(h, h.Done)))
			at, drop, put, group := r.Int63n(size+2)-r.Int63n(2), int64(0), randomNormText(r, points, 3), []int64{0, 1, 1, 1, 2}[r.Intn(5)]
			switch count := len(h.Steps); {
			case h.Done > 0 && r.Intn(2) == 0: // right behind what came
				last := h.Steps[min(int(h.Done)-1, count-1)]
				at = last.At + int64(len(last.Came))
			case r.Intn(2) == 0:
				drop = r.Int63n(5) - r.Int63n(2)
			}
			isTakenBack(t, h, at, drop, put, group)
			out := isDone(t, h, at, drop, put, group)
			codes[out.Code]++
			if out.Code == impl.OK {
				h = out.History
			}
			for _, by := range []int64{-1, 1} {
				got := impl.Undo(h)
				if by > 0 {
					got = impl.Redo(h)
				}
				isHistoryOut(t, fmt.Sprintf("moved on by %d", by), got, movedOnPlainly(h, by))
				if got.Code == impl.OK && r.Intn(3) == 0 {
					h = got.History
				}
			}
			wrong := impl.History{Base: h.Base, Steps: slices.Clone(h.Steps), Done: h.Done}
			if count := len(wrong.Steps); count > 0 {
				step := &wrong.Steps[r.Intn(count)]
				switch r.Intn(6) {
				case 0:
					step.At += r.Int63n(3) - 1
				case 1:
					step.Gone = randomNormText(r, points, 2)
				case 2:
					step.Came = randomNormText(r, points, 2)
				case 3:
					step.Group += r.Int63n(3) - 1
				case 4:
					wrong.Base = cutBytes(r, wrong.Base)
				default:
					wrong.Done += r.Int63n(5) - 2
				}
				_, right := versionsPlainly(wrong)
				isRightHistory(t, "changed", wrong, right)
			}
		}
	}
	for _, code := range []int64{impl.OK, impl.ErrNone, impl.ErrState} {
		if codes[code] < 100 {
			t.Errorf("codes of random steps: %v", codes)
		}
	}
}

// scripts are rows of letters, one for each piece that is kept (k), goes (l) or comes (m). The shortest ones have the
// fewest that go or come, and of these the first one is told: alike pieces are kept, and one goes ahead of one that
// comes.
type scripts struct {
	from, to []string
	told     map[[2]int]string
}

func (s scripts) changes(script string) int {
	return len(script) - strings.Count(script, "k")
}

func (s scripts) first(i int, j int) string {
	if script, known := s.told[[2]int{i, j}]; known {
		return script
	}
	var all []string
	if i < len(s.from) && j < len(s.to) && s.from[i] == s.to[j] {
		all = append(all, "k"+s.first(i+1, j+1))
	}
	if i < len(s.from) {
		all = append(all, "l"+s.first(i+1, j))
	}
	if j < len(s.to) {
		all = append(all, "m"+s.first(i, j+1))
	}
	best := ""
	for at, script := range all {
		fewer := s.changes(script) - s.changes(best)
		if at == 0 || fewer < 0 || fewer == 0 && script < best {
			best = script
		}
	}
	s.told[[2]int{i, j}] = best
	return best
}

func scriptPlainly(from []string, to []string) string {
	return scripts{from: from, to: to, told: map[[2]int]string{}}.first(0, 0)
}

// diffPlainly does what the script says piece by piece, on the text itself.
func diffPlainly(from []string, to []string) (steps []impl.Step) {
	text, at, within := strings.Join(from, ""), 0, false
	for _, letter := range scriptPlainly(from, to) {
		if letter == 'k' {
			at, from, to, within = at+len(from[0]), from[1:], to[1:], false
			continue
		}
		if !within {
			steps, within = append(steps, impl.Step{At: int64(at)}), true
		}
		step := &steps[len(steps)-1]
		if letter == 'l' {
			step.Gone += from[0]
			text, from = text[:at]+text[at+len(from[0]):], from[1:]
		} else {
			step.Came += to[0]
			text, at, to = text[:at]+to[0]+text[at:], at+len(to[0]), to[1:]
		}
	}
	return steps
}

// isMadeBySteps asks for P51, with what chapter 22 says of steps of the Group 0.
func isMadeBySteps(t *testing.T, a string, b string, steps []impl.Step) {
	t.Helper()
	text, behind := a, int64(-1)
	for _, step := range steps {
		end := step.At + int64(len(step.Gone))
		if step.At <= behind || end > int64(len(text)) || text[step.At:end] != step.Gone || step.Gone == step.Came || step.Group != 0 {
			t.Errorf("DiffTexts of %+.60q and %+.60q: %s is no step of %+.60q", a, b, historyTold(step), text)
			return
		}
		text = text[:step.At] + step.Came + text[end:]
		behind = step.At + int64(len(step.Came))
	}
	if text != b {
		t.Errorf("DiffTexts of %+.60q and %+.60q: they make %+.60q", a, b, text)
	}
	if len(steps) <= 300 {
		h := impl.History{Base: a, Steps: steps, Done: int64(len(steps))}
		if impl.HistoryFault(h) != impl.OK && len(a)+len(b) < 65536 || len(a)+len(b) < 65536 && impl.TextAt(h, h.Done) != b {
			t.Errorf("DiffTexts of %+.60q and %+.60q: no history", a, b)
		}
	}
}

func isDiff(t *testing.T, a string, b string, want []impl.Step) {
	t.Helper()
	got := impl.DiffTexts(a, b)
	if !slices.Equal(got, want) {
		t.Errorf("DiffTexts of %+.100q and %+.100q: got %s, want %s", a, b, historyTold(got), historyTold(want))
	}
	isMadeBySteps(t, a, b, got)
}

func isDiffPlainly(t *testing.T, a string, b string) {
	t.Helper()
	isDiff(t, a, b, diffPlainly(charsPlainly(a), charsPlainly(b)))
}

func TestDiffsByHand(t *testing.T) {
	for _, row := range []struct{ a, b, want string }{
		{"", "", ""}, {"a", "a", ""}, {"abc", "abc", ""}, {"a\u1000\xFF", "a\u1000\xFF", ""},
		{"", "abc", "0//abc"}, {"abc", "", "0/abc/"}, {"abc", "xyz", "0/abc/xyz"}, {"a", "xyz", "0/a/xyz"}, {"abc", "x", "0/abc/x"},
		// One put in, taken out, changed: at the beginning, within, at the end.
		{"abc", "xabc", "0//x"}, {"abc", "axbc", "1//x"}, {"abc", "abcx", "3//x"},
		{"abc", "bc", "0/a/"}, {"abc", "ac", "1/b/"}, {"abc", "ab", "2/c/"},
		{"abc", "xbc", "0/a/x"}, {"abc", "axc", "1/b/x"}, {"abc", "abx", "2/c/x"},
		// Several steps: each At is in the text that those ahead of it led to.
		{"abcde", "xbydz", "0/a/x 2/c/y 4/e/z"}, {"abcde", "bd", "0/a/ 1/c/ 2/e/"}, {"bd", "abcde", "0//a 2//c 4//e"}, {"abcd", "xyzbcw", "0/a/xyz 5/d/w"}, {"abcdef", "cXYfZ", "0/ab/ 1/de/XY 4//Z"}, {"aXXXb", "1a2b3", "0//1 2/XXX/2 4//3"},
		// Several ways are as short.
		{"ab", "ba", "0/a/ 1//a"}, {"abc", "bca", "0/a/ 2//a"}, {"abc", "cab", "0//c 3/c/"}, {"abc", "cba", "0/ab/ 1//ba"}, {"abcd", "badc", "0/a/ 1/c/a 3//c"}, {"aab", "baa", "0//b 3/b/"}, {"abab", "baba", "0/a/ 3//a"},
		{"aa", "a", "1/a/"}, {"a", "aa", "1//a"}, {"aaa", "a", "1/aa/"}, {"aba", "a", "1/ba/"}, {"abab", "ab", "2/ab/"}, {"ab", "abab", "2//ab"}, {"aba", "aa", "1/b/"}, {"baa", "aa", "0/b/"}, {"a", "bab", "0//b 2//b"}, {"aab", "abaa", "1/a/ 2//aa"}, {"xay", "yax", "0/xa/ 1//ax"}, {"xyz", "yzxyz", "0//yz"}, {"abcabba", "cbabac", "0/ab/ 1/a/ 2//a 5//c"},
		// Characters of several points.
		{"a\u1000b", "ab", "0/a\u1000/a"}, {"ab", "a\u1000b", "0/a/a\u1000"}, {"a\u1000b", "a\u1001b", "0/a\u1000/a\u1001"}, {"a\u1000", "b\u1000", "0/a\u1000/b\u1000"}, {"xa\u1000y", "xy", "1/a\u1000/"}, {"a\u1000a", "aa\u1000", "0/a\u1000/ 1//a\u1000"},
		{"\u1e50\u1e51\u1e52", "\u1e51\u1e52", "0/\u1e50\u1e51\u1e52/\u1e51\u1e52"}, {"\u1e50\u1e51\u1e52", "\u1e50\u1e51", "6/\u1e52/"}, {"\u0700\u0720", "\u0700\u0720\u0741", "0/\u0700\u0720/\u0700\u0720\u0741"}, {"\u0600\u0630\u0600x", "\u0600x", "0/\u0600\u0630\u0600/\u0600"}, {"\u1e00\u1f00\u1e01", "\u1e00", "0/\u1e00\u1f00\u1e01/\u1e00"},
		{"\u0200a\u6000", "\u0200b\u6000", "2/a/b"}, {"\u6000\U00010000a", "\u6000a", "3/\U00010000/"},
		// Bytes that are no point's are characters, and unlike where the bytes are.
		{"\xFF", "\xFE", "0/\xFF/\xFE"}, {"\xFF", "\uFFFD", "0/\xFF/\uFFFD"}, {"a\xFFb", "ab", "1/\xFF/"}, {"a\xE2\x82b", "a\xE2b", "2/\x82/"}, {"\xE2\x82", "\u20ac", "0/\xE2\x82/\u20ac"}, {"\xE1\x80\x80", "\xE1\x80", "0/\u1000/\xE1\x80"}, {"\xFF\u1000", "\xFF", "0/\xFF\u1000/\xFF"},
		{"\x00", "", "0/\x00/"}, {"A", "a", "0/A/a"}, {"\u2000", "A\u1000", "0/\u2000/A\u1000"},
	} {
		isDiff(t, row.a, row.b, stepsFrom(row.want))
		isDiffPlainly(t, row.a, row.b)
	}
	isDiff(t, "a\r\nb", "a\nb", []impl.Step{{At: 1, Gone: "\r\n", Came: "\n"}})
	isDiff(t, "a b", "a  b", []impl.Step{{At: 2, Came: " "}})
}

func TestAllShortDiffs(t *testing.T) {
	pairs := func(words []string, most int) {
		var texts []string
		eachRow(words, most, func(text string) { texts = append(texts, text) })
		slices.Sort(texts)
		texts = slices.Compact(texts)
		for _, a := range texts {
			for _, b := range texts {
				isDiffPlainly(t, a, b)
			}
		}
	}
	pairs([]string{"a", "b"}, 6)
	pairs([]string{"a", "b", "c"}, 4)
	pairs([]string{"a", "\u1000", "\xFF", "\u1e50"}, 3)
}

func TestRandomDiffs(t *testing.T) {
	r := rand.New(rand.NewSource(2102))
	for range 800 {
		for _, points := range [][]int64{{'a', 'b'}, {'a', 'b', 'c', 'd'}, cutAlphabet(), {'a', 0x1000, 0x1E50, 0x1E51, 0x0D, 0x0A}} {
			a := randomNormText(r, points, 20)
			isDiffPlainly(t, a, randomNormText(r, points, 20))
			b := a
			for range 1 + r.Intn(4) {
				switch at := r.Intn(len(b) + 1); r.Intn(3) {
				case 0:
					b = b[:at] + randomNormText(r, points, 2) + b[at:]
				case 1:
					b = b[:at] + b[min(at+1+r.Intn(3), len(b)):]
				default:
					b = cutBytes(r, b)
				}
			}
			isDiffPlainly(t, a, b)
			isDiffPlainly(t, b, a)
		}
	}
}

// partsOfSteps counts the characters that go and come.
func partsOfSteps(steps []impl.Step) (gone int, came int) {
	for _, step := range steps {
		gone, came = gone+len(impl.Chars(step.Gone)), came+len(impl.Chars(step.Came))
	}
	return gone, came
}

func TestCountsOfDiffs(t *testing.T) {
	for _, char := range []string{"a", "\u0200", "a\u1000\u1010", "\xFF", "\u1e50\u1e51", "\r\n"} {
		for _, count := range []int{299, 300} {
			text := strings.Repeat(char, count)
			isDiff(t, text, "", []impl.Step{{Gone: text}})
			isDiff(t, "", text, []impl.Step{{Came: text}})
			isDiff(t, text, text, nil)
			isDiff(t, text, strings.Repeat("z", 300), []impl.Step{{Gone: text, Came: strings.Repeat("z", 300)}})
			isDiff(t, text, "zz"+text[len(char)*2:], []impl.Step{{Gone: char + char, Came: "zz"}})
		}
		for _, count := range []int{301, 302, 1000, 5000} {
			text := strings.Repeat(char, count)
			for _, other := range []string{"", "z", text, text[:len(char)*300]} {
				if got := impl.DiffTexts(text, other); len(got) != 0 {
					t.Errorf("DiffTexts of %d characters and %+.20q: got %d steps", count, other, len(got))
				}
				if got := impl.DiffTexts(other, text); len(got) != 0 {
					t.Errorf("DiffTexts of %+.20q and %d characters: got %d steps", other, count, len(got))
				}
			}
		}
	}
	// As many steps as can be, and ways that differ widely.
	a, b := strings.Repeat("ab", 150), strings.Repeat("xb", 150)
	steps := impl.DiffTexts(a, b)
	isMadeBySteps(t, a, b, steps)
	if len(steps) != 150 {
		t.Errorf("DiffTexts of pairs: got %d steps", len(steps))
	}
	r := rand.New(rand.NewSource(2103))
	for range 20 {
		most := func(i int) string { return strings.Repeat("x", i) }
		a, b := most(r.Intn(150))+strings.Repeat("ab", 50)+most(r.Intn(50)), strings.Repeat("ab", r.Intn(100))+most(r.Intn(100))
		steps := impl.DiffTexts(a, b)
		isMadeBySteps(t, a, b, steps)
		gone, came := partsOfSteps(steps)
		if kept := keptMost(a, b); gone != len(a)-kept || came != len(b)-kept {
			t.Errorf("DiffTexts of %q and %q: %d go and %d come, where %d can be kept", a, b, gone, came, kept)
		}
	}
}

// keptMost is how many bytes two texts can have in common, in their order.
func keptMost(a string, b string) int {
	best := make([]int, len(b)+1)
	for i := range a {
		ahead := 0
		for j := range b {
			here := max(best[j], best[j+1])
			if a[i] == b[j] {
				here = max(here, ahead+1)
			}
			ahead, best[j+1] = best[j+1], here
		}
	}
	return best[len(b)]
}

func TestSizesOfDiffs(t *testing.T) {
	marked := "a" + strings.Repeat("\u1000", 21845) // 65536 bytes, one character
	isDiff(t, marked, marked, nil)
	isDiff(t, marked, "", []impl.Step{{Gone: marked}})
	isDiff(t, "", marked, []impl.Step{{Came: marked}})
	isDiff(t, marked, "b"+marked[1:], []impl.Step{{Gone: marked, Came: "b" + marked[1:]}})
	isDiff(t, "xy"+marked[:65533], "x"+marked[:65533], []impl.Step{{At: 1, Gone: "y"}})
	for _, text := range []string{marked + "b", "b" + marked, marked + marked, strings.Repeat("a", 65537), strings.Repeat("\xFF", 70000)} {
		for _, other := range []string{"", "a", marked, text} {
			if got := impl.DiffTexts(text, other); len(got) != 0 {
				t.Errorf("DiffTexts of %d and %d bytes: got %d steps", len(text), len(other), len(got))
			}
			if got := impl.DiffTexts(other, text); len(got) != 0 {
				t.Errorf("DiffTexts of %d and %d bytes: got %d steps", len(other), len(text), len(got))
			}
		}
	}
	long := strings.Repeat("a"+strings.Repeat("\u1000", 72), 300)
	isDiff(t, long, long[:len(long)-3], []impl.Step{{At: 299 * 217, Gone: long[:217], Came: long[:214]}})
}

// linesCutPlainly are the pieces of a text that end with a U+0A, and what is left.
func linesCutPlainly(text string) (lines []string) {
	for _, line := range strings.SplitAfter(text, "\n") {
		if line != "" {
			lines = append(lines, line)
		}
	}
	return lines
}

// keptPlainly tells for places of from where they are kept in to.
func keptPlainly(from []string, to []string) map[int]int {
	kept := map[int]int{}
	i, j := 0, 0
	for _, letter := range scriptPlainly(from, to) {
		switch letter {
		case 'k':
			kept[i] = j
			i, j = i+1, j+1
		case 'l':
			i++
		default:
			j++
		}
	}
	return kept
}

func mergedPlainly(base string, a string, b string) impl.Merged {
	if len(base) > 65536 || len(a) > 65536 || len(b) > 65536 {
		return impl.Merged{Code: impl.ErrSize}
	}
	lines, left, right := linesCutPlainly(base), linesCutPlainly(a), linesCutPlainly(b)
	if len(lines) > 300 || len(left) > 300 || len(right) > 300 {
		return impl.Merged{Code: impl.ErrLimit}
	}
	inLeft, inRight := keptPlainly(lines, left), keptPlainly(lines, right)
	var out impl.Merged
	i, j, k := 0, 0, 0
	upTo := func(iEnd int, jEnd int, kEnd int) {
		had, one, other := strings.Join(lines[i:iEnd], ""), strings.Join(left[j:jEnd], ""), strings.Join(right[k:kEnd], "")
		switch {
		case one == had:
			out.Text += other
		case other == had:
			out.Text += one
		case one == other:
			out.Text += one
		default:
			out.Odd++
			out.Text += "<\n" + endedPlainly(one) + "=\n" + endedPlainly(other) + ">\n"
		}
	}
	for at, line := range lines {
		atLeft, isLeft := inLeft[at]
		atRight, isRight := inRight[at]
		if isLeft && isRight {
			upTo(at, atLeft, atRight)
			out.Text += line
			i, j, k = at+1, atLeft+1, atRight+1
		}
	}
	upTo(len(lines), len(left), len(right))
	if len(out.Text) > 65536 {
		return impl.Merged{Code: impl.ErrSize}
	}
	return out
}

func endedPlainly(text string) string {
	if text != "" && text[len(text)-1] != 0x0A {
		return text + "\n"
	}
	return text
}

// turnedOdd is a merged text in which what is odd stands the other way round.
func turnedOdd(text string) string {
	var turned, first, second strings.Builder
	place := &turned
	for _, line := range linesCutPlainly(text) {
		switch line {
		case "<\n":
			first.Reset()
			second.Reset()
			turned.WriteString(line)
			place = &first
		case "=\n":
			place = &second
		case ">\n":
			place = &turned
			turned.WriteString(second.String() + "=\n" + first.String() + line)
		default:
			place.WriteString(line)
		}
	}
	return turned.String()
}

func isMergedTo(t *testing.T, base string, a string, b string, want impl.Merged) {
	t.Helper()
	got := impl.MergeTexts(base, a, b)
	if got != want {
		t.Errorf("MergeTexts of %+.60q, %+.60q and %+.60q: got %s, want %s", base, a, b, historyTold(got), historyTold(want))
	}
	// P52: it does not mind which side is which.
	turned := impl.MergeTexts(base, b, a)
	if turned.Code != got.Code || turned.Odd != got.Odd || got.Odd == 0 && turned.Text != got.Text {
		t.Errorf("MergeTexts of %+.60q, %+.60q and %+.60q: got %s, turned %s", base, a, b, historyTold(got), historyTold(turned))
	}
	if !strings.ContainsAny(base+a+b, "<=>") && turnedOdd(turned.Text) != got.Text {
		t.Errorf("MergeTexts of %+.60q, %+.60q and %+.60q: got %s, turned %s", base, a, b, historyTold(got), historyTold(turned))
	}
}

// isTakenAlone asks for P52: what one side alone changes is taken, and what both change alike.
func isTakenAlone(t *testing.T, base string, a string) {
	t.Helper()
	want := impl.Merged{Text: a}
	isMergedTo(t, base, a, base, want)
	isMergedTo(t, base, base, a, want)
	isMergedTo(t, base, a, a, want)
}

// linesFrom has a letter for each line, and a . at the end of a text whose last line has no end.
func linesFrom(row string) string {
	var text strings.Builder
	letters, isOpen := strings.CutSuffix(row, ".")
	for _, letter := range letters {
		text.WriteString(string(letter) + "\n")
	}
	if isOpen {
		return strings.TrimSuffix(text.String(), "\n")
	}
	return text.String()
}

func TestMergesByHand(t *testing.T) {
	for _, row := range []struct {
		base, a, b, want string
		odd              int64
	}{
		{"", "", "", "", 0}, {"pq", "pq", "pq", "pq", 0}, {"pq.", "pq.", "pq.", "pq.", 0},
		// One side alone.
		{"pqr", "xpqr", "pqr", "xpqr", 0}, {"pqr", "pqr", "pxqr", "pxqr", 0}, {"pqr", "pqrx", "pqr", "pqrx", 0}, {"pqr", "qr", "pqr", "qr", 0}, {"pqr", "pqr", "pr", "pr", 0}, {"pqr", "pxr", "pqr", "pxr", 0}, {"pqr", "", "pqr", "", 0}, {"pqr", "pqr", "xyz", "xyz", 0}, {"", "", "pq", "pq", 0}, {"", "pq", "", "pq", 0},
		// Both alike.
		{"pqr", "pxr", "pxr", "pxr", 0}, {"pqr", "", "", "", 0}, {"", "pq", "pq", "pq", 0}, {"pqr", "xpqr", "xpqr", "xpqr", 0}, {"pqr", "xyz", "xyz", "xyz", 0},
		// Both in different places.
		{"pqr", "xpqr", "pqry", "xpqry", 0}, {"pqr", "xqr", "pqy", "xqy", 0}, {"pqr", "qr", "pq", "q", 0}, {"pqr", "pxqr", "pqyr", "pxqyr", 0}, {"pqrst", "pst", "pqrsu", "psu", 0}, {"pqrst", "xpqrst", "pqrt", "xpqrt", 0}, {"pq", "pxq", "pqx", "pxqx", 0}, {"pqrst", "axqrst", "pqrsyb", "axqrsyb", 0},
		// Side by side: no line between stands fast.
		{"pq", "xq", "py", "<xq=py>", 1}, {"pqrs", "pxrs", "pqys", "p<xr=qy>s", 1}, {"pq", "q", "p", "<q=p>", 1}, {"pqr", "pr", "pqxr", "p<=qx>r", 1},
		// In the same place.
		{"p", "x", "y", "<x=y>", 1}, {"pqr", "pxr", "pyr", "p<x=y>r", 1}, {"pqr", "xqr", "yqr", "<x=y>qr", 1}, {"pqr", "pqx", "pqy", "pq<x=y>", 1}, {"pq", "xpq", "ypq", "<x=y>pq", 1}, {"pq", "pxq", "pyq", "p<x=y>q", 1}, {"pq", "pqx", "pqy", "pq<x=y>", 1}, {"", "x", "y", "<x=y>", 1}, {"", "xy", "x", "<xy=x>", 1}, {"p", "", "x", "<=x>", 1}, {"p", "x", "", "<x=>", 1}, {"pqr", "pr", "pxr", "p<=x>r", 1}, {"pqr", "xyz", "", "<xyz=>", 1}, {"pqr", "pxyr", "pxzr", "p<xy=xz>r", 1},
		// Several odd places, and some that are not.
		{"pqrst", "xqrsy", "zqrsw", "<x=z>qrs<y=w>", 2}, {"pqrst", "xqysz", "aqbsc", "<x=a>q<y=b>s<z=c>", 3}, {"pqrst", "xqysz", "aqrsc", "<x=a>qys<z=c>", 2}, {"pqrst", "xqysz", "xqbsz", "xq<y=b>sz", 1}, {"pqr", "1p2q3r4", "5p6q7r8", "<1=5>p<2=6>q<3=7>r<4=8>", 4},
		// Lines that stand several times.
		{"ppp", "pp", "ppp", "pp", 0}, {"ppp", "pp", "pppp", "pp<=pp>", 1}, {"ppp", "pp", "pp", "pp", 0}, {"p", "pp", "pp", "pp", 0}, {"p", "pp", "ppp", "p<p=pp>", 1}, {"pqpq", "pq", "pqpq", "pq", 0}, {"pqpq", "qp", "pqpqx", "qp<=qx>", 1}, {"pp", "xpp", "ppx", "xppx", 0}, {"pqp", "qp", "pq", "q", 0},
		{"pq", "qp", "pqx", "q<p=x>", 1}, {"pq", "qp", "xpq", "<=xp>qp", 1},
		// Texts without an end of their last line.
		{"p.", "p.", "p", "p", 0}, {"p.", "p", "p.", "p", 0}, {"p", "p.", "p", "p.", 0}, {"p", "p", "p.", "p.", 0}, {"p.", "p", "p", "p", 0}, {"p", "p.", "p.", "p.", 0}, {"pq.", "pq", "xpq.", "xpq", 0}, {"pq", "pq.", "xpq", "xpq.", 0}, {"pq.", "xpq.", "pq.", "xpq.", 0}, {"pq.", "xpq.", "pyq.", "xpyq.", 0},
		{"p.", "x.", "y.", "<x=y>", 1}, {"p.", "x.", "y", "<x=y>", 1}, {"p.", "x", "y.", "<x=y>", 1}, {"p", "x.", "y", "<x=y>", 1}, {"p", "x", "y.", "<x=y>", 1}, {"p", "p.", "px", "<p=px>", 1}, {"p.", "px.", "p", "<px=p>", 1}, {"p.", "p", "pq.", "<p=pq>", 1}, {"pq", "pq.", "pqx.", "p<q=qx>", 1}, {"pq.", "px.", "py.", "p<x=y>", 1}, {"pq.", "p", "px.", "p<=x>", 1}, {"pq.", "p.", "pqx", "<p=pqx>", 1}, {"", "x.", "y.", "<x=y>", 1}, {"", "x.", "", "x.", 0}, {"", "x.", "x.", "x.", 0}, {"", "x.", "x", "<x=x>", 1}, {"p", "x.", "x", "<x=x>", 1}, {"p.", "", "", "", 0}, {"p.", "", "x.", "<=x>", 1},
	} {
		want := impl.Merged{Text: linesFrom(row.want), Odd: row.odd}
		isMergedTo(t, linesFrom(row.base), linesFrom(row.a), linesFrom(row.b), want)
		isMergedTo(t, linesFrom(row.base), linesFrom(row.a), linesFrom(row.b), mergedPlainly(linesFrom(row.base), linesFrom(row.a), linesFrom(row.b)))
	}
	// Empty lines, other ends, bytes that are no point's, lines like those that are put.
	isMergedTo(t, "\n\n", "\n", "\n\n\n", impl.Merged{Text: "\n<\n=\n\n\n>\n", Odd: 1})
	isMergedTo(t, "\n", "\n\n", "\n", impl.Merged{Text: "\n\n"})
	isMergedTo(t, "a\rb", "a\rc", "a\rb", impl.Merged{Text: "a\rc"})
	isMergedTo(t, "a\r\nb\r\n", "x\r\nb\r\n", "a\r\ny\r\nb\r\n", impl.Merged{Text: "<\nx\r\n=\na\r\ny\r\n>\nb\r\n", Odd: 1})
	isMergedTo(t, "a\u2028b\x0b\u0085", "a\u2028b\x0b\u0085", "c", impl.Merged{Text: "c"})
	isMergedTo(t, "\xFF\n\xFE\n", "\xFF\n", "\xFD\n\xFF\n\xFE\n", impl.Merged{Text: "\xFD\n\xFF\n"})
	isMergedTo(t, "\xFF\n", "\uFFFD\n", "\xFE\n", impl.Merged{Text: "<\n\uFFFD\n=\n\xFE\n>\n", Odd: 1})
	isMergedTo(t, "<\n=\n>\n", "<\nx\n>\n", "<\ny\n>\n", impl.Merged{Text: "<\n<\nx\n=\ny\n>\n>\n", Odd: 1})
	isMergedTo(t, "a\u1000\n", "a\n", "a\u1000\n", impl.Merged{Text: "a\n"})
}

// shortLines are all texts of a few lines, each with and without an end of its last line.
func shortLines(letters string, most int) (texts []string) {
	eachRow(strings.Split(letters, ""), most, func(row string) {
		texts = append(texts, linesFrom(row))
		if row != "" {
			texts = append(texts, linesFrom(row+"."))
		}
	})
	slices.Sort(texts)
	return slices.Compact(texts)
}

func TestAllShortMerges(t *testing.T) {
	for _, row := range []struct {
		letters string
		most    int
	}{{"pq", 3}, {"pqr", 2}} {
		texts := shortLines(row.letters, row.most)
		for _, base := range texts {
			for _, a := range texts {
				isTakenAlone(t, base, a)
				for _, b := range texts {
					isMergedTo(t, base, a, b, mergedPlainly(base, a, b))
				}
			}
		}
	}
}

// changedLines is a text with some of its lines changed, put in and taken out.
func changedLines(r *rand.Rand, text string, letters string) string {
	var changed strings.Builder
	letter := func() string { return string(letters[r.Intn(len(letters))]) + "\n" }
	for _, line := range linesCutPlainly(text) {
		switch r.Intn(10) {
		case 0:
			changed.WriteString(letter())
		case 1:
			changed.WriteString(letter() + line)
		case 2:
		default:
			changed.WriteString(line)
		}
	}
	if r.Intn(6) == 0 {
		return strings.TrimSuffix(changed.String(), "\n")
	}
	return changed.String()
}

func TestRandomMerges(t *testing.T) {
	r := rand.New(rand.NewSource(2104))
	odd := map[int64]int{}
	for range 4000 {
		letters := []string{"pq", "pqrs", "pqrstuvwxyzabcdefgh"}[r.Intn(3)]
		var base strings.Builder
		for range r.Intn(14) {
			base.WriteString(string(letters[r.Intn(len(letters))]) + "\n")
		}
		a, b := changedLines(r, base.String(), letters), changedLines(r, base.String(), letters)
		isMergedTo(t, base.String(), a, b, mergedPlainly(base.String(), a, b))
		isTakenAlone(t, base.String(), a)
		isTakenAlone(t, b, a)
		odd[impl.MergeTexts(base.String(), a, b).Odd]++
	}
	if odd[0] < 500 || odd[1] < 500 || odd[2] < 100 {
		t.Errorf("how many were odd: %v", odd)
	}
}

// numberedLines have a number each.
func numberedLines(first int, count int) string {
	var text strings.Builder
	for i := range count {
		text.WriteString(strconv.Itoa(first+i) + "\n")
	}
	return text.String()
}

func TestCountsOfMerges(t *testing.T) {
	for _, piece := range []string{"\n", "p\n", "pq\n"} {
		full := strings.Repeat(piece, 300)
		for _, text := range []string{full, full[:len(full)-1], full[len(piece):] + "p", full[len(piece):]} {
			for _, other := range []string{"", "x", text, "x\n" + full[len(piece):]} {
				isTakenAlone(t, text, other)
				isTakenAlone(t, other, text)
			}
		}
		for _, more := range []string{"p", piece, piece + piece, strings.Repeat(piece, 700)} {
			for _, other := range []string{"", "x", full, full + more} {
				isMergedTo(t, full+more, other, "x", impl.Merged{Code: impl.ErrLimit})
				isMergedTo(t, other, full+more, "x", impl.Merged{Code: impl.ErrLimit})
				isMergedTo(t, other, full+more, full+more, impl.Merged{Code: impl.ErrLimit})
				isMergedTo(t, full+more, other, other, impl.Merged{Code: impl.ErrLimit})
			}
		}
	}
	// 300 lines in all three, of which all but the first and the last stand fast; more than that may come.
	base := numberedLines(0, 300)
	a, b := "x\n"+numberedLines(1, 299), numberedLines(0, 299)+"y\n"
	isMergedTo(t, base, a, b, impl.Merged{Text: "x\n" + numberedLines(1, 298) + "y\n"})
	isMergedTo(t, numberedLines(0, 100), numberedLines(-200, 300), numberedLines(0, 300), impl.Merged{Text: numberedLines(-200, 500)})
	isMergedTo(t, "", base, b, impl.Merged{Text: "<\n" + base + "=\n" + b + ">\n", Odd: 1})
	var every, left, right strings.Builder
	for i := range 150 {
		line := strconv.Itoa(i) + "\n"
		left.WriteString(line + "p\n")
		right.WriteString(line + "q\n")
		every.WriteString(line + "<\np\n=\nq\n>\n")
	}
	isMergedTo(t, numberedLines(0, 150), left.String(), right.String(), impl.Merged{Text: every.String(), Odd: 150})
}

func TestSizesOfMerges(t *testing.T) {
	full := strings.Repeat("c", 65535) + "\n"
	open := strings.Repeat("c", 65536)
	for _, text := range []string{full, open} {
		isTakenAlone(t, text, "")
		isTakenAlone(t, "", text)
		isTakenAlone(t, text, "x")
		isTakenAlone(t, text, text)
	}
	for _, long := range []string{full + "x", open + "c", full + "\n", strings.Repeat("\n", 65537), strings.Repeat("d", 1<<18)} {
		for _, other := range []string{"", "x\n", full, long} {
			isMergedTo(t, long, other, other, impl.Merged{Code: impl.ErrSize})
			isMergedTo(t, other, long, other, impl.Merged{Code: impl.ErrSize})
			isMergedTo(t, other, other, long, impl.Merged{Code: impl.ErrSize})
			// A list of lines that is too long is told behind all texts that are.
			isMergedTo(t, numberedLines(0, 301), other, long, impl.Merged{Code: impl.ErrSize})
			isMergedTo(t, long, numberedLines(0, 301), other, impl.Merged{Code: impl.ErrSize})
		}
	}
	half := strings.Repeat("d", 32766)
	// The merged text: 32767 bytes ahead of p, 2 of p, and what is left behind it.
	for size, code := range map[int]int64{32766: impl.OK, 32767: impl.OK, 32768: impl.ErrSize, 32769: impl.ErrSize, 65000: impl.ErrSize} {
		last := strings.Repeat("e", size-1) + "\n"
		want := impl.Merged{Code: code}
		if code == impl.OK {
			want.Text = half + "\np\n" + last
		}
		isMergedTo(t, "p\n", half+"\np\n", "p\n"+last, want)
	}
	// 6 bytes around what is odd, and the ends that are put.
	for _, row := range []struct {
		a, b, code int64
	}{{32765, 32765, impl.OK}, {32765, 32766, impl.ErrSize}, {1, 65529, impl.OK}, {1, 65530, impl.ErrSize}, {0, 65530, impl.OK}, {0, 65531, impl.ErrSize}, {65536, 65535, impl.ErrSize}} {
		for _, isOpen := range []bool{false, true} {
			text := func(letter string, size int64) string {
				switch {
				case size == 0:
					return ""
				case isOpen: // the end that is put counts, too
					return strings.Repeat(letter, int(size-1))
				}
				return strings.Repeat(letter, int(size-1)) + "\n"
			}
			a, b := text("d", row.a), text("e", row.b)
			if a == "" && row.a > 0 {
				continue // a text without its end is none then
			}
			want := impl.Merged{Code: row.code}
			if row.code == impl.OK {
				want = impl.Merged{Text: "<\n" + endedPlainly(a) + "=\n" + endedPlainly(b) + ">\n", Odd: 1}
			}
			isMergedTo(t, "p\n", a, b, want)
		}
	}
	// Lines are counted ahead of what would be told.
	many := strings.Repeat(strings.Repeat("x", 150)+"\n", 301)
	isMergedTo(t, "", many, strings.Repeat("y", 65536), impl.Merged{Code: impl.ErrLimit})
}

func TestMergersHaveEnded(t *testing.T) {
	before := runtime.NumGoroutine()
	base, a, b := numberedLines(0, 300), "x\n"+numberedLines(0, 299), numberedLines(1, 299)
	want := mergedWanted(t, base, a, b)
	for range 200 {
		if got := impl.MergeTexts(base, a, b); got != want {
			t.Fatalf("asked again: %s", historyTold(got))
		}
	}
	haveEnded(t, before)
}

func mergedWanted(t *testing.T, base string, a string, b string) impl.Merged {
	t.Helper()
	want := impl.Merged{Text: "<\nx\n0\n=\n>\n" + numberedLines(1, 298), Odd: 1}
	isMergedTo(t, base, a, b, want)
	return want
}

// TestHistoriesAtOnce asks from many goroutines, as nothing is kept between calls.
func TestHistoriesAtOnce(t *testing.T) {
	h := historyFrom("ab", "1//x 0/a/ 0//w/2 1//v/2", 3)
	asked := func() string {
		return fmt.Sprint(impl.HistoryFault(h), impl.TextAt(h, 4), impl.DoStep(h, 1, 1, "y", 2), impl.Undo(h), impl.Redo(h), impl.DiffTexts("abcabba", "cbabac"), impl.MergeTexts("p\nq\nr\n", "x\nq\nr\n", "p\nq\ny\nr\n"))
	}
	want := asked()
	got := make([]string, 64)
	var workers sync.WaitGroup
	for i := range got {
		workers.Go(func() { got[i] = asked() })
	}
	workers.Wait()
	for _, text := range got {
		if text != want {
			t.Errorf("asked at once: %s, want %s", text, want)
		}
	}
}

// textsOfSteps are all texts of steps.
func textsOfSteps(steps []impl.Step) (texts []string) {
	for _, step := range steps {
		texts = append(texts, step.Gone, step.Came)
	}
	return texts
}

func textsOfHistory(h impl.History) []string {
	return append(textsOfSteps(h.Steps), h.Base)
}

func TestHistoriesAreNewMemory(t *testing.T) {
	own := func(row string) string { return strings.Clone(row) }
	h := impl.History{Base: own("abcd"), Steps: spare([]impl.Step{{At: 1, Gone: own("bc"), Came: own("xyz")}, {At: 4, Came: own("uv"), Group: 1}, {At: 6, Came: own("st"), Group: 1}, {Gone: own("ax"), Came: own("AX")}}), Done: 3}
	put := own("klm")
	told := func() string { return fmt.Sprint(h, h.Steps[:cap(h.Steps)], put) }
	given := append(textsOfHistory(h), put)
	before := told()
	asked := func() []impl.HistoryOut {
		last := h
		last.Done = 4
		typed := impl.History{Base: h.Base, Steps: h.Steps[:2], Done: 2}
		return []impl.HistoryOut{
			impl.DoStep(h, 0, 0, put, 0), impl.DoStep(h, 8, 0, put, 1), impl.DoStep(h, 1, 3, put, 2), impl.DoStep(h, 1, 3, "", 2), impl.DoStep(typed, 6, 0, put, 1), impl.DoStep(impl.History{Base: h.Base}, 0, 0, put, 0),
			impl.Undo(h), impl.Undo(last), impl.Redo(h), impl.Redo(impl.History{Base: h.Base, Steps: h.Steps}),
		}
	}
	first := fmt.Sprint(asked())
	for range 2 {
		outs := asked()
		if got := fmt.Sprint(outs); got != first {
			t.Errorf("asked again: %s, want %s", got, first)
		}
		for at, out := range outs {
			if out.Code != impl.OK {
				t.Errorf("answer %d: got code %d", at, out.Code)
			}
			isOwnMemory(t, fmt.Sprintf("answer %d", at), append(textsOfHistory(out.History), out.Text), given)
			for step := range out.History.Steps {
				out.History.Steps[step] = impl.Step{At: -7}
			}
			_ = append(out.History.Steps, impl.Step{At: -8})
		}
		isOwnMemory(t, "TextAt", []string{impl.TextAt(h, 0), impl.TextAt(h, 2), impl.TextAt(h, 4)}, given)
		if told() != before {
			t.Errorf("what was handed in became %s, it was %s", told(), before)
		}
	}
}

func TestDiffsAndMergesAreNewMemory(t *testing.T) {
	a, b, c := strings.Clone("ab\ncd\nef\n"), strings.Clone("ab\nxy\nef\n"), strings.Clone("ab\ncd\nef\ngh")
	given := []string{a, b, c}
	first := fmt.Sprint(impl.DiffTexts(a, b), impl.DiffTexts(b, c), impl.DiffTexts(a, ""), impl.DiffTexts("", c))
	for range 2 {
		lists := [][]impl.Step{impl.DiffTexts(a, b), impl.DiffTexts(b, c), impl.DiffTexts(a, ""), impl.DiffTexts("", c)}
		if got := fmt.Sprint(lists[0], lists[1], lists[2], lists[3]); got != first {
			t.Errorf("asked again: %s, want %s", got, first)
		}
		for _, steps := range lists {
			isOwnMemory(t, "DiffTexts", textsOfSteps(steps), given)
			for at := range steps {
				steps[at] = impl.Step{At: -7}
			}
		}
		for _, merged := range []impl.Merged{impl.MergeTexts(a, b, c), impl.MergeTexts(a, a, a), impl.MergeTexts(a, b, a), impl.MergeTexts(a, a, b), impl.MergeTexts("", c, ""), impl.MergeTexts("x", c, c), impl.MergeTexts(a, "", "")} {
			isOwnMemory(t, "MergeTexts", []string{merged.Text}, given)
		}
		if a != "ab\ncd\nef\n" || b != "ab\nxy\nef\n" || c != "ab\ncd\nef\ngh" {
			t.Errorf("what was handed in became %q, %q, %q", a, b, c)
		}
	}
}
