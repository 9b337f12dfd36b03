package tests

import (
	"fmt"
	"maps"
	"math"
	"math/rand"
	"reflect"
	"runtime"
	"slices"
	"strings"
	"sync"
	"testing"

	"loop.example/g00044/impl"
)

// docFrom has Base, steps as stepsFrom reads them, how many are done (all, if nothing is told) and marks as marksFrom
// reads them, with a | between. A ~ is a blank.
func docFrom(name string, row string) impl.Doc {
	parts := append(strings.Split(row, "|"), "", "", "")
	doc := impl.Doc{Name: name, History: historyFrom(strings.ReplaceAll(parts[0], "~", " "), parts[1], 0), Marks: marksFrom(parts[3])}
	for at, step := range doc.History.Steps {
		doc.History.Steps[at].Gone, doc.History.Steps[at].Came = strings.ReplaceAll(step.Gone, "~", " "), strings.ReplaceAll(step.Came, "~", " ")
	}
	doc.History.Done = int64(len(doc.History.Steps))
	if parts[2] != "" {
		doc.History.Done = numberFrom(parts[2])
	}
	return doc
}

// deskOf has the store of tellingStore, and docs named d, e, f and so on.
func deskOf(rows ...string) impl.Desk {
	d := impl.Desk{Store: tellingStore(), Collator: impl.Collator{Strength: 1}}
	for at, row := range rows {
		d.Docs = append(d.Docs, docFrom(string(rune('d'+at)), row))
	}
	return d
}

// numberedDocs have names that rise.
func numberedDocs(count int) (docs []impl.Doc) {
	for i := range count {
		docs = append(docs, docFrom(fmt.Sprintf("d%02d", i), fmt.Sprint("t", i)))
	}
	return docs
}

// Ops of the doc d.

func deskOpen(name string, text string) impl.DeskOp {
	return impl.DeskOp{Kind: impl.DkOpen, Name: name, Text: text}
}

func deskPut(at int64, num int64, with string) impl.DeskOp {
	return impl.DeskOp{Kind: impl.DkPut, Name: "d", At: at, Num: num, With: with}
}

func deskType(at int64, num int64, with string) impl.DeskOp {
	return impl.DeskOp{Kind: impl.DkPut, Name: "d", At: at, Num: num, With: with, Text: "type"}
}

func deskCase(num int64) impl.DeskOp {
	return impl.DeskOp{Kind: impl.DkCase, Name: "d", Num: num}
}

func deskNormal(num int64) impl.DeskOp {
	return impl.DeskOp{Kind: impl.DkNormal, Name: "d", Num: num}
}

func deskReplace(pattern string, num int64, with string) impl.DeskOp {
	return impl.DeskOp{Kind: impl.DkReplace, Name: "d", Text: pattern, Num: num, With: with}
}

func deskOver(passes string) impl.DeskOp {
	return impl.DeskOp{Kind: impl.DkOver, Name: "d", Text: passes}
}

func deskFind(what string) impl.DeskOp {
	return impl.DeskOp{Kind: impl.DkFind, Name: "d", Text: what}
}

func deskTell(at int64, num int64, locale string, key string, args string) impl.DeskOp {
	return impl.DeskOp{Kind: impl.DkTell, Name: "d", At: at, Num: num, Text: locale, With: key, Args: argsFrom(args)}
}

func deskBreak(style string) impl.DeskOp {
	return impl.DeskOp{Kind: impl.DkBreak, Name: "d", Style: styleFrom(style)}
}

func deskUndo() impl.DeskOp  { return impl.DeskOp{Kind: impl.DkUndo, Name: "d"} }
func deskRedo() impl.DeskOp  { return impl.DeskOp{Kind: impl.DkRedo, Name: "d"} }
func deskSave() impl.DeskOp  { return impl.DeskOp{Kind: impl.DkSave} }
func deskClose() impl.DeskOp { return impl.DeskOp{Kind: impl.DkClose, Name: "d"} }

func deskOps(ops ...impl.DeskOp) []impl.DeskOp { return ops }

func codeTold(code int64) impl.DeskOut { return impl.DeskOut{Code: code} }
func textTold(text string) impl.DeskOut {
	return impl.DeskOut{Text: text}
}
func numTold(text string, num int64) impl.DeskOut {
	return impl.DeskOut{Text: text, Num: num}
}

func sameDoc(a impl.Doc, b impl.Doc) bool {
	return a.Name == b.Name && sameHistory(a.History, b.History) && slices.Equal(a.Marks, b.Marks)
}

// sameDesk does not mind whether a list without items is there.
func sameDesk(a impl.Desk, b impl.Desk) bool {
	return slices.EqualFunc(a.Docs, b.Docs, sameDoc) && sameBundles(a.Store.Bundles, b.Store.Bundles) &&
		fmt.Sprintf("%+v%+v", a.Store.Locales, a.Collator) == fmt.Sprintf("%+v%+v", b.Store.Locales, b.Collator)
}

func sameDeskOut(a impl.DeskOut, b impl.DeskOut) bool {
	return a.Code == b.Code && a.Text == b.Text && a.Num == b.Num && slices.Equal(a.Found, b.Found)
}

func deskTold(d any) string {
	return fmt.Sprintf("%.900s", fmt.Sprintf("%+q", fmt.Sprintf("%.3000s", fmt.Sprintf("%+v", d))))
}

func isDeskRun(t *testing.T, what string, got impl.DeskRun, want impl.DeskRun) {
	t.Helper()
	if got.Code != want.Code || !sameDesk(got.Desk, want.Desk) {
		t.Errorf("%s: got code %d, docs %s, want code %d, docs %s", what, got.Code, deskTold(got.Desk.Docs), want.Code, deskTold(want.Desk.Docs))
	}
	if len(got.Outs) != len(want.Outs) {
		t.Errorf("%s: got %d outs, want %d", what, len(got.Outs), len(want.Outs))
		return
	}
	for at := range want.Outs {
		if !sameDeskOut(got.Outs[at], want.Outs[at]) {
			t.Errorf("%s: op %d: got %s, want %s", what, at, deskTold(got.Outs[at]), deskTold(want.Outs[at]))
		}
	}
	if got.Code == impl.OK && impl.DeskFault(got.Desk) != impl.OK {
		t.Errorf("%s: the desk is not right any more: %s", what, deskTold(got.Desk))
	}
}

// docTextPlainly goes through the steps of a right history.
func docTextPlainly(doc impl.Doc) string {
	texts, _ := versionsPlainly(doc.History)
	return texts[doc.History.Done]
}

func isRightDesk(d impl.Desk) bool {
	for at, doc := range d.Docs {
		_, right := versionsPlainly(doc.History)
		if !right || !areRightMarksPlainly(doc.Marks, int64(len(docTextPlainly(doc)))) {
			return false
		}
		if !isPlainName(doc.Name) || at > 0 && doc.Name <= d.Docs[at-1].Name {
			return false
		}
	}
	return len(d.Docs) <= 8 && isRightStore(d.Store) && impl.CollatorFault(d.Collator) == impl.OK
}

func savedPlainly(docs []impl.Doc) string {
	text := ""
	for _, doc := range docs {
		text += fmt.Sprintf("# %s %d\n%s\n", doc.Name, len(docTextPlainly(doc)), docTextPlainly(doc))
	}
	return text
}

// plainDesk has the docs by their names.
type plainDesk struct {
	impl.Desk
	docs map[string]impl.Doc
}

func (d plainDesk) sorted() (docs []impl.Doc) {
	for _, name := range slices.Sorted(maps.Keys(d.docs)) {
		docs = append(docs, d.docs[name])
	}
	return docs
}

// runPlainly stands on plain histories and marks, and on what the other chapters' calls tell.
func runPlainly(d impl.Desk, ops []impl.DeskOp) impl.DeskRun {
	switch {
	case len(ops) > 1000:
		return impl.DeskRun{Code: impl.ErrSize}
	case !isRightDesk(d):
		return impl.DeskRun{Code: impl.ErrForm}
	case len(ops) > 40:
		return impl.DeskRun{Code: impl.ErrSize}
	}
	work := plainDesk{Desk: d, docs: map[string]impl.Doc{}}
	for _, doc := range d.Docs {
		work.docs[doc.Name] = doc
	}
	run := impl.DeskRun{}
	for _, op := range ops {
		run.Outs = append(run.Outs, work.answer(op))
	}
	run.Desk = impl.Desk{Store: d.Store, Collator: d.Collator, Docs: work.sorted()}
	return run
}

func (d plainDesk) answer(op impl.DeskOp) impl.DeskOut {
	switch op.Kind {
	case impl.DkOpen:
		return d.open(op)
	case impl.DkSave:
		text := savedPlainly(d.sorted())
		if len(text) > 65536 {
			return codeTold(impl.ErrSize)
		}
		return textTold(text)
	}
	doc, isThere := d.docs[op.Name]
	switch {
	case op.Kind < 1 || op.Kind > 13:
		return codeTold(impl.ErrForm)
	case !isThere:
		return codeTold(impl.ErrNone)
	}
	text := docTextPlainly(doc)
	switch op.Kind {
	case impl.DkUndo:
		return d.move(doc, -1)
	case impl.DkRedo:
		return d.move(doc, 1)
	case impl.DkFind:
		found := impl.FindAll(d.Collator, text, op.Text)
		return impl.DeskOut{Found: found, Num: int64(len(found))}
	case impl.DkBreak:
		broken := impl.BreakParagraph(op.Style, text)
		lines := ""
		for _, line := range broken.Lines {
			lines += line.Text + "\n"
		}
		return impl.DeskOut{Code: broken.Code, Text: lines, Num: broken.Cost}
	case impl.DkClose:
		delete(d.docs, op.Name)
		return impl.DeskOut{}
	}
	return d.change(doc, text, op)
}

func (d plainDesk) open(op impl.DeskOp) impl.DeskOut {
	_, isThere := d.docs[op.Name]
	switch {
	case !isPlainName(op.Name):
		return codeTold(impl.ErrForm)
	case len(op.Text) > 65536:
		return codeTold(impl.ErrSize)
	case isThere:
		return codeTold(impl.ErrState)
	case len(d.docs) >= 8:
		return codeTold(impl.ErrCount)
	}
	d.docs[op.Name] = impl.Doc{Name: op.Name, History: impl.History{Base: op.Text}}
	return impl.DeskOut{}
}

func (d plainDesk) move(doc impl.Doc, by int64) impl.DeskOut {
	out := movedOnPlainly(doc.History, by)
	if out.Code != impl.OK {
		return codeTold(out.Code)
	}
	doc.History, doc.Marks = out.History, slices.Clone(doc.Marks)
	for at := range doc.Marks {
		doc.Marks[at].At = min(doc.Marks[at].At, int64(len(out.Text)))
	}
	d.docs[doc.Name] = doc
	return textTold(out.Text)
}

// change does the ops that put something.
func (d plainDesk) change(doc impl.Doc, text string, op impl.DeskOp) impl.DeskOut {
	there := impl.RopeEdit{At: op.At, Drop: op.Num}
	whole := impl.RopeEdit{Drop: int64(len(text))}
	written := impl.Written{}
	switch op.Kind {
	case impl.DkPut:
		there.Put = op.With
		out := d.put(doc, there, map[string]int64{"type": 1}[op.Text], 0)
		out.Num = int64(len(out.Text))
		return out
	case impl.DkTell:
		told := impl.Tell(d.Store, op.Text, op.With, op.Args)
		if told.Code != impl.OK {
			return codeTold(told.Code)
		}
		there.Put = told.Text
		return d.put(doc, there, 0, 0)
	case impl.DkCase, impl.DkNormal:
		written = changedPlainly(op.Kind, op.Num, text)
	case impl.DkReplace:
		read := impl.ReadPattern(op.Text)
		written = impl.Written{Code: read.Code}
		if read.Code == impl.OK {
			written = impl.ReplaceAll(read.Nodes, text, op.Num == 1, op.With)
		}
	case impl.DkOver:
		read := impl.ReadPasses(op.Text)
		written = impl.Written{Code: read.Code}
		if read.Code == impl.OK {
			written = impl.WriteOver(read.Passes, text)
		}
	}
	if written.Code != impl.OK {
		return codeTold(written.Code)
	}
	whole.Put = written.Text
	return d.put(doc, whole, 0, written.Steps)
}

func changedPlainly(kind int64, num int64, text string) impl.Written {
	if num < 1 || num > 4 {
		return impl.Written{Code: impl.ErrForm}
	}
	changed := impl.Normalize(num, text)
	if kind == impl.DkCase {
		changed = []func(text string) string{impl.Upper, impl.Lower, impl.Title, impl.Fold}[num-1](text)
	}
	if text != "" && changed == "" {
		return impl.Written{Code: impl.ErrSize}
	}
	return impl.Written{Text: changed}
}

func (d plainDesk) put(doc impl.Doc, edit impl.RopeEdit, group int64, num int64) impl.DeskOut {
	out := didPlainly(doc.History, edit.At, edit.Drop, edit.Put, group)
	switch out.Code {
	case impl.OK:
	case impl.ErrState:
		return numTold(docTextPlainly(doc), num)
	default:
		return codeTold(out.Code)
	}
	doc.History, doc.Marks = out.History, slices.Clone(doc.Marks)
	for at, mark := range doc.Marks {
		doc.Marks[at].At = movedPlainly(mark, edit)
	}
	d.docs[doc.Name] = doc
	return numTold(out.Text, num)
}

// isDesk asks each call whether a desk is right, and what it tells of the docs.
func isDesk(t *testing.T, what string, d impl.Desk, right bool) {
	t.Helper()
	want := int64(impl.ErrForm)
	if right {
		want = impl.OK
	}
	if got := impl.DeskFault(d); got != want || isRightDesk(d) != right {
		t.Errorf("%s: DeskFault told %d, want %d (read plainly: %v)", what, got, want, isRightDesk(d))
	}
	run := impl.DeskRun{Code: want}
	if right {
		run.Desk = d
	}
	isDeskRun(t, what+", no ops", impl.RunDesk(d, nil), run)
	for count, code := range map[int]int64{1: want, 41: max(want, impl.ErrSize), 1001: impl.ErrSize} {
		if !right && count <= 1000 {
			code = impl.ErrForm
		}
		got := impl.RunDesk(d, slices.Repeat(deskOps(deskUndo()), count))
		if got.Code != code || (len(got.Outs) > 0 || len(got.Desk.Docs)+len(got.Desk.Store.Bundles)+int(got.Desk.Collator.Strength) > 0) && code != impl.OK {
			t.Errorf("%s, %d ops: got code %d, %s, want code %d", what, count, got.Code, deskTold(got), code)
		}
	}
	saved := ""
	if right {
		saved = savedPlainly(d.Docs)
	}
	if got := impl.SaveDesk(d); len(saved) <= 65536 && got != saved || len(saved) > 65536 && got != "" {
		t.Errorf("%s: SaveDesk told %+.100q, want %+.100q", what, got, saved)
	}
	for _, doc := range d.Docs {
		text := ""
		if right {
			text = docTextPlainly(doc)
		}
		if got := impl.DocText(d, doc.Name); got != text {
			t.Errorf("%s: DocText of %+.60q told %+.100q, want %+.100q", what, doc.Name, got, text)
		}
	}
}

// isDoc puts a doc between others, too.
func isDoc(t *testing.T, what string, doc impl.Doc, right bool) {
	t.Helper()
	d := deskOf()
	d.Docs = []impl.Doc{doc}
	isDesk(t, what, d, right)
	if isPlainName(doc.Name) {
		d.Docs = []impl.Doc{docFrom("a", "x"), doc, docFrom("zzzzzzzzzzzzzzzzzzzz", "y|0//z")}
		isDesk(t, what+", between others", d, right && doc.Name > "a" && doc.Name < "zzzzzzzzzzzzzzzzzzzz")
	}
}

// isAnswered runs one op on a desk, by itself and between others that mind nobody.
func isAnswered(t *testing.T, what string, d impl.Desk, op impl.DeskOp, out impl.DeskOut, after impl.Desk) {
	t.Helper()
	want := impl.DeskRun{Desk: after, Outs: []impl.DeskOut{out}}
	got := impl.RunDesk(d, deskOps(op))
	isDeskRun(t, what, got, want)
	isDeskRun(t, what+" (read plainly)", runPlainly(d, deskOps(op)), want)
	// The ops around it are done, whatever its code is.
	around := impl.RunDesk(d, deskOps(deskOpen("zz", "z"), impl.DeskOp{Kind: impl.DkPut, Name: "zz", With: "y"}, impl.DeskOp{Kind: impl.DkClose, Name: "zz"}, op, deskOpen("A", ""), impl.DeskOp{}))
	want.Outs = []impl.DeskOut{{}, numTold("yz", 2), {}, out, codeTold(impl.ErrForm), codeTold(impl.ErrForm)}
	if len(d.Docs) < 8 {
		isDeskRun(t, what+", between others", around, want)
	}
	isTakenBackAtDesk(t, what, d, op)
}

// isTakenBackAtDesk is the last part of P58.
func isTakenBackAtDesk(t *testing.T, what string, d impl.Desk, op impl.DeskOp) {
	t.Helper()
	run := impl.RunDesk(d, deskOps(op))
	if run.Code != impl.OK || op.Kind == impl.DkUndo || op.Kind == impl.DkRedo {
		return
	}
	for _, before := range d.Docs {
		for _, behind := range run.Desk.Docs {
			if behind.Name != before.Name || sameHistory(before.History, behind.History) {
				continue
			}
			text := docTextPlainly(before)
			undone := impl.RunDesk(run.Desk, deskOps(impl.DeskOp{Kind: impl.DkUndo, Name: before.Name}, impl.DeskOp{Kind: impl.DkRedo, Name: before.Name}))
			if op.Text == "type" {
				text = movedOnPlainly(behind.History, -1).Text
			}
			if got := undone.Outs[0]; !sameDeskOut(got, textTold(text)) {
				t.Errorf("%s: taken back: got %s, want %+.200q", what, deskTold(got), text)
			}
			if got := undone.Outs[1]; !sameDeskOut(got, textTold(docTextPlainly(behind))) {
				t.Errorf("%s: done again: got %s, want %+.200q", what, deskTold(got), docTextPlainly(behind))
			}
		}
	}
}

// deskRow is an op on the doc d, as docFrom reads it, ahead of it and behind it (where it says nothing: as it was).
type deskRow struct {
	doc   string
	op    impl.DeskOp
	out   impl.DeskOut
	after string
}

func areAnswered(t *testing.T, rows []deskRow) {
	t.Helper()
	for _, row := range rows {
		d := deskOf(row.doc, "q|0//p|1|m=1")
		after := d
		if row.after != "" {
			after = deskOf(row.after, "q|0//p|1|m=1")
		}
		isAnswered(t, fmt.Sprintf("%+.100q, %s", row.doc, deskTold(row.op)), d, row.op, row.out, after)
	}
}

func TestNumbersOfDesks(t *testing.T) {
	kinds := []int64{impl.DkOpen, impl.DkPut, impl.DkUndo, impl.DkRedo, impl.DkCase, impl.DkNormal, impl.DkReplace, impl.DkOver, impl.DkFind, impl.DkTell, impl.DkBreak, impl.DkSave, impl.DkClose}
	for at, kind := range kinds {
		if kind != int64(at)+1 {
			t.Errorf("kind %d is %d", at+1, kind)
		}
	}
	if impl.MaxDesk != 40 || impl.MaxDocs != 8 {
		t.Errorf("numbers: got %d and %d", impl.MaxDesk, impl.MaxDocs)
	}
}

func TestDesksByHand(t *testing.T) {
	isDesk(t, "nothing but a right collator", impl.Desk{Collator: impl.Collator{Strength: 1}}, true)
	isDesk(t, "nothing at all", impl.Desk{}, false)
	isDesk(t, "a desk", deskOf("ab|1//x||m=3", ""), true)
	for _, docs := range [][]impl.Doc{nil, deskOf("ab|1//x||m=3").Docs} {
		for what, c := range rightCollators() {
			isDesk(t, "a collator of "+what, impl.Desk{Collator: c, Docs: docs}, true)
		}
		for what, c := range wrongCollators() {
			isDesk(t, "a collator of "+what, impl.Desk{Collator: c, Docs: docs}, false)
			isDesk(t, "both wrong, a collator of "+what, impl.Desk{Store: storeFrom("b a", ""), Collator: c, Docs: docs}, false)
		}
		for _, row := range []struct {
			locales, bundles string
			right            bool
		}{{"", "", true}, {"a b<a", "a k=x b", true}, {"b a", "", false}, {"a a", "", false}, {"A", "", false}, {"", "A", false}, {"", "b a", false}, {"", "a k={", false}, {"", "a k=x k=x", false}, {"", "a K=x", false}, {"a", "a k=}", false}} {
			d := impl.Desk{Store: storeFrom(row.locales, row.bundles), Collator: impl.Collator{Strength: 4, Skip: true}, Docs: docs}
			isDesk(t, fmt.Sprintf("a store of %q, %q", row.locales, row.bundles), d, row.right)
		}
	}
	for _, count := range []int{0, 1, 7, 8, 9, 10, 100, 1001} {
		d := deskOf()
		d.Docs = numberedDocs(count)
		isDesk(t, fmt.Sprint(count, " docs"), d, count <= 8)
		if count > 1 {
			for _, at := range []int{1, count / 2, count - 1} {
				d.Docs = numberedDocs(count)
				d.Docs[at].Name = d.Docs[at-1].Name
				isDesk(t, fmt.Sprint(count, " docs, two of one name"), d, false)
				d.Docs = numberedDocs(count)
				d.Docs[at-1].Name, d.Docs[at].Name = d.Docs[at].Name, d.Docs[at-1].Name
				isDesk(t, fmt.Sprint(count, " docs, two that fall"), d, false)
				d.Docs = numberedDocs(count)
				d.Docs[at].History.Done = 1
				isDesk(t, fmt.Sprint(count, " docs, a wrong one"), d, false)
			}
		}
	}
	for name, right := range namesOfStores() {
		isDoc(t, fmt.Sprintf("the name %+.80q", name), docFrom(name, "ab|1//x||m=3"), right)
	}
}

func TestHistoriesOfDesks(t *testing.T) {
	for _, row := range []struct {
		doc   string
		right bool
	}{
		{"", true}, {"ab", true}, {"a\xFFb\n", true}, {"ab|1//x", true}, {"ab|1//x|0", true}, {"ab|0/ab/ 0//x/7", true}, {"ab|0/ab/ 0//x/7|1", true},
		{"ab|1//x|2", false}, {"ab|1//x|-1", false}, {"ab||1", false}, {"ab||-1", false}, {"ab||9223372036854775807", false}, {"ab||-9223372036854775808", false},
		{"ab|1/x/y", false}, {"ab|1/x/y|0", false}, {"ab|3//x", false}, {"ab|-1//x", false}, {"ab|0/a/a", false}, {"ab|0//", false}, {"ab|0//x/-1", false}, {"ab|0//x/1000000", true}, {"ab|0//x/1000001", false}, {"ab|0//x 0/y/|1", false}, {"ab|0//x 4//y|0", false},
	} {
		isDoc(t, fmt.Sprintf("%q", row.doc), docFrom("d", row.doc), row.right)
	}
	full := strings.Repeat("c", 65536)
	for _, row := range []struct {
		what  string
		h     impl.History
		right bool
	}{
		{"the longest Base", impl.History{Base: full}, true}, {"too long a Base", impl.History{Base: full + "c"}, false}, {"too long a Base that is gone", impl.History{Base: full + "c", Steps: []impl.Step{{Gone: full + "c"}}, Done: 1}, false},
		{"the longest text", impl.History{Steps: []impl.Step{{Came: full}}, Done: 1}, true}, {"too long a text", impl.History{Steps: []impl.Step{{Came: full + "c"}}, Done: 1}, false}, {"too long a text, taken back", impl.History{Steps: []impl.Step{{Came: full + "c"}}}, false},
		{"300 steps", impl.History{Steps: manySteps(300), Done: 300}, true}, {"301 steps", impl.History{Steps: manySteps(301), Done: 300}, false}, {"1001 steps", impl.History{Steps: manySteps(1001)}, false},
	} {
		isDoc(t, row.what, impl.Doc{Name: "d", History: row.h}, row.right)
	}
}

func TestMarksOfDesks(t *testing.T) {
	for _, row := range []struct {
		doc   string
		right bool
	}{
		{"|||m=0", true}, {"|||m=1", false}, {"|||m=-1", false}, {"ab|||m=0", true}, {"ab|||m=1!", true}, {"ab|||m=2", true}, {"ab|||m=3", false}, {"ab|||m=3!", false}, {"ab|||m=-1", false}, {"ab|||m=9223372036854775807", false}, {"ab|||m=-9223372036854775808", false}, {"ab|||m=4294967296", false},
		// within a point
		{"\u1000|||m=0", true}, {"\u1000|||m=1", true}, {"\u1000|||m=2!", true}, {"\u1000|||m=3", true}, {"\u1000|||m=4", false}, {"\xE1\x80|||m=1", true}, {"\xE1\x80|||m=3", false},
		// names and their order
		{"ab|||m=0 n=0", true}, {"ab|||m=2 n=0", true}, {"ab|||m=0 m=1", false}, {"ab|||n=0 m=1", false}, {"ab|||m=0 m-=0 m0=0 mm=0", true}, {"ab|||M=0", false}, {"ab|||=0", false}, {"ab|||0=0", false}, {"ab|||abcdefghijklmnopqrst=0", true}, {"ab|||abcdefghijklmnopqrstu=0", false}, {"ab|||a=0 b=1 c=3", false}, {"ab|||a=3 b=1 c=0", false}, {"ab|||a=0 c=0 b=0", false}, {"ab|||a=0 a_=0", false},
		// the text is what Done steps lead to
		{"ab|2//cdef 0/ab/|1|m=6", true}, {"ab|2//cdef 0/ab/|1|m=5", true}, {"ab|2//cdef 0/ab/|1|m=7", false}, {"ab|2//cdef 0/ab/|2|m=4", true}, {"ab|2//cdef 0/ab/|2|m=5", false}, {"ab|2//cdef 0/ab/|0|m=2", true}, {"ab|2//cdef 0/ab/|0|m=3", false},
		{"abcdef|0/abcd/|1|m=2", true}, {"abcdef|0/abcd/|1|m=3", false}, {"abcdef|0/abcd/|0|m=6", true}, {"abcdef|0/abcd/ 2//xyz|1|m=3", false}, {"abcdef|0/abcdef/|1|m=0", true}, {"abcdef|0/abcdef/|1|m=1", false},
	} {
		isDoc(t, fmt.Sprintf("%+q", row.doc), docFrom("d", row.doc), row.right)
	}
	for _, count := range []int{99, 100, 101, 1000, 1001} {
		doc := docFrom("d", "abc")
		doc.Marks = numberedMarks(min(count, 1000), 3)
		if count > 1000 {
			doc.Marks = append(doc.Marks, impl.Mark{Name: "z"})
		}
		isDoc(t, fmt.Sprint(count, " marks"), doc, count <= 100)
		doc.Marks = doc.Marks[:100*min(1, count/100)]
		if len(doc.Marks) > 0 {
			doc.Marks[99].At = 4
			isDoc(t, "a wrong mark behind 99", doc, false)
		}
	}
}

func TestDocTexts(t *testing.T) {
	d := deskOf("ab|2//c 0/a/|1", "", "x\u1000\xFF\n")
	for name, want := range map[string]string{"d": "abc", "e": "", "f": "x\u1000\xFF\n", "g": "", "": "", "D": "", "dd": "", "d ": "", "c": "", "\x00": "", strings.Repeat("d", 65536): "", strings.Repeat("d", 65537): ""} {
		if got := impl.DocText(d, name); got != want {
			t.Errorf("DocText of %+.60q: got %+q, want %+q", name, got, want)
		}
	}
	for done, want := range []string{"ab", "abc", "bc"} {
		d.Docs[0].History.Done = int64(done)
		if got := impl.DocText(d, "d"); got != want {
			t.Errorf("DocText with %d done: got %q, want %q", done, got, want)
		}
	}
	// one wrong thing, wherever it is, and no doc is told
	for what, spoil := range map[string]func(d *impl.Desk){
		"the doc": func(d *impl.Desk) { d.Docs[0].History.Done = 3 }, "another doc": func(d *impl.Desk) { d.Docs[2].Name = "F" }, "a mark": func(d *impl.Desk) { d.Docs[1].Marks = marksFrom("m=1") }, "the store": func(d *impl.Desk) { d.Store = storeFrom("b a", "") }, "the collator": func(d *impl.Desk) { d.Collator.Strength = 5 },
	} {
		d := deskOf("ab|2//c 0/a/|1", "", "x\u1000\xFF\n")
		spoil(&d)
		for _, name := range []string{"d", "e", "f", "F"} {
			if got := impl.DocText(d, name); got != "" {
				t.Errorf("DocText, %s wrong: got %+q", what, got)
			}
		}
		if got := impl.SaveDesk(d); got != "" {
			t.Errorf("SaveDesk, %s wrong: got %+q", what, got)
		}
	}
}

func TestSavedDesks(t *testing.T) {
	for _, row := range []struct {
		docs []string
		want string
	}{
		{nil, ""}, {[]string{""}, "# d 0\n\n"}, {[]string{"ab"}, "# d 2\nab\n"}, {[]string{"a\nb\n"}, "# d 4\na\nb\n\n"}, {[]string{"\n"}, "# d 1\n\n\n"}, {[]string{"\u1000"}, "# d 3\n\u1000\n"}, {[]string{"\xFF"}, "# d 1\n\xFF\n"}, {[]string{"# e 0\n"}, "# d 6\n# e 0\n\n"},
		{[]string{"ab|2//c 0/a/|1"}, "# d 3\nabc\n"}, {[]string{"ab|2//c 0/a/|2|m=1"}, "# d 2\nbc\n"}, {[]string{"ab|2//c|0"}, "# d 2\nab\n"}, {[]string{strings.Repeat("x", 1000)}, "# d 1000\n" + strings.Repeat("x", 1000) + "\n"},
		{[]string{"ab", "", "x"}, "# d 2\nab\n# e 0\n\n# f 1\nx\n"}, {[]string{"", "", "", "", "", "", "", ""}, "# d 0\n\n# e 0\n\n# f 0\n\n# g 0\n\n# h 0\n\n# i 0\n\n# j 0\n\n# k 0\n\n"},
	} {
		d := deskOf(row.docs...)
		if got := impl.SaveDesk(d); got != row.want {
			t.Errorf("SaveDesk of %+q: got %+q, want %+q", row.docs, got, row.want)
		}
		isAnswered(t, fmt.Sprintf("saved, %+q", row.docs), d, deskSave(), textTold(row.want), d)
		// what else it says does not count
		isAnswered(t, fmt.Sprintf("saved, %+q", row.docs), d, impl.DeskOp{Kind: impl.DkSave, Name: "none", At: -1, Num: 9, Text: "(", With: "$", Style: impl.Style{Width: -1}}, textTold(row.want), d)
		d.Docs = append(d.Docs, impl.Doc{Name: "k0", Marks: marksFrom("m=1")})
		if got := impl.SaveDesk(d); got != "" {
			t.Errorf("SaveDesk of a wrong desk: got %+q", got)
		}
	}
	for _, row := range []struct {
		sizes []int
		fits  bool
	}{
		{[]int{65525}, true}, {[]int{65526}, false}, {[]int{65527}, false}, {[]int{65536}, false},
		{[]int{65518, 0}, true}, {[]int{65519, 0}, false}, {[]int{0, 65518}, true}, {[]int{0, 65519}, false}, {[]int{32757, 32757}, true}, {[]int{32757, 32758}, false}, {[]int{65536, 65536, 65536, 65536, 65536, 65536, 65536, 65536}, false},
	} {
		d := deskOf()
		for at, size := range row.sizes {
			d.Docs = append(d.Docs, impl.Doc{Name: string(rune('d' + at)), History: impl.History{Base: strings.Repeat("x", size)}})
		}
		want := savedPlainly(d.Docs)
		out := textTold(want)
		if !row.fits {
			want, out = "", codeTold(impl.ErrSize)
		}
		if got := impl.SaveDesk(d); got != want || len(want) > 65536 || (len(want) > 0) != row.fits {
			t.Errorf("SaveDesk of %v: got %d bytes, want %d", row.sizes, len(got), len(want))
		}
		isAnswered(t, fmt.Sprint("saved, ", row.sizes), d, deskSave(), out, d)
	}
	d := deskOf(strings.Repeat("x", 65525))
	want := "# d 65525\n" + strings.Repeat("x", 65525) + "\n"
	if got := impl.SaveDesk(d); got != want || len(want) != 65536 {
		t.Errorf("SaveDesk of what fits: got %d bytes", len(got))
	}
}

func TestCountsOfOps(t *testing.T) {
	for _, count := range []int{0, 1, 2, 39, 40, 41, 42, 999, 1000, 1001, 5000} {
		ops := slices.Repeat(deskOps(deskPut(0, 0, "x")), count)
		right, wrong := deskOf("ab"), deskOf("ab||1")
		want := runPlainly(right, ops)
		if (want.Code == impl.OK) != (count <= 40) || want.Code != impl.OK && want.Code != impl.ErrSize || len(want.Outs) != count*map[bool]int{true: 1}[count <= 40] {
			t.Errorf("%d ops, read plainly: %s", count, deskTold(want))
		}
		isDeskRun(t, fmt.Sprint(count, " ops"), impl.RunDesk(right, ops), want)
		code := int64(impl.ErrForm)
		if count > 1000 {
			code = impl.ErrSize
		}
		isDeskRun(t, fmt.Sprint(count, " ops at a wrong desk"), impl.RunDesk(wrong, ops), impl.DeskRun{Code: code})
		isDeskRun(t, fmt.Sprint(count, " ops of no kind"), impl.RunDesk(right, make([]impl.DeskOp, count)), runPlainly(right, make([]impl.DeskOp, count)))
	}
}

func TestKindsOfOps(t *testing.T) {
	d := deskOf("ab|1//x 0/a/|1|m=2", "y")
	for _, kind := range []int64{0, 14, 15, -1, -2, 27, 256 + 2, 1 << 32, 1<<32 + 2, math.MaxInt64, math.MinInt64, math.MinInt64 + 2} {
		for _, op := range deskOps(impl.DeskOp{}, deskPut(0, 0, "x"), deskOpen("n", "x"), deskOpen("N", "x"), deskPut(-1, 0, strings.Repeat("x", 65537))) {
			for _, name := range []string{op.Name, "d", "none", ""} {
				op.Kind, op.Name = kind, name
				isAnswered(t, fmt.Sprint("the kind ", kind), d, op, codeTold(impl.ErrForm), d)
			}
		}
	}
}

// opsOfWrongThings have, of each kind that needs the doc, all that may be wrong in one of them.
func opsOfWrongThings() []impl.DeskOp {
	ops := []impl.DeskOp{}
	for kind := int64(impl.DkPut); kind <= impl.DkClose; kind++ {
		if kind != impl.DkSave {
			for _, op := range deskOps(impl.DeskOp{}, impl.DeskOp{At: -1, Num: -1, Text: "(", With: strings.Repeat("x", 65537)}, impl.DeskOp{Num: 9, Text: strings.Repeat("x", 65537), Args: make([]impl.Arg, 1001)}, impl.DeskOp{Num: 1, Text: "a", With: "hi", Style: impl.Style{Width: 5}}) {
				op.Kind = kind
				ops = append(ops, op)
			}
		}
	}
	return ops
}

func TestOpsWithoutTheirDoc(t *testing.T) {
	for _, d := range []impl.Desk{deskOf(), deskOf("ab|1//x 0/a/|1|m=2"), deskOf("a", "b", "c", "d", "e", "f", "g", "h")} {
		for _, op := range opsOfWrongThings() {
			for _, name := range []string{"", "c", "da", "dd", "z", "D", "d ", "-", strings.Repeat("d", 21), strings.Repeat("d", 65537)} {
				op.Name = name
				isAnswered(t, fmt.Sprintf("no doc %+.30q", name), d, op, codeTold(impl.ErrNone), d)
			}
		}
	}
}

func TestOpeningDocs(t *testing.T) {
	full := strings.Repeat("x", 65536)
	d := deskOf("ab|1//x 0/a/|1|m=2", "y")
	d.Docs[1].Name = "k"
	opened := func(name string, text string, at int) impl.Desk {
		after := d
		after.Docs = slices.Insert(slices.Clone(d.Docs), at, impl.Doc{Name: name, History: impl.History{Base: text}})
		return after
	}
	for _, row := range []struct {
		name, text string
		code       int64
		at         int
	}{
		{"a", "x", impl.OK, 0}, {"e", "x", impl.OK, 1}, {"z", "x", impl.OK, 2}, {"d-", "", impl.OK, 1}, {"d0", "\n", impl.OK, 1}, {"dd", "a\u1000", impl.OK, 1}, {"c", "\xFF", impl.OK, 0}, {"c", "\xE1\x80", impl.OK, 0}, {"l", "\x00", impl.OK, 2}, {"jz", "type", impl.OK, 1}, {"abcdefghijklmnopqrst", "x", impl.OK, 0},
		{"a", full, impl.OK, 0}, {"a", full[1:], impl.OK, 0}, {"a", full + "x", impl.ErrSize, 0}, {"a", full + full, impl.ErrSize, 0},
		{"d", "x", impl.ErrState, 0}, {"k", "x", impl.ErrState, 0}, {"k", "y", impl.ErrState, 0}, {"d", "", impl.ErrState, 0}, {"d", full, impl.ErrState, 0},
		// several at once
		{"d", full + "x", impl.ErrSize, 0}, {"D", full + "x", impl.ErrForm, 0}, {"", full + "x", impl.ErrForm, 0},
	} {
		after := d
		if row.code == impl.OK {
			after = opened(row.name, row.text, row.at)
		}
		isAnswered(t, fmt.Sprintf("opened %q, %+.60q", row.name, row.text), d, deskOpen(row.name, row.text), codeTold(row.code), after)
		// what else it says does not count
		isAnswered(t, fmt.Sprintf("opened %q", row.name), d, impl.DeskOp{Kind: impl.DkOpen, Name: row.name, Text: row.text, At: -1, Num: -9, With: full + "x", Style: impl.Style{Width: -1}, Args: make([]impl.Arg, 1001)}, codeTold(row.code), after)
	}
	for name, right := range namesOfStores() {
		if name == "a" {
			continue
		}
		d, code, after := deskOf(), int64(impl.ErrForm), deskOf()
		if right {
			code, after.Docs = impl.OK, []impl.Doc{{Name: name, History: impl.History{Base: "x"}}}
		}
		isAnswered(t, fmt.Sprintf("opened %+.60q", name), d, deskOpen(name, "x"), codeTold(code), after)
		isAnswered(t, fmt.Sprintf("opened %+.60q", name), deskOf("a", "b", "c", "d", "e", "f", "g", "h"), deskOpen(name, "x"), codeTold(max(code, map[bool]int64{true: impl.ErrCount}[right])), deskOf("a", "b", "c", "d", "e", "f", "g", "h"))
	}
}

func TestOpeningTheLastDoc(t *testing.T) {
	names := strings.Fields("a a- b d0 dd m-m y z")
	r := rand.New(rand.NewSource(241))
	for range 60 {
		order := r.Perm(len(names))
		var ops []impl.DeskOp
		for _, at := range order {
			ops = append(ops, deskOpen(names[at], "the text of "+names[at]))
		}
		ops = append(ops, deskOpen("new", "x"), deskOpen(names[3], "x"), deskOpen("N", "x"), deskOpen("new", strings.Repeat("x", 65537)), deskOpen("N", strings.Repeat("x", 65537)), deskOpen(names[3], strings.Repeat("x", 65537)))
		want := impl.DeskRun{Desk: deskOf(), Outs: slices.Concat(make([]impl.DeskOut, 8), []impl.DeskOut{codeTold(impl.ErrCount), codeTold(impl.ErrState), codeTold(impl.ErrForm), codeTold(impl.ErrSize), codeTold(impl.ErrForm), codeTold(impl.ErrSize)})}
		for _, name := range names {
			want.Desk.Docs = append(want.Desk.Docs, docFrom(name, "the text of "+name))
		}
		isDeskRun(t, fmt.Sprint("opened in the order ", order), impl.RunDesk(deskOf(), ops), want)
		// one closed makes room for one
		ops = append(ops, impl.DeskOp{Kind: impl.DkClose, Name: names[order[0]]}, deskOpen("new", "x"), deskOpen("newer", "x"))
		got := impl.RunDesk(deskOf(), ops)
		isDeskRun(t, fmt.Sprint("closed and opened in the order ", order), got, runPlainly(deskOf(), ops))
		if len(got.Desk.Docs) != 8 || got.Outs[15].Code != impl.OK || got.Outs[16].Code != impl.ErrCount {
			t.Errorf("one closed, one opened: %s", deskTold(got.Outs))
		}
	}
}

func TestPuttingByHand(t *testing.T) {
	none := codeTold(impl.ErrNone)
	areAnswered(t, []deskRow{
		{"ab", deskPut(0, 0, "x"), numTold("xab", 3), "ab|0//x"}, {"ab", deskPut(1, 0, "x"), numTold("axb", 3), "ab|1//x"}, {"ab", deskPut(2, 0, "xy"), numTold("abxy", 4), "ab|2//xy"}, {"ab", deskPut(0, 1, "x"), numTold("xb", 2), "ab|0/a/x"}, {"ab", deskPut(0, 2, ""), numTold("", 0), "ab|0/ab/"}, {"ab", deskPut(1, 1, "xyz"), numTold("axyz", 4), "ab|1/b/xyz"}, {"", deskPut(0, 0, "x"), numTold("x", 1), "|0//x"},
		// places that are none
		{"ab", deskPut(-1, 0, "x"), none, ""}, {"ab", deskPut(3, 0, "x"), none, ""}, {"ab", deskPut(0, -1, "x"), none, ""}, {"ab", deskPut(0, 3, "x"), none, ""}, {"ab", deskPut(1, 2, "x"), none, ""}, {"ab", deskPut(2, 1, "x"), none, ""}, {"ab", deskPut(2, -1, "x"), none, ""}, {"ab", deskPut(1, math.MaxInt64, "x"), none, ""}, {"ab", deskPut(math.MaxInt64, 1, "x"), none, ""}, {"ab", deskPut(math.MaxInt64, math.MaxInt64, "x"), none, ""}, {"ab", deskPut(math.MinInt64, 0, "x"), none, ""}, {"ab", deskPut(0, math.MinInt64, "x"), none, ""}, {"ab", deskPut(math.MinInt64, math.MinInt64, "x"), none, ""}, {"ab", deskPut(1<<32, 0, "x"), none, ""}, {"ab", deskPut(1, 1<<32, "x"), none, ""}, {"", deskPut(1, 0, "x"), none, ""}, {"", deskPut(0, 1, "x"), none, ""},
		{"ab", deskPut(3, 0, ""), none, ""}, {"ab", deskPut(-1, 0, ""), none, ""}, {"ab", deskPut(0, 3, ""), none, ""}, {"ab", deskPut(0, -1, ""), none, ""},
		// within a point
		{"a\u1000", deskPut(2, 0, "x"), numTold("a\xE1x\x80\x80", 5), "a\u1000|2//x"}, {"a\u1000", deskPut(2, 1, ""), numTold("a\xE1\x80", 3), "a\u1000|2/\x80/"}, {"a\u1000", deskPut(3, 1, "\xFF"), numTold("a\xE1\x80\xFF", 4), "a\u1000|3/\x80/\xFF"}, {"\u0220|||m=1 n=2", deskPut(1, 0, "\xA0"), numTold("\xC8\xA0\xA0", 3), "\u0220|1//\xA0||m=2 n=3"},
		// what stands there already
		{"ab", deskPut(0, 0, ""), numTold("ab", 2), ""}, {"ab", deskPut(2, 0, ""), numTold("ab", 2), ""}, {"", deskPut(0, 0, ""), numTold("", 0), ""}, {"ab", deskPut(0, 1, "a"), numTold("ab", 2), ""}, {"ab", deskPut(1, 1, "b"), numTold("ab", 2), ""}, {"ab", deskPut(0, 2, "ab"), numTold("ab", 2), ""}, {"ab|||m=0 n=1 o=2", deskPut(0, 2, "ab"), numTold("ab", 2), ""}, {"ab|0//x 1//y|1|m=2", deskPut(0, 1, "x"), numTold("xab", 3), ""}, {"ab|0//x 1//y|0|m=2", deskPut(1, 0, ""), numTold("ab", 2), ""}, {"ab|2//c/1|1", deskType(3, 0, ""), numTold("abc", 3), ""}, {"aa", deskPut(0, 1, "aa"), numTold("aaa", 3), "aa|0/a/aa"},
		// steps that were taken back go
		{"ab|0//x 1//y|1", deskPut(0, 1, ""), numTold("ab", 2), "ab|0//x 0/x/"}, {"ab|0//x 1//y|0", deskPut(2, 0, "z"), numTold("abz", 3), "ab|2//z"}, {"ab|0//x 1//y|1", deskPut(1, 0, "y"), numTold("xyab", 4), "ab|0//x 1//y"}, {"ab|0//x 1//y|1", deskPut(9, 0, "y"), none, ""}, {"ab|0//xyz|0", deskPut(3, 0, ""), none, ""}, {"ab|0/ab/|0", deskPut(1, 1, "z"), numTold("az", 2), "ab|1/b/z"},
		// a place of the text as it stands, not of another one
		{"ab|0//xyz|1", deskPut(5, 0, "w"), numTold("xyzabw", 6), "ab|0//xyz 5//w"}, {"ab|0//xyz|0", deskPut(5, 0, "w"), none, ""}, {"abcd|0/abc/|1", deskPut(2, 0, "w"), none, ""},
	})
}

func TestGroupsOfPutting(t *testing.T) {
	areAnswered(t, []deskRow{
		{"ab", deskType(2, 0, "c"), numTold("abc", 3), "ab|2//c/1"}, {"ab|2//c/1", deskType(3, 0, "d"), numTold("abcd", 4), "ab|2//cd/1"}, {"ab|2//c/1", deskType(2, 0, "d"), numTold("abdc", 4), "ab|2//c/1 2//d/1"}, {"ab|2//c/1", deskType(0, 0, "d"), numTold("dabc", 4), "ab|2//c/1 0//d/1"}, {"ab|2//c/1", deskType(2, 1, "d"), numTold("abd", 3), "ab|2//c/1 2/c/d/1"}, {"ab|2//c/1", deskType(2, 1, ""), numTold("ab", 2), "ab|2//c/1 2/c//1"}, {"ab|1/b/c/1", deskType(2, 0, "d"), numTold("acd", 3), "ab|1/b/c/1 2//d/1"}, {"ab|2//c/2", deskType(3, 0, "d"), numTold("abcd", 4), "ab|2//c/2 3//d/1"}, {"ab|2//c", deskType(3, 0, "d"), numTold("abcd", 4), "ab|2//c 3//d/1"}, {"ab|2//c/1", deskPut(3, 0, "d"), numTold("abcd", 4), "ab|2//c/1 3//d"},
		{"ab|2//c/1 3//d/1|1", deskType(3, 0, "e"), numTold("abce", 4), "ab|2//ce/1"}, {"ab|2//c/1 0//d/1|2|m=4", deskType(1, 0, "e"), numTold("deabc", 5), "ab|2//c/1 0//de/1||m=5"}, {"ab|2//c/1||m=3 n=3! o=2", deskType(3, 0, "d"), numTold("abcd", 4), "ab|2//cd/1||m=4 n=3! o=2"},
	})
	// no other text is typed
	for _, text := range []string{"", "type ", " type", "Type", "TYPE", "typ", "typed", "type\n", "type\x00", "t", "1", "\xFF", strings.Repeat("type", 20000)} {
		op := deskType(3, 0, "d")
		op.Text = text
		areAnswered(t, []deskRow{{"ab|2//c/1", op, numTold("abcd", 4), "ab|2//c/1 3//d"}, {"ab|2//c", op, numTold("abcd", 4), "ab|2//c 3//d"}})
	}
	// what else it says does not count
	op := deskType(3, 0, "d")
	op.Style, op.Args = impl.Style{Width: -1}, make([]impl.Arg, 1001)
	areAnswered(t, []deskRow{{"ab|2//c/1", op, numTold("abcd", 4), "ab|2//cd/1"}})
}

func TestMarksOfPutting(t *testing.T) {
	areAnswered(t, []deskRow{
		{"abcd|||m=0 n=1 o=2 p=4", deskPut(1, 0, "xy"), numTold("axybcd", 6), "abcd|1//xy||m=0 n=3 o=4 p=6"}, {"abcd|||m=0! n=1! o=2! p=4!", deskPut(1, 0, "xy"), numTold("axybcd", 6), "abcd|1//xy||m=0! n=1! o=4! p=6!"},
		{"abcd|||m=0 n=1 o=2 p=3 q=4", deskPut(1, 2, "xyz"), numTold("axyzd", 5), "abcd|1/bc/xyz||m=0 n=1 o=4 p=4 q=5"}, {"abcd|||m=0! n=1! o=2! p=3! q=4!", deskPut(1, 2, "xyz"), numTold("axyzd", 5), "abcd|1/bc/xyz||m=0! n=1! o=1! p=4! q=5!"},
		{"abcd|||m=0 n=1 o=2 p=3 q=4", deskPut(0, 4, ""), numTold("", 0), "abcd|0/abcd/||m=0 n=0 o=0 p=0 q=0"}, {"abcd|||m=0! n=1! o=2! p=3! q=4!", deskPut(0, 4, ""), numTold("", 0), "abcd|0/abcd/||m=0! n=0! o=0! p=0! q=0!"}, {"abcd|||m=4 n=4!", deskPut(4, 0, "x"), numTold("abcdx", 5), "abcd|4//x||m=5 n=4!"}, {"|||m=0 n=0!", deskPut(0, 0, "xy"), numTold("xy", 2), "|0//xy||m=2 n=0!"},
		{"abcd|||m=2 n=2! o=1 p=3", deskPut(1, 1, "b"), numTold("abcd", 4), ""}, {"abcd|||m=2 n=2!", deskPut(9, 0, "b"), codeTold(impl.ErrNone), ""}, {"abcd|||m=4 n=0", deskPut(1, 3, "x"), numTold("ax", 2), "abcd|1/bcd/x||m=2 n=0"},
	})
}

func TestSizesOfPutting(t *testing.T) {
	full := strings.Repeat("x", 65536)
	for _, row := range []struct {
		base string
		op   impl.DeskOp
		code int64
	}{
		{"ab", deskPut(0, 2, full), impl.OK}, {"ab", deskPut(1, 1, full[1:]), impl.OK}, {"ab", deskPut(0, 1, full), impl.ErrLimit}, {"ab", deskPut(0, 0, full[1:]), impl.ErrLimit}, {"ab", deskPut(0, 0, full[2:]), impl.OK}, {"ab", deskPut(0, 2, full+"x"), impl.ErrSize}, {"ab", deskPut(3, 0, full+"x"), impl.ErrSize}, {"ab", deskPut(-1, -1, full+full), impl.ErrSize}, {"ab", deskPut(3, 0, full), impl.ErrNone}, {"ab", deskPut(0, 3, full), impl.ErrNone},
		{full, deskPut(0, 0, "y"), impl.ErrLimit}, {full, deskPut(65536, 0, "y"), impl.ErrLimit}, {full, deskPut(7, 1, "y"), impl.OK}, {full, deskPut(7, 1, "yz"), impl.ErrLimit}, {full, deskPut(7, 1, "x"), impl.OK}, {full, deskPut(0, 0, ""), impl.OK}, {full, deskPut(0, 65536, full), impl.OK}, {full, deskPut(0, 65536, ""), impl.OK}, {full, deskPut(65537, 0, ""), impl.ErrNone}, {full[1:], deskPut(0, 0, "y"), impl.OK}, {full[1:], deskPut(0, 0, "yz"), impl.ErrLimit},
		{full[1:], deskType(0, 0, "yz"), impl.ErrLimit}, {full[2:], deskType(0, 0, "yz"), impl.OK},
	} {
		d := deskOf(row.base)
		want := runPlainly(d, deskOps(row.op))
		if want.Outs[0].Code != row.code {
			t.Errorf("%d bytes, %s: read plainly code %d, want %d", len(row.base), deskTold(row.op), want.Outs[0].Code, row.code)
		}
		isAnswered(t, fmt.Sprint(len(row.base), " bytes, ", deskTold(row.op)), d, row.op, want.Outs[0], want.Desk)
	}
}

func TestUndoingByHand(t *testing.T) {
	none := codeTold(impl.ErrNone)
	areAnswered(t, []deskRow{
		{"ab", deskUndo(), none, ""}, {"ab", deskRedo(), none, ""}, {"|||m=0", deskUndo(), none, ""}, {"ab|1//x|0", deskUndo(), none, ""}, {"ab|1//x|1", deskRedo(), none, ""},
		{"ab|1//x", deskUndo(), textTold("ab"), "ab|1//x|0"}, {"ab|1//x|0", deskRedo(), textTold("axb"), "ab|1//x"}, {"ab|1//x 0/a/|2", deskUndo(), textTold("axb"), "ab|1//x 0/a/|1"}, {"ab|1//x 0/a/|1", deskUndo(), textTold("ab"), "ab|1//x 0/a/|0"}, {"ab|1//x 0/a/|0", deskRedo(), textTold("axb"), "ab|1//x 0/a/|1"}, {"ab|1//x 0/a/|1", deskRedo(), textTold("xb"), "ab|1//x 0/a/"}, {"ab|0/ab/|1", deskUndo(), textTold("ab"), "ab|0/ab/|0"}, {"ab|0/ab/|0", deskRedo(), textTold(""), "ab|0/ab/"},
		// a group of several steps
		{"ab|0//x/1 0//y/1 0//z/1|3", deskUndo(), textTold("ab"), "ab|0//x/1 0//y/1 0//z/1|0"}, {"ab|0//x/1 0//y/1 0//z/1|2", deskUndo(), textTold("ab"), "ab|0//x/1 0//y/1 0//z/1|0"}, {"ab|0//x/1 0//y/1 0//z/1|0", deskRedo(), textTold("zyxab"), "ab|0//x/1 0//y/1 0//z/1|3"}, {"ab|0//x/1 0//y/1 0//z/1|1", deskRedo(), textTold("zyxab"), "ab|0//x/1 0//y/1 0//z/1|3"}, {"ab|0//x/1 0//y/1 0//z/2|3", deskUndo(), textTold("yxab"), "ab|0//x/1 0//y/1 0//z/2|2"}, {"ab|0//x 0//y 0//z|3", deskUndo(), textTold("yxab"), "ab|0//x 0//y 0//z|2"}, {"ab|0//x/1 0//y 0//z/1|3", deskUndo(), textTold("yxab"), "ab|0//x/1 0//y 0//z/1|2"}, {"ab|0//x/2 0//y/1 0//z/1|3", deskUndo(), textTold("xab"), "ab|0//x/2 0//y/1 0//z/1|1"}, {"ab|0//x 0//y/1 0//z/1|1", deskRedo(), textTold("zyxab"), "ab|0//x 0//y/1 0//z/1|3"},
		// marks beyond the text's length
		{"ab|2//cd|1|m=0 n=2 o=3! p=4", deskUndo(), textTold("ab"), "ab|2//cd|0|m=0 n=2 o=2! p=2"}, {"ab|0//cd|1|m=0 n=1 o=2! p=4", deskUndo(), textTold("ab"), "ab|0//cd|0|m=0 n=1 o=2! p=2"}, {"abcd|0/abcd/x|0|m=4 n=1 o=0 p=2!", deskRedo(), textTold("x"), "abcd|0/abcd/x|1|m=1 n=1 o=0 p=1!"}, {"abcd|0/abcd/|0|m=4 n=1 o=0", deskRedo(), textTold(""), "abcd|0/abcd/|1|m=0 n=0 o=0"}, {"ab|1/b/|1|m=1 n=0", deskUndo(), textTold("ab"), "ab|1/b/|0|m=1 n=0"}, {"ab|1//x|0|m=2 n=1", deskRedo(), textTold("axb"), "ab|1//x|1|m=2 n=1"}, {"|0//abc/1 0//d/1|2|m=4 n=3 o=0!", deskUndo(), textTold(""), "|0//abc/1 0//d/1|0|m=0 n=0 o=0!"}, {"ab||0|m=2", deskUndo(), none, ""},
	})
	// what else it says does not count
	for _, kind := range []int64{impl.DkUndo, impl.DkRedo} {
		op := impl.DeskOp{Kind: kind, Name: "d", At: -1, Num: -1, Text: "(", With: strings.Repeat("x", 65537), Style: impl.Style{Width: -1}, Args: make([]impl.Arg, 1001)}
		d := deskOf("ab|1//x 0/a/|1")
		isAnswered(t, "undone with more", d, op, runPlainly(d, deskOps(impl.DeskOp{Kind: kind, Name: "d"})).Outs[0], runPlainly(d, deskOps(impl.DeskOp{Kind: kind, Name: "d"})).Desk)
	}
	// a step put behind an undo: there is nothing to be done again
	ops := deskOps(deskPut(0, 0, "x"), deskPut(0, 0, "y"), deskUndo(), deskUndo(), deskRedo(), deskPut(3, 0, "z"), deskRedo(), deskUndo(), deskUndo(), deskUndo(), deskRedo(), deskRedo(), deskRedo())
	want := impl.DeskRun{Desk: deskOf("ab|0//x 3//z"), Outs: []impl.DeskOut{numTold("xab", 3), numTold("yxab", 4), textTold("xab"), textTold("ab"), textTold("xab"), numTold("xabz", 4), none, textTold("xab"), textTold("ab"), none, textTold("xab"), textTold("xabz"), none}}
	isDeskRun(t, "put behind an undo", impl.RunDesk(deskOf("ab"), ops), want)
	// but what stands there already takes none away
	ops = deskOps(deskPut(0, 0, "x"), deskUndo(), deskPut(0, 2, "ab"), deskCase(2), deskNormal(2), deskReplace("z", 0, "y"), deskOver(":none\n"), deskRedo())
	want = impl.DeskRun{Desk: deskOf("ab|0//x"), Outs: []impl.DeskOut{numTold("xab", 3), textTold("ab"), numTold("ab", 2), textTold("ab"), textTold("ab"), textTold("ab"), textTold("ab"), textTold("xab")}}
	isDeskRun(t, "nothing put behind an undo", impl.RunDesk(deskOf("ab"), ops), want)
}

func TestCasesOfDocs(t *testing.T) {
	wrong := codeTold(impl.ErrForm)
	rows := []deskRow{
		{"aBc", deskCase(1), textTold("ABC"), "aBc|0/aBc/ABC"}, {"aBc", deskCase(2), textTold("abc"), "aBc|0/aBc/abc"}, {"aBc", deskCase(3), textTold("Abc"), "aBc|0/aBc/Abc"}, {"aBc", deskCase(4), textTold("abc"), "aBc|0/aBc/abc"},
		{"A\u0212", deskCase(1), textTold("A\u0212"), ""}, {"A\u0212", deskCase(2), textTold("a\u0261"), "A\u0212|0/A\u0212/a\u0261"}, {"A\u0212", deskCase(3), textTold("A\u0261"), "A\u0212|0/A\u0212/A\u0261"}, {"A\u0212", deskCase(4), textTold("a\u0232"), "A\u0212|0/A\u0212/a\u0232"},
		{"\u0260b", deskCase(1), textTold("\u0212\u0212B"), "\u0260b|0/\u0260b/\u0212\u0212B"}, {"\u0260b", deskCase(2), textTold("\u0260b"), ""}, {"\u0260b", deskCase(3), textTold("\u0212\u0232b"), "\u0260b|0/\u0260b/\u0212\u0232b"}, {"\u0260b", deskCase(4), textTold("\u0232\u0232b"), "\u0260b|0/\u0260b/\u0232\u0232b"},
		// as it stays
		{"AB", deskCase(1), textTold("AB"), ""}, {"ab", deskCase(2), textTold("ab"), ""}, {"Ab", deskCase(3), textTold("Ab"), ""}, {"ab", deskCase(4), textTold("ab"), ""}, {"12 ", deskCase(1), textTold("12 "), ""}, {"AB|||m=1", deskCase(1), textTold("AB"), ""}, {"AB|0//C 0//d|1|m=1 n=2!", deskCase(1), textTold("CAB"), ""}, {"ab|0//C|0|m=1", deskCase(2), textTold("ab"), ""},
		// all of it is put for all of it
		{"aB|||m=0 n=1 o=1! p=2 q=2!", deskCase(1), textTold("AB"), "aB|0/aB/AB||m=0 n=2 o=0! p=2 q=2!"}, {"\u0260|||m=0 n=1 o=1! p=2 q=2!", deskCase(1), textTold("\u0212\u0212"), "\u0260|0/\u0260/\u0212\u0212||m=0 n=4 o=0! p=4 q=4!"}, {"ab|2//c/1 0//d|1", deskCase(1), textTold("ABC"), "ab|2//c/1 0/abc/ABC"}, {"a\xFF", deskCase(1), textTold("A\uFFFD"), "a\xFF|0/a\xFF/A\uFFFD"}, {"\xFF", deskCase(2), textTold("\uFFFD"), "\xFF|0/\xFF/\uFFFD"},
	}
	for num := int64(1); num <= 4; num++ {
		rows = append(rows, deskRow{"", deskCase(num), textTold(""), ""}, deskRow{"|||m=0", deskCase(num), textTold(""), ""}, deskRow{"|0//x|0|m=0", deskCase(num), textTold(""), ""})
	}
	for _, num := range []int64{0, 5, 6, -1, -4, 1<<32 + 1, math.MaxInt64, math.MinInt64, math.MinInt64 + 1} {
		rows = append(rows, deskRow{"aB", deskCase(num), wrong, ""}, deskRow{"", deskCase(num), wrong, ""})
	}
	areAnswered(t, rows)
	// what else it says does not count
	areAnswered(t, []deskRow{{"aB", impl.DeskOp{Kind: impl.DkCase, Name: "d", Num: 1, At: -1, Text: "type", With: strings.Repeat("x", 65537), Style: impl.Style{Width: -1}}, textTold("AB"), "aB|0/aB/AB"}})
}

// areSized looks at docs of one text many times over, of which the last one that fits is told.
func areSized(t *testing.T, kind int64, num int64, piece string, most int) {
	t.Helper()
	for _, count := range []int{most - 1, most, min(most+1, 65536/len(piece)), 65536 / len(piece)} {
		d := deskOf(strings.Repeat(piece, count))
		op := impl.DeskOp{Kind: kind, Name: "d", Num: num}
		want := runPlainly(d, deskOps(op))
		if (want.Outs[0].Code == impl.OK) != (count <= most) || want.Outs[0].Code != impl.OK && want.Outs[0].Code != impl.ErrSize {
			t.Errorf("kind %d, %d of %+q, %d times, read plainly: code %d", kind, num, piece, count, want.Outs[0].Code)
		}
		isAnswered(t, fmt.Sprintf("kind %d, %d of %+q, %d times", kind, num, piece, count), d, op, want.Outs[0], want.Desk)
	}
}

func TestSizesOfChanges(t *testing.T) {
	for num := int64(1); num <= 4; num++ {
		areSized(t, impl.DkCase, num, "\xFF", 21845)
		areSized(t, impl.DkNormal, num, "\xFF", 21845)
	}
	areSized(t, impl.DkCase, 1, "\u0260", 16384)
	areSized(t, impl.DkCase, 2, "\u0260", 32768)
	areSized(t, impl.DkCase, 3, "\u0260 ", 13107)
	areSized(t, impl.DkCase, 4, "\u0260", 16384)
	areSized(t, impl.DkCase, 1, "a", 65536)
	areSized(t, impl.DkNormal, impl.NormD, "\u20D0", 16384)
	areSized(t, impl.DkNormal, impl.NormKD, "\u20D0", 16384)
	areSized(t, impl.DkNormal, impl.NormC, "\u20D0", 21845)
	areSized(t, impl.DkNormal, impl.NormKC, "\u2730", 21845)
}

func TestFormsOfDocs(t *testing.T) {
	wrong := codeTold(impl.ErrForm)
	rows := []deskRow{
		{"\u20D0\u2730", deskNormal(1), textTold("a\u1000\u2730"), "\u20D0\u2730|0/\u20D0\u2730/a\u1000\u2730"}, {"\u20D0\u2730", deskNormal(2), textTold("\u20D0\u2730"), ""}, {"\u20D0\u2730", deskNormal(3), textTold("a\u1000ff"), "\u20D0\u2730|0/\u20D0\u2730/a\u1000ff"}, {"\u20D0\u2730", deskNormal(4), textTold("\u20D0ff"), "\u20D0\u2730|0/\u20D0\u2730/\u20D0ff"},
		{"a\u1000", deskNormal(1), textTold("a\u1000"), ""}, {"a\u1000", deskNormal(2), textTold("\u20D0"), "a\u1000|0/a\u1000/\u20D0"}, {"a\u1000", deskNormal(3), textTold("a\u1000"), ""}, {"a\u1000", deskNormal(4), textTold("\u20D0"), "a\u1000|0/a\u1000/\u20D0"},
		{"\u20D0|||m=0 n=1 o=2! p=3 q=3!", deskNormal(1), textTold("a\u1000"), "\u20D0|0/\u20D0/a\u1000||m=0 n=4 o=0! p=4 q=4!"}, {"a\u1000|||m=0 n=1 o=1! p=4", deskNormal(2), textTold("\u20D0"), "a\u1000|0/a\u1000/\u20D0||m=0 n=3 o=0! p=3"}, {"ab|2//\u20D0/1 0//d|1", deskNormal(1), textTold("aba\u1000"), "ab|2//\u20D0/1 0/ab\u20D0/aba\u1000"}, {"a\xFF", deskNormal(2), textTold("a\uFFFD"), "a\xFF|0/a\xFF/a\uFFFD"}, {"ab|0//c|0|m=1", deskNormal(4), textTold("ab"), ""},
	}
	for num := int64(1); num <= 4; num++ {
		rows = append(rows, deskRow{"", deskNormal(num), textTold(""), ""}, deskRow{"ab|||m=1", deskNormal(num), textTold("ab"), ""}, deskRow{"|0//x|0|m=0", deskNormal(num), textTold(""), ""})
	}
	for _, num := range []int64{0, 5, 6, -1, -2, 1<<32 + 1, math.MaxInt64, math.MinInt64, math.MinInt64 + 1} {
		rows = append(rows, deskRow{"a\u1000", deskNormal(num), wrong, ""}, deskRow{"", deskNormal(num), wrong, ""}, deskRow{"ab", deskNormal(num), wrong, ""})
	}
	areAnswered(t, rows)
	areAnswered(t, []deskRow{{"a\u1000", impl.DeskOp{Kind: impl.DkNormal, Name: "d", Num: 2, At: -1, Text: "type", With: strings.Repeat("x", 65537), Style: impl.Style{Width: -1}}, textTold("\u20D0"), "a\u1000|0/a\u1000/\u20D0"}})
}

func TestReplacingByHand(t *testing.T) {
	const none = ""
	rows := []deskRow{
		{"ab~a", deskReplace("a", 0, "x"), numTold("xb x", 2), "ab~a|0/ab~a/xb~x"}, {"ab", deskReplace("b", 0, ""), numTold("a", 1), "ab|0/ab/a"}, {"aa", deskReplace("a", 0, ""), numTold("", 2), "aa|0/aa/"}, {"aa", deskReplace("a+", 0, ""), numTold("", 1), "aa|0/aa/"}, {"ab", deskReplace("a|b", 0, "cd"), numTold("cdcd", 2), "ab|0/ab/cdcd"},
		// what counts as caseless
		{"aA", deskReplace("a", 0, "x"), numTold("xA", 1), "aA|0/aA/xA"}, {"aA", deskReplace("a", 1, "x"), numTold("xx", 2), "aA|0/aA/xx"},
		// groups
		{"ab", deskReplace("(a)(b)", 0, "$2$1$0$$"), numTold("baab$", 1), "ab|0/ab/baab$"}, {"ab", deskReplace("(a)|(b)", 0, "<$1$2$3>"), numTold("<a><b>", 2), "ab|0/ab/<a><b>"}, {"ab", deskReplace("a", 0, "$x$"), numTold("$x$b", 1), "ab|0/ab/$x$b"}, {"ab", deskReplace("a", 0, "$1"), numTold("b", 1), "ab|0/ab/b"}, {"aab", deskReplace("(a)\\1", 0, "$1"), numTold("ab", 1), "aab|0/aab/ab"},
		// no match
		{"ab", deskReplace("c", 0, "x"), textTold("ab"), none}, {"ab|||m=1", deskReplace("c", 0, "x"), textTold("ab"), none}, {"ab|0//c|0|m=1", deskReplace("c", 0, "x"), textTold("ab"), none}, {"", deskReplace("c", 0, "x"), textTold(""), none}, {"A", deskReplace("a", 0, "x"), textTold("A"), none}, {"ab|0//c|0", deskReplace("b$", 0, ""), numTold("a", 1), "ab|0/ab/a"},
		// a match of nothing
		{"ab", deskReplace("x*", 0, "-"), numTold("-a-b-", 3), "ab|0/ab/-a-b-"}, {"", deskReplace("", 0, "x"), numTold("x", 1), "|0//x"}, {"|||m=0 n=0!", deskReplace("", 0, "xy"), numTold("xy", 1), "|0//xy||m=2 n=0!"}, {"ab", deskReplace("", 0, ""), numTold("ab", 3), none}, {"ab|||m=1", deskReplace("$", 0, ""), numTold("ab", 1), none}, {"", deskReplace("", 0, ""), numTold("", 1), none},
		// what comes is what stands there
		{"ab", deskReplace("a", 0, "a"), numTold("ab", 1), none}, {"ab|0//c 1//d|1|m=2", deskReplace("[abc]", 0, "$0"), numTold("cab", 3), none},
		// all of it is put for all of it
		{"abc|||m=0 n=1 o=1! p=2 q=3 r=3!", deskReplace("b", 0, "xy"), numTold("axyc", 1), "abc|0/abc/axyc||m=0 n=4 o=0! p=4 q=4 r=4!"}, {"ab|2//c/1 0//d|1", deskReplace("c", 0, "xx"), numTold("abxx", 1), "ab|2//c/1 0/abc/abxx"}, {"ab|2//c 0//d|1", deskReplace("^", 0, "x"), numTold("xabc", 1), "ab|2//c 0/abc/xabc"}, {"a\xFFb", deskReplace("b", 0, "\xFE"), numTold("a\xFF\xFE", 1), "a\xFFb|0/a\xFFb/a\xFF\xFE"},
		// patterns that are none
		{"ab", deskReplace("(", 0, "x"), codeTold(impl.ErrSyntax), none}, {"ab", deskReplace("a{2,1}", 0, "x"), codeTold(impl.ErrSyntax), none}, {"ab", deskReplace("\xFF", 0, "x"), codeTold(impl.ErrSyntax), none}, {"", deskReplace(")", 0, ""), codeTold(impl.ErrSyntax), none}, {"ab", deskReplace("[b-a]", 1, "x"), codeTold(impl.ErrSyntax), none}, {"ab", deskReplace(strings.Repeat("a", 200), 0, "x"), codeTold(impl.ErrCount), none}, {"ab", deskReplace(strings.Repeat("a", 199), 0, "x"), textTold("ab"), none}, {"ab", deskReplace(strings.Repeat("()", 10), 0, "x"), codeTold(impl.ErrCount), none}, {"ab", deskReplace(strings.Repeat("(?:", 21)+strings.Repeat(")", 21), 0, "x"), codeTold(impl.ErrCount), none}, {"ab", deskReplace(strings.Repeat("a", 65536), 0, "x"), codeTold(impl.ErrCount), none}, {"ab", deskReplace(strings.Repeat("a", 65537), 0, "x"), codeTold(impl.ErrSize), none},
		// steps that run out
		{strings.Repeat("a", 40), deskReplace("(?:a|a)*b", 0, "x"), codeTold(impl.ErrLimit), none}, {strings.Repeat("a", 40) + "|||m=3", deskReplace("^(?:a|a)*b|a", 1, "x"), codeTold(impl.ErrLimit), none},
		// several faults at once
		{strings.Repeat("a", 1001), deskReplace("(", 0, strings.Repeat("x", 1001)), codeTold(impl.ErrSyntax), none}, {strings.Repeat("a", 1001), deskReplace("a", 0, "x"), codeTold(impl.ErrSize), none}, {"ab", deskReplace("a", 0, strings.Repeat("x", 1001)), codeTold(impl.ErrSize), none}, {"ab", deskReplace("c", 0, strings.Repeat("x", 1001)), codeTold(impl.ErrSize), none}, {"ab", deskReplace("c", 0, strings.Repeat("x", 65537)), codeTold(impl.ErrSize), none}, {"ab", deskReplace("c", 0, strings.Repeat("x", 1000)), textTold("ab"), none},
	}
	for _, num := range []int64{2, 3, 4, -1, 257, 1<<32 + 1, math.MaxInt64, math.MinInt64, math.MinInt64 + 1} {
		rows = append(rows, deskRow{"aA", deskReplace("a", num, "x"), numTold("xA", 1), "aA|0/aA/xA"})
	}
	areAnswered(t, rows)
}

func TestSizesOfReplacing(t *testing.T) {
	for _, row := range []struct {
		text, with int
		code       int64
	}{{1000, 65, impl.OK}, {1000, 66, impl.ErrSize}, {1000, 1000, impl.ErrSize}, {65, 1000, impl.OK}, {66, 1000, impl.ErrSize}, {1001, 1, impl.ErrSize}, {1001, 0, impl.ErrSize}, {1000, 0, impl.OK}, {65536, 0, impl.ErrSize}} {
		d := deskOf(strings.Repeat("a", row.text))
		op := deskReplace("a", 0, strings.Repeat("x", row.with))
		want := runPlainly(d, deskOps(op))
		if got := want.Outs[0]; got.Code != row.code || got.Code == impl.OK && (len(got.Text) != row.text*row.with || got.Num != int64(row.text)) {
			t.Errorf("%+v, read plainly: %s", row, deskTold(got))
		}
		isAnswered(t, fmt.Sprintf("replaced, %+v", row), d, op, want.Outs[0], want.Desk)
	}
	// 65536 bytes in 1000 points
	d := deskOf(strings.Repeat("a", 935) + strings.Repeat("\u1000", 65))
	op := deskReplace("\u1000", 0, strings.Repeat("x", 993))
	want := runPlainly(d, deskOps(op, deskPut(0, 0, "yyyyyy"), op, deskReplace("y", 0, "")))
	isDeskRun(t, "replaced, and put", impl.RunDesk(d, deskOps(op, deskPut(0, 0, "yyyyyy"), op, deskReplace("y", 0, ""))), want)
	if len(want.Outs[0].Text) != 65480 || want.Outs[1].Num != 65486 || want.Outs[2].Code != impl.ErrSize || want.Outs[3].Code != impl.ErrSize {
		t.Errorf("read plainly: %d bytes, %d, codes %d and %d", len(want.Outs[0].Text), want.Outs[1].Num, want.Outs[2].Code, want.Outs[3].Code)
	}
}

func TestWritingOverByHand(t *testing.T) {
	syntax, wrong, limit := codeTold(impl.ErrSyntax), codeTold(impl.ErrForm), codeTold(impl.ErrLimit)
	areAnswered(t, []deskRow{
		{"aba", deskOver(":none\n[a] > x\n"), numTold("xbx", 2), "aba|0/aba/xbx"}, {"aba", deskOver(":none\n[a] > \n"), numTold("b", 2), "aba|0/aba/b"}, {"aa", deskOver(":none\n[a] > \n"), numTold("", 2), "aa|0/aa/"}, {"ab", deskOver(":none\n[a] > b\n:none\n[b] > cc\n"), numTold("cccc", 3), "ab|0/ab/cccc"}, {"ab", deskOver(":none\na[b] > c\n"), numTold("ac", 1), "ab|0/ab/ac"}, {"\u20D0", deskOver(":D\n[a] > b\n"), numTold("b\u1000", 1), "\u20D0|0/\u20D0/b\u1000"}, {"\u20D0", deskOver(":D\n"), textTold("a\u1000"), "\u20D0|0/\u20D0/a\u1000"}, {"aab", deskOver(":none\n[aa] > a |\n[ab] > c\n"), numTold("c", 2), "aab|0/aab/c"},
		// passes that change nothing
		{"ab", deskOver(""), textTold("ab"), ""}, {"ab", deskOver(":none\n"), textTold("ab"), ""}, {"ab", deskOver(":none\n[c] > x\n"), textTold("ab"), ""}, {"ab", deskOver(":none\n[a] > a\n"), numTold("ab", 1), ""}, {"ab|0//c 0//d|1|m=2", deskOver(":none\n[a] > x\n[c] > c\n:C\n[x] > a\n"), numTold("cab", 3), ""}, {"", deskOver(":KD\n[a] > x\n"), textTold(""), ""}, {"|0//a|0", deskOver(":KD\n[a] > x\n"), textTold(""), ""}, {"ab", deskOver(":C\n"), textTold("ab"), ""},
		// all of it is put for all of it
		{"abc|||m=0 n=1 o=1! p=2 q=3 r=3!", deskOver(":none\n[b] > xy\n"), numTold("axyc", 1), "abc|0/abc/axyc||m=0 n=4 o=0! p=4 q=4 r=4!"}, {"ab|2//c/1 0//d|1", deskOver(":none\n[c] > xx\n"), numTold("abxx", 1), "ab|2//c/1 0/abc/abxx"}, {"a\xFF", deskOver(":none\n"), textTold("a\uFFFD"), "a\xFF|0/a\xFF/a\uFFFD"},
		// passes that are none
		{"ab", deskOver("x"), syntax, ""}, {"ab", deskOver(":none"), syntax, ""}, {"ab", deskOver("[a] > x\n"), syntax, ""}, {"ab", deskOver(":none\n[a] > x"), syntax, ""}, {"ab", deskOver(":E\n"), syntax, ""}, {"", deskOver("\n"), syntax, ""}, {"ab", deskOver(":none\n[] > x\n"), wrong, ""}, {"ab", deskOver(":none\n[a] > x ||\n"), wrong, ""}, {"ab", deskOver(strings.Repeat(":none\n", 11)), wrong, ""}, {"ab", deskOver(strings.Repeat(":none\n", 10)), textTold("ab"), ""}, {"ab", deskOver(":none\n" + strings.Repeat("[a] > x\n", 101)), wrong, ""}, {"ab", deskOver(":none\n" + strings.Repeat("[a] > x\n", 100)), numTold("xb", 1), "ab|0/ab/xb"}, {"ab", deskOver(strings.Repeat("x", 65537)), codeTold(impl.ErrSize), ""}, {"ab", deskOver(strings.Repeat("x", 65536)), syntax, ""},
		// those that run out of steps, or grow too long
		{"ab", deskOver(":none\n[a] > a |\n"), limit, ""}, {"ab|0//c|0|m=1", deskOver(":none\n[b] > x\n:none\n[a] > a |\n"), limit, ""}, {"ab", deskOver(":none\n[a] > aa ||\n"), limit, ""}, {strings.Repeat("a", 3277), deskOver(":none\n[a] > bbbbbbbbbbbbbbbbbbbb\n"), limit, ""}, {strings.Repeat("a", 3277), deskOver(":none\n[a] > bbbbbbbbbbbbbbbbbbbb\n:none\n[b] > \n"), limit, ""}, {strings.Repeat("a", 20001), deskOver(":none\n[a] > b\n"), limit, ""}, {strings.Repeat("\xFF", 21846), deskOver(":none\n"), runPlainly(deskOf(strings.Repeat("\xFF", 21846)), deskOps(deskOver(":none\n"))).Outs[0], ""},
	})
	most := strings.Repeat("a", 20000)
	areAnswered(t, []deskRow{{most, deskOver(":none\n[a] > b\n"), numTold(strings.Repeat("b", 20000), 20000), most + "|0/" + most + "/" + strings.Repeat("b", 20000)}, {strings.Repeat("a", 3276), deskOver(":none\n[a] > bbbbbbbbbbbbbbbbbbbb\n"), numTold(strings.Repeat("b", 65520), 3276), strings.Repeat("a", 3276) + "|0/" + strings.Repeat("a", 3276) + "/" + strings.Repeat("b", 65520)}})
	// what else it says does not count
	op := deskOver(":none\n[a] > x\n")
	op.At, op.Num, op.With, op.Style = -1, -1, strings.Repeat("x", 65537), impl.Style{Width: -1}
	areAnswered(t, []deskRow{{"aba", op, numTold("xbx", 2), "aba|0/aba/xbx"}})
}

func TestFindingByHand(t *testing.T) {
	long := strings.Repeat("a", 1001)
	for _, row := range []struct {
		doc, what string
		c         impl.Collator
		want      string
	}{
		{"ab", "a", byStrength(1, ""), "0 1"}, {"aAa", "A", byStrength(1, ""), "0 1 1 2 2 3"}, {"aAa", "A", byStrength(2, ""), "0 1 1 2 2 3"}, {"aAa", "A", byStrength(3, ""), "1 2"}, {"aAa", "A", byStrength(4, ""), "1 2"}, {"a\u1000a", "a", byStrength(1, ""), "0 4 4 5"}, {"a\u1000a", "a", byStrength(2, ""), "4 5"}, {"a\u1000", "\u20D0", byStrength(4, ""), "0 4"}, {"a\u1F00", "a", byStrength(3, ""), "0 4"}, {"a\u1F00", "a", byStrength(4, ""), ""},
		{"ab", "", byStrength(1, ""), ""}, {"", "", byStrength(1, ""), ""}, {"", "a", byStrength(1, ""), ""}, {"ab", "c", byStrength(1, ""), ""}, {"ab", "\x01", byStrength(1, ""), ""}, {"aaaa", "aa", byStrength(1, ""), "0 2 2 4"}, {"aaa", "aa", byStrength(1, ""), "0 2"}, {"a b", "ab", byStrength(1, ""), ""}, {"a b", "ab", skippingBy(1, ""), "0 3"}, {"xay", "a", byStrength(1, "x:200098000/1/1"), "1 2"}, {"xay", "b", byStrength(1, "x:200098000/1/1"), "0 1"}, {"xbx", "zz", byStrength(1, "x:5/5/5|z:5/5/5"), ""}, {"xbx", "z", byStrength(1, "x:5/5/5|z:5/5/5"), "0 1 2 3"},
		// the text as it stands
		{"ab|2//ab 0/ab/|1", "ab", byStrength(1, ""), "0 2 2 4"}, {"ab|2//ab 0/ab/|2", "ab", byStrength(1, ""), "0 2"}, {"ab|2//ab|0", "ab", byStrength(1, ""), "0 2"},
		// what is too long is found nowhere
		{long, "a", byStrength(1, ""), ""}, {"ab", long, byStrength(1, ""), ""}, {"ab", strings.Repeat("a", 65537), byStrength(1, ""), ""}, {strings.Repeat("b", 999) + "a", "a", byStrength(1, ""), "999 1000"},
	} {
		d := deskOf(row.doc, "aaa")
		d.Collator = row.c
		found := foundAt(row.want)
		isAnswered(t, fmt.Sprintf("found %+.60q in %+.60q", row.what, row.doc), d, deskFind(row.what), impl.DeskOut{Num: int64(len(found)), Found: found}, d)
		op := deskFind(row.what)
		op.At, op.Num, op.With, op.Style = -1, 99, "b", impl.Style{Width: -1}
		isAnswered(t, fmt.Sprintf("found %+.60q in %+.60q", row.what, row.doc), d, op, impl.DeskOut{Num: int64(len(found)), Found: found}, d)
	}
	d := deskOf(long[1:])
	want := impl.DeskOut{Num: 1000}
	for at := range int64(1000) {
		want.Found = append(want.Found, impl.Found{First: at, Last: at + 1})
	}
	isAnswered(t, "found a thousand times", d, deskFind("a"), want, d)
}

func TestTellingDocsByHand(t *testing.T) {
	none, wrong, kind, size := codeTold(impl.ErrNone), codeTold(impl.ErrForm), codeTold(impl.ErrRight), codeTold(impl.ErrSize)
	much := deskTell(0, 0, "a", "hi", "who:x")
	much.Args = append(make([]impl.Arg, 1000), much.Args...)
	areAnswered(t, []deskRow{
		// ahead, within, at the end, in place of something
		{"xy", deskTell(0, 0, "a", "plain", ""), textTold("a#bxy"), "xy|0//a#b"}, {"xy", deskTell(1, 0, "a", "plain", ""), textTold("xa#by"), "xy|1//a#b"}, {"xy", deskTell(2, 0, "a", "plain", ""), textTold("xya#b"), "xy|2//a#b"}, {"xy", deskTell(0, 1, "a", "plain", ""), textTold("a#by"), "xy|0/x/a#b"}, {"xy", deskTell(0, 2, "a", "plain", ""), textTold("a#b"), "xy|0/xy/a#b"}, {"", deskTell(0, 0, "a-b", "plain", ""), textTold("a#b"), "|0//a#b"}, {"xy|2//z/1 0//w|1", deskTell(3, 0, "a", "plain", ""), textTold("xyza#b"), "xy|2//z/1 3//a#b"},
		{"xyz|||m=0 n=1 o=1! p=2 q=3", deskTell(1, 1, "a", "plain", ""), textTold("xa#bz"), "xyz|1/y/a#b||m=0 n=1 o=1! p=4 q=5"}, {"\u1000", deskTell(1, 1, "a", "plain", ""), textTold("\xE1a#b\x80"), "\u1000|1/\x80/a#b"},
		{"", deskTell(0, 0, "a", "hi", "who:x"), textTold("hi x!"), "|0//hi~x!"}, {"", deskTell(0, 0, "a-c", "hi", "who:x"), textTold("x?"), "|0//x?"}, {"", deskTell(0, 0, "a-b", "num", "n=1234567/2"), textTold(textWritten(0x251, 39, 0x252, 0x253, 39, 0x254, 0x255, ',', 0x256, 0x257)), "|0//" + textWritten(0x251, 39, 0x252, 0x253, 39, 0x254, 0x255, ',', 0x256, 0x257)}, {"", deskTell(0, 0, "a", "days", "n=2"), textTold("few 2"), "|0//few~2"},
		// places that are none
		{"xy", deskTell(-1, 0, "a", "plain", ""), none, ""}, {"xy", deskTell(3, 0, "a", "plain", ""), none, ""}, {"xy", deskTell(0, -1, "a", "plain", ""), none, ""}, {"xy", deskTell(0, 3, "a", "plain", ""), none, ""}, {"xy", deskTell(1, math.MaxInt64, "a", "plain", ""), none, ""}, {"xy", deskTell(math.MinInt64, math.MinInt64, "a", "plain", ""), none, ""}, {"xa#by", deskTell(1, 5, "a", "plain", ""), none, ""},
		// the codes of Tell, ahead of those of the place
		{"xy", deskTell(0, 0, "a", "none", ""), none, ""}, {"xy", deskTell(0, 0, "b", "plain", ""), none, ""}, {"xy", deskTell(0, 0, "A", "plain", ""), wrong, ""}, {"xy", deskTell(0, 0, "a", "Plain", ""), wrong, ""}, {"xy", deskTell(0, 0, "", "plain", ""), wrong, ""}, {"xy", deskTell(0, 0, "a", "", ""), wrong, ""}, {"xy", deskTell(0, 0, "a", "hi", ""), none, ""}, {"xy", deskTell(0, 0, "a", "num", "n:x"), kind, ""}, {"xy", deskTell(0, 0, "a", "pick", "who=1"), kind, ""}, {"xy", deskTell(0, 0, "a", "plain", "n=1/10"), wrong, ""}, {"xy", deskTell(0, 0, "q-r", "hi", ""), wrong, ""}, {"xy", much, size, ""}, {"xy", deskTell(0, 0, strings.Repeat("a", 65537), "hi", ""), size, ""}, {"xy", deskTell(0, 0, "a", strings.Repeat("k", 65537), ""), size, ""}, {"xy", deskTell(0, 0, "a", strings.Repeat("k", 65536), ""), wrong, ""},
		{"xy", deskTell(-1, 0, "a", "num", "n:x"), kind, ""}, {"xy", deskTell(9, 0, "A", "plain", ""), wrong, ""}, {"xy", deskTell(9, 9, strings.Repeat("a", 65537), "hi", ""), size, ""},
		// what is told stands there already
		{"xa#by", deskTell(1, 3, "a", "plain", ""), textTold("xa#by"), ""}, {"a#b|0//c|0|m=1", deskTell(0, 3, "a", "plain", ""), textTold("a#b"), ""}, {"xa#by", deskTell(1, 2, "a", "plain", ""), textTold("xa#bby"), "xa#by|1/a#/a#b"},
	})
	// what else it says does not count
	op := deskTell(1, 0, "a", "plain", "")
	op.Style = impl.Style{Width: -1}
	areAnswered(t, []deskRow{{"xy", op, textTold("xa#by"), "xy|1//a#b"}})
	// steps that belong to a group do not go on with it
	areAnswered(t, []deskRow{{"xy|0//z/1", deskTell(1, 0, "a", "plain", ""), textTold("za#bxy"), "xy|0//z/1 1//a#b"}})
}

func TestSizesOfTellingDocs(t *testing.T) {
	full := strings.Repeat("x", 65536)
	for _, row := range []struct {
		base    string
		at, num int64
		who     int
		code    int64
	}{{"ab", 0, 2, 65532, impl.OK}, {"ab", 0, 2, 65533, impl.ErrSize}, {"ab", 0, 1, 65532, impl.ErrLimit}, {"ab", 0, 1, 65531, impl.OK}, {"ab", 0, 3, 65533, impl.ErrSize}, {"ab", 0, 3, 65532, impl.ErrNone}, {full, 0, 0, 0, impl.ErrLimit}, {full, 9, 4, 0, impl.OK}, {full, 9, 3, 0, impl.ErrLimit}, {full, 0, 65536, 65532, impl.OK}} {
		op := deskTell(row.at, row.num, "a", "hi", "")
		op.Args = []impl.Arg{{Name: "who", Text: full[:row.who]}}
		d := deskOf(row.base)
		want := runPlainly(d, deskOps(op))
		if want.Outs[0].Code != row.code {
			t.Errorf("told %d bytes at %d for %d of %d: read plainly code %d, want %d", row.who+4, row.at, row.num, len(row.base), want.Outs[0].Code, row.code)
		}
		isAnswered(t, fmt.Sprintf("told %d bytes at %d for %d of %d", row.who+4, row.at, row.num, len(row.base)), d, op, want.Outs[0], want.Desk)
	}
}

func TestBreakingDocsByHand(t *testing.T) {
	areAnswered(t, []deskRow{
		{"", deskBreak("5 0 0"), textTold(""), ""}, {"", deskBreak("5 5 9 1a"), textTold(""), ""}, {"abc", deskBreak("5 0 0"), textTold("abc\n"), ""}, {"aa~bb~cc", deskBreak("5 0 0"), textTold("aa bb\ncc\n"), ""}, {"abc~de", deskBreak("5 0 0"), numTold("abc\nde\n", 4), ""}, {"aabababa", deskBreak("5 0 3 a1b"), numTold("aaba-\nbaba\n", 3), ""}, {"abcdef", deskBreak("5 0 0"), numTold("abcdef\n", 1000000), ""}, {"abc\u00ADdef", deskBreak("5 0 3"), numTold("abc-\ndef\n", 4), ""}, {"a\nb", deskBreak("5 0 0"), textTold("a\nb\n"), ""}, {"\n\n", deskBreak("5 3 0"), numTold("\n\n", 18), ""}, {"a\xFFb~c", deskBreak("3 0 0"), textTold("a\xFFb\nc\n"), ""},
		// the text as it stands
		{"ab|2//~cd 0/ab/|1|m=3", deskBreak("2 0 0"), textTold("ab\ncd\n"), ""}, {"ab|2//~cd|0", deskBreak("2 0 0"), textTold("ab\n"), ""},
		// its codes
		{"ab", deskBreak("0 0 0"), codeTold(impl.ErrForm), ""}, {"ab", deskBreak("201 0 0"), codeTold(impl.ErrForm), ""}, {"ab", deskBreak("200 200 1000000"), numTold("ab\n", 198*198), ""}, {"ab", deskBreak("5 6 0"), codeTold(impl.ErrForm), ""}, {"ab", deskBreak("5 -1 0"), codeTold(impl.ErrForm), ""}, {"ab", deskBreak("5 0 -1"), codeTold(impl.ErrForm), ""}, {"ab", deskBreak("5 0 1000001"), codeTold(impl.ErrForm), ""}, {"ab", deskBreak("5 0 0 b1 a1"), codeTold(impl.ErrForm), ""}, {"ab", deskBreak("5 0 0 ab"), codeTold(impl.ErrForm), ""}, {"", deskBreak("0 0 0"), codeTold(impl.ErrForm), ""}, {"ab", impl.DeskOp{Kind: impl.DkBreak, Name: "d"}, codeTold(impl.ErrForm), ""},
		{strings.Repeat("a", 1001), deskBreak("5 0 0"), codeTold(impl.ErrSize), ""}, {strings.Repeat("a", 1001), deskBreak("0 0 0"), codeTold(impl.ErrForm), ""}, {strings.Repeat("a", 65536), deskBreak("5 0 0"), codeTold(impl.ErrSize), ""}, {strings.Repeat("a", 1000), deskBreak("200 0 0"), numTold(strings.Repeat("a", 1000)+"\n", 800000000), ""}, {strings.Repeat("\n", 1000), deskBreak("5 0 0"), textTold(strings.Repeat("\n", 1000)), ""}, {strings.Repeat("\u6000", 1000), deskBreak("2 0 0"), textTold(strings.Repeat("\u6000\n", 1000)), ""},
	})
	// what else it says does not count
	op := deskBreak("5 0 0")
	op.At, op.Num, op.Text, op.With = -1, -1, "(", strings.Repeat("x", 65537)
	areAnswered(t, []deskRow{{"abc~de", op, numTold("abc\nde\n", 4), ""}})
}

func TestClosingDocs(t *testing.T) {
	rows := []string{"ab|1//x 0/a/|1|m=2", "y", "z|0//w"}
	for at, name := range []string{"d", "e", "f"} {
		d, after := deskOf(rows...), deskOf(rows...)
		after.Docs = slices.Delete(after.Docs, at, at+1)
		op := impl.DeskOp{Kind: impl.DkClose, Name: name}
		isAnswered(t, "closed, "+name, d, op, impl.DeskOut{}, after)
		isAnswered(t, "closed, "+name, d, impl.DeskOp{Kind: impl.DkClose, Name: name, At: -1, Num: -1, Text: "(", With: strings.Repeat("x", 65537), Style: impl.Style{Width: -1}, Args: make([]impl.Arg, 1001)}, impl.DeskOut{}, after)
		isAnswered(t, "closed and gone, "+name, after, op, codeTold(impl.ErrNone), after)
		if got := impl.DocText(impl.RunDesk(d, deskOps(op)).Desk, name); got != "" {
			t.Errorf("DocText of a doc that was closed: %+q", got)
		}
		// opened again, it has no steps and no marks
		again := after
		again.Docs = slices.Insert(slices.Clone(after.Docs), at, docFrom(name, "new"))
		ops := deskOps(op, op, impl.DeskOp{Kind: impl.DkUndo, Name: name}, deskOpen(name, "new"), impl.DeskOp{Kind: impl.DkUndo, Name: name}, impl.DeskOp{Kind: impl.DkRedo, Name: name})
		want := impl.DeskRun{Desk: again, Outs: []impl.DeskOut{{}, codeTold(impl.ErrNone), codeTold(impl.ErrNone), {}, codeTold(impl.ErrNone), codeTold(impl.ErrNone)}}
		isDeskRun(t, "closed and opened, "+name, impl.RunDesk(d, ops), want)
	}
	d := deskOf("ab")
	isAnswered(t, "the last one closed", d, deskClose(), impl.DeskOut{}, deskOf())
}

// puttingOps change a text with an a, a b and a U+20D0, each by its own kind, and it stays another one.
func puttingOps() []impl.DeskOp {
	return deskOps(deskPut(0, 0, "x"), deskPut(0, 1, ""), deskType(1, 0, "x"), deskType(0, 1, ""), deskCase(1), deskNormal(impl.NormD), deskReplace("a", 0, "c"), deskOver(":none\n[a] > c\n"), deskTell(0, 0, "a", "plain", ""))
}

// idleOps put what stands there already.
func idleOps() []impl.DeskOp {
	return deskOps(deskPut(0, 0, ""), deskPut(0, 1, "a"), deskType(1, 0, ""), deskCase(2), deskNormal(impl.NormC), deskReplace("x", 0, "c"), deskReplace("a", 0, "a"), deskOver(":none\n[x] > c\n"), deskTell(0, 3, "a-b", "aaa", ""))
}

func TestTheLastSteps(t *testing.T) {
	base := "b\u20D0"
	idle := deskOf()
	idle.Store.Bundles = slices.Clone(idle.Store.Bundles)
	idle.Store.Bundles[0].Resources = slices.Insert(slices.Clone(idle.Store.Bundles[0].Resources), 0, impl.Resource{Key: "aaa", Text: "aaa"})
	for _, count := range []int{298, 299, 300} {
		for _, done := range []int{count - 2, count - 1, count} {
			d := idle
			d.Docs = []impl.Doc{{Name: "d", History: impl.History{Base: base, Steps: manySteps(count), Done: int64(done)}, Marks: marksFrom("m=3")}}
			for _, op := range puttingOps() {
				want := runPlainly(d, deskOps(op))
				if code := want.Outs[0].Code; (code == impl.OK) != (done < 300) || code != impl.OK && code != impl.ErrLimit || code == impl.OK && len(want.Desk.Docs[0].History.Steps) != done+1 {
					t.Errorf("%d of %d steps done, %s, read plainly: code %d", done, count, deskTold(op), code)
				}
				isAnswered(t, fmt.Sprintf("%d of %d steps done, %s", done, count, deskTold(op)), d, op, want.Outs[0], want.Desk)
			}
			for _, op := range idleOps() {
				want := runPlainly(d, deskOps(op))
				if want.Outs[0].Code != impl.OK || !sameDesk(want.Desk, d) {
					t.Errorf("%d of %d steps done, %s, read plainly: %s", done, count, deskTold(op), deskTold(want.Outs[0]))
				}
				isAnswered(t, fmt.Sprintf("%d of %d steps done, idle, %s", done, count, deskTold(op)), d, op, want.Outs[0], d)
			}
			// an op that goes on with the last step makes none
			d.Docs[0].History.Steps[max(0, done-1)].Group = 1
			op := deskType(1, 0, "x")
			want := runPlainly(d, deskOps(op))
			if want.Outs[0].Code != impl.OK || len(want.Desk.Docs[0].History.Steps) != done {
				t.Errorf("%d of %d steps done, typed, read plainly: %s", done, count, deskTold(want.Outs[0]))
			}
			isAnswered(t, fmt.Sprintf("%d of %d steps done, typed", done, count), d, op, want.Outs[0], want.Desk)
		}
	}
	// 40 ops at once, of which the last ones find no room
	d := deskOf("")
	d.Docs[0].History.Steps, d.Docs[0].History.Done = manySteps(270), 270
	ops := slices.Repeat(deskOps(deskPut(0, 0, "y")), 40)
	got := impl.RunDesk(d, ops)
	isDeskRun(t, "up to 300 steps", got, runPlainly(d, ops))
	for at, out := range got.Outs {
		if (out.Code == impl.OK) != (at < 30) {
			t.Errorf("270 steps, and %d more: code %d", at+1, out.Code)
		}
	}
}

// TestUndoingEachKind is the last part of P58: behind each kind that changes a doc, with Group 0 and with groups that
// went on.
func TestUndoingEachKind(t *testing.T) {
	for _, doc := range []string{"ab\u20D0|||m=1 n=5!", "b\u20D0|0//a 2//x/1|1|m=1", "b\u20D0|0//a/1", "\u20D0b|0//b/1 0//a/1|2|m=4"} {
		for _, op := range puttingOps() {
			d := deskOf(doc)
			before := docTextPlainly(d.Docs[0])
			got := impl.RunDesk(d, deskOps(op, deskUndo(), deskRedo(), deskUndo()))
			isDeskRun(t, fmt.Sprintf("%+q, %s, undone", doc, deskTold(op)), got, runPlainly(d, deskOps(op, deskUndo(), deskRedo(), deskUndo())))
			after := got.Outs[0].Text
			if after == before || got.Outs[0].Code != impl.OK {
				t.Errorf("%+q, %s: nothing was done: %s", doc, deskTold(op), deskTold(got.Outs[0]))
			}
			if op.Text == "type" && strings.Contains(doc, "/1") {
				continue
			}
			if got.Outs[1].Text != before || got.Outs[2].Text != after || got.Outs[3].Text != before {
				t.Errorf("%+q, %s: undone, done again and undone: %s", doc, deskTold(op), deskTold(got.Outs))
			}
		}
	}
	// what was typed side by side goes together, whether it went on with one step or not
	ops := deskOps(deskPut(0, 0, "ab"), deskType(2, 0, "c"), deskType(3, 0, "d"), deskType(0, 0, "x"), deskType(1, 1, ""), deskUndo(), deskUndo(), deskRedo(), deskRedo(), deskCase(1), deskType(4, 0, "Y"), deskUndo(), deskUndo(), deskUndo())
	want := impl.DeskRun{Desk: deskOf("|0//ab 2//cd/1 0//x/1 1/a//1 0/xbcd/XBCD 4//Y/1|1"), Outs: []impl.DeskOut{numTold("ab", 2), numTold("abc", 3), numTold("abcd", 4), numTold("xabcd", 5), numTold("xbcd", 4), textTold("ab"), textTold(""), textTold("ab"), textTold("xbcd"), textTold("XBCD"), numTold("XBCDY", 5), textTold("XBCD"), textTold("xbcd"), textTold("ab")}}
	isDeskRun(t, "typed and undone", impl.RunDesk(deskOf(""), ops), want)
	isDeskRun(t, "typed and undone (read plainly)", runPlainly(deskOf(""), ops), want)
}

func TestDeskOfAllKinds(t *testing.T) {
	d := deskOf("ab||0|m=1 n=2!")
	broken := deskBreak("4 0 0")
	ops := deskOps(deskOpen("e", "other\n"), deskPut(2, 0, " b"), deskCase(1), deskUndo(), deskRedo(), deskNormal(1), deskReplace("B", 0, "xy"), deskOver(":none\n[x] > \n"), deskFind("y"), deskTell(0, 1, "a", "hi", "who:Q"), broken, deskSave(), impl.DeskOp{Kind: impl.DkClose, Name: "e"}, deskSave(), deskClose(), deskSave(), deskUndo())
	want := impl.DeskRun{Desk: deskOf(), Outs: []impl.DeskOut{{}, numTold("ab b", 4), textTold("AB B"), textTold("ab b"), textTold("AB B"), textTold("AB B"), numTold("Axy xy", 2), numTold("Ay y", 2), {Num: 2, Found: foundAt("1 2 3 4")}, textTold("hi Q!y y"), numTold("hi\nQ!y\ny\n", 5), textTold("# d 8\nhi Q!y y\n# e 6\nother\n\n"), {}, textTold("# d 8\nhi Q!y y\n"), {}, {}, codeTold(impl.ErrNone)}}
	isDeskRun(t, "all kinds", impl.RunDesk(d, ops), want)
	isDeskRun(t, "all kinds (read plainly)", runPlainly(d, ops), want)
	comesInParts(t, "all kinds", d, ops)
	ops = ops[:11]
	want.Desk, want.Outs = deskOf("ab|2//~b 0/ab~b/AB~B 0/AB~B/Axy~xy 0/Axy~xy/Ay~y 0/A/hi~Q!||m=5 n=0!", "other\n"), want.Outs[:11]
	want.Desk.Docs[0].Marks = runPlainly(d, ops).Desk.Docs[0].Marks
	isDeskRun(t, "most kinds", impl.RunDesk(d, ops), want)
}

// comesInParts is the second part of P58.
func comesInParts(t *testing.T, what string, d impl.Desk, ops []impl.DeskOp) {
	t.Helper()
	whole := impl.RunDesk(d, ops)
	for cut := range len(ops) + 1 {
		first := impl.RunDesk(d, ops[:cut])
		second := impl.RunDesk(first.Desk, ops[cut:])
		second.Outs = append(first.Outs, second.Outs...)
		isDeskRun(t, fmt.Sprintf("%s, cut at %d of %d", what, cut, len(ops)), second, whole)
	}
}

func randomDeskText(r *rand.Rand) string {
	text := randomNormText(r, []int64{'a', 'b', 'A', ' ', '\n', 0xAD, 0x1000, 0x20D0, 0x260, 0x212, 0x2730, 0x6000}, 8)
	if r.Intn(12) == 0 {
		text = cutBytes(r, text)
	}
	return text
}

func randomDeskOp(r *rand.Rand) impl.DeskOp {
	pick := func(texts ...string) string { return texts[r.Intn(len(texts))] }
	op := impl.DeskOp{Kind: []int64{1, 2, 2, 2, 2, 3, 3, 3, 4, 4, 5, 6, 7, 8, 9, 10, 11, 12, 13, 14, 0}[r.Intn(21)], Name: pick("a", "b", "b-c", "d", "d", "d", "d", "A")}
	op.At, op.Num = int64(r.Intn(12)-1), int64(r.Intn(7)-1)
	op.Text, op.With = randomDeskText(r), randomDeskText(r)
	switch op.Kind {
	case impl.DkPut:
		op.Text = pick("type", "type", "", "types")
		if r.Intn(3) == 0 {
			op.At, op.Num = int64(r.Intn(4)), 0
		}
	case impl.DkReplace:
		op.Text, op.With = pick("a", "[ab]", "(a)(b)", "a*", "", "$", "\\b", "\u1000", ".", "(", "a{9", "(?:a|a)*\\z", " ", "^.*$"), pick("x", "", "$0", "$1$2", "$0$0", "ab", op.With)
	case impl.DkOver:
		op.Text = pick("", ":none\n[a] > b\n", ":D\n[b] > \n", ":C\n", ":none\na[b] > c\n[A] > a\n", ":none\n[a] > a |\n", ":none\n[a] > b", ":x\n", ":KD\n[f] > F\n")
	case impl.DkFind:
		op.Text = pick("a", "b", "A", "", "ab", op.Text)
	case impl.DkTell:
		op.Text, op.With, op.Args = pick("a", "a-b", "a-c", "q", "b", "A"), pick("plain", "hi", "num", "days", "none", "Hi"), argsFrom(pick("who:x n=1", "who:ab", "n=2", "", "n=1/10", "n=1500/2 who=3"))
	case impl.DkBreak:
		op.Style = styleFrom(pick("3 0 0", "5 2 3", "2 0 9 a1b", "0 0 0", "4 0 1 a1 b1"))
	}
	return op
}

// randomDesk has docs with histories, and marks that are right.
func randomDesk(r *rand.Rand) impl.Desk {
	d := deskOf()
	d.Collator = impl.Collator{Strength: int64(1 + r.Intn(4)), Skip: r.Intn(2) == 0}
	for _, name := range []string{"a", "b-c", "d"} {
		if r.Intn(3) == 0 && name != "d" {
			continue
		}
		h := impl.History{Base: randomDeskText(r)}
		for range r.Intn(5) {
			text := impl.TextAt(h, h.Done)
			at := r.Intn(len(text) + 1)
			if out := impl.DoStep(h, int64(at), int64(r.Intn(len(text)-at+1)), randomDeskText(r), int64(r.Intn(3))); out.Code == impl.OK {
				h = out.History
			}
		}
		for range r.Intn(3) {
			if out := impl.Undo(h); out.Code == impl.OK {
				h = out.History
			}
		}
		d.Docs = append(d.Docs, impl.Doc{Name: name, History: h, Marks: randomMarks(r, int64(len(impl.TextAt(h, h.Done))))})
	}
	return d
}

// TestRandomDesks is P58.
func TestRandomDesks(t *testing.T) {
	r := rand.New(rand.NewSource(242))
	codes, done := map[[2]int64]int{}, 0
	for range 1500 {
		d := randomDesk(r)
		isDesk(t, "a random desk", d, true)
		var ops []impl.DeskOp
		for range r.Intn(14) {
			ops = append(ops, randomDeskOp(r))
		}
		want := runPlainly(d, ops)
		isDeskRun(t, deskTold(ops), impl.RunDesk(d, ops), want)
		for at, out := range want.Outs {
			codes[[2]int64{ops[at].Kind, out.Code}]++
		}
		comesInParts(t, deskTold(ops), d, ops)
		for at, op := range ops {
			isTakenBackAtDesk(t, deskTold(op), impl.RunDesk(d, ops[:at]).Desk, op)
		}
		for at := range want.Desk.Docs {
			if !sameHistory(d.Docs[min(at, len(d.Docs)-1)].History, want.Desk.Docs[at].History) {
				done++
			}
		}
	}
	for kind := int64(impl.DkOpen); kind <= impl.DkClose; kind++ {
		if codes[[2]int64{kind, impl.OK}] < 30 {
			t.Errorf("kind %d was told OK %d times", kind, codes[[2]int64{kind, impl.OK}])
		}
		if kind > impl.DkOpen && kind != impl.DkSave && codes[[2]int64{kind, impl.ErrNone}] < 30 {
			t.Errorf("kind %d was told ErrNone %d times", kind, codes[[2]int64{kind, impl.ErrNone}])
		}
	}
	if done < 1000 {
		t.Errorf("only %d histories were changed", done)
	}
}

// TestWrongRandomDesks has one thing changed, so that a desk may be wrong.
func TestWrongRandomDesks(t *testing.T) {
	r := rand.New(rand.NewSource(243))
	wrong := 0
	for range 1500 {
		d := randomDesk(r)
		doc := &d.Docs[r.Intn(len(d.Docs))]
		switch r.Intn(7) {
		case 0:
			doc.Name = []string{"", "A", "zz", "a", "b", "d-"}[r.Intn(6)]
		case 1:
			doc.History.Done += int64(r.Intn(5) - 2)
		case 2:
			doc.History.Base = randomDeskText(r)
		case 3:
			if steps := doc.History.Steps; len(steps) > 0 {
				steps[r.Intn(len(steps))] = impl.Step{At: int64(r.Intn(4) - 1), Came: randomDeskText(r), Group: int64(r.Intn(3) - 1)}
			}
		case 4:
			doc.Marks = randomMarks(r, int64(len(docTextPlainly(*doc))+1))
		case 5:
			d.Store.Bundles = spoilt(r, randomBundles(r))
		case 6:
			d.Collator = randomCollator(r)
			d.Collator.Strength += int64(r.Intn(3) - 1)
		}
		right := isRightDesk(d)
		isDesk(t, "a random desk, spoilt", d, right)
		if !right {
			wrong++
			isDeskRun(t, "a random desk, spoilt", impl.RunDesk(d, deskOps(randomDeskOp(r))), impl.DeskRun{Code: impl.ErrForm})
		}
	}
	if wrong < 300 || wrong > 1200 {
		t.Errorf("%d of 1500 desks were wrong", wrong)
	}
}

// TestDesksAtOnce runs from many goroutines, as nothing is kept between calls.
func TestDesksAtOnce(t *testing.T) {
	before := runtime.NumGoroutine()
	d := deskOf("ab|2//c/1 0//d|1|m=1", "xyz")
	ops := append(puttingOps(), deskUndo(), deskFind("b"), deskBreak("5 0 0"), deskOpen("h", "x"), deskSave(), deskRedo(), deskClose(), deskSave())
	asked := func() string {
		return fmt.Sprint(impl.DeskFault(d), impl.RunDesk(d, ops), impl.DocText(d, "d"), impl.SaveDesk(d))
	}
	want := asked()
	got := make([]string, 64)
	var workers sync.WaitGroup
	for i := range got {
		workers.Go(func() { got[i] = asked() })
	}
	workers.Wait()
	for _, text := range got {
		if text != want {
			t.Errorf("asked at once: %s, want %s", text, want)
		}
	}
	haveEnded(t, before)
}

// textsIn gathers all texts of a thing, whatever it is made of.
func textsIn(thing reflect.Value) (texts []string) {
	switch thing.Kind() {
	case reflect.String:
		return []string{thing.String()}
	case reflect.Slice:
		for at := range thing.Len() {
			texts = append(texts, textsIn(thing.Index(at))...)
		}
	case reflect.Struct:
		for at := range thing.NumField() {
			texts = append(texts, textsIn(thing.Field(at))...)
		}
	}
	return texts
}

// listsIn gathers where all lists of a thing, whatever it is made of, begin.
func listsIn(thing reflect.Value) (lists []uintptr) {
	switch thing.Kind() {
	case reflect.Slice:
		if thing.Cap() > 0 {
			lists = append(lists, thing.Pointer())
		}
		for at := range thing.Len() {
			lists = append(lists, listsIn(thing.Index(at))...)
		}
	case reflect.Struct:
		for at := range thing.NumField() {
			lists = append(lists, listsIn(thing.Field(at))...)
		}
	}
	return lists
}

// ownCopy has all texts and lists of a thing in memory of their own, with room behind each list.
func ownCopy(thing reflect.Value) reflect.Value {
	own := reflect.New(thing.Type()).Elem()
	switch thing.Kind() {
	case reflect.String:
		own.SetString(strings.Clone(thing.String()))
	case reflect.Slice:
		own.Set(reflect.MakeSlice(thing.Type(), thing.Len(), 2*thing.Len()+3))
		for at := range thing.Len() {
			own.Index(at).Set(ownCopy(thing.Index(at)))
		}
	case reflect.Struct:
		for at := range thing.NumField() {
			own.Field(at).Set(ownCopy(thing.Field(at)))
		}
	default:
		own.Set(thing)
	}
	return own
}

func TestDesksAreNewMemory(t *testing.T) {
	d := deskOf("abcd|4//cc 0/abcd/xyzw 2/zw/vv/3 0//uu|3|ma=1 mb=2!", "other~text|0//more~text~of~it||mc=3", "third~one")
	d.Collator = byStrength(2, "ch:200099100/1/1 200099200/1/1|dd:5/5/5|vv:7/7/7")
	d.Store.Locales[1].Parent = "q"
	d = ownCopy(reflect.ValueOf(d)).Interface().(impl.Desk)
	long := deskBreak("5 0 3 a1b b1c")
	ops := deskOps(deskOpen("new", "a new text"), deskOpen("newer", ""), deskPut(2, 1, "put text"), deskPut(2, 8, "put text"), deskType(10, 0, "typed"), deskType(15, 0, "more"), deskUndo(), deskRedo(), deskCase(1), deskNormal(2), deskReplace("(T)(X)", 1, "$2$1"), deskOver(":none\n[XT] > over\n"), deskFind("vv"), deskFind("over"), deskFind("over"), deskTell(1, 1, "a-c", "hi", "who:somebody_else"), deskTell(1, 1, "q", "hi", ""), long, deskSave(), deskSave(),
		impl.DeskOp{Kind: impl.DkPut, Name: "e", Num: 3, With: "for e"}, impl.DeskOp{Kind: impl.DkPut, Name: "f", With: "for f"}, impl.DeskOp{Kind: impl.DkPut, Name: "new", With: "new"}, impl.DeskOp{Kind: impl.DkCase, Name: "third", Num: 1}, impl.DeskOp{Kind: impl.DkClose, Name: "e"}, impl.DeskOp{Kind: impl.DkUndo, Name: "f"}, deskPut(99, 0, "none"), deskSave())
	ops = ownCopy(reflect.ValueOf(ops)).Interface().([]impl.DeskOp)
	given := append(textsIn(reflect.ValueOf(d)), textsIn(reflect.ValueOf(ops))...)
	lists := append(listsIn(reflect.ValueOf(d)), listsIn(reflect.ValueOf(ops))...)
	told := func() string {
		row := fmt.Sprint(d.Docs[:cap(d.Docs)], d.Store.Locales[:cap(d.Store.Locales)], d.Store.Bundles[:cap(d.Store.Bundles)], d.Collator.Entries[:cap(d.Collator.Entries)], ops[:cap(ops)])
		for _, doc := range d.Docs {
			row += fmt.Sprint(doc.History.Steps[:cap(doc.History.Steps)], doc.Marks[:cap(doc.Marks)])
		}
		for _, bundle := range d.Store.Bundles {
			row += fmt.Sprint(bundle.Resources[:cap(bundle.Resources)])
		}
		return row
	}
	before := told()
	want := fmt.Sprint(impl.RunDesk(d, ops))
	for _, some := range [][]impl.DeskOp{nil, ops[:1], ops[:9], ops, ops} {
		run := impl.RunDesk(d, some)
		if len(some) == len(ops) && fmt.Sprint(run) != want {
			t.Errorf("run again: %s, want %s", fmt.Sprint(run), want)
		}
		isOwnMemory(t, fmt.Sprint("a desk behind ", len(some), " ops"), append(textsIn(reflect.ValueOf(run)), impl.DocText(d, "d"), impl.DocText(d, "f"), impl.SaveDesk(d)), given)
		seen := slices.Clone(lists)
		for _, list := range listsIn(reflect.ValueOf(run)) {
			if slices.Contains(seen, list) {
				t.Errorf("behind %d ops two lists share their memory", len(some))
			}
			seen = append(seen, list)
		}
		// what is done with an answer changes nothing of what was handed in
		for _, doc := range run.Desk.Docs {
			clear(doc.History.Steps)
			clear(doc.Marks)
			_, _ = append(doc.History.Steps, impl.Step{At: 7}), append(doc.Marks, impl.Mark{At: 7})
		}
		clear(run.Desk.Docs)
		clear(run.Desk.Store.Bundles)
		clear(run.Desk.Store.Locales)
		clear(run.Desk.Collator.Entries)
		if told() != before {
			t.Errorf("what was handed in became %s, it was %s", told(), before)
		}
	}
}
