package tests

import (
	"cmp"
	"fmt"
	"math/rand"
	"regexp"
	"slices"
	"strings"
	"sync"
	"testing"

	"loop.example/g00044/impl"
)

// bundlesFrom reads words: a Locale, and behind it its resources, Key, `=`, Text (`_` is a blank).
func bundlesFrom(row string) []impl.Bundle {
	var bundles []impl.Bundle
	for _, word := range strings.Fields(row) {
		key, text, isResource := strings.Cut(word, "=")
		if !isResource {
			bundles = append(bundles, impl.Bundle{Locale: word})
			continue
		}
		last := &bundles[len(bundles)-1]
		last.Resources = append(last.Resources, impl.Resource{Key: key, Text: strings.ReplaceAll(text, "_", " ")})
	}
	return bundles
}

// storeFrom has locales that are named, with their Parent behind a `<`.
func storeFrom(locales string, bundles string) impl.Store {
	return impl.Store{Locales: namedLocales(strings.Fields(locales)...), Bundles: bundlesFrom(bundles)}
}

func sameBundles(a []impl.Bundle, b []impl.Bundle) bool {
	return slices.EqualFunc(a, b, func(a impl.Bundle, b impl.Bundle) bool {
		return a.Locale == b.Locale && slices.Equal(a.Resources, b.Resources)
	})
}

// storeTold is anything of a store as a text, short where it is long.
func storeTold(s any) string {
	return fmt.Sprintf("%.500q", fmt.Sprintf("%+v", s))
}

var (
	keyPlainly          = regexp.MustCompile(`^[a-z][a-z0-9-]{0,19}(\.[a-z][a-z0-9-]{0,19})*$`)
	bundleLinePlainly   = regexp.MustCompile(`^\[([a-z][a-z0-9-]{0,19})\]$`)
	resourceLinePlainly = regexp.MustCompile(`(?s)^([a-z0-9.-]+) = ((?:[^\\]|\\n|\\\\)*)$`)
	hiddenLineByte      = regexp.MustCompile(`\\(.)`)
)

func isPlainKey(key string) bool {
	return len(key) <= 60 && keyPlainly.MatchString(key)
}

func areRightBundles(bundles []impl.Bundle) bool {
	for i, bundle := range bundles {
		if i > 0 && bundle.Locale <= bundles[i-1].Locale || !isPlainName(bundle.Locale) || len(bundle.Resources) > 100 {
			return false
		}
		for j, one := range bundle.Resources {
			if j > 0 && one.Key <= bundle.Resources[j-1].Key || !isPlainKey(one.Key) || messagePlainly(one.Text).Code != impl.OK {
				return false
			}
		}
	}
	return len(bundles) <= 20
}

func isRightStore(s impl.Store) bool {
	for i, l := range s.Locales {
		if i > 0 && l.Name <= s.Locales[i-1].Name || !isRightLocale(l) {
			return false
		}
	}
	return len(s.Locales) <= 50 && areRightBundles(s.Bundles)
}

// bundlesPlainly reads a text by patterns of lines.
func bundlesPlainly(text string) impl.StoreRead {
	if len(text) > 65536 {
		return impl.StoreRead{Code: impl.ErrSize}
	}
	var bundles []impl.Bundle
	lines := strings.Split(text, "\n")
	for at, line := range lines {
		if at == len(lines)-1 && line == "" {
			break
		}
		wrong := impl.StoreRead{Code: impl.ErrSyntax, At: int64(at)}
		begin, resource := bundleLinePlainly.FindStringSubmatch(line), resourceLinePlainly.FindStringSubmatch(line)
		switch {
		case at == len(lines)-1:
			return wrong
		case begin != nil:
			bundles = append(bundles, impl.Bundle{Locale: begin[1]})
		case resource == nil || !isPlainKey(resource[1]) || len(bundles) == 0:
			return wrong
		default:
			told := hiddenLineByte.ReplaceAllStringFunc(resource[2], func(hidden string) string {
				return map[string]string{`\n`: "\n", `\\`: `\`}[hidden]
			})
			last := &bundles[len(bundles)-1]
			last.Resources = append(last.Resources, impl.Resource{Key: resource[1], Text: told})
		}
	}
	if !areRightBundles(bundles) {
		return impl.StoreRead{Code: impl.ErrForm}
	}
	return impl.StoreRead{Bundles: bundles}
}

func shownBundlesPlainly(bundles []impl.Bundle) string {
	text := ""
	for _, bundle := range bundles {
		text += fmt.Sprintf("[%s]\n", bundle.Locale)
		for _, one := range bundle.Resources {
			text += fmt.Sprintf("%s = %s\n", one.Key, strings.ReplaceAll(strings.ReplaceAll(one.Text, `\`, `\\`), "\n", `\n`))
		}
	}
	if !areRightBundles(bundles) || len(text) > 65536 {
		return ""
	}
	return text
}

func lookUpPlainly(s impl.Store, locale string, key string) impl.Lookup {
	switch {
	case len(locale) > 65536 || len(key) > 65536:
		return impl.Lookup{Code: impl.ErrSize}
	case !isRightStore(s) || !isPlainName(locale) || !isPlainKey(key):
		return impl.Lookup{Code: impl.ErrForm}
	}
	for _, link := range chainPlainly(s.Locales, locale) {
		for _, bundle := range s.Bundles {
			for _, one := range bundle.Resources {
				if bundle.Locale == link && one.Key == key {
					return impl.Lookup{Locale: link, Text: one.Text}
				}
			}
		}
	}
	return impl.Lookup{Code: impl.ErrNone}
}

func tellOfStorePlainly(s impl.Store, locale string, key string, args []impl.Arg) impl.Lookup {
	if len(args) > 1000 {
		return impl.Lookup{Code: impl.ErrSize}
	}
	found := lookUpPlainly(s, locale, key)
	if found.Code != impl.OK {
		return found
	}
	told := toldPlainly(localePlainly(s.Locales, locale), messagePlainly(found.Text).Parts, args)
	if len(told.Text) > 65536 {
		return impl.Lookup{Code: impl.ErrSize}
	}
	if told.Code != impl.OK {
		return impl.Lookup{Code: told.Code}
	}
	return impl.Lookup{Locale: found.Locale, Text: told.Text}
}

func lacksPlainly(s impl.Store, locale string, of string) []string {
	if !isRightStore(s) || !isPlainName(locale) || !isPlainName(of) {
		return nil
	}
	var lacking []string
	for _, bundle := range s.Bundles {
		for _, one := range bundle.Resources {
			if bundle.Locale == of && lookUpPlainly(s, locale, one.Key).Code == impl.ErrNone {
				lacking = append(lacking, one.Key)
			}
		}
	}
	return lacking
}

// laidOverPlainly puts bundle by bundle, resource by resource into lists that are sorted again and again.
func laidOverPlainly(under []impl.Bundle, over []impl.Bundle) []impl.Bundle {
	var all []impl.Bundle
	for _, given := range slices.Concat(under, over) {
		at := slices.IndexFunc(all, func(bundle impl.Bundle) bool { return bundle.Locale == given.Locale })
		if at < 0 {
			all, at = append(all, impl.Bundle{Locale: given.Locale}), len(all)
		}
		for _, one := range given.Resources {
			resources := slices.DeleteFunc(all[at].Resources, func(other impl.Resource) bool { return other.Key == one.Key })
			all[at].Resources = append(resources, one)
			slices.SortFunc(all[at].Resources, func(a impl.Resource, b impl.Resource) int { return cmp.Compare(a.Key, b.Key) })
		}
	}
	slices.SortFunc(all, func(a impl.Bundle, b impl.Bundle) int { return cmp.Compare(a.Locale, b.Locale) })
	if !areRightBundles(under) || !areRightBundles(over) || !areRightBundles(all) {
		return nil
	}
	return all
}

func areBundlesRead(t *testing.T, text string, want impl.StoreRead) {
	t.Helper()
	got := impl.ReadBundles(text)
	if got.Code != want.Code || got.At != want.At || !sameBundles(got.Bundles, want.Bundles) {
		t.Errorf("ReadBundles of %d bytes, %+.200q: got %s, want %s", len(text), text, storeTold(got), storeTold(want))
	}
	if got.Code != impl.OK && got.Bundles != nil {
		t.Errorf("ReadBundles of %+.200q: told with a code: %s", text, storeTold(got))
	}
	// A text that can be read is the one that is shown.
	if shown := impl.ShowBundles(got.Bundles); want.Code == impl.OK && shown != text {
		t.Errorf("ShowBundles behind ReadBundles: got %+.300q, want %+.300q", shown, text)
	}
}

// readAsTold holds hand row and plain reading against the program.
func readAsTold(t *testing.T, text string, want impl.StoreRead) {
	t.Helper()
	areBundlesRead(t, text, want)
	areBundlesRead(t, text, bundlesPlainly(text))
}

func isLookup(t *testing.T, what string, got impl.Lookup, want impl.Lookup) {
	t.Helper()
	if got != want {
		t.Errorf("%s: got %s, want %s", what, storeTold(got), storeTold(want))
	}
}

// isStore asks each call that takes a store whether it is right.
func isStore(t *testing.T, what string, s impl.Store, right bool) {
	t.Helper()
	code := int64(impl.ErrForm)
	if right {
		code = impl.OK
	}
	if got := impl.StoreFault(s); got != code || isRightStore(s) != right {
		t.Errorf("%s: StoreFault told %d, want %d (read plainly: %v)", what, got, code, isRightStore(s))
	}
	for _, locale := range []string{"a", "q", "q-r"} {
		for _, key := range []string{"k", "qq.r"} {
			isLookup(t, what+": LookUp", impl.LookUp(s, locale, key), lookUpPlainly(s, locale, key))
			isLookup(t, what+": Tell", impl.Tell(s, locale, key, nil), tellOfStorePlainly(s, locale, key, nil))
			if got := impl.LookUp(s, locale, key).Code; (got == impl.ErrForm) == right {
				t.Errorf("%s: LookUp told code %d", what, got)
			}
		}
		if got, want := impl.LacksOf(s, locale, "a"), lacksPlainly(s, locale, "a"); !slices.Equal(got, want) || !right && len(got) > 0 {
			t.Errorf("%s: LacksOf told %q, want %q", what, got, want)
		}
	}
}

// areBundlesRight asks each call that takes bundles, as a store does, too.
func areBundlesRight(t *testing.T, what string, bundles []impl.Bundle, right bool) {
	t.Helper()
	isStore(t, what, impl.Store{Bundles: bundles}, right)
	if got, want := impl.ShowBundles(bundles), shownBundlesPlainly(bundles); got != want || !right && got != "" {
		t.Errorf("%s: ShowBundles told %+.200q, want %+.200q", what, got, want)
	}
	other := bundlesFrom("zz k=x")
	areLaidOver(t, what+", under", bundles, other, laidOverPlainly(bundles, other))
	areLaidOver(t, what+", over", other, bundles, laidOverPlainly(other, bundles))
	if got := impl.OverBundles(bundles, nil); right && !sameBundles(got, bundles) || !right && got != nil {
		t.Errorf("%s: laid under none: %s", what, storeTold(got))
	}
	if got := impl.OverBundles(nil, bundles); right && !sameBundles(got, bundles) || !right && got != nil {
		t.Errorf("%s: laid over none: %s", what, storeTold(got))
	}
}

func areLaidOver(t *testing.T, what string, under []impl.Bundle, over []impl.Bundle, want []impl.Bundle) {
	t.Helper()
	if got := impl.OverBundles(under, over); !sameBundles(got, want) {
		t.Errorf("%s: OverBundles of %s and %s: got %s, want %s", what, storeTold(under), storeTold(over), storeTold(got), storeTold(want))
	}
}

// numberedBundles have so many resources each.
func numberedBundles(count int, keys int) []impl.Bundle {
	var bundles []impl.Bundle
	for i := range count {
		bundle := impl.Bundle{Locale: fmt.Sprintf("b%04d", i)}
		for j := range keys {
			bundle.Resources = append(bundle.Resources, impl.Resource{Key: fmt.Sprintf("k%04d", j), Text: fmt.Sprint(i, j)})
		}
		bundles = append(bundles, bundle)
	}
	return bundles
}

// namesOfStores are names, and others that are none.
func namesOfStores() map[string]bool {
	names := map[string]bool{}
	for _, name := range []string{"a", "z", "a0", "a-", "a--b", "b-9", strings.Repeat("a", 19), strings.Repeat("a", 20), "a" + strings.Repeat("-", 19)} {
		names[name] = true
	}
	for _, name := range []string{"", "A", "aB", "0", "0a", "-", "-a", "a.b", "a_b", "a b", " a", "a ", "[", "]", "[a", "a]", "a\u00E9", "\u00E9", "`", "{", "a\x00", "a\xFF", "a\r", strings.Repeat("a", 21), strings.Repeat("a", 100), strings.Repeat("a", 65537)} {
		names[name] = false
	}
	return names
}

func TestKeysOfStores(t *testing.T) {
	twenty := strings.Repeat("a", 20)
	keys := map[string]bool{"k.x": true, "a.b.c": true, "a0-.b-": true, "a.a": true, twenty + "." + twenty: true, twenty + "." + twenty + "." + twenty[:18]: true, "aa" + strings.Repeat(".a", 29): true, "a" + strings.Repeat(".a", 29): true}
	for name, isName := range namesOfStores() {
		if name != "a.b" {
			keys[name], keys["k."+name], keys[name+".k"], keys["b."+name+".c"] = isName, isName, isName, isName
		}
	}
	for _, wrong := range []string{"", ".", "..", ".k", "k.", "k..x", "..k", "k..", "k. x", "k .x", "K", "k.X", "k.0", "k.-x", "k=", "=", "k/x", "k,x", twenty + "." + twenty + "." + twenty[:19], twenty + "." + twenty + "." + twenty, "a" + strings.Repeat(".a", 30), strings.Repeat("a.", 30), twenty + "." + twenty + "a", strings.Repeat("a.", 500) + "a"} {
		keys[wrong] = false
	}
	for key, right := range keys {
		bundles := []impl.Bundle{{Locale: "a", Resources: []impl.Resource{{Key: key, Text: "x"}}}}
		areBundlesRight(t, fmt.Sprintf("the key %+.80q", key), bundles, right)
		text := "[a]\n" + key + " = x\n"
		want := impl.StoreRead{Code: impl.ErrSyntax, At: 1}
		if right {
			want = impl.StoreRead{Bundles: bundles}
		} else if len(text) > 65536 {
			want = impl.StoreRead{Code: impl.ErrSize}
		}
		if got := impl.ReadBundles(text); got.Code != want.Code || got.At != want.At || !sameBundles(got.Bundles, want.Bundles) {
			t.Errorf("ReadBundles of the key %+.80q: got %s, want %s", key, storeTold(got), storeTold(want))
		}
		look := impl.Lookup{Code: impl.ErrForm}
		if right {
			look = impl.Lookup{Code: impl.ErrNone}
		} else if len(key) > 65536 {
			look = impl.Lookup{Code: impl.ErrSize}
		}
		s := impl.Store{Bundles: bundlesFrom("a kk=x")}
		isLookup(t, "LookUp of "+storeTold(key), impl.LookUp(s, "a", key), look)
		isLookup(t, "Tell of "+storeTold(key), impl.Tell(s, "a", key, nil), look)
		if right {
			s.Bundles = bundles
			isLookup(t, "LookUp of "+key, impl.LookUp(s, "a-b", key), impl.Lookup{Locale: "a", Text: "x"})
		}
	}
}

func TestNamesOfStores(t *testing.T) {
	s := storeFrom("", "a k=x zz l=y")
	for name, right := range namesOfStores() {
		bundles := []impl.Bundle{{Locale: name, Resources: []impl.Resource{{Key: "k", Text: "x"}}}}
		areBundlesRight(t, fmt.Sprintf("the name %+.80q", name), bundles, right)
		isStore(t, fmt.Sprintf("the locale's name %+.80q", name), impl.Store{Locales: []impl.Locale{{Name: name}}, Bundles: bundlesFrom("a k=x")}, right)
		text := "[" + name + "]\n"
		want := impl.StoreRead{Code: impl.ErrSyntax}
		if right {
			want = impl.StoreRead{Bundles: []impl.Bundle{{Locale: name}}}
		} else if len(text) > 65536 {
			want = impl.StoreRead{Code: impl.ErrSize}
		}
		if got := impl.ReadBundles(text); got.Code != want.Code || got.At != want.At || !sameBundles(got.Bundles, want.Bundles) {
			t.Errorf("ReadBundles of the name %+.80q: got %s, want %s", name, storeTold(got), storeTold(want))
		}
		code := int64(impl.ErrForm)
		if len(name) > 65536 {
			code = impl.ErrSize
		}
		if got := impl.LookUp(s, name, "l").Code; (got == code) == right || !right && got != code {
			t.Errorf("LookUp of the locale %+.80q: code %d", name, got)
		}
		if got := impl.Tell(s, name, "l", nil).Code; (got == code) == right || !right && got != code {
			t.Errorf("Tell of the locale %+.80q: code %d", name, got)
		}
		if got := impl.LacksOf(s, name, "zz"); slices.Equal(got, []string{"l"}) != right || !right && got != nil {
			t.Errorf("LacksOf of the locale %+.80q: %q", name, got)
		}
		if got := impl.LacksOf(impl.Store{Bundles: bundles}, "q", name); slices.Equal(got, []string{"k"}) != right || !right && got != nil {
			t.Errorf("LacksOf of the bundle %+.80q: %q", name, got)
		}
		if got := impl.LacksOf(s, "q", name); len(got) > 0 && name != "a" {
			t.Errorf("LacksOf of a bundle %+.80q that is not there: %q", name, got)
		}
	}
}

func TestStoresByHand(t *testing.T) {
	for _, row := range []struct {
		locales string
		bundles string
		right   bool
	}{
		{"", "", true}, {"a", "", true}, {"", "a", true}, {"a b", "a b", true}, {"", "a k=x", true}, {"a", "b k=x", true}, {"b", "a k=x c k=x", true}, {"a b<a c<zz", "a k=x k.x=y l={n} b k=", true},
		// the one side and the other one
		{"A", "a k=x", false}, {"b a", "a k=x", false}, {"a a", "a k=x", false}, {"a<B", "a k=x", false}, {"a", "A k=x", false}, {"a b", "b a", false}, {"b a", "b a", false}, {"a", "a k={", false},
		// rising
		{"", "a b c", true}, {"", "a a-b a-b-c aa b", true}, {"", "a aa a-b", false}, {"", "a a", false}, {"", "b a", false}, {"", "a b b", false}, {"", "a c b", false}, {"", "a k=x a l=x", false}, {"", "b k=x a l=x", false}, {"", "a b0 b a", false},
		{"", "a k=x l=x", true}, {"", "a k=x k-=x k.a=x k0=x ka=x", true}, {"", "a k=x k=x", false}, {"", "a k=x k=y", false}, {"", "a l=x k=x", false}, {"", "a k.x=x k=x", false}, {"", "a k.x=x k-=x", false}, {"", "a k=x l=x l=x", false}, {"", "a k=x m=x l=x", false}, {"", "a k=x b k=x", true}, {"", "a k=x b l=x k=x", false}, {"", "a l=x b k=x", true},
		// Keys and Locales that are none, among others
		{"", "a k=x =x", false}, {"", "a =x k=x", false}, {"", "a k=x K=x", false}, {"", "a K=x k=x", false}, {"", "a k=x l=x l.=x", false}, {"", "A a b", false}, {"", "a b c_", false}, {"", "a B", false}, {"", "0 a", false},
		// Texts
		{"", "a k=", true}, {"", "a k={n}", true}, {"", "a k={n:plural_other{#}}", true}, {"", "a k={", false}, {"", "a k=}", false}, {"", "a k={n:plural}", false}, {"", "a k={N}", false}, {"", `a k=\`, false}, {"", `a k=\{`, true}, {"", `a k=\n`, false}, {"", `a k=\\n`, true}, {"", "a k=x l={", false}, {"", "a k={ l=x", false}, {"", "a k=x b k={", false}, {"", "a k={ b k=x", false}, {"", "a b c k=}", false},
	} {
		s := storeFrom(row.locales, row.bundles)
		isStore(t, fmt.Sprintf("%q and %q", row.locales, row.bundles), s, row.right)
		if row.locales == "" {
			areBundlesRight(t, row.bundles, s.Bundles, row.right)
			text := ""
			for _, bundle := range s.Bundles {
				text += "[" + bundle.Locale + "]\n"
				for _, one := range bundle.Resources {
					text += one.Key + " = " + strings.ReplaceAll(one.Text, `\`, `\\`) + "\n"
				}
			}
			areBundlesRead(t, text, bundlesPlainly(text))
			if got := impl.ReadBundles(text); (got.Code == impl.OK) != row.right {
				t.Errorf("ReadBundles of %+q: %s", text, storeTold(got))
			}
		}
	}
}

func TestCountsOfStores(t *testing.T) {
	for _, count := range []int{0, 1, 19, 20, 21, 22, 200, 999, 1000, 1001, 3000} {
		bundles := numberedBundles(count, 1)
		isStore(t, fmt.Sprint(count, " bundles"), impl.Store{Bundles: bundles}, count <= 20)
		if got, want := impl.ShowBundles(bundles), shownBundlesPlainly(bundles); got != want || (got == "") != (count > 20 || count == 0) {
			t.Errorf("ShowBundles of %d: %+.100q, want %+.100q", count, got, want)
		}
		for _, other := range []int{0, 1, 20, 21, 1000, 1001} {
			all := numberedBundles(other, 1)
			areLaidOver(t, fmt.Sprint(other, " and ", count), all, bundles, laidOverPlainly(all, bundles))
			if got := impl.OverBundles(all, bundles); (got == nil) != (max(count, other) > 20 || count+other == 0) {
				t.Errorf("%d over %d: %d told", count, other, len(got))
			}
		}
	}
	for _, count := range []int{0, 1, 99, 100, 101, 1000, 1001} {
		for at := range 3 {
			bundles := numberedBundles(3, 2)
			bundles[at].Resources = numberedBundles(1, count)[0].Resources
			areBundlesRight(t, fmt.Sprint(count, " resources in bundle ", at), bundles, count <= 100)
		}
	}
	full := numberedBundles(20, 100)
	areBundlesRight(t, "20 of 100", full[1:], true)
	isStore(t, "20 of 100", impl.Store{Bundles: full}, true)
	for _, count := range []int{1, 49, 50, 51, 1000, 1001} {
		s := impl.Store{Bundles: bundlesFrom("a k=x")}
		for i := range count {
			s.Locales = append(s.Locales, impl.Locale{Name: fmt.Sprintf("l%04d", i)})
		}
		isStore(t, fmt.Sprint(count, " locales"), s, count <= 50)
	}
}

func TestSizesOfStores(t *testing.T) {
	for _, size := range []int{65500, 65535, 65536, 65537, 70000} {
		text := strings.Repeat("x", size)
		bundles := []impl.Bundle{{Locale: "a", Resources: []impl.Resource{{Key: "k", Text: text}}}}
		areBundlesRight(t, fmt.Sprint("a Text of ", size), bundles, size <= 65536)
		want := impl.Lookup{Code: impl.ErrForm}
		if size <= 65536 {
			want = impl.Lookup{Locale: "a", Text: text}
		}
		isLookup(t, fmt.Sprint("LookUp of ", size), impl.LookUp(impl.Store{Bundles: bundles}, "a", "k"), want)
		isLookup(t, fmt.Sprint("Tell of ", size), impl.Tell(impl.Store{Bundles: bundles}, "a", "k", nil), want)
		// what is shown, of one line and of several, and with bytes that are written as two
		for what, text := range map[string]string{
			"one line": "[a]\nk = " + strings.Repeat("x", size-len("[a]\nk = \n")) + "\n", "an empty Text behind": "[a]\nk = " + strings.Repeat("x", size-len("[a]\nk = \nl = \n")) + "\nl = \n", "a bundle behind": "[a]\nk = " + strings.Repeat("x", size-len("[a]\nk = \n[b]\n")) + "\n[b]\n",
			"ends of lines": "[a]\nk = " + strings.Repeat("x", size%2) + strings.Repeat(`\n`, (size-len("[a]\nk = \n")-size%2)/2) + strings.Repeat("y", (size-len("[a]\nk = \n")-size%2)%2) + "\n",
		} {
			read := bundlesPlainly(text)
			if len(text) != size || (read.Code == impl.ErrSize) != (size > 65536) {
				t.Fatalf("%s of %d: %d bytes, read plainly with code %d", what, size, len(text), read.Code)
			}
			areBundlesRead(t, text, read)
			// made from what is read of a shorter text
			shorter := bundlesPlainly(strings.Replace(text, "k = x", "k = ", 1)).Bundles
			if size == 65537 && len(shorter) > 0 {
				shorter[0].Resources[0].Text = "z" + shorter[0].Resources[0].Text
				if got := impl.ShowBundles(shorter); got != "" {
					t.Errorf("%s of %d bytes is shown", what, len(got))
				}
			}
		}
		// faults are told of no text that is too long
		for _, ahead := range []string{"x", "\n", "[a]\nk = {\n", "[b]\n[a]\n"} {
			text := ahead + strings.Repeat("x", size-len(ahead))
			areBundlesRead(t, text, bundlesPlainly(text))
			areBundlesRead(t, text[:size-1]+"\n", bundlesPlainly(text[:size-1]+"\n"))
		}
	}
	// as many lines as a text has room for
	areBundlesRead(t, strings.Repeat("\n", 65536), impl.StoreRead{Code: impl.ErrSyntax})
	areBundlesRead(t, strings.Repeat("\n", 65537), impl.StoreRead{Code: impl.ErrSize})
	areBundlesRead(t, strings.Repeat("[a]\n", 16384), impl.StoreRead{Code: impl.ErrForm})
	areBundlesRead(t, strings.Repeat("[a]\n", 16383)+"[a]x", impl.StoreRead{Code: impl.ErrSyntax, At: 16383})
	areBundlesRead(t, "[a]\n"+strings.Repeat("k = \n", 13106), impl.StoreRead{Code: impl.ErrForm})
	areBundlesRead(t, strings.Repeat("\\", 65536), impl.StoreRead{Code: impl.ErrSyntax})
	// 2000 Texts that are as long as they can be
	full := numberedBundles(20, 100)
	for at := range full {
		for i := range full[at].Resources {
			full[at].Resources[i].Text = strings.Repeat("x", 65536)
		}
	}
	if got := impl.ShowBundles(full); got != "" {
		t.Errorf("%d bytes are shown", len(got))
	}
	full[19].Resources[99].Text += "x"
	if got := impl.StoreFault(impl.Store{Bundles: full}); got != impl.ErrForm {
		t.Errorf("StoreFault of a last Text that is too long: %d", got)
	}
}

func TestReadingBundlesByHand(t *testing.T) {
	wrong := func(at int64) impl.StoreRead { return impl.StoreRead{Code: impl.ErrSyntax, At: at} }
	for _, row := range []struct{ text, bundles string }{
		{"", ""}, {"[a]\n", "a"}, {"[a]\n[b]\n", "a b"}, {"[a-0-]\n", "a-0-"}, {"[aaaaaaaaaaaaaaaaaaaa]\n", "aaaaaaaaaaaaaaaaaaaa"}, {"[a]\nk = x\n", "a k=x"}, {"[a]\nk.l.m = x\n", "a k.l.m=x"}, {"[a]\nk = x\nl = y\n", "a k=x l=y"}, {"[a]\nk = x\n[b]\nk = y\nl = z\n[c]\n", "a k=x b k=y l=z c"}, {"[a]\n[b]\nk = x\n", "a b k=x"},
		{"[a]\nk = \n", "a k="}, {"[a]\nk =  \n", "a k=_"}, {"[a]\nk =   \n", "a k=__"}, {"[a]\nk =  x \n", "a k=_x_"}, {"[a]\nk = = \n", "a k==_"}, {"[a]\nk = =\n", "a k=="}, {"[a]\nk =  = \n", "a k=_=_"}, {"[a]\nk = x = y = z\n", "a k=x_=_y_=_z"}, {"[a]\nk = l = x\n", "a k=l_=_x"}, {"[a]\nk = [a]\n", "a k=[a]"}, {"[a]\nk = [\n", "a k=["}, {"[a]\nk =  = x\n", "a k=_=_x"},
		{"[a]\nk = {n}\n", "a k={n}"}, {"[a]\nk = {n:plural =1{#} other{# x}}\n", "a k={n:plural_=1{#}_other{#_x}}"}, {"[a]\nk = {n:select a{} other{{m:number}}}\n", "a k={n:select_a{}_other{{m:number}}}"}, {"[a]\nk = #\n", "a k=#"}, {"[a]\nk = \u00E9\u6000\n", "a k=\u00E9\u6000"}, {"[a]\nk = \xFF\n", "a k=\xFF"}, {"[a]\nk = x\x00y\n", "a k=x\x00y"},
		{"[a]\nk = x\ry\n", "a k=x\ry"}, {"[a]\nk = x\r\n", "a k=x\r"}, {"[a]\nk = \r\n", "a k=\r"}, {"[a]\nk = \t\n", "a k=\t"},
	} {
		bundles := bundlesFrom(strings.NewReplacer("\r", "<13>", "\t", "<9>").Replace(row.bundles))
		for at := range bundles {
			for i := range bundles[at].Resources {
				bundles[at].Resources[i].Text = strings.NewReplacer("<13>", "\r", "<9>", "\t").Replace(bundles[at].Resources[i].Text)
			}
		}
		readAsTold(t, row.text, impl.StoreRead{Bundles: bundles})
		if got := impl.ShowBundles(bundles); got != row.text {
			t.Errorf("ShowBundles of %q: got %+q, want %+q", row.bundles, got, row.text)
		}
		// without the last U+0A, and with more behind
		if row.text != "" {
			last := int64(strings.Count(row.text, "\n"))
			readAsTold(t, row.text[:len(row.text)-1], wrong(last-1))
			readAsTold(t, row.text+"\n", wrong(last))
			readAsTold(t, row.text+"[z]", wrong(last))
			readAsTold(t, row.text+"z = x", wrong(last))
			readAsTold(t, row.text+" ", wrong(last))
			readAsTold(t, "\n"+row.text, wrong(0))
			readAsTold(t, "k = x\n"+row.text, wrong(0))
		}
	}
}

func TestBytesHiddenInLines(t *testing.T) {
	for _, row := range []struct{ line, text string }{
		{`\n`, "\n"}, {`\n\n`, "\n\n"}, {`x\ny`, "x\ny"}, {`\\n`, ""}, {`\\\\`, `\\`}, {`\\\\n`, `\\n`}, {`\\\\\n`, "\\\\\n"}, {`\n\\\\`, "\n\\\\"}, {`\\{`, `\{`}, {`\\#`, `\#`}, {`\\\\x`, `\\x`}, {`\\}\n\\{`, "\\}\n\\{"}, {`n\nn`, "n\nn"}, {`\nn`, "\nn"}, {`\\\\nn`, `\\nn`}, {`\n = \n`, "\n = \n"}, {`{n}\n{m}`, "{n}\n{m}"}, {`\\\\\\\\`, `\\\\`}, {`\\\\\\n`, ""}, {`\\\\\\{\n`, "\\\\\\{\n"}, {`\\`, ""}, {`\\x`, ""},
	} {
		text := "[a]\nk = " + row.line + "\n"
		want := impl.StoreRead{Bundles: []impl.Bundle{{Locale: "a", Resources: []impl.Resource{{Key: "k", Text: row.text}}}}}
		if row.text == "" {
			// each line is right, but not what it says
			want = impl.StoreRead{Code: impl.ErrForm}
		}
		readAsTold(t, text, want)
		if got := impl.ShowBundles(want.Bundles); want.Code == impl.OK && got != text {
			t.Errorf("ShowBundles of the Text %+q: got %+q, want %+q", row.text, got, text)
		}
	}
	for b := range 256 {
		text := "[a]\nk = x\\" + string([]byte{byte(b)}) + "y\n"
		want := impl.StoreRead{Code: impl.ErrSyntax, At: 1}
		switch b {
		case 'n':
			want = impl.StoreRead{Bundles: []impl.Bundle{{Locale: "a", Resources: []impl.Resource{{Key: "k", Text: "x\ny"}}}}}
		case '\\':
			want = impl.StoreRead{Code: impl.ErrForm}
		}
		areBundlesRead(t, text, want)
		for _, line := range []string{"k = " + string([]byte{byte(b)}), "k =" + string([]byte{byte(b)}) + "x", "k" + string([]byte{byte(b)}) + "= x", "k" + string([]byte{byte(b)}) + " = x", string([]byte{byte(b)}) + " = x", "[a" + string([]byte{byte(b)}) + "]", "[" + string([]byte{byte(b)}) + "]", "[b]" + string([]byte{byte(b)}), string([]byte{byte(b)}) + "[b]", string([]byte{byte(b)}) + "k = x", "k = x" + string([]byte{byte(b)}), "[b" + string([]byte{byte(b)})} {
			areBundlesRead(t, "[a]\n"+line+"\n", bundlesPlainly("[a]\n"+line+"\n"))
		}
	}
	for _, wrong := range []string{`\`, `x\`, `\\\`, `\\\\\`, `\n\`, `\x`, `\N`, `\{`, `\}`, `\#`, `\ n`, `\ `, `\\\x`, `\\\\\{`, `\r`, `\t`, `\0`, "\\\r", "\\\xFF", `x\x\n`, `\n\x`, `\x\\`} {
		readAsTold(t, "[a]\nj = x\nk = "+wrong+"\nl = y\n", impl.StoreRead{Code: impl.ErrSyntax, At: 2})
	}
}

func TestWrongLinesByHand(t *testing.T) {
	for _, line := range []string{
		"", " ", "[]", "[", "]", "[a", "a]", "[a]]", "[[a]", "[a] ", " [a]", "[ a]", "[a ]", "[ ]", "[a]x", "[a][b]", "[a] = x", "[a\\n]", "[a]\r", "[A]", "[0]", "[-a]", "[a.b]", "[a_b]", "[a b]", "[\u00E9]", "[a\xFF]", "[aaaaaaaaaaaaaaaaaaaaa]", "(a)", "\uFEFF[a]", "[a]\x00",
		"k", "k=", "k =", "k= ", "k=x", "k =x", "k= x", "k x", "k  = x", "k\t= x", "k =\tx", " = x", "= x", " k = x", "  k = x", "\tk = x", ". = x", "k. = x", ".k = x", "k..l = x", "K = x", "0 = x", "-k = x", "k_l = x", "k/l = x", "k l = x", "k\\ = x", "\\k = x", "k: x", "k\u00A0= x", "\u00E9 = x", "#k = x", "# x", "aaaaaaaaaaaaaaaaaaaaa = x", "k.aaaaaaaaaaaaaaaaaaaaa = x", "k\r = x", "k == x", "k -= x", "k=l = x", "[k = x", "k] = x",
	} {
		readAsTold(t, line+"\n", impl.StoreRead{Code: impl.ErrSyntax})
		readAsTold(t, "[a]\n"+line+"\n", impl.StoreRead{Code: impl.ErrSyntax, At: 1})
		readAsTold(t, "[a]\nk = x\n"+line+"\nl = y\n[b]\n", impl.StoreRead{Code: impl.ErrSyntax, At: 2})
		if line != "" {
			readAsTold(t, "[a]\nk = x\n[b]\n"+line, impl.StoreRead{Code: impl.ErrSyntax, At: 3})
		}
		// the first line that is none is told, of whatever else is wrong
		readAsTold(t, "[b]\n[a]\n"+line+"\n[a]", impl.StoreRead{Code: impl.ErrSyntax, At: 2})
		readAsTold(t, "[a]\nk = {\n"+line+"\n\nx\n", impl.StoreRead{Code: impl.ErrSyntax, At: 2})
	}
	for _, row := range []struct {
		text string
		code int64
		at   int64
	}{
		// a resource ahead of all bundles
		{"k = x\n", impl.ErrSyntax, 0}, {"k = x\n[a]\n", impl.ErrSyntax, 0}, {"k = {\n", impl.ErrSyntax, 0}, {"\n[a]\n", impl.ErrSyntax, 0}, {"k = x", impl.ErrSyntax, 0}, {"k = x\n[a]\nl", impl.ErrSyntax, 0},
		// the last line alone
		{"[a]", impl.ErrSyntax, 0}, {"x", impl.ErrSyntax, 0}, {"[a]\nk = x", impl.ErrSyntax, 1}, {"[a]\n[b]", impl.ErrSyntax, 1}, {"[a]\nk = \\", impl.ErrSyntax, 1}, {"[a]\nk = x\n ", impl.ErrSyntax, 2},
		// and behind other faults
		{"x\n[a]", impl.ErrSyntax, 0}, {"[a]\n\n[b]", impl.ErrSyntax, 1}, {"[b]\n[a]\nk = x", impl.ErrSyntax, 2}, {"[a]\nk = {\nl = x", impl.ErrSyntax, 2}, {"[a]\nk = x\nk = x\nl", impl.ErrSyntax, 3},
		// lines that are right, bundles that are not
		{"[b]\n[a]\n", impl.ErrForm, 0}, {"[a]\n[a]\n", impl.ErrForm, 0}, {"[a]\nk = x\n[b]\n[a]\n", impl.ErrForm, 0}, {"[a]\nl = x\nk = x\n", impl.ErrForm, 0}, {"[a]\nk = x\nk = x\n", impl.ErrForm, 0}, {"[a]\nk = x\nk = y\n", impl.ErrForm, 0}, {"[a]\n[b]\n[c]\nk = {\n", impl.ErrForm, 0}, {"[a]\nk = }\n", impl.ErrForm, 0}, {"[a]\nk = {n:plural}\n", impl.ErrForm, 0}, {"[a]\nk = x\n[a]\nl = x\n", impl.ErrForm, 0},
		{"[a]\nk = {n:plural =1{}}\nx\n", impl.ErrSyntax, 2}, {"[b]\n[a]\nk = \\x\n", impl.ErrSyntax, 2}, {"[a]\nk.x = 1\nk-x = 2\n", impl.ErrForm, 0},
	} {
		readAsTold(t, row.text, impl.StoreRead{Code: row.code, At: row.at})
	}
}

func TestCountsOfBundlesRead(t *testing.T) {
	for _, count := range []int{19, 20, 21, 500} {
		text := shownLines(numberedBundles(count, 1))
		want := impl.StoreRead{Code: impl.ErrForm}
		if count <= 20 {
			want = impl.StoreRead{Bundles: numberedBundles(count, 1)}
		}
		areBundlesRead(t, text, want)
		areBundlesRead(t, text+"x\n", impl.StoreRead{Code: impl.ErrSyntax, At: int64(2 * count)})
	}
	for _, count := range []int{99, 100, 101, 500} {
		text := shownLines(numberedBundles(2, count))
		want := impl.StoreRead{Code: impl.ErrForm}
		if count <= 100 {
			want = impl.StoreRead{Bundles: numberedBundles(2, count)}
		}
		areBundlesRead(t, text, want)
		areBundlesRead(t, text+"x\n", impl.StoreRead{Code: impl.ErrSyntax, At: int64(2*count + 2)})
	}
}

// shownLines shows bundles that may be too many.
func shownLines(bundles []impl.Bundle) string {
	text := ""
	for _, bundle := range bundles {
		text += "[" + bundle.Locale + "]\n"
		for _, one := range bundle.Resources {
			text += one.Key + " = " + one.Text + "\n"
		}
	}
	return text
}

// eachStoreText hands on all short texts of bytes and of lines.
func eachStoreText(look func(text string)) {
	eachRow([]string{"[", "]", "a", "b", " ", "=", ".", "\\", "n", "\n"}, 5, func(text string) {
		look(text)
		look("[a]\nk = x" + text)
		look("[a]\nk" + text + " = x\n")
	})
	eachRow([]string{"[a]", "[b]", "[c", "k", "l", " = ", "\\n", "\\\\", "{", "}", "\n"}, 5, look)
	eachRow([]string{"[a]\n", "[b]\n", "[c]\n", "k = x\n", "l = x\n", "l = }\n", "k.x = {n}\n", "x\n", "k = "}, 5, look)
}

func TestAllShortStoreTexts(t *testing.T) {
	codes := map[int64]int{}
	eachStoreText(func(text string) {
		want := bundlesPlainly(text)
		areBundlesRead(t, text, want)
		codes[want.Code]++
	})
	for _, code := range []int64{impl.OK, impl.ErrSyntax, impl.ErrForm} {
		if codes[code] < 100 {
			t.Errorf("code %d was told %d times", code, codes[code])
		}
	}
}

func storeNames() []string {
	return []string{"a", "a-b", "a-b-c", "a-b-d", "b", "b-a", "b-a-", "c", "zz"}
}

func storeKeys() []string {
	return []string{"a", "a-", "a.b", "a.b.c", "aa", "k", "k.x", "k.y", "l-0", "zz"}
}

// randomBundles are right; many lists have bundles and keys of one another.
func randomBundles(r *rand.Rand) []impl.Bundle {
	var bundles []impl.Bundle
	some := 1 + r.Intn(4)
	for _, name := range storeNames() {
		if r.Intn(some) > 0 {
			continue
		}
		bundle := impl.Bundle{Locale: name}
		few := 1 + r.Intn(4)
		for _, key := range storeKeys() {
			if r.Intn(few) > 0 {
				continue
			}
			text := shownParts(randomMessage(r, 1+r.Intn(3), 1+r.Intn(3)))
			if r.Intn(4) == 0 {
				text += []string{"", "\n", "\\\\", "\\\\n", " = ", "\n\n", "\\{\n", "\r", "[a]"}[r.Intn(9)]
			}
			bundle.Resources = append(bundle.Resources, impl.Resource{Key: key, Text: text})
		}
		bundles = append(bundles, bundle)
	}
	return bundles
}

func randomStore(r *rand.Rand) impl.Store {
	s := impl.Store{Bundles: randomBundles(r)}
	for _, name := range storeNames() {
		if r.Intn(2) == 0 {
			l := randomLocale(r)
			l.Name, l.Parent = name, append(storeNames(), "", "", "", "", "", "", "", "", "q")[r.Intn(18)]
			s.Locales = append(s.Locales, l)
		}
	}
	return s
}

// spoilt has one thing of it changed, so that it may not be right.
func spoilt(r *rand.Rand, bundles []impl.Bundle) []impl.Bundle {
	if len(bundles) == 0 {
		return []impl.Bundle{{Locale: "A"}}
	}
	at := r.Intn(len(bundles))
	bundle := &bundles[at]
	switch kind := r.Intn(8); {
	case kind == 0:
		bundle.Locale = []string{"", "A", "a_b", "zzz", "a"}[r.Intn(5)]
	case kind == 1:
		other := r.Intn(len(bundles))
		bundles[at], bundles[other] = bundles[other], bundles[at]
	case kind == 2:
		bundles = append(bundles, bundles[at])
	case len(bundle.Resources) == 0:
		bundle.Resources = bundlesFrom("a k={")[0].Resources
	case kind < 5:
		bundle.Resources[r.Intn(len(bundle.Resources))].Key = []string{"", "k.", "K", "k", "a..b"}[r.Intn(5)]
	case kind < 7:
		bundle.Resources[r.Intn(len(bundle.Resources))].Text = []string{"{", "}", "\\", "", "{n:plural}"}[r.Intn(5)]
	default:
		bundle.Resources = append(bundle.Resources, bundle.Resources[0])
	}
	return bundles
}

// TestBundlesComeBack is the first half of P56.
func TestBundlesComeBack(t *testing.T) {
	r := rand.New(rand.NewSource(231))
	shown, wrong := 0, 0
	for range 3000 {
		bundles := randomBundles(r)
		text := impl.ShowBundles(bundles)
		if text != shownBundlesPlainly(bundles) {
			t.Errorf("ShowBundles of %s: got %+q", storeTold(bundles), text)
		}
		areBundlesRead(t, text, impl.StoreRead{Bundles: bundles})
		if len(bundles) > 1 {
			shown++
		}
		at := r.Intn(len(text) + 1)
		for _, changed := range []string{text[:at], text[at:], text[:at] + "\n" + text[at:], text[:at] + "\\" + text[at:], text[:at] + []string{"[", "]", " ", "=", ".", "n", "a", "{", "}", "\x00"}[r.Intn(10)] + text[at:], cutBytes(r, text)} {
			areBundlesRead(t, changed, bundlesPlainly(changed))
		}
		bundles = spoilt(r, bundles)
		right := areRightBundles(bundles)
		areBundlesRight(t, storeTold(bundles), bundles, right)
		if !right {
			wrong++
		}
	}
	if shown < 1000 || wrong < 1000 {
		t.Errorf("%d texts, %d wrong ones", shown, wrong)
	}
}

func TestLookingUpByHand(t *testing.T) {
	none := impl.Lookup{Code: impl.ErrNone}
	wrong := impl.Lookup{Code: impl.ErrForm}
	for _, row := range []struct {
		locales, bundles, locale, key string
		want                          impl.Lookup
	}{
		{"", "a k=x", "a", "k", impl.Lookup{Locale: "a", Text: "x"}}, {"a", "a k=x", "a", "k", impl.Lookup{Locale: "a", Text: "x"}}, {"", "a k=x k.y=z", "a", "k.y", impl.Lookup{Locale: "a", Text: "z"}}, {"", "a k={n}#", "a", "k", impl.Lookup{Locale: "a", Text: "{n}#"}}, {"", "a k=", "a", "k", impl.Lookup{Locale: "a"}},
		// nothing there
		{"", "", "a", "k", none}, {"a", "", "a", "k", none}, {"", "a", "a", "k", none}, {"", "a k=x", "a", "l", none}, {"", "a k=x", "a", "k.x", none}, {"", "a k.x=x", "a", "k", none}, {"", "a k=x", "b", "k", none}, {"", "a-b k=x", "a", "k", none}, {"", "a k=x", "aa", "k", none}, {"", "a k=x b l=y", "b", "k", none}, {"", "a k=x", "a", "x", none},
		// the chain by names
		{"", "a k=x", "a-b", "k", impl.Lookup{Locale: "a", Text: "x"}}, {"", "a k=x", "a-b-c", "k", impl.Lookup{Locale: "a", Text: "x"}}, {"", "a k=x a-b k=y", "a-b-c", "k", impl.Lookup{Locale: "a-b", Text: "y"}}, {"", "a k=x a-b k=y a-b-c k=z", "a-b-c", "k", impl.Lookup{Locale: "a-b-c", Text: "z"}}, {"", "a k=x a-b l=y", "a-b", "k", impl.Lookup{Locale: "a", Text: "x"}}, {"", "a k=x a-b", "a-b", "k", impl.Lookup{Locale: "a", Text: "x"}}, {"", "a k=x a-b k=", "a-b", "k", impl.Lookup{Locale: "a-b"}}, {"", "a- k=x", "a--b", "k", impl.Lookup{Locale: "a-", Text: "x"}}, {"", "a k=x", "a--b", "k", impl.Lookup{Locale: "a", Text: "x"}}, {"", "a-b k=x", "a-c", "k", none}, {"", "a-b k=x", "b", "k", none},
		// the chain by parents
		{"a<b", "b k=x", "a", "k", impl.Lookup{Locale: "b", Text: "x"}}, {"a<b", "a k=y b k=x", "a", "k", impl.Lookup{Locale: "a", Text: "y"}}, {"a<b", "a l=y b k=x", "a", "k", impl.Lookup{Locale: "b", Text: "x"}}, {"a<b", "a k=y b k=x", "b", "k", impl.Lookup{Locale: "b", Text: "x"}}, {"a<b", "a k=y", "b", "k", none}, {"a-b<c", "a k=x c k=y", "a-b", "k", impl.Lookup{Locale: "c", Text: "y"}}, {"a-b<c", "a k=x c l=y", "a-b", "k", none}, {"a-b<c", "a k=x c k=y", "a-b-d", "k", impl.Lookup{Locale: "c", Text: "y"}}, {"a<b-c", "b k=x", "a", "k", impl.Lookup{Locale: "b", Text: "x"}}, {"a<b b<c c<a", "c k=x", "a", "k", impl.Lookup{Locale: "c", Text: "x"}}, {"a<b b<c c<a", "d k=x", "a", "k", none}, {"a<a", "a k=x", "a", "k", impl.Lookup{Locale: "a", Text: "x"}}, {"a<b b<c c<d", "d k=x", "a", "k", impl.Lookup{Locale: "d", Text: "x"}},
		{"a<b b<c c<d d<e e<f f<g g<h h<i i<j j<k", "j k=x", "a", "k", impl.Lookup{Locale: "j", Text: "x"}}, {"a<b b<c c<d d<e e<f f<g g<h h<i i<j j<k", "k k=x", "a", "k", none}, {"a<b b<c c<d d<e e<f f<g g<h h<i i<j j<k", "k k=x", "b", "k", impl.Lookup{Locale: "k", Text: "x"}},
		// wrong things, alone and together
		{"A", "a k=x", "a", "k", wrong}, {"", "a k={", "a", "k", wrong}, {"", "a l={", "a", "k", wrong}, {"", "a k=x b l={", "a", "k", wrong}, {"", "a k=x a l=y", "a", "k", wrong}, {"", "a k=x", "A", "k", wrong}, {"", "a k=x", "", "k", wrong}, {"", "a k=x", "a", "K", wrong}, {"", "a k=x", "a", "", wrong}, {"", "a k=x", "q", "k.", wrong}, {"", "a k=x", "A", "q", wrong}, {"A", "a k=x", "B", "K", wrong}, {"A", "a k=x", "q", "q", wrong}, {"", "a k=x", "A", "K", wrong}, {"", "", "", "", wrong}, {"", "", "a", "", wrong}, {"", "", "", "k", wrong}, {"b a", "", "a", "k", wrong},
	} {
		what := fmt.Sprintf("LookUp of %q, %q by %q, %q", row.locales, row.bundles, row.locale, row.key)
		s := storeFrom(row.locales, row.bundles)
		isLookup(t, what, impl.LookUp(s, row.locale, row.key), row.want)
		isLookup(t, what+" (read plainly)", lookUpPlainly(s, row.locale, row.key), row.want)
		// Tell tells the same, where it is a text alone.
		if !strings.ContainsAny(row.bundles, "{#") {
			isLookup(t, what+" (Tell)", impl.Tell(s, row.locale, row.key, nil), row.want)
		}
	}
	long := strings.Repeat("k", 65537)
	tooLong := impl.Lookup{Code: impl.ErrSize}
	for _, s := range []impl.Store{{}, storeFrom("", "a k=x"), storeFrom("A", "b a")} {
		for _, text := range []string{"a", "", "A"} {
			isLookup(t, "a long locale", impl.LookUp(s, long, text), tooLong)
			isLookup(t, "a long key", impl.LookUp(s, text, long), tooLong)
			isLookup(t, "a long locale, told", impl.Tell(s, long, text, nil), tooLong)
			isLookup(t, "a long key, told", impl.Tell(s, text, long, nil), tooLong)
			isLookup(t, "a key of 65536", impl.LookUp(s, text, long[1:]), wrong)
			isLookup(t, "a locale of 65536", impl.LookUp(s, long[1:], text), wrong)
			isLookup(t, "a key of 65536, told", impl.Tell(s, text, long[1:], nil), wrong)
		}
		isLookup(t, "both long", impl.LookUp(s, long, long), tooLong)
		if got := impl.LacksOf(s, long, "a"); len(got) > 0 {
			t.Errorf("LacksOf of a long locale: %q", got)
		}
		if got := impl.LacksOf(s, "q", long); len(got) > 0 {
			t.Errorf("LacksOf of a long name: %q", got)
		}
	}
}

// tellingStore has locales with rules, signs and systems that differ, and texts at some of them.
func tellingStore() impl.Store {
	a, b := messageLocale(), impl.Locale{Name: "a-b", Point: ",", Comma: "'", Sizes: []int64{2}, System: 1}
	b.Plurals = []impl.PluralRule{{Name: "one", When: "i=0..2"}}
	s := impl.Store{Locales: []impl.Locale{a, b, {Name: "a-c", System: -1}, {Name: "q", Point: "*", System: -1}, {Name: "q-r", Minus: "*", System: -1}}}
	s.Bundles = bundlesFrom("a days={n:plural_one{#_day}_few{few_#}_other{#_days}} hi=hi_{who}! num={n:number} pick={who:select_x{X}_other{O}} plain=a#b a-c extra={n} hi={who}? c who={who} q hi=q")
	return s
}

func TestTellingOfStoresByHand(t *testing.T) {
	none, wrong, kind := impl.Lookup{Code: impl.ErrNone}, impl.Lookup{Code: impl.ErrForm}, impl.Lookup{Code: impl.ErrRight}
	of := func(locale string, text string) impl.Lookup { return impl.Lookup{Locale: locale, Text: text} }
	for _, row := range []struct {
		locale, key, args string
		want              impl.Lookup
	}{
		{"a", "hi", "who:you", of("a", "hi you!")}, {"a-b", "hi", "who:you", of("a", "hi you!")}, {"a-c", "hi", "who:you", of("a-c", "you?")}, {"a-c-d", "hi", "who:you", of("a-c", "you?")}, {"a", "plain", "", of("a", "a#b")}, {"a", "plain", "x:y n=1", of("a", "a#b")}, {"a", "hi", "who:", of("a", "hi !")}, {"a-c", "hi", "who:", of("a-c", "?")}, {"a", "hi", "who:x who:y", of("a", "hi x!")}, {"a", "pick", "who:x", of("a", "X")}, {"a", "pick", "who:y", of("a", "O")},
		// the locale looked up counts, not the one that has the key
		{"a", "num", "n=1234567/2", of("a", "12,345.67")}, {"a-b", "num", "n=1234567/2", of("a", textWritten(0x251, 39, 0x252, 0x253, 39, 0x254, 0x255, ',', 0x256, 0x257))}, {"a-c", "num", "n=1234567/2", of("a", "12,345.67")}, {"a-b-d", "num", "n=-12", of("a", "-"+textWritten(0x251, 0x252))}, {"a-c", "extra", "n=-1234", of("a-c", "-1,234")}, {"a-z", "num", "n=1234", of("a", "1,234")},
		{"a", "days", "n=1", of("a", "1 day")}, {"a", "days", "n=2", of("a", "few 2")}, {"a", "days", "n=0", of("a", "0 days")}, {"a-b", "days", "n=1", of("a", textWritten(0x251)+" day")}, {"a-b", "days", "n=2", of("a", textWritten(0x252)+" day")}, {"a-b", "days", "n=0", of("a", textWritten(0x250)+" day")}, {"a-b", "days", "n=3", of("a", textWritten(0x253)+" days")}, {"a-c", "days", "n=2", of("a", "few 2")}, {"a-b", "days", "n=15/1", of("a", textWritten(0x251)+","+textWritten(0x255)+" day")},
		// the codes of LookUp, whatever the args are
		{"a", "none", "n=1", none}, {"b", "hi", "who:you", none}, {"a", "extra", "n=1", none}, {"c", "hi", "who:you", none}, {"A", "hi", "who:you", wrong}, {"a", "Hi", "who:you", wrong}, {"", "hi", "who:you", wrong}, {"a", "", "who:you", wrong}, {"a", "none", "n=1/10", none}, {"a", "none", "", none}, {"A", "none", "n=1/10", wrong},
		// the codes of MessageText
		{"a", "hi", "", none}, {"a", "hi", "Who:you", none}, {"a-b", "num", "", none}, {"a", "num", "n:x", kind}, {"a", "days", "n:x", kind}, {"a", "pick", "who=1", kind}, {"a", "hi", "who=1", of("a", "hi 1!")}, {"a", "hi", "who:x n=1/10", wrong}, {"a", "hi", "n=1/-1", wrong}, {"a", "plain", "n=1/10", wrong}, {"a", "plain", "n=1/9", of("a", "a#b")}, {"a", "days", "", none},
		// fields that are right by themselves, but not together
		{"q", "hi", "", of("q", "q")}, {"q-r", "hi", "", wrong}, {"q-s", "hi", "", of("q", "q")}, {"q-r", "none", "", none},
	} {
		what := fmt.Sprintf("Tell %q, %q with %q", row.locale, row.key, row.args)
		isLookup(t, what, impl.Tell(tellingStore(), row.locale, row.key, argsFrom(row.args)), row.want)
		isLookup(t, what+" (read plainly)", tellOfStorePlainly(tellingStore(), row.locale, row.key, argsFrom(row.args)), row.want)
	}
	s := tellingStore()
	s.Locales[0].Name = "b"
	isLookup(t, "a wrong store", impl.Tell(s, "a", "plain", nil), wrong)
	isLookup(t, "a wrong store", impl.Tell(s, "a", "none", argsFrom("n=1/10")), wrong)
	// the name counts in no chain: c has no parent
	isLookup(t, "c", impl.Tell(tellingStore(), "c", "who", argsFrom("who:x")), of("c", "x"))
	isLookup(t, "c", impl.Tell(tellingStore(), "a", "who", argsFrom("who:x")), none)
}

func TestSizesOfTellingStores(t *testing.T) {
	s := tellingStore()
	for _, size := range []int{65535, 65536, 65537, 65538, 200000} {
		want := impl.Lookup{Code: impl.ErrSize}
		text := strings.Repeat("x", size)
		if size <= 65536 {
			want = impl.Lookup{Locale: "a", Text: "hi " + text[4:] + "!"}
		}
		isLookup(t, fmt.Sprint("told of ", size), impl.Tell(s, "a-b", "hi", []impl.Arg{{Name: "who", Text: text[4:]}}), want)
		isLookup(t, fmt.Sprint("told of ", size, " by the chain's first"), impl.Tell(s, "a-c", "hi", []impl.Arg{{Name: "who", Text: text[1:]}}), tellOfStorePlainly(s, "a-c", "hi", []impl.Arg{{Name: "who", Text: text[1:]}}))
		isLookup(t, fmt.Sprint("an arg that is not told, of ", size), impl.Tell(s, "a", "plain", []impl.Arg{{Name: "who", Text: text}}), impl.Lookup{Locale: "a", Text: "a#b"})
	}
	for _, count := range []int{999, 1000, 1001, 3000} {
		args := slices.Repeat([]impl.Arg{{Name: "x"}}, count)
		args[count-1] = impl.Arg{Name: "who", Text: "you"}
		for _, row := range []struct {
			s           impl.Store
			locale, key string
			want        impl.Lookup
		}{{s, "a", "hi", impl.Lookup{Locale: "a", Text: "hi you!"}}, {s, "a", "num", impl.Lookup{Code: impl.ErrNone}}, {s, "a", "none", impl.Lookup{Code: impl.ErrNone}}, {s, "A", "hi", impl.Lookup{Code: impl.ErrForm}}, {storeFrom("A", ""), "a", "hi", impl.Lookup{Code: impl.ErrForm}}} {
			want := row.want
			if count > 1000 {
				want = impl.Lookup{Code: impl.ErrSize}
			}
			isLookup(t, fmt.Sprint(count, " args"), impl.Tell(row.s, row.locale, row.key, args), want)
		}
	}
}

func TestLackingKeysByHand(t *testing.T) {
	for _, row := range []struct{ locales, bundles, locale, of, want string }{
		{"", "a k=x", "b", "a", "k"}, {"", "a k=x", "a", "a", ""}, {"", "a k=x l=y m=z", "b", "a", "k l m"}, {"", "a k=x k-=x k.a=x k0=x ka=x", "b", "a", "k k- k.a k0 ka"}, {"", "a k=x l=y m=z b l=q", "b", "a", "k m"}, {"", "a k=x l=y b k=q l=q", "b", "a", ""}, {"", "a k=x l=y b k=q l=q", "a", "b", ""}, {"", "a k=x b k=q l=q", "a", "b", "l"}, {"", "a k= b l=", "b", "a", "k"}, {"", "a k=x b k=", "b", "a", ""},
		// no bundle of, none in the chain
		{"", "", "a", "b", ""}, {"", "a k=x", "a", "b", ""}, {"", "a k=x", "a", "a-b", ""}, {"a", "b k=x", "b", "a", ""}, {"", "b", "a", "b", ""}, {"", "b k=x", "a", "b", "k"}, {"", "b k=x", "b-c", "b", ""}, {"", "b-c k=x", "b", "b-c", "k"}, {"", "b-c k=x", "b-c", "b-c", ""},
		// the chain further on, and of alone: its own chain does not count
		{"", "a k=x b k=q l=q", "a-c", "b", "l"}, {"", "a k=x a-c l=y b k=q l=q m=q", "a-c", "b", "m"}, {"", "a k=x a-c l=y b k=q l=q m=q", "a", "b", "l m"}, {"a<c", "c k=x b k=q l=q", "a", "b", ""}, {"a<c", "b k=q l=q c k=x", "a", "b", "l"}, {"a<c", "b k=q l=q c k=x", "c", "b", "l"}, {"", "a k=x a-b l=y", "c", "a-b", "l"}, {"", "a k=x a-b l=y", "a", "a-b", "l"}, {"", "a k=x a-b l=y", "a-b", "a", ""}, {"a<b b<c", "c k=x l=x", "a", "c", ""}, {"a<b b<c", "a m=x b l=x c k=x l=x m=x", "b", "a", ""}, {"a<b b<c", "a m=x b l=x c k=x l=x m=x", "c", "a", ""},
		// wrong things
		{"A", "a k=x", "b", "a", ""}, {"", "a k={", "b", "a", ""}, {"", "a k=x c l={", "b", "a", ""}, {"", "a k=x a l=x", "b", "a", ""}, {"", "a k=x", "B", "a", ""}, {"", "a k=x", "", "a", ""}, {"", "a k=x", "b", "", ""}, {"", "a k=x", "b", "A", ""}, {"", "a k=x", "B", "A", ""}, {"b a", "a k=x", "b", "a", ""},
	} {
		s, want := storeFrom(row.locales, row.bundles), strings.Fields(row.want)
		if got := impl.LacksOf(s, row.locale, row.of); !slices.Equal(got, want) {
			t.Errorf("LacksOf of %q, %q by %q, %q: got %q, want %q", row.locales, row.bundles, row.locale, row.of, got, want)
		}
		if got := lacksPlainly(s, row.locale, row.of); !slices.Equal(got, want) {
			t.Errorf("read plainly, %q, %q by %q, %q: got %q, want %q", row.locales, row.bundles, row.locale, row.of, got, want)
		}
	}
	full := impl.Store{Bundles: numberedBundles(20, 100)}
	var all []string
	for _, one := range full.Bundles[3].Resources {
		all = append(all, one.Key)
	}
	for range 20 {
		if got := impl.LacksOf(full, "q", "b0003"); !slices.Equal(got, all) {
			t.Errorf("LacksOf of 100 keys: %q", got)
		}
	}
}

// TestBundlesLaidOverByHand is the second half of P56.
func TestBundlesLaidOverByHand(t *testing.T) {
	for _, row := range []struct{ under, over, want string }{
		{"", "", ""}, {"a", "", "a"}, {"", "a", "a"}, {"a", "a", "a"}, {"a", "b", "a b"}, {"b", "a", "a b"}, {"a c", "b", "a b c"}, {"b", "a c", "a b c"}, {"a-b", "a a-", "a a- a-b"},
		{"a k=x", "", "a k=x"}, {"", "a k=x", "a k=x"}, {"a k=x", "a", "a k=x"}, {"a", "a k=x", "a k=x"}, {"a k=x", "a k=y", "a k=y"}, {"a k=x", "a k=", "a k="}, {"a k=", "a k=x", "a k=x"}, {"a k=x", "a l=y", "a k=x l=y"}, {"a l=y", "a k=x", "a k=x l=y"}, {"a k=x", "b k=y", "a k=x b k=y"}, {"b k=x", "a k=y", "a k=y b k=x"},
		{"a k=x l=x m=x", "a l=y", "a k=x l=y m=x"}, {"a l=x", "a k=y l=y m=y", "a k=y l=y m=y"}, {"a k=x m=x", "a l=y n=y", "a k=x l=y m=x n=y"}, {"a k=x k.a=x", "a k-=y", "a k=x k-=y k.a=x"}, {"a k=x b k=x c k=x", "b k=y", "a k=x b k=y c k=x"}, {"b k=x l=x", "a k=y b l=y c m=y", "a k=y b k=x l=y c m=y"}, {"a k=x b", "a b k=y", "a k=x b k=y"},
		// wrong ones on either side
		{"A", "", ""}, {"", "A", ""}, {"A", "A", ""}, {"a", "A", ""}, {"A", "a", ""}, {"b a", "c", ""}, {"c", "b a", ""}, {"a a", "", ""}, {"", "a a", ""}, {"a k={", "a k=x", ""}, {"a k=x", "a k={", ""}, {"a k=x k=y", "a", ""}, {"a", "a l=x k=y", ""}, {"a k={", "b", ""}, {"a", "b K=x", ""},
	} {
		under, over, want := bundlesFrom(row.under), bundlesFrom(row.over), bundlesFrom(row.want)
		areLaidOver(t, "by hand", under, over, want)
		if got := laidOverPlainly(under, over); !sameBundles(got, want) {
			t.Errorf("read plainly, %q and %q: %s", row.under, row.over, storeTold(got))
		}
	}
	// what comes has to be right
	many := func(row string) []impl.Bundle {
		var bundles []impl.Bundle
		for _, letter := range row {
			bundles = append(bundles, impl.Bundle{Locale: string(letter)})
		}
		return bundles
	}
	for _, row := range []struct{ under, over, want string }{
		{"abcdefghij", "klmnopqrst", "abcdefghijklmnopqrst"}, {"abcdefghij", "klmnopqrstu", ""}, {"abcdefghijk", "lmnopqrstu", ""}, {"abcdefghijklmnopqrst", "", "abcdefghijklmnopqrst"}, {"abcdefghijklmnopqrst", "t", "abcdefghijklmnopqrst"}, {"abcdefghijklmnopqrst", "u", ""}, {"u", "abcdefghijklmnopqrst", ""}, {"a", "abcdefghijklmnopqrst", "abcdefghijklmnopqrst"}, {"abcdefghijklmnopqrst", "abcdefghijklmnopqrst", "abcdefghijklmnopqrst"}, {"abcdefghijklmnopqrst", "bcdefghijklmnopqrstu", ""}, {"acegikmoqs", "bdfhjlnprt", "abcdefghijklmnopqrst"},
	} {
		areLaidOver(t, "20 bundles", many(row.under), many(row.over), many(row.want))
	}
	keyed := func(first int, count int, text string) []impl.Bundle {
		bundle := impl.Bundle{Locale: "a"}
		for i := range count {
			bundle.Resources = append(bundle.Resources, impl.Resource{Key: fmt.Sprintf("k%03d", first+i), Text: text})
		}
		return []impl.Bundle{bundle}
	}
	for _, row := range []struct {
		first, count, otherFirst, otherCount int
		right                                bool
	}{{0, 50, 50, 50, true}, {50, 50, 0, 50, true}, {0, 50, 50, 51, false}, {0, 51, 50, 51, false}, {0, 51, 50, 50, true}, {0, 100, 0, 100, true}, {0, 100, 1, 100, false}, {1, 100, 0, 100, false}, {0, 100, 99, 1, true}, {0, 100, 100, 1, false}, {100, 1, 0, 100, false}, {0, 0, 0, 100, true}, {0, 101, 0, 0, false}} {
		under, over := keyed(row.first, row.count, "x"), keyed(row.otherFirst, row.otherCount, "y")
		want := laidOverPlainly(under, over)
		areLaidOver(t, "100 resources", under, over, want)
		if (want != nil) != row.right {
			t.Errorf("%+v: read plainly %s", row, storeTold(want))
		}
	}
}

// TestRandomStores is P57, and P56 of bundles that are laid over others.
func TestRandomStores(t *testing.T) {
	r := rand.New(rand.NewSource(232))
	codes, lacking := map[int64]int{}, 0
	for range 3000 {
		s := randomStore(r)
		if r.Intn(8) == 0 {
			s.Bundles = spoilt(r, s.Bundles)
		}
		locale, of, key := append(storeNames(), "a-b-c-d", "q")[r.Intn(11)], storeNames()[r.Intn(9)], append(storeKeys(), "q.r")[r.Intn(11)]
		found := lookUpPlainly(s, locale, key)
		isLookup(t, storeTold(s), impl.LookUp(s, locale, key), found)
		args := fittingArgs(r, impl.ReadMessage(found.Text).Parts)
		told := tellOfStorePlainly(s, locale, key, args)
		isLookup(t, storeTold(s), impl.Tell(s, locale, key, args), told)
		codes[told.Code]++
		want := lacksPlainly(s, locale, of)
		if got := impl.LacksOf(s, locale, of); !slices.Equal(got, want) {
			t.Errorf("LacksOf %q, %q of %s: got %q, want %q", locale, of, storeTold(s), got, want)
		}
		lacking += len(want)
		over := randomBundles(r)
		whole := laidOverPlainly(s.Bundles, over)
		areLaidOver(t, "random ones", s.Bundles, over, whole)
		for _, bundle := range over {
			for _, one := range bundle.Resources {
				want := impl.Lookup{Locale: bundle.Locale, Text: one.Text}
				if whole != nil {
					isLookup(t, "laid over", impl.LookUp(impl.Store{Bundles: whole}, bundle.Locale, one.Key), want)
				}
			}
		}
	}
	for _, code := range []int64{impl.OK, impl.ErrForm, impl.ErrNone, impl.ErrRight} {
		if codes[code] < 30 {
			t.Errorf("code %d was told %d times", code, codes[code])
		}
	}
	if lacking < 1000 {
		t.Errorf("only %d keys were lacking", lacking)
	}
}

// TestStoresAtOnce asks from many goroutines, as nothing is kept between calls.
func TestStoresAtOnce(t *testing.T) {
	s, other := tellingStore(), bundlesFrom("a hi=x zz=y b k=z zz")
	asked := func() string {
		text := impl.ShowBundles(s.Bundles)
		return fmt.Sprint(impl.StoreFault(s), text, impl.ReadBundles(text), impl.LookUp(s, "a-c", "hi"), impl.Tell(s, "a-b", "days", argsFrom("n=2")), impl.LacksOf(s, "q", "a"), impl.OverBundles(s.Bundles, other), impl.OverBundles(other, s.Bundles))
	}
	want := asked()
	got := make([]string, 64)
	var workers sync.WaitGroup
	for i := range got {
		workers.Go(func() { got[i] = asked() })
	}
	workers.Wait()
	for _, text := range got {
		if text != want {
			t.Errorf("asked at once: %s, want %s", text, want)
		}
	}
}

func textsOfBundles(bundles []impl.Bundle) []string {
	var texts []string
	for _, bundle := range bundles {
		texts = append(texts, bundle.Locale)
		for _, one := range bundle.Resources {
			texts = append(texts, one.Key, one.Text)
		}
	}
	return texts
}

// spareBundles have room behind each list, and texts of their own.
func spareBundles(bundles []impl.Bundle) []impl.Bundle {
	bundles = spare(bundles)
	for at, bundle := range bundles {
		bundles[at] = impl.Bundle{Locale: strings.Clone(bundle.Locale), Resources: spare(bundle.Resources)}
		for i, one := range bundles[at].Resources {
			bundles[at].Resources[i] = impl.Resource{Key: strings.Clone(one.Key), Text: strings.Clone(one.Text)}
		}
	}
	return bundles
}

func TestStoresAreNewMemory(t *testing.T) {
	under, over := spareBundles(bundlesFrom("aa kk=xx kk.xx={nn} bb kk=yy ll=_plain_text dd")), spareBundles(bundlesFrom("aa kk=zz mm=vv cc nn=ww dd kk=\\\\{"))
	s := impl.Store{Locales: spare([]impl.Locale{messageLocale(), {Name: "ee-ff", Parent: strings.Clone("bb")}}), Bundles: under}
	text := strings.Clone("[aa]\nkk = xx\nkk.xx = \\n\\\\{\n[bb]\nkk = yy\n")
	locale, link, key, of := strings.Clone("aa-bb"), strings.Clone("ee-ff"), strings.Clone("kk"), strings.Clone("aa")
	args := spare([]impl.Arg{{Name: "nn", Text: strings.Clone("a text to be told")}})
	told := func() string {
		row := fmt.Sprint(s, under[:cap(under)], over[:cap(over)], s.Locales[:cap(s.Locales)], text, locale, link, key, of, args[:cap(args)])
		for _, bundle := range append(slices.Clone(under), over...) {
			row += fmt.Sprint(bundle.Resources[:cap(bundle.Resources)])
		}
		return row
	}
	before := told()
	given := append(append(textsOfBundles(under), textsOfBundles(over)...), text, locale, link, key, of, args[0].Text, s.Locales[1].Parent, s.Locales[1].Name, "bb", "yy")
	asked := func() (all [][]impl.Bundle, texts []string) {
		all = [][]impl.Bundle{impl.ReadBundles(text).Bundles, impl.OverBundles(under, over), impl.OverBundles(under, nil), impl.OverBundles(nil, over), impl.OverBundles(over, over)}
		for _, found := range []impl.Lookup{impl.LookUp(s, locale, key), impl.LookUp(s, link, key), impl.LookUp(s, "bb", "ll"), impl.Tell(s, locale, "kk.xx", args), impl.Tell(s, "bb", "ll", nil), impl.Tell(s, link, key, nil)} {
			texts = append(texts, found.Locale, found.Text)
		}
		texts = append(append(texts, impl.LacksOf(s, "q", of)...), impl.ShowBundles(under))
		return all, texts
	}
	wantAll, wantTexts := asked()
	want := fmt.Sprint(wantAll, wantTexts)
	for range 2 {
		all, texts := asked()
		if got := fmt.Sprint(all, texts); got != want {
			t.Errorf("asked again: %s, want %s", got, want)
		}
		for _, bundles := range all {
			texts = append(texts, textsOfBundles(bundles)...)
		}
		isOwnMemory(t, "what a store tells", texts, given)
		for _, bundles := range all {
			for at := range bundles {
				for i := range bundles[at].Resources {
					bundles[at].Resources[i] = impl.Resource{Key: "changed"}
				}
				_ = append(bundles[at].Resources, impl.Resource{Key: "more"})
				if at > 0 && len(bundles[at-1].Resources) > 0 && bundles[at-1].Resources[0].Key != "changed" {
					t.Errorf("lists of one answer share their memory")
				}
				bundles[at] = impl.Bundle{Locale: "changed"}
			}
		}
		if told() != before {
			t.Errorf("what was handed in became %s, it was %s", told(), before)
		}
	}
}
