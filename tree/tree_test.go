package tree

import (
	"fmt"
	"iter"
	"math"
	"slices"
	"sort"
	"strings"
	"testing"
	"unicode/utf8"

	"tabularium/api"
)

// Values in short.

func null() api.Value { return api.Value{Kind: api.Null} }

func str(s string) api.Value { return api.Value{Kind: api.Str, Str: s} }

func number(n api.Number) api.Value { return api.Value{Kind: api.Num, Num: n} }

func list(kids ...api.Value) api.Value { return api.Value{Kind: api.List, Kids: kids} }

// object is made of keys, each with its value behind it.
func object(fields ...any) api.Value {
	v := api.Value{Kind: api.Object}
	for i := 0; i < len(fields); i += 2 {
		v.Keys = append(v.Keys, fields[i].(string))
		v.Kids = append(v.Kids, fields[i+1].(api.Value))
	}
	return v
}

// named is an object with those keys, each with its own name as its value.
func named(keys ...string) api.Value {
	v := object()
	for _, key := range keys {
		v.Keys = append(v.Keys, key)
		v.Kids = append(v.Kids, str("of "+strings.ToValidUTF8(key, "?")))
	}
	return v
}

// inLists is v within that many lists, one in the other.
func inLists(n int, v api.Value) api.Value {
	for range n {
		v = list(v)
	}
	return v
}

// inObjects is v within that many objects, one in the other.
func inObjects(n int, v api.Value) api.Value {
	for range n {
		v = object("in", v)
	}
	return v
}

// inBoth is v within that many lists and objects, by turns.
func inBoth(n int, v api.Value) api.Value {
	for i := range n {
		if i%2 == 0 {
			v = object("a", str("x"), "in", v, "z", list())
		} else {
			v = list(null(), v, str("x"))
		}
	}
	return v
}

// nests are the ways of laying a value into others.
var nests = map[string]func(int, api.Value) api.Value{"lists": inLists, "objects": inObjects, "both": inBoth}

// The model: the document's words, told in another way.

// told is v field by field, as a text that two values share only if they are the same.
func told(v api.Value) string {
	var out strings.Builder
	write(&out, v)
	return out.String()
}

// write writes what told tells of v.
func write(out *strings.Builder, v api.Value) {
	fmt.Fprintf(out, "%d %t %t %q %d %q %q(", v.Kind, v.Is, v.Num.Neg, v.Num.Digits, v.Num.Exp, v.Str, v.Keys)
	for _, kid := range v.Kids {
		write(out, kid)
		out.WriteByte(';')
	}
	out.WriteByte(')')
}

// step is one value that Walk tells.
type step struct {
	deep int
	one  string
}

// steps is P8.3 by the model.
func steps(v api.Value) []step { return stepsBehind(nil, 0, v) }

// stepsBehind is l with the steps behind it of v, which lies at deep.
func stepsBehind(l []step, deep int, v api.Value) []step {
	l = append(l, step{deep, told(v)})
	for _, kid := range v.Kids {
		l = stepsBehind(l, deep+1, kid)
	}
	return l
}

// depth is how deep v is by the model.
func depth(v api.Value) int {
	if v.Kind <= api.Str || v.Kind > api.Object || len(v.Kids) == 0 {
		return 1
	}
	var l []int
	for _, kid := range v.Kids {
		l = append(l, 1+depth(kid))
	}
	return slices.Max(l)
}

// has names the fields that a kind has.
var has = map[int]string{api.Null: "", api.Bool: "Is", api.Num: "Num", api.Str: "Str", api.List: "Kids", api.Object: "Keys Kids"}

// hasOnly tells whether v has nothing in the fields that its kind doesn't have.
func hasOnly(v api.Value) bool {
	fields, ok := has[v.Kind]
	filled := map[string]bool{"Is": v.Is, "Num": v.Num != api.Number{}, "Str": v.Str != "", "Keys": len(v.Keys) > 0, "Kids": len(v.Kids) > 0}
	for name, full := range filled {
		ok = ok && (!full || strings.Contains(fields, name))
	}
	return ok
}

// goodNumber tells whether a number is right, as far as the numbers of these tests go.
func goodNumber(n api.Number) bool {
	if n.Digits == "" {
		return n == api.Number{}
	}
	return strings.Trim(n.Digits, "0") == n.Digits && strings.Trim(n.Digits, "0123456789") == "" &&
		len(n.Digits) <= 1000 && n.Exp >= -10000 && n.Exp <= 10000
}

// right is Right by the model.
func right(v api.Value) bool {
	ok := hasOnly(v) && goodNumber(v.Num) && utf8.ValidString(v.Str) && depth(v) <= 64
	ok = ok && (v.Kind != api.Object || len(v.Keys) == len(v.Kids))
	for i, key := range v.Keys {
		ok = ok && utf8.ValidString(key) && slices.Index(v.Keys, key) == i
	}
	for _, kid := range v.Kids {
		ok = ok && right(kid)
	}
	return ok
}

// sorted is v with each object's keys rising.
func sorted(v api.Value) api.Value {
	kids := map[string]api.Value{}
	for i, key := range v.Keys {
		kids[key] = sorted(v.Kids[i])
	}
	out := v
	out.Keys, out.Kids = slices.Clone(v.Keys), nil
	sort.Strings(out.Keys)
	for _, key := range out.Keys {
		out.Kids = append(out.Kids, kids[key])
	}
	if v.Kind == api.List {
		for _, kid := range v.Kids {
			out.Kids = append(out.Kids, sorted(kid))
		}
	}
	return out
}

// get is Get by the model.
func get(v api.Value, key string) (api.Value, bool) {
	if v.Kind == api.Object {
		for i := range v.Kids {
			if i < len(v.Keys) && v.Keys[i] == key {
				return v.Kids[i], true
			}
		}
	}
	return api.Value{}, false
}

// Checks of one call each.

func checkRight(t *testing.T, what string, v api.Value, want bool) {
	t.Helper()
	if got := Right(v); got != want {
		t.Errorf("%s: Right is %t: %.300s", what, got, told(v))
	}
}

func checkDeep(t *testing.T, what string, v api.Value, want int) {
	t.Helper()
	if got := Deep(v); got != want {
		t.Errorf("%s: Deep is %d, not %d", what, got, want)
	}
}

func checkSame(t *testing.T, what string, a, b api.Value, want bool) {
	t.Helper()
	if got, back := Same(a, b), Same(b, a); got != want || back != want {
		t.Errorf("%s: Same is %t, and turned round %t: %.300s and %.300s", what, got, back, told(a), told(b))
	}
}

func checkSort(t *testing.T, what string, v, want api.Value) {
	t.Helper()
	if got := Sort(v); told(got) != told(want) {
		t.Errorf("%s: Sort is %.300s, not %.300s", what, told(got), told(want))
	}
}

func checkGet(t *testing.T, what string, v api.Value, key string, want api.Value, there bool) {
	t.Helper()
	if got, ok := Get(v, key); told(got) != told(want) || ok != there {
		t.Errorf("%s: Get %q is %.300s, %t, not %.300s, %t", what, key, told(got), ok, told(want), there)
	}
	checkAt(t, what, v, []string{key}, want, there)
}

func checkAt(t *testing.T, what string, v api.Value, path []string, want api.Value, there bool) {
	t.Helper()
	if got, ok := At(v, path...); told(got) != told(want) || ok != there {
		t.Errorf("%s: At %q is %.300s, %t, not %.300s, %t", what, path, told(got), ok, told(want), there)
	}
}

// checkSteps goes through an iterator, and stops it when it has told that many values, by a function that must not be called any more then.
func checkSteps(t *testing.T, what string, all iter.Seq2[int, api.Value], want []step, most int) {
	t.Helper()
	var got []step
	all(func(deep int, one api.Value) bool {
		got = append(got, step{deep, told(one)})
		return len(got) != most
	})
	if want = want[:min(most, len(want))]; !slices.Equal(got, want) {
		t.Errorf("%s, stopped at %d: Walk told %.300v, not %.300v", what, most, got, want)
	}
}

// checkWalk walks to the end, and stopped at each place (of a value with much in it at some), by one iterator and by ones of their own.
func checkWalk(t *testing.T, what string, v api.Value) {
	t.Helper()
	want := steps(v)
	all := Walk(v)
	checkSteps(t, what, all, want, len(want)+1)
	for most := 1; most <= len(want); most += 1 + len(want)/20 {
		checkSteps(t, what, all, want, most)
		checkSteps(t, what, Walk(v), want, most)
	}
	checkSteps(t, what, all, want, len(want))
	checkSteps(t, what, all, want, len(want)+1)
}

// checkAll holds all that is told of v against the model.
func checkAll(t *testing.T, what string, v api.Value) {
	t.Helper()
	want := v
	if right(v) {
		want = sorted(v)
	}
	checkRight(t, what, v, right(v))
	checkDeep(t, what, v, depth(v))
	checkSort(t, what, v, want)
	checkWalk(t, what, v)
	checkAt(t, what, v, nil, v, true)
	if c := Copy(v); told(c) != told(v) {
		t.Errorf("%s: Copy is %.300s, not %.300s", what, told(c), told(v))
	}
	for _, key := range append([]string{"", "a", "no such"}, v.Keys...) {
		kid, ok := get(v, key)
		checkGet(t, what, v, key, kid, ok)
	}
}

// Values to check with.

// plain are right values of every kind.
func plain() []api.Value {
	return []api.Value{
		null(), {Kind: api.Bool}, {Kind: api.Bool, Is: true},
		number(api.Number{}), number(api.Number{Digits: "1"}), number(api.Number{Neg: true, Digits: "105", Exp: -10000}),
		number(api.Number{Digits: strings.Repeat("1", 1000), Exp: 10000}),
		str(""), str("a"), str("a\x00\xE2\x82\xAC"),
		list(), {Kind: api.List, Kids: []api.Value{}}, list(null()), list(str("b"), str("a"), list(), str("b")),
		object(), {Kind: api.Object, Keys: []string{}, Kids: []api.Value{}}, named("a"), named("", "b", "a"),
		list(named("b", "a"), list(named("d", "c"))),
		object("l", list(named("z", "y"), null()), "", object("o", named("b", "", "a"), "n", number(api.Number{Digits: "7"}))),
	}
}

// numbers are numbers that aren't right.
var numbers = []api.Number{
	{Digits: "0"}, {Digits: "10"}, {Digits: "01"}, {Digits: "-1"}, {Digits: "1.5"}, {Digits: "a"}, {Digits: " "}, {Digits: "\xFF"},
	{Neg: true}, {Exp: 1}, {Exp: -1}, {Neg: true, Exp: 3}, {Digits: "1", Exp: 10001}, {Digits: "1", Exp: -10001}, {Digits: strings.Repeat("1", 1001)},
}

// noTexts are bytes that are no UTF-8.
var noTexts = []string{"\xFF", "\x80", "a\xC0\x80", "\xED\xA0\x80b", "\xE2\x82", "\xF4\x90\x80\x80"}

// fillings put something into one field, each by its name; a kind may have the field.
var fillings = []struct {
	name string
	fill func(*api.Value)
}{
	{"Is", func(v *api.Value) { v.Is = true }},
	{"Num", func(v *api.Value) { v.Num.Digits = "1" }},
	{"Num", func(v *api.Value) { v.Num.Neg = true }},
	{"Num", func(v *api.Value) { v.Num.Exp = 1 }},
	{"Str", func(v *api.Value) { v.Str = "a" }},
	{"Str", func(v *api.Value) { v.Str = "\x00" }},
	{"Keys", func(v *api.Value) { v.Keys = append(v.Keys, "more") }},
	{"Keys", func(v *api.Value) { v.Keys = append(v.Keys, "") }},
	{"Kids", func(v *api.Value) { v.Kids = append(v.Kids, null()) }},
	{"Kids", func(v *api.Value) { v.Kids = append(v.Kids, inLists(3, null()), null()) }},
}

// kinds are all kinds, and numbers that are none.
var kinds = []int{api.Null, api.Bool, api.Num, api.Str, api.List, api.Object, 0, 7, 8, -1, -6, 256 + 5, math.MinInt, math.MaxInt}

// wrong are values that aren't right, each for one reason.
func wrong() map[string]api.Value {
	all := map[string]api.Value{
		"the zero value":             {},
		"a list with keys":           {Kind: api.List, Keys: []string{"a"}, Kids: []api.Value{null()}},
		"keys alone":                 {Kind: api.Object, Keys: []string{"a", "b"}},
		"kids alone":                 {Kind: api.Object, Kids: []api.Value{null()}},
		"more keys":                  {Kind: api.Object, Keys: []string{"a", "b"}, Kids: []api.Value{null()}},
		"more kids":                  {Kind: api.Object, Keys: []string{"a"}, Kids: []api.Value{null(), null()}},
		"two keys alike":             named("a", "a"),
		"two keys alike, far apart":  named("x", "c", "b", "d", "a", "x"),
		"two keys alike, at the end": named("c", "b", "a", "a"),
		"two empty keys":             named("", "b", ""),
		"65 deep by lists":           inLists(64, null()),
		"65 deep by empty lists":     inLists(64, list()),
		"65 deep by objects":         inObjects(64, null()),
		"65 deep by empty objects":   inObjects(64, object()),
		"65 deep, unsorted":          object("z", inLists(63, null()), "a", inBoth(10, named("b", "a"))),
	}
	for i, n := range numbers {
		all[fmt.Sprintf("number %d", i)] = number(n)
	}
	for i, s := range noTexts {
		all[fmt.Sprintf("no text %q", s)] = str(s)
		all[fmt.Sprintf("key %q", s)] = named("b", s, "a")
		all[fmt.Sprintf("key %q alone", s)] = object(noTexts[i], null())
	}
	for _, kind := range kinds {
		if _, ok := has[kind]; !ok {
			all[fmt.Sprintf("kind %d", kind)] = api.Value{Kind: kind}
		}
		for i, f := range fillings {
			v := api.Value{Kind: kind}
			if f.fill(&v); !strings.Contains(has[kind], f.name) {
				all[fmt.Sprintf("kind %d with %s %d", kind, f.name, i)] = v
			}
		}
	}
	return all
}

// dice are numbers without an order that is easily seen, the same ones in each run.
type dice uint64

func (d *dice) roll(n int) int {
	*d = *d*6364136223846793005 + 1442695040888963407
	return int(*d>>33) % n
}

// grow makes a value that is at most that deep. One part in odd is wrong somehow.
func (d *dice) grow(deep, odd int) api.Value {
	keys := []string{"", "a", "b", "ab", "aa", "B", "\x00", "\xC3\xA9", "\xE2\x82\xAC", "\U0001F600", "\x7F"}
	v := api.Value{Kind: 1 + d.roll(6)}
	if deep > 1 && d.roll(2) == 0 {
		v.Kind = 5 + d.roll(2)
	}
	switch v.Kind {
	case api.Bool:
		v.Is = d.roll(2) == 0
	case api.Num:
		v.Num = api.Number{Neg: d.roll(2) == 0, Digits: []string{"1", "25", "301"}[d.roll(3)], Exp: d.roll(5) - 2}
	case api.Str:
		v.Str = keys[d.roll(len(keys))]
	}
	for range d.roll(5) {
		if v.Kind < api.List || deep == 1 {
			break
		}
		v.Kids = append(v.Kids, d.grow(deep-1, odd))
		if key := keys[d.roll(len(keys))]; v.Kind == api.Object && slices.Contains(v.Keys, key) {
			v.Kids = v.Kids[:len(v.Kids)-1]
		} else if v.Kind == api.Object {
			v.Keys = append(v.Keys, key)
		}
	}
	if d.roll(odd) == 0 {
		fillings[d.roll(len(fillings))].fill(&v)
	}
	if d.roll(odd) == 0 && len(v.Keys) > 1 {
		v.Keys[d.roll(len(v.Keys))] = v.Keys[0]
	}
	if d.roll(odd) == 0 {
		v.Kind = kinds[d.roll(len(kinds))]
	}
	return v
}

// mixed are many values that are right and many that aren't.
func mixed(t *testing.T) []api.Value {
	d := dice(8)
	var l []api.Value
	n := 0
	for len(l) < 1500 {
		v := d.grow(1+d.roll(5), 12)
		l = append(l, v)
		if right(v) {
			n++
		}
	}
	if n < 400 || n > 1100 {
		t.Fatalf("%d of %d mixed values are right: too few of one sort", n, len(l))
	}
	return l
}

// P8.1: Right

func TestRight(t *testing.T) {
	for _, v := range plain() {
		checkRight(t, "right", v, true)
		for name, nest := range nests {
			for _, n := range []int{1, 2, 10} {
				checkRight(t, "right in "+name, nest(n, v), true)
			}
		}
	}
	for _, keys := range [][]string{{"a", "A"}, {"a", "a "}, {"", "\x00"}, {"a", "ab", "abc"}, {"\xC3\xA9", "e\xCC\x81"}, {"1", "01", "1.0"}} {
		checkRight(t, "keys that differ", named(keys...), true)
	}
	checkRight(t, "the same key in several objects", list(object("a", object("a", named("a"))), named("a")), true)
}

func TestRightOfWrongValues(t *testing.T) {
	for what, v := range wrong() {
		checkRight(t, what, v, false)
	}
}

// Of each kind each field is filled that it doesn't have, over a value that has all of its own.
func TestRightOfFieldsThatAKindDoesNotHave(t *testing.T) {
	n := 0
	for _, v := range plain() {
		for i, f := range fillings {
			filled := Copy(v)
			f.fill(&filled)
			if !strings.Contains(has[v.Kind], f.name) {
				checkRight(t, fmt.Sprintf("kind %d with %s %d", v.Kind, f.name, i), filled, false)
				n++
			}
		}
		filled := v
		if v.Kind != api.Object {
			filled.Keys = []string{}
		}
		if len(v.Kids) == 0 {
			filled.Kids = []api.Value{}
		}
		checkRight(t, "with empty lists", filled, true)
	}
	if n < 6*5 {
		t.Errorf("only %d fields were filled", n)
	}
}

func TestRightByCounts(t *testing.T) {
	for keys := range 6 {
		for kids := range 6 {
			v := api.Value{Kind: api.Object}
			for i := range keys {
				v.Keys = append(v.Keys, string(rune('a'+i)))
			}
			for range kids {
				v.Kids = append(v.Kids, null())
			}
			checkRight(t, fmt.Sprintf("%d keys, %d kids", keys, kids), v, keys == kids)
		}
	}
}

// Of many keys each two are made alike, and each one no text.
func TestRightByKeys(t *testing.T) {
	const n = 12
	for i := range n {
		for j := range n {
			v := object()
			for k := range n {
				v.Keys = append(v.Keys, string(rune('a'+(k*7)%n)))
				v.Kids = append(v.Kids, null())
			}
			checkRight(t, "keys that differ", v, true)
			v.Keys[i] = v.Keys[j]
			checkRight(t, fmt.Sprintf("keys %d and %d alike", i, j), v, i == j)
			v.Keys[i] = noTexts[j%len(noTexts)]
			checkRight(t, fmt.Sprintf("key %d no text", i), v, false)
		}
	}
}

func TestRightOfManyKeys(t *testing.T) {
	v := object()
	for i := range 20000 {
		v.Keys = append(v.Keys, fmt.Sprint(i*7919%20000))
		v.Kids = append(v.Kids, null())
	}
	checkRight(t, "many keys", v, true)
	v.Keys[19999] = v.Keys[0]
	checkRight(t, "many keys, the last one as the first", v, false)
}

func TestRightByDepth(t *testing.T) {
	ends := map[string]api.Value{"null": null(), "nil list": list(), "empty list": {Kind: api.List, Kids: []api.Value{}},
		"nil object": object(), "empty object": {Kind: api.Object, Keys: []string{}, Kids: []api.Value{}}, "text": str("a")}
	for way, nest := range nests {
		for end, v := range ends {
			for n := range 200 {
				what := fmt.Sprintf("%s in %d %s", end, n, way)
				checkRight(t, what, nest(n, v), n <= 63)
				checkDeep(t, what, nest(n, v), n+1)
			}
		}
	}
	for n := 60; n < 68; n++ {
		for place := range 3 {
			kids := []api.Value{null(), list(), str("a")}
			kids[place] = inLists(n, null())
			what := fmt.Sprintf("%d deep at place %d", n+2, place)
			checkRight(t, what, list(kids...), n+2 <= 64)
			checkDeep(t, what, list(kids...), n+2)
			checkRight(t, what, object("c", kids[0], "b", kids[1], "a", kids[2]), n+2 <= 64)
			checkDeep(t, what, object("c", kids[0], "b", kids[1], "a", kids[2]), n+2)
		}
	}
}

// One kid is wrong: at each place, and deep within.
func TestRightOfWrongKids(t *testing.T) {
	for what, v := range wrong() {
		for place := range 5 {
			kids := []api.Value{str("a"), named("a"), null(), list(null()), number(api.Number{})}
			checkRight(t, "kids", list(kids...), true)
			kids[place] = v
			what := fmt.Sprintf("%s at place %d", what, place)
			checkRight(t, what, list(kids...), false)
			checkRight(t, what, object("e", kids[0], "d", kids[1], "c", kids[2], "b", kids[3], "a", kids[4]), false)
		}
		for way, nest := range nests {
			for _, n := range []int{1, 2, 3, 10, 60, 61, 62, 63} {
				checkRight(t, fmt.Sprintf("%s in %d %s", what, n, way), nest(n, v), false)
			}
		}
	}
}

// P8.1: Deep

func TestDeep(t *testing.T) {
	for _, v := range []api.Value{null(), {Kind: api.Bool, Is: true}, number(api.Number{Digits: "1"}), str("a"), list(), {Kind: api.List, Kids: []api.Value{}}, object(), {Kind: api.Object, Keys: []string{}, Kids: []api.Value{}}} {
		checkDeep(t, "in itself", v, 1)
		checkDeep(t, "in a list", list(v), 2)
		checkDeep(t, "in an object", object("a", v), 2)
	}
	checkDeep(t, "first", list(list(list(null())), null(), list()), 4)
	checkDeep(t, "in the middle", list(list(), list(list(null())), null()), 4)
	checkDeep(t, "last", list(null(), list(), object("a", named("b"))), 4)
	checkDeep(t, "empty lists", list(list(), list(list())), 3)
}

// What isn't a list or an object is as deep as 1, whatever is in Kids.
func TestDeepOfKidsThatDoNotCount(t *testing.T) {
	for _, kind := range kinds {
		short := api.Value{Kind: kind, Kids: []api.Value{null(), inLists(5, null())}}
		long := api.Value{Kind: kind, Kids: []api.Value{inBoth(149, null())}}
		ofShort, ofLong := 1, 1
		if kind == api.List || kind == api.Object {
			ofShort, ofLong = 7, 151
		}
		checkDeep(t, fmt.Sprintf("kind %d", kind), short, ofShort)
		checkDeep(t, fmt.Sprintf("kind %d in a list", kind), list(null(), short), ofShort+1)
		checkDeep(t, fmt.Sprintf("kind %d in objects", kind), inObjects(40, long), ofLong+40)
	}
	checkDeep(t, "keys without kids", api.Value{Kind: api.Object, Keys: []string{"a"}}, 1)
	checkDeep(t, "kids without keys", api.Value{Kind: api.Object, Kids: []api.Value{list(null())}}, 3)
	checkDeep(t, "more kids than keys", api.Value{Kind: api.Object, Keys: []string{"a"}, Kids: []api.Value{null(), list(null())}}, 3)
	checkDeep(t, "a list with keys", api.Value{Kind: api.List, Keys: []string{"a"}, Kids: []api.Value{null()}}, 2)
}

// P8.1: Same

// turns change one field of a value, whatever is there.
var turns = []func(*api.Value){
	func(v *api.Value) { v.Kind++ },
	func(v *api.Value) { v.Kind-- },
	func(v *api.Value) { v.Kind += 256 },
	func(v *api.Value) { v.Is = !v.Is },
	func(v *api.Value) { v.Num.Neg = !v.Num.Neg },
	func(v *api.Value) { v.Num.Digits += "1" },
	func(v *api.Value) { v.Num.Digits = "0" + v.Num.Digits },
	func(v *api.Value) { v.Num.Exp++ },
	func(v *api.Value) { v.Num.Exp -= 1 << 32 },
	func(v *api.Value) { v.Str += "a" },
	func(v *api.Value) { v.Str = "\x00" + v.Str },
	func(v *api.Value) { v.Keys = append(v.Keys, "") },
	func(v *api.Value) { v.Keys = slices.Insert(v.Keys, 0, "first") },
	func(v *api.Value) { v.Kids = append(v.Kids, api.Value{}) },
	func(v *api.Value) { v.Kids = slices.Insert(v.Kids, 0, api.Value{Kind: 99}) },
}

// changes calls tell with v, changed in one field at one place, for each of them.
func changes(v api.Value, tell func(api.Value)) {
	for _, turn := range turns {
		c := roomy(v)
		turn(&c)
		tell(c)
	}
	for i, key := range v.Keys {
		for _, other := range []string{key + "a", key + "\x00", "A" + key} {
			c := roomy(v)
			c.Keys[i] = other
			tell(c)
		}
		c := roomy(v)
		c.Keys = slices.Delete(c.Keys, i, i+1)
		tell(c)
	}
	for i, kid := range v.Kids {
		changes(kid, func(one api.Value) {
			c := roomy(v)
			c.Kids[i] = one
			tell(c)
		})
		c := roomy(v)
		c.Kids = slices.Delete(c.Kids, i, i+1)
		tell(c)
	}
}

func TestSame(t *testing.T) {
	all := plain()
	for _, v := range wrong() {
		all = append(all, v)
	}
	var names []string
	for _, v := range all {
		names = append(names, told(v))
	}
	for i, a := range all {
		for j, b := range all {
			checkSame(t, "two of many", a, b, names[i] == names[j])
		}
		if depth(a) < 20 { // each change copies all that is around it
			changes(a, func(b api.Value) { checkSame(t, "changed", a, b, false) })
		}
	}
}

func TestSameInOrder(t *testing.T) {
	checkSame(t, "kids turned round", list(str("a"), str("b")), list(str("b"), str("a")), false)
	checkSame(t, "keys turned round", named("a", "b"), named("b", "a"), false)
	checkSame(t, "values turned round", object("a", str("x"), "b", str("y")), object("a", str("y"), "b", str("x")), false)
	checkSame(t, "fields turned round", object("a", null(), "b", null()), object("b", null(), "a", null()), false)
	checkSame(t, "one more", list(str("a")), list(str("a"), str("a")), false)
	checkSame(t, "numbers that are as much", number(api.Number{Digits: "1", Exp: 1}), number(api.Number{Digits: "10"}), false)
	checkSame(t, "deep within", inBoth(199, str("a")), inBoth(199, str("b")), false)
	checkSame(t, "deep, and the same", inBoth(199, str("a")), inBoth(199, str("a")), true)
}

func TestSameOfNilAndEmpty(t *testing.T) {
	for _, kind := range kinds {
		a := api.Value{Kind: kind}
		b := api.Value{Kind: kind, Keys: []string{}, Kids: []api.Value{}}
		checkSame(t, fmt.Sprintf("kind %d, nil and empty", kind), a, b, true)
		checkSame(t, fmt.Sprintf("kind %d, nil and empty, within", kind), list(str("x"), object("a", a)), list(str("x"), object("a", b)), true)
		checkSame(t, fmt.Sprintf("kind %d, nil and an empty key", kind), a, api.Value{Kind: kind, Keys: []string{""}}, false)
		checkSame(t, fmt.Sprintf("kind %d, nil and a zero kid", kind), a, api.Value{Kind: kind, Kids: []api.Value{{}}}, false)
	}
}

// P8.1: Copy, and all of the chapter

func TestAllOfManyValues(t *testing.T) {
	for _, v := range plain() {
		checkAll(t, "right", v)
		for name, nest := range nests {
			checkAll(t, "right in "+name, nest(7, v))
		}
	}
	for what, v := range wrong() {
		checkAll(t, what, v)
		checkAll(t, what+" in a list", list(named("b", "a"), v, named("d", "c")))
		checkAll(t, what+" in an object", object("z", named("b", "a"), "y", v, "a", named("d", "c")))
	}
}

func TestAllOfMixedValues(t *testing.T) {
	l := mixed(t)
	for i, v := range l {
		checkAll(t, "mixed", v)
		checkSame(t, "mixed", v, l[(i+1)%len(l)], told(v) == told(l[(i+1)%len(l)]))
		changes(v, func(c api.Value) {
			if Same(v, c) {
				t.Errorf("Same holds of %s and %s", told(v), told(c))
			}
		})
	}
}

func TestAllOfDeepValues(t *testing.T) {
	for name, nest := range nests {
		for _, n := range []int{62, 63, 64, 199} {
			what := fmt.Sprintf("%d %s", n, name)
			checkAll(t, what, nest(n, null()))
			if n <= 64 {
				checkAll(t, what, nest(n-1, named("b", "a", "")))
			}
		}
	}
}

// P8.2: Sort

func TestSort(t *testing.T) {
	checkSort(t, "rising", named("a", "b", "c"), named("a", "b", "c"))
	checkSort(t, "falling", named("c", "b", "a"), named("a", "b", "c"))
	checkSort(t, "mixed", named("b", "d", "a", "e", "c"), named("a", "b", "c", "d", "e"))
	checkSort(t, "keys that begin one another", named("abc", "", "ab", "b", "a"), named("", "a", "ab", "abc", "b"))
	checkSort(t, "keys by their bytes", named("\U0001F600", "\xEF\xBF\xBF", "\xC3\xA9", "z", "\x7F", "Z", "a", "\x00", "10", "9"),
		named("\x00", "10", "9", "Z", "a", "z", "\x7F", "\xC3\xA9", "\xEF\xBF\xBF", "\U0001F600"))
	checkSort(t, "a list stays", list(str("c"), str("a"), str("b")), list(str("c"), str("a"), str("b")))
	checkSort(t, "all the way down",
		object("b", list(str("x"), named("d", "c")), "a", object("z", named("2", "1"), "y", list(list(named("f", "e"))))),
		object("a", object("y", list(list(named("e", "f"))), "z", named("1", "2")), "b", list(str("x"), named("c", "d"))))
	for _, n := range []int{0, 1, 30, 61, 62} {
		for name, nest := range nests {
			checkSort(t, fmt.Sprintf("in %d %s", n, name), nest(n, named("c", "a", "b")), nest(n, named("a", "b", "c")))
		}
	}
}

// All orders of some keys come out as one.
func TestSortEachOrder(t *testing.T) {
	rising := []string{"", "A", "a", "aa", "b", "\xC3\xA9"}
	var turn func(head, tail []string)
	turn = func(head, tail []string) {
		if len(tail) == 0 {
			checkSort(t, "an order", named(head...), named(rising...))
		}
		for i := range tail {
			turn(slices.Concat(head, tail[i:i+1]), slices.Concat(tail[:i], tail[i+1:]))
		}
	}
	turn(nil, rising)
}

func TestSortManyKeys(t *testing.T) {
	v := object()
	for i := range 2000 {
		v.Keys = append(v.Keys, fmt.Sprint(i*769%2000))
		v.Kids = append(v.Kids, str(fmt.Sprint(i*769%2000)))
	}
	checkSort(t, "many keys", v, sorted(v))
	checkSame(t, "sorted twice", Sort(Sort(v)), Sort(v), true)
}

// What isn't right stays as it is, the parts of it that are right too.
func TestSortOfWrongValues(t *testing.T) {
	for what, v := range wrong() {
		checkSort(t, what, v, v)
		for name, nest := range nests {
			in := object("z", named("c", "b"), "y", nest(5, v), "a", named("f", "e", "d"))
			checkSort(t, what+" in "+name, in, in)
		}
		checkSort(t, what+", first", list(v, named("b", "a")), list(v, named("b", "a")))
		checkSort(t, what+", last", list(named("b", "a"), v), list(named("b", "a"), v))
	}
	deep := object("z", inLists(63, null()), "a", null())
	checkSort(t, "65 deep", deep, deep)
	deep = object("z", inLists(62, null()), "a", null())
	checkSort(t, "64 deep", deep, sorted(deep))
}

// P8.2: Get and At

func TestGet(t *testing.T) {
	v := object("b", str("1"), "a", list(), "", str("3"), "ab", named("x"), "\xC3\xA9", null())
	checkGet(t, "first", v, "b", str("1"), true)
	checkGet(t, "in the middle", v, "a", list(), true)
	checkGet(t, "the empty key", v, "", str("3"), true)
	checkGet(t, "begins with another", v, "ab", named("x"), true)
	checkGet(t, "last", v, "\xC3\xA9", null(), true)
	for _, key := range []string{"c", "A", "x", "abc", "b ", "\xC3", "0", "2"} {
		checkGet(t, "not there", v, key, api.Value{}, false)
	}
	checkGet(t, "no empty key", named("a"), "", api.Value{}, false)
	checkGet(t, "of nothing", object(), "", api.Value{}, false)
}

func TestGetOfWrongObjects(t *testing.T) {
	v := api.Value{Kind: api.Object, Keys: []string{"a", "b", "c", "a"}, Kids: []api.Value{str("1"), str("2")}}
	checkGet(t, "fewer kids", v, "a", str("1"), true)
	checkGet(t, "fewer kids", v, "b", str("2"), true)
	checkGet(t, "fewer kids", v, "c", api.Value{}, false)
	checkGet(t, "keys alone", api.Value{Kind: api.Object, Keys: []string{"a"}}, "a", api.Value{}, false)
	checkGet(t, "kids alone", api.Value{Kind: api.Object, Kids: []api.Value{null()}}, "", api.Value{}, false)
	v = api.Value{Kind: api.Object, Keys: []string{"a"}, Kids: []api.Value{str("1"), str("2")}}
	checkGet(t, "more kids", v, "a", str("1"), true)
	checkGet(t, "more kids", v, "", api.Value{}, false)
	v = object("x", str("1"), "a", str("2"), "a", str("3"), "x", str("4"))
	checkGet(t, "twice", v, "x", str("1"), true)
	checkGet(t, "twice", v, "a", str("2"), true)
	v = object("\xFF", str("\xFF"), "a", api.Value{Kind: 9, Str: "x"})
	checkGet(t, "a key that is no text", v, "\xFF", str("\xFF"), true)
	checkGet(t, "a value that isn't right", v, "a", api.Value{Kind: 9, Str: "x"}, true)
	v = named("a")
	v.Is, v.Str = true, "a"
	checkGet(t, "other fields", v, "a", str("of a"), true)
}

func TestGetOfOtherKinds(t *testing.T) {
	for _, kind := range kinds {
		if kind == api.Object {
			continue
		}
		v := named("a", "0", "")
		v.Kind = kind
		for _, key := range []string{"a", "0", "", "b"} {
			checkGet(t, fmt.Sprintf("kind %d", kind), v, key, api.Value{}, false)
			checkAt(t, fmt.Sprintf("kind %d in an object", kind), object("in", v), []string{"in", key}, api.Value{}, false)
		}
	}
}

func TestAt(t *testing.T) {
	v := object("b", object("c", str("1"), "", object("", str("2"), "d", list(named("e")))), "a", str("3"), "b", str("twice"))
	there := map[string]api.Value{"b c": str("1"), "b  ": str("2"), "b ": v.Kids[0].Kids[1], "a": str("3"), "b": v.Kids[0], "b  d": list(named("e"))}
	for path, want := range there {
		checkAt(t, "there", v, strings.Split(path, " "), want, true)
	}
	for _, path := range []string{"c", "", "x b c", "b x", "b x c", "b x  d", "b c c", "b  d e", "b  d 0", "b  d ", "a a", "b b", "b c "} {
		checkAt(t, "not there", v, strings.Split(path, " "), api.Value{}, false)
	}
}

func TestAtWithoutAKey(t *testing.T) {
	for _, v := range append(plain(), api.Value{}, api.Value{Kind: 7, Kids: plain()}, api.Value{Kind: -1, Keys: []string{"a"}}, str("\xFF")) {
		checkAt(t, "no key", v, nil, v, true)
		checkAt(t, "no key", v, []string{}, v, true)
	}
}

func TestAtDeepWithin(t *testing.T) {
	v := inObjects(199, str("end"))
	path := slices.Repeat([]string{"in"}, 201)
	for n := range 200 {
		checkAt(t, "deep within", v, path[:n], inObjects(199-n, str("end")), true)
		checkAt(t, "deep within, and another key", v, slices.Concat(path[:n], []string{"out"}), api.Value{}, false)
	}
	checkAt(t, "too far", v, path[:200], api.Value{}, false)
	checkAt(t, "too far", v, path, api.Value{}, false)
}

// P8.3

func TestWalk(t *testing.T) {
	v := object("b", list(str("x"), named("d", "c")), "a", str("y"))
	type one struct {
		deep, kind int
		text       string
	}
	var got []one
	for deep, x := range Walk(v) {
		got = append(got, one{deep, x.Kind, x.Str})
	}
	want := []one{{0, 6, ""}, {1, 5, ""}, {2, 4, "x"}, {2, 6, ""}, {3, 4, "of d"}, {3, 4, "of c"}, {1, 4, "y"}}
	if !slices.Equal(got, want) {
		t.Errorf("Walk told %v, not %v", got, want)
	}
	checkWalk(t, "the same", v)
}

func TestWalkOfKidsOfAnyKind(t *testing.T) {
	for _, kind := range kinds {
		v := api.Value{Kind: kind, Kids: []api.Value{str("a"), {Kind: kind, Kids: []api.Value{str("b"), null()}}, str("c")}}
		checkWalk(t, fmt.Sprintf("kind %d", kind), v)
		if n := len(steps(v)); n != 6 {
			t.Fatalf("the model tells %d of 6", n)
		}
	}
	checkWalk(t, "more keys", api.Value{Kind: api.Object, Keys: []string{"a", "b"}, Kids: []api.Value{null()}})
	checkWalk(t, "fewer keys", api.Value{Kind: api.Object, Keys: []string{"a"}, Kids: []api.Value{null(), list(null())}})
}

func TestWalkStopsInALoop(t *testing.T) {
	v := object("b", list(str("x"), list(list(str("deepest"), null()), null())), "a", str("y"))
	want := steps(v)
	for most := range want {
		n := 0
		for deep, one := range Walk(v) {
			if deep != want[n].deep || told(one) != want[n].one {
				t.Errorf("value %d: %d, %s", n, deep, told(one))
			}
			if n++; n > most {
				break
			}
		}
		if n != most+1 {
			t.Errorf("%d values were told, not %d", n, most+1)
		}
	}
}

func TestWalkWithinItself(t *testing.T) {
	v := list(str("a"), object("b", list(null()), "c", str("d")))
	all, want := Walk(v), steps(v)
	n := 0
	for range all {
		checkSteps(t, "within itself", all, want, n+1)
		checkSteps(t, "within itself", all, want, len(want)+1)
		n++
	}
	if n != len(want) {
		t.Errorf("%d values were told, not %d", n, len(want))
	}
}

func TestWalkIsNeverNil(t *testing.T) {
	for _, v := range []api.Value{{}, {Kind: 7}, list(), object(), null()} {
		if Walk(v) == nil {
			t.Error("nil is told of " + told(v))
		}
	}
}
