package jenc

import (
	"bytes"
	"encoding/json"
	"fmt"
	"slices"
	"sort"
	"strings"
	"testing"

	"tabularium/api"
	"tabularium/jdec"
	"tabularium/tree"
)

// Values in short.

func null() api.Value { return api.Value{Kind: api.Null} }

func truth(is bool) api.Value { return api.Value{Kind: api.Bool, Is: is} }

// number is the number of those digits, times ten to the power exp.
func number(below bool, digits string, exp int) api.Value {
	return api.Value{Kind: api.Num, Num: api.Number{Neg: below, Digits: digits, Exp: exp}}
}

// whole is a number of one digit that isn't 0.
func whole(digit string) api.Value { return number(false, digit, 0) }

func str(s string) api.Value { return api.Value{Kind: api.Str, Str: s} }

func list(kids ...api.Value) api.Value { return api.Value{Kind: api.List, Kids: kids} }

// object is made of keys, each with its value behind it.
func object(fields ...any) api.Value {
	v := api.Value{Kind: api.Object}
	for i := 0; i < len(fields); i += 2 {
		v.Keys = append(v.Keys, fields[i].(string))
		v.Kids = append(v.Kids, fields[i+1].(api.Value))
	}
	return v
}

// named is an object with those keys, each with its place as its value.
func named(keys ...string) api.Value {
	v := object()
	for i, key := range keys {
		v.Keys, v.Kids = append(v.Keys, key), append(v.Kids, str(fmt.Sprint(i)))
	}
	return v
}

// inLists is v within that many lists, one in the other.
func inLists(n int, v api.Value) api.Value {
	for range n {
		v = list(v)
	}
	return v
}

// inObjects is v within that many objects, one in the other.
func inObjects(n int, v api.Value) api.Value {
	for range n {
		v = object("in", v)
	}
	return v
}

// inBoth is v within that many lists and objects, by turns, with others beside it.
func inBoth(n int, v api.Value) api.Value {
	for i := range n {
		if i%2 == 0 {
			v = object("z", str("x"), "in", v, "a", null())
		} else {
			v = list(null(), v, str("x"))
		}
	}
	return v
}

// nests are the ways of laying a value into others.
var nests = map[string]func(int, api.Value) api.Value{
	"lists": inLists, "objects": inObjects, "both": inBoth,
	"both, a list outermost": func(n int, v api.Value) api.Value { return list(inBoth(n-1, v)) },
}

// The model: the document's words, told in another way.

// escapes are the scalars that a text's print writes as a backslash and a sign.
var escapes = map[rune]string{0x22: `\"`, 0x5C: `\\`, 0x8: `\b`, 0xC: `\f`, 0xA: `\n`, 0xD: `\r`, 0x9: `\t`}

// textOf is a text's print.
func textOf(s string) string {
	var out []string
	for _, c := range s {
		one, ok := escapes[c]
		switch {
		case ok:
			out = append(out, one)
		case c < 0x20:
			out = append(out, fmt.Sprintf(`\u%04x`, c))
		default:
			out = append(out, string(c))
		}
	}
	return `"` + strings.Join(out, "") + `"`
}

// numberOf is a number's print.
func numberOf(n api.Number) string {
	digits, ahead := n.Digits, ""
	if n.Neg {
		ahead = "-"
	}
	switch {
	case digits == "":
		return "0"
	case n.Exp < -20 || n.Exp > 20:
		return fmt.Sprintf("%s%se%d", ahead, digits, n.Exp)
	case n.Exp >= 0:
		return ahead + digits + strings.Repeat("0", n.Exp)
	}
	for len(digits) <= -n.Exp {
		digits = "0" + digits
	}
	return ahead + digits[:len(digits)+n.Exp] + "." + digits[len(digits)+n.Exp:]
}

// plainOf is the print of a value that has no parts.
func plainOf(v api.Value) string {
	return map[int]string{1: "null", 2: fmt.Sprint(v.Is), 3: numberOf(v.Num), 4: textOf(v.Str), 5: "[]", 6: "{}"}[v.Kind]
}

// brackets are those of a kind.
var brackets = map[int]string{5: "[]", 6: "{}"}

// printOf is the print of v.
func printOf(v api.Value) string {
	if len(v.Kids) == 0 {
		return plainOf(v)
	}
	var l []string
	for i, kid := range v.Kids {
		one := printOf(kid)
		if v.Kind == 6 {
			one = textOf(v.Keys[i]) + ":" + one
		}
		l = append(l, one)
	}
	return brackets[v.Kind][:1] + strings.Join(l, ",") + brackets[v.Kind][1:]
}

// wideOf is the wide print of v.
func wideOf(v api.Value) string { return strings.Join(linesOf(v), "\x0A") }

// linesOf is the wide print's lines of v, which lies in none.
func linesOf(v api.Value) []string {
	if len(v.Kids) == 0 {
		return []string{plainOf(v)}
	}
	lines := []string{brackets[v.Kind][:1]}
	for i, kid := range v.Kids {
		within := linesOf(kid)
		if v.Kind == 6 {
			within[0] = textOf(v.Keys[i]) + ": " + within[0]
		}
		if i+1 < len(v.Kids) {
			within[len(within)-1] += ","
		}
		for _, line := range within {
			lines = append(lines, "  "+line)
		}
	}
	return append(lines, brackets[v.Kind][1:])
}

// sorted is v with each object's keys rising.
func sorted(v api.Value) api.Value {
	kids := map[string]api.Value{}
	out := v
	out.Keys, out.Kids = slices.Clone(v.Keys), nil
	for i, kid := range v.Kids {
		out.Kids = append(out.Kids, sorted(kid))
		if v.Kind == 6 {
			kids[v.Keys[i]] = out.Kids[i]
		}
	}
	sort.Strings(out.Keys)
	for i, key := range out.Keys {
		out.Kids[i] = kids[key]
	}
	return out
}

// turned is v with each object's keys in the opposite order.
func turned(v api.Value) api.Value {
	return reordered(v, func(n int) []int {
		places := make([]int, n)
		for i := range places {
			places[i] = n - 1 - i
		}
		return places
	})
}

// reordered is v with each object's fields taken from those places that order tells of so many.
func reordered(v api.Value, order func(int) []int) api.Value {
	out := v
	out.Keys, out.Kids = nil, nil
	for _, kid := range v.Kids {
		out.Kids = append(out.Kids, reordered(kid, order))
	}
	if v.Kind != 6 {
		return out
	}
	kids := out.Kids
	out.Kids = nil
	for _, place := range order(len(kids)) {
		out.Keys, out.Kids = append(out.Keys, v.Keys[place]), append(out.Kids, kids[place])
	}
	return out
}

// told is v field by field, as a text that two values share only if they are the same.
func told(v api.Value) string {
	var out strings.Builder
	write(&out, v)
	return out.String()
}

// write writes what told tells of v.
func write(out *strings.Builder, v api.Value) {
	fmt.Fprintf(out, "%d %t %t %q %d %q %q(", v.Kind, v.Is, v.Num.Neg, v.Num.Digits, v.Num.Exp, v.Str, v.Keys)
	for _, kid := range v.Kids {
		write(out, kid)
		out.WriteByte(';')
	}
	out.WriteByte(')')
}

// Generated values.

// dice are rolled alike in each run.
type dice struct{ state uint64 }

// below answers a number from 0 on below n.
func (d *dice) below(n int) int {
	d.state = d.state*6364136223846793005 + 1442695040888963407
	return int(d.state>>33) % n
}

// places are the numbers from 0 on below n, in some order.
func (d *dice) places(n int) []int {
	l := make([]int, n)
	for i := range l {
		at := d.below(i + 1)
		l[i], l[at] = l[at], i
	}
	return l
}

// signs are pieces of texts, all that the print writes otherwise among them.
var signs = []string{"a", "B", " ", `"`, `\`, "/", "\x00", "\x01", "\b", "\t", "\n", "\x0B", "\f", "\r", "\x1F", "\x7F", "é", "\u2028", "€", "\uFFFF", "\U0001F600", "[", "]", "{", "}", ",", ":", "\\u0041"}

// text is a text of some signs.
func (d *dice) text() string {
	s := ""
	for d.below(3) > 0 {
		s += signs[d.below(len(signs))]
	}
	return s
}

// value is a value that is at most that deep.
func (d *dice) value(deep int) api.Value {
	kinds := 6
	if deep == 1 {
		kinds = 4
	}
	switch 1 + d.below(kinds) {
	case api.Null:
		return null()
	case api.Bool:
		return truth(d.below(2) == 0)
	case api.Num:
		return figures[d.below(len(figures))].v
	case api.Str:
		return str(d.text())
	case api.List:
		return d.list(deep)
	}
	return d.object(deep)
}

func (d *dice) list(deep int) api.Value {
	v := list()
	for range d.below(5) {
		v.Kids = append(v.Kids, d.value(deep-1))
	}
	return v
}

func (d *dice) object(deep int) api.Value {
	v := object()
	for range d.below(6) {
		if key := d.text(); !slices.Contains(v.Keys, key) {
			v.Keys, v.Kids = append(v.Keys, key), append(v.Kids, d.value(deep-1))
		}
	}
	return v
}

// made is a value that is at most 2 to 8 deep, more often an object or a list than another one.
func made(seed int) api.Value {
	d, deep := &dice{uint64(seed)}, 2+seed%7
	switch d.below(4) {
	case 0:
		return d.value(deep)
	case 1:
		return d.list(deep)
	}
	return d.object(deep)
}

// shuffled is v with each object's keys in some order.
func shuffled(seed int, v api.Value) api.Value {
	return reordered(v, (&dice{uint64(seed)}).places)
}

// Checks.

// some is as much of s as a line of a test's answer holds.
func some(s string) string { return fmt.Sprintf("%.300q", s) }

// checkOne looks at what one of the calls answered.
func checkOne(t *testing.T, call, what, got string, e api.Errno, want string, wantError api.Errno) {
	t.Helper()
	if got != want || e != wantError {
		t.Errorf("%s of %.300s: %s, %d, not %s, %d", call, what, some(got), e, some(want), wantError)
	}
}

// checkThree looks at Print, Canon and Wide of v, which mustn't change.
func checkThree(t *testing.T, v api.Value, print, canon, wide string, wantError api.Errno) {
	t.Helper()
	before := told(v)
	got, e := Print(v)
	checkOne(t, "Print", before, got, e, print, wantError)
	got, e = Canon(v)
	checkOne(t, "Canon", before, got, e, canon, wantError)
	got, e = Wide(v)
	checkOne(t, "Wide", before, got, e, wide, wantError)
	if told(v) != before {
		t.Errorf("%.300s was changed to %.300s", before, told(v))
	}
}

// checkWrong looks at the three calls of v, which isn't right.
func checkWrong(t *testing.T, v api.Value) {
	t.Helper()
	checkThree(t, v, "", "", "", api.ErrArg)
}

// checkIs looks at Is.
func checkIs(t *testing.T, s string, want bool) {
	t.Helper()
	if got := Is(s); got != want {
		t.Errorf("Is(%s): %t", some(s), got)
	}
}

// checkParsed looks at what layer 9 makes of a print, which may be too long for it.
func checkParsed(t *testing.T, s string, want api.Value) {
	t.Helper()
	v, e := jdec.Value(s)
	if len(s) > 1<<20 {
		if e != api.ErrBig {
			t.Errorf("jdec's Value(%s): %d", some(s), e)
		}
		return
	}
	if e != api.OK || told(v) != told(want) || !tree.Same(v, want) {
		t.Errorf("jdec's Value(%s): %.300s, %d, not %.300s", some(s), told(v), e, told(want))
	}
}

// raw makes as they are the two scalars that the library alone writes otherwise.
var raw = strings.NewReplacer(`\u2028`, "\u2028", `\u2029`, "\u2029")

// checkLibrary looks at prints of one value by what the library tells of them.
func checkLibrary(t *testing.T, print, canon, wide string) {
	t.Helper()
	var narrow, broad bytes.Buffer
	if err := json.Compact(&narrow, []byte(wide)); err != nil || narrow.String() != print {
		t.Errorf("the library makes narrow: %s of %s (%v)", some(narrow.String()), some(wide), err)
	}
	if err := json.Indent(&broad, []byte(print), "", "  "); err != nil || broad.String() != wide {
		t.Errorf("the library makes wide: %s of %s (%v)", some(broad.String()), some(print), err)
	}
	d := json.NewDecoder(strings.NewReader(print))
	d.UseNumber()
	var v any
	var again bytes.Buffer
	e := json.NewEncoder(&again)
	e.SetEscapeHTML(false)
	if err := d.Decode(&v); err != nil {
		t.Errorf("the library doesn't decode %s: %v", some(print), err)
	} else if err := e.Encode(v); err != nil || raw.Replace(again.String()) != canon+"\n" {
		t.Errorf("the library's canon of %s: %s, not %s (%v)", some(print), some(again.String()), some(canon), err)
	}
}

// checkAll looks at all that is promised of v, which is right.
func checkAll(t *testing.T, v api.Value) {
	t.Helper()
	print, canon, wide := printOf(v), printOf(sorted(v)), wideOf(v)
	checkThree(t, v, print, canon, wide, api.OK)
	checkParsed(t, print, v)
	checkParsed(t, wide, v)
	checkParsed(t, canon, sorted(v))
	checkIs(t, canon, len(canon) <= 1<<20)
	checkIs(t, print, print == canon && len(canon) <= 1<<20)
	checkIs(t, wide, wide == canon && len(canon) <= 1<<20)
	if got, e := Canon(turned(v)); got != canon || e != api.OK {
		t.Errorf("Canon of %.300s: %s, %d, but %s of the other order", told(turned(v)), some(got), e, some(canon))
	}
	checkLibrary(t, print, canon, wide)
}
