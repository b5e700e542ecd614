package jenc

import (
	"fmt"
	"math"
	"slices"
	"strings"
	"testing"

	"tabularium/api"
	"tabularium/tree"
)

// P10.1: the prints

func TestWords(t *testing.T) {
	for want, v := range map[string]api.Value{"null": null(), "true": truth(true), "false": truth(false)} {
		checkThree(t, v, want, want, want, api.OK)
		checkAll(t, v)
		checkAll(t, list(v, v))
		checkAll(t, object("b", v, "a", v))
	}
}

// figure is a number's value, its print, and other texts of that number.
type figure struct {
	v      api.Value
	print  string
	others []string
}

var figures = []figure{
	{number(false, "", 0), "0", []string{"-0", "0.0", "-0.000", "0e0", "0e5", "0E-99999999999999999999"}},
	{number(false, "1", 0), "1", []string{"1.0", "1e0", "1E0", "1e+0", "1e-0", "10e-1", "0.1e1"}},
	{number(true, "1", 0), "-1", []string{"-1.0", "-1e0", "-10e-1"}},
	{number(false, "12034", 2), "1203400", []string{"1203400.0", "12034e2", "1.2034e6", "1203400e0"}},
	{number(true, "7", 1), "-70", []string{"-70.0", "-7e1", "-7E+1"}},
	{number(false, "1", 20), "100000000000000000000", []string{"1e20", "1E20", "10e19", "100000000000000000000.0"}},
	{number(true, "15", 20), "-1500000000000000000000", []string{"-15e20", "-1.5e21"}},
	{number(false, "1", 21), "1e21", []string{"1000000000000000000000", "1E21", "1e+21", "1e021", "1.0e21", "10e20", "0.1e22"}},
	{number(true, "105", 10000), "-105e10000", []string{"-105E10000", "-105e+10000", "-1.05e10002"}},
	{number(false, "25", -1), "2.5", []string{"2.50", "25e-1", "2.5e0", "0.25e1"}},
	{number(true, "1203", -3), "-1.203", []string{"-1.2030", "-1203e-3"}},
	{number(false, "12", -2), "0.12", []string{"0.120", "12e-2", "1.2e-1"}},
	{number(true, "12", -3), "-0.012", []string{"-0.0120", "-12e-3"}},
	{number(false, "1", -20), "0.00000000000000000001", []string{"1e-20", "0.000000000000000000010", "10e-21"}},
	{number(false, "123456789012345678901234567", -20), "1234567.89012345678901234567", []string{"123456789012345678901234567e-20"}},
	{number(false, "1", -21), "1e-21", []string{"0.000000000000000000001", "1E-21", "1e-021", "10e-22"}},
	{number(true, "305", -10000), "-305e-10000", []string{"-305E-10000", "-30.5e-9999"}},
}

func TestNumbers(t *testing.T) {
	for _, f := range figures {
		checkThree(t, f.v, f.print, f.print, f.print, api.OK)
		checkAll(t, f.v)
		checkAll(t, list(f.v, null(), f.v))
		checkAll(t, object("b", f.v, "a", f.v))
	}
	digits := strings.Repeat("7", 1000)
	checkAll(t, number(true, digits, 10000))
	checkAll(t, number(true, digits, -10))
	checkAll(t, list(number(false, digits, 20), number(false, digits, -1000), number(false, digits, -999)))
	for exp := -25; exp <= 25; exp++ {
		for _, digits := range []string{"1", "12", "305", strings.Repeat("9", 20), strings.Repeat("9", 21), strings.Repeat("8", 22)} {
			checkAll(t, number(exp%2 == 0, digits, exp))
		}
	}
}

func TestTexts(t *testing.T) {
	for s, want := range map[string]string{
		"": `""`, "a": `"a"`, "x\ny": `"x\ny"`, "\"\\\b\f\n\r\t": `"\"\\\b\f\n\r\t"`, "/": `"/"`, "'<>&": `"'<>&"`, "\x00\x01\x07\x0B\x0E\x1F": `"\u0000\u0001\u0007\u000b\u000e\u001f"`, "\x7F": "\"\x7F\"",
		"\u00e9\u20ac\U0001F600": "\"\u00e9\u20ac\U0001F600\"", "\u0080\u2028\u2029\ufeff\ufffd": "\"\u0080\u2028\u2029\ufeff\ufffd\"", `\n`: `"\\n"`, `"`: `"\""`, "[": `"["`, "{": `"{"`, "]": `"]"`, "}": `"}"`, ",": `","`, ":": `":"`,
		"null": `"null"`, "1": `"1"`, " a  b ": `" a  b "`,
	} {
		checkThree(t, str(s), want, want, want, api.OK)
		checkThree(t, list(str(s)), "["+want+"]", "["+want+"]", "[\n  "+want+"\n]", api.OK)
		checkThree(t, object(s, str(s)), "{"+want+":"+want+"}", "{"+want+":"+want+"}", "{\n  "+want+": "+want+"\n}", api.OK)
		checkAll(t, list(str(s), list(str(s), str(s)), object(s, str(s))))
		checkAll(t, object("zz", str(s), s, list(str(s)), "aa", str("")))
	}
}

// Each scalar of one and two bytes, and some of three and four, the least and the greatest of each among them.
func TestScalars(t *testing.T) {
	for c := rune(0); c <= 0x10FFFF; c++ {
		if c >= 0x800 && c%257 > 0 && c < 0x10FFF0 && c != 0xD7FF && c != 0xE000 && c != 0xFFFF && c != 0x10000 || c >= 0xD800 && c <= 0xDFFF {
			continue
		}
		s := string(c)
		checkThree(t, object(s, str(s)), "{"+textOf(s)+":"+textOf(s)+"}", "{"+textOf(s)+":"+textOf(s)+"}", "{\n  "+textOf(s)+": "+textOf(s)+"\n}", api.OK)
		checkIs(t, textOf("a"+s+"b"), true)
		checkIs(t, "{"+textOf(s)+":"+textOf(s)+"}", true)
	}
}

// What stands for brackets, commas and colons in texts is neither parted nor laid out.
func TestSignsInTexts(t *testing.T) {
	for _, s := range []string{"[", "]", "{", "}", ",", ":", `"`, "[]", "{}", "[1,2]", `{"a":1}`, `","`, `":"`, "\n", "  "} {
		checkAll(t, str(s))
		checkAll(t, list(str(s), null(), str(s)))
		checkAll(t, list(str(s), list(str(s)), list(), str(s)))
		checkAll(t, object(s, str(s), s+s, object(s, str(s)), "", list(str(s))))
	}
}

// sample is a value with its prints.
type sample struct {
	v                  api.Value
	print, canon, wide string
}

// samples are values of lists and objects.
func samples() []sample {
	one, two := whole("1"), whole("2")
	return []sample{
		{list(), "[]", "[]", "[]"},
		{object(), "{}", "{}", "{}"},
		{list(one), "[1]", "[1]", "[\n  1\n]"},
		{list(one, two), "[1,2]", "[1,2]", "[\n  1,\n  2\n]"},
		{list(two, one, two), "[2,1,2]", "[2,1,2]", "[\n  2,\n  1,\n  2\n]"},
		{list(list()), "[[]]", "[[]]", "[\n  []\n]"},
		{list(object()), "[{}]", "[{}]", "[\n  {}\n]"},
		{list(list(), object()), "[[],{}]", "[[],{}]", "[\n  [],\n  {}\n]"},
		{list(one, list(), two, object(), one), "[1,[],2,{},1]", "[1,[],2,{},1]", "[\n  1,\n  [],\n  2,\n  {},\n  1\n]"},
		{list(list(one), list(two)), "[[1],[2]]", "[[1],[2]]", "[\n  [\n    1\n  ],\n  [\n    2\n  ]\n]"},
		{list(list(list())), "[[[]]]", "[[[]]]", "[\n  [\n    []\n  ]\n]"},
		{object("a", one), `{"a":1}`, `{"a":1}`, "{\n  \"a\": 1\n}"},
		{object("", str("")), `{"":""}`, `{"":""}`, "{\n  \"\": \"\"\n}"},
		{object("a", list()), `{"a":[]}`, `{"a":[]}`, "{\n  \"a\": []\n}"},
		{object("a", object()), `{"a":{}}`, `{"a":{}}`, "{\n  \"a\": {}\n}"},
		{object("b", one, "a", list()), `{"b":1,"a":[]}`, `{"a":[],"b":1}`, "{\n  \"b\": 1,\n  \"a\": []\n}"},
		{object("a", object(), "b", list(), "", two), `{"a":{},"b":[],"":2}`, `{"":2,"a":{},"b":[]}`, "{\n  \"a\": {},\n  \"b\": [],\n  \"\": 2\n}"},
		{object("a", object("a", object())), `{"a":{"a":{}}}`, `{"a":{"a":{}}}`, "{\n  \"a\": {\n    \"a\": {}\n  }\n}"},
		{object("a", list(one, two)), `{"a":[1,2]}`, `{"a":[1,2]}`, "{\n  \"a\": [\n    1,\n    2\n  ]\n}"},
		{list(object("a", one)), `[{"a":1}]`, `[{"a":1}]`, "[\n  {\n    \"a\": 1\n  }\n]"},
		{list(object("b", null(), "a", truth(true)), object("d", one, "c", two)), `[{"b":null,"a":true},{"d":1,"c":2}]`, `[{"a":true,"b":null},{"c":2,"d":1}]`,
			"[\n  {\n    \"b\": null,\n    \"a\": true\n  },\n  {\n    \"d\": 1,\n    \"c\": 2\n  }\n]"},
		{object("z", object("b", one, "a", list(object("y", one, "x", two))), "a", truth(false)), `{"z":{"b":1,"a":[{"y":1,"x":2}]},"a":false}`, `{"a":false,"z":{"a":[{"x":2,"y":1}],"b":1}}`,
			"{\n  \"z\": {\n    \"b\": 1,\n    \"a\": [\n      {\n        \"y\": 1,\n        \"x\": 2\n      }\n    ]\n  },\n  \"a\": false\n}"},
	}
}

func TestListsAndObjects(t *testing.T) {
	for _, s := range samples() {
		checkThree(t, s.v, s.print, s.canon, s.wide, api.OK)
		checkAll(t, s.v)
	}
}

// nil and empty lists are one.
func TestEmptyLists(t *testing.T) {
	for _, v := range []api.Value{{Kind: api.List}, {Kind: api.List, Kids: []api.Value{}}, {Kind: api.List, Keys: []string{}, Kids: []api.Value{}}, {Kind: api.List, Keys: []string{}}} {
		checkThree(t, v, "[]", "[]", "[]", api.OK)
		checkAll(t, list(v, v))
	}
	for _, v := range []api.Value{{Kind: api.Object}, {Kind: api.Object, Keys: []string{}}, {Kind: api.Object, Kids: []api.Value{}}, {Kind: api.Object, Keys: []string{}, Kids: []api.Value{}}} {
		checkThree(t, v, "{}", "{}", "{}", api.OK)
		checkAll(t, object("b", v, "a", v))
	}
	checkThree(t, api.Value{Kind: api.Null, Keys: []string{}, Kids: []api.Value{}}, "null", "null", "null", api.OK)
	checkThree(t, api.Value{Kind: api.Str, Str: "a", Keys: []string{}, Kids: []api.Value{}}, `"a"`, `"a"`, `"a"`, api.OK)
}

func TestOrderOfKeys(t *testing.T) {
	for _, rising := range [][]string{
		{"", "a"}, {"a", "b"}, {"", "a", "ab", "abc", "b"}, {"a", "aa", "aaa", "ab"}, {"A", "B", "a", "b"}, {"1", "10", "2", "9"},
		{"a", "a\x00", "a\x00b", "a\x01", "aa"}, {"a", "a ", "a b", "ab"},
		// by how many scalars they have, and by bytes
		{"zzz", "é"}, {"aaaa", "b", "€"}, {"zz", "é", "éé", "€", "\U0001F600"}, {"\x7F\x7F\x7F", "\u0080"}, {"e\u0301", "\u00e9"}, {"éz", "ê"},
		// the halves of the greatest ones would come ahead of some that are less
		{"\uD7FF", "\uE000", "\uFF5E", "\uFFFF", "\U00010000", "\U0001F600", "\U0010FFFF"},
		// written otherwise than they are
		{"\x00", "\b", "\t", "\n", "\v", "\f", "\r", "\x1F", " ", "!", `"`, "#", "/", "0", "A", "[", `\`, "]", "a", "\x7F"},
		{"\x01", "\n"}, {"\n", "!"}, {"\n", "A"}, {`"`, "#"}, {`"`, "A"}, {`\`, "]"}, {"a\n", "a!"}, {"a", "a\"", "ab"}, {"\x1F", " "}, {"\f", "\r", "\x0E"}, {"\t", "\n"}, {`\n`, "n"}, {"\n", `\n`},
	} {
		v := named(rising...)
		canon, e := Print(v)
		if e != api.OK {
			t.Error(rising, e)
		}
		checkIs(t, canon, true)
		for seed := range 20 {
			one := shuffled(seed, v)
			if got, e := Canon(one); got != canon || e != api.OK {
				t.Errorf("Canon of the keys %q: %s, %d", one.Keys, got, e)
			}
			checkAll(t, one)
			checkAll(t, list(one, object("z", one, "y", shuffled(seed+100, v))))
		}
	}
}

func TestEachOrderOfKeys(t *testing.T) {
	v := object("c", list(object("y", null(), "x", list())), "a", object("z", whole("1"), "", whole("2"), "zz", whole("3")), "", str("\n"), "ab", object("b", object(), "a", list()))
	canon, _ := Canon(v)
	if want := `{"":"\n","a":{"":2,"z":1,"zz":3},"ab":{"a":[],"b":{}},"c":[{"x":[],"y":null}]}`; canon != want {
		t.Errorf("Canon: %s, not %s", canon, want)
	}
	for seed := range 2000 {
		one := shuffled(seed, v)
		if got, e := Canon(one); got != canon || e != api.OK {
			t.Errorf("Canon of %s: %s, %d", told(one), got, e)
		}
		print, _ := Print(one)
		checkIs(t, print, tree.Same(one, sorted(v)))
	}
}

func TestManyFields(t *testing.T) {
	for _, n := range []int{10, 100, 3000} {
		v, l := object(), list()
		for _, i := range (&dice{uint64(n)}).places(n) {
			v.Keys, v.Kids = append(v.Keys, fmt.Sprint("k", i)), append(v.Kids, list(str(fmt.Sprint(i))))
			l.Kids = append(l.Kids, object("b", whole("1"), "a", list()))
		}
		checkAll(t, v)
		checkAll(t, l)
	}
}

// P10.1: deep values

func TestDeepValues(t *testing.T) {
	for name, nest := range nests {
		for _, deep := range []int{1, 2, 3, 10, 62, 63} {
			for _, inner := range []api.Value{null(), whole("1"), str("a"), list(), object()} {
				v := nest(deep, inner)
				if tree.Deep(v) != deep+1 {
					t.Fatalf("%s: %d deep, not %d", name, tree.Deep(v), deep+1)
				}
				checkAll(t, v)
			}
		}
		for _, deep := range []int{64, 65, 100, 199} {
			for _, inner := range []api.Value{null(), whole("1"), str("a"), list(), object()} {
				checkWrong(t, nest(deep, inner))
				checkWrong(t, list(null(), nest(deep-1, inner)))
			}
		}
		checkAll(t, nest(62, list(null())))
		checkAll(t, nest(62, object("b", null(), "a", list())))
		checkWrong(t, nest(63, list(null())))
		checkWrong(t, nest(63, object("a", null())))
	}
}

// The prints of what is as deep as may be.
func TestDeepestPrints(t *testing.T) {
	ahead, behind := strings.Repeat("[", 64), strings.Repeat("]", 64)
	wide := ""
	for deep := range 63 {
		wide += strings.Repeat(" ", 2*deep) + "[\n"
	}
	wide += strings.Repeat(" ", 126) + "[]"
	for deep := 62; deep >= 0; deep-- {
		wide += "\n" + strings.Repeat(" ", 2*deep) + "]"
	}
	checkThree(t, inLists(63, list()), ahead+behind, ahead+behind, wide, api.OK)
	checkIs(t, ahead+behind, true)
	checkIs(t, "["+ahead+behind+"]", false)
}

// One value may lie in a list many times; so it is soon told that it is too deep, however many there would be in all.
func TestDeepAndBroad(t *testing.T) {
	v, o := list(), object()
	for range 199 {
		v, o = list(v, v), object("b", o, "a", o)
	}
	for _, one := range []api.Value{v, o} {
		for name, call := range calls {
			if got, e := call(one); got != "" || e != api.ErrArg {
				t.Errorf("%s: %s, %d", name, some(got), e)
			}
		}
	}
}

// calls are the calls that print.
var calls = map[string]func(api.Value) (string, api.Errno){"Print": Print, "Canon": Canon, "Wide": Wide}

// P10.1: values that aren't right

// wrong are values that aren't, for each rule of layer 8.
func wrong() []api.Value {
	l := []api.Value{{}, list(list(null()), api.Value{}), inLists(64, null()), inObjects(64, list())}
	for _, kind := range []int{0, 7, 8, -1, -6, 256 + 4, math.MinInt, math.MaxInt} {
		l = append(l, api.Value{Kind: kind}, api.Value{Kind: kind, Is: true}, api.Value{Kind: kind, Str: "a"}, api.Value{Kind: kind, Kids: []api.Value{null()}}, api.Value{Kind: kind, Keys: []string{"a"}, Kids: []api.Value{null()}})
	}
	// what a kind doesn't have
	for kind := api.Null; kind <= api.Object; kind++ {
		for field, with := range map[int]api.Value{
			api.Bool: {Kind: kind, Is: true}, api.Num: {Kind: kind, Num: api.Number{Digits: "1"}}, api.Str: {Kind: kind, Str: "a"}, api.List: {Kind: kind, Kids: []api.Value{null()}},
			api.Object: {Kind: kind, Keys: []string{"a"}, Kids: []api.Value{null()}}, 100: {Kind: kind, Keys: []string{"a"}}, 101: {Kind: kind, Num: api.Number{Neg: true}}, 102: {Kind: kind, Num: api.Number{Exp: 1}},
		} {
			if kind != field {
				l = append(l, with)
			}
		}
	}
	// numbers
	for _, n := range []api.Number{{Neg: true}, {Exp: 1}, {Exp: -1}, {Digits: "0"}, {Digits: "10"}, {Digits: "01"}, {Digits: "-1"}, {Digits: "1.5"}, {Digits: "1e5"}, {Digits: "x"}, {Digits: " "}, {Digits: "1", Exp: 10001}, {Digits: "1", Exp: -10001}, {Digits: strings.Repeat("1", 1001)}} {
		l = append(l, api.Value{Kind: api.Num, Num: n})
	}
	// texts and keys
	for _, s := range []string{"\xFF", "\x80", "a\xC0\x80", "\xED\xA0\x80b", "\xE2\x82", "\xF4\x90\x80\x80", strings.Repeat("a", 1000) + "\xFF"} {
		l = append(l, str(s), object(s, null()), object("a", null(), s, null()))
	}
	l = append(l, object("a", null(), "a", null()), object("a", whole("1"), "b", whole("2"), "a", whole("3")), object("", list(), "", list()), object("a", null(), "b", object("c", null(), "c", null())))
	// other numbers of keys than of values
	for keys, kids := range map[string]int{"": 1, "a": 0, "a b": 1, "a b c": 1, "a b c d": 5} {
		l = append(l, api.Value{Kind: api.Object, Keys: strings.Fields(keys), Kids: slices.Repeat([]api.Value{null()}, kids)})
	}
	return l
}

func TestWrongValues(t *testing.T) {
	for _, v := range wrong() {
		checkWrong(t, v)
		checkWrong(t, list(v))
		checkWrong(t, list(null(), whole("1"), v))
		checkWrong(t, list(v, null(), list()))
		checkWrong(t, object("a", v))
		checkWrong(t, object("b", null(), "a", v))
		checkWrong(t, object("b", v, "a", null(), "c", list()))
		for _, nest := range nests {
			checkWrong(t, nest(5, v))
			checkWrong(t, nest(60, v))
		}
		checkWrong(t, list(inBoth(30, null()), list(object("b", list(), "a", list(null(), list(str("a"), v)))), null()))
	}
}

// What is right but for its last part is told as wrong at once: nothing of it is printed.
func TestWrongInTheEnd(t *testing.T) {
	l, o := list(), object()
	for i := range 2000 {
		l.Kids = append(l.Kids, whole("1"))
		o.Keys, o.Kids = append(o.Keys, fmt.Sprint(i)), append(o.Kids, whole("1"))
	}
	checkAll(t, l)
	checkAll(t, o)
	l.Kids[1999], o.Kids[1999] = str("\xFF"), number(false, "10", 0)
	checkWrong(t, l)
	checkWrong(t, o)
	o.Kids[1999] = whole("1")
	o.Keys[1999] = o.Keys[0]
	checkWrong(t, o)
}

// P10.2

func TestIs(t *testing.T) {
	for s, want := range map[string]bool{
		"null": true, "true": true, "false": true, "0": true, "-1.5": true, `""`: true, `"a"`: true, "[]": true, "{}": true, "[[],{}]": true, "[1,2]": true, "[2,1]": true, `{"a":1,"b":2}`: true, `{"":[],"a":{}}`: true,
		// a blank
		" 1": false, "1 ": false, "\n1": false, "[ ]": false, "{ }": false, "[1, 2]": false, "[1 ,2]": false, "[ 1]": false, "[1 ]": false, `{ "a":1}`: false, `{"a" :1}`: false, `{"a": 1}`: false, `{"a":1 }`: false, "null\t": false, "\r[]": false, "[\n  1\n]": false, "{\n  \"a\": 1\n}": false,
		// keys in another order, or twice
		`{"b":1,"a":2}`: false, `[{"b":1,"a":2}]`: false, `{"a":{"b":1,"a":2}}`: false, `{"a":1,"b":2,"ab":3}`: false, `{"a":1,"":2}`: false, `{"a":1,"A":2}`: false, `{"a":1,"a":1}`: false, `{"a":1,"a":2}`: false, `{"a":1,"\u0061":1}`: false, `{"a":1,"b":{"a":1,"a":1}}`: false,
		`{"!":1,"\n":2}`: false, `{"\n":1,"!":2}`: true, `{"\n":1,"\u0001":2}`: false, `{"\u0001":1,"\n":2}`: true, `{"]":1,"\\":2}`: false, `{"\\":1,"]":2}`: true,
		// written otherwise
		"1.0": false, "1e0": false, "-0": false, "1E21": false, "1e21": true, "1e+21": false, `"\/"`: false, `"/"`: true, `"\u001F"`: false, `"\u001f"`: true, `"\u0041"`: false, `"\u000a"`: false, `"\n"`: true, `"\ud83d\ude00"`: false, "\"\U0001F600\"": true, `["\u0061"]`: false, `{"\u0061":1}`: false, `{"\/":1}`: false,
		// no text of JSON
		"": false, " ": false, "nul": false, "Null": false, "nulll": false, "01": false, "1.": false, "+1": false, "-": false, ".5": false, "1e10001": false, "1 2": false, "1,": false, "[1,]": false, "[,1]": false, "[": false, "]": false, "[}": false, "[1": false, "{": false, `{"a"}`: false, `{"a":}`: false, `{a:1}`: false, `{1:1}`: false, `"a`: false, "'a'": false, "\"\n\"": false, "\"\xff\"": false,
		"[]]": false, "{}}": false, `"a"b`: false, "\xff": false, "\ufeff1": false, "[1]x": false, "null\x00": false, "1//": false, `"\x"`: false, `"\ud83d"`: false, "NaN": false,
	} {
		checkIs(t, s, want)
	}
}

// Numbers that are written otherwise.
func TestIsOfNumbers(t *testing.T) {
	for _, f := range figures {
		checkIs(t, f.print, true)
		checkIs(t, "["+f.print+"]", true)
		checkIs(t, `{"a":`+f.print+"}", true)
		for _, other := range f.others {
			checkIs(t, other, false)
			checkIs(t, "["+other+"]", false)
			checkIs(t, "[1,"+f.print+","+other+"]", false)
			checkIs(t, `{"a":`+other+"}", false)
		}
	}
}

// Each scalar that may be written otherwise, written so.
func TestIsOfTexts(t *testing.T) {
	for c := range 0xD800 {
		own := textOf(string(rune(c)))
		for _, s := range []string{fmt.Sprintf(`"\u%04x"`, c), fmt.Sprintf(`"\u%04X"`, c)} {
			checkIs(t, s, s == own)
			checkIs(t, `{"a":[`+s+"]}", s == own)
			checkIs(t, "{"+s+":1}", s == own)
		}
	}
	for _, sign := range `"\/bfnrt` {
		s := `"\` + string(sign) + `"`
		checkIs(t, s, sign != '/')
		checkIs(t, "{"+s+":"+s+"}", sign != '/')
		checkIs(t, "["+s+`,"\/"]`, false)
	}
}

// canons are canons of every shape.
func canons() []string {
	l := []string{"null", "true", "false", `"abc"`, `"\"\\\n\u0001"`, "\"é€\U0001F600\"", `["[","]",",",":"," "]`}
	for _, s := range samples() {
		l = append(l, s.canon)
	}
	for seed := range 300 {
		canon, _ := Canon(made(seed))
		l = append(l, canon)
	}
	return l
}

// outside tells of each place of a print whether it is outside of its texts.
func outside(s string) []bool {
	l := make([]bool, len(s)+1)
	quoted := false
	for i := 0; i < len(s); i++ {
		l[i] = !quoted
		if quoted && s[i] == '\\' {
			i++
		} else if s[i] == '"' {
			quoted = !quoted
		}
	}
	l[len(s)] = true
	return l
}

func TestIsWithABlank(t *testing.T) {
	for _, canon := range canons() {
		checkIs(t, canon, true)
		for at, free := range outside(canon) {
			for _, blank := range []string{" ", "\t", "\n", "\r", "  ", "\r\n", "\x00", "\x0B", "\u00a0"} {
				if free {
					checkIs(t, canon[:at]+blank+canon[at:], false)
				}
			}
		}
	}
}

// What is cut short is no canon, but of a number some beginnings are numbers themselves.
func TestIsCutShort(t *testing.T) {
	for _, canon := range canons() {
		for n := range len(canon) {
			if c := canon[0]; c != '-' && (c < '0' || c > '9') {
				checkIs(t, canon[:n], false)
			}
			if c := canon[0]; n > 0 && (c == '[' || c == '{' || c == 'n') {
				checkIs(t, canon[n:], false)
			}
		}
	}
	for s, want := range map[string]bool{"-1.5": true, "-1.": false, "-1": true, "-": false, "1e2": false, "1e": false, "1e21": true} {
		checkIs(t, s, want)
	}
}

func TestIsWithARest(t *testing.T) {
	for _, canon := range canons() {
		for _, rest := range []string{" ", "\n", ",", "]", "}", ":", "x", "\x00", "\xff", "[]", "{}", `""`, "null", ",1", canon + "," + canon, "]" + canon} {
			checkIs(t, canon+rest, false)
			checkIs(t, rest+canon, false)
		}
	}
}

// twice tells each way in which one field of v is there twice.
func twice(v api.Value, tell func(api.Value)) {
	for i, kid := range v.Kids {
		if v.Kind == api.Object {
			one := v
			one.Keys, one.Kids = slices.Insert(slices.Clone(v.Keys), i, v.Keys[i]), slices.Insert(slices.Clone(v.Kids), i, kid)
			tell(one)
		}
		twice(kid, func(changed api.Value) {
			one := v
			one.Kids = slices.Clone(v.Kids)
			one.Kids[i] = changed
			tell(one)
		})
	}
}

func TestIsWithAKeyTwice(t *testing.T) {
	n := 0
	for seed := range 1500 {
		twice(sorted(made(seed)), func(v api.Value) {
			n++
			checkIs(t, printOf(v), false)
		})
	}
	if n < 300 {
		t.Errorf("only %d were looked at", n)
	}
}

// swapped tells each way in which two keys of v, which is sorted, that follow each other stand the other way round.
func swapped(v api.Value, tell func(api.Value)) {
	for i, kid := range v.Kids {
		if v.Kind == api.Object && i > 0 {
			tell(reordered(v, func(n int) []int { // of the objects within it, too, which is no matter: what is wrong stays wrong
				places := make([]int, n)
				for at := range places {
					places[at] = at
				}
				if n > i {
					places[i], places[i-1] = i-1, i
				}
				return places
			}))
		}
		swapped(kid, func(changed api.Value) {
			one := v
			one.Kids = slices.Clone(v.Kids)
			one.Kids[i] = changed
			tell(one)
		})
	}
}

func TestIsWithKeysInAnotherOrder(t *testing.T) {
	n := 0
	for seed := range 1500 {
		swapped(sorted(made(seed)), func(v api.Value) {
			n++
			checkIs(t, printOf(v), false)
			checkAll(t, v)
		})
	}
	if n < 300 {
		t.Errorf("only %d were looked at", n)
	}
}

// P10.2: how long

func TestLongCanons(t *testing.T) {
	const most = 1 << 20
	keys := object()
	for i := range 40000 {
		keys.Keys, keys.Kids = append(keys.Keys, fmt.Sprintf("%06d", i)), append(keys.Kids, list(whole("1"), object()))
	}
	for name, v := range map[string]api.Value{
		"a text":       str(strings.Repeat("a", most-2)),
		"escapes":      str(strings.Repeat("\n", most/2-1)),
		"six bytes":    str(strings.Repeat("\x1F", (most-2)/6) + strings.Repeat("a", (most-2)%6)),
		"four bytes":   str(strings.Repeat("\U0001F600", (most-2)/4) + "ab"),
		"a key":        object(strings.Repeat("k", most-6), whole("1")),
		"many numbers": list(append(slices.Repeat([]api.Value{whole("1")}, most/2-2), number(false, "1", 1))...),
		"many lists":   list(append(slices.Repeat([]api.Value{list()}, (most-4)/3), str(strings.Repeat("a", (most-4)%3)))...),
		"many keys":    keys,
	} {
		s, e := Canon(v)
		if name == "many keys" { // it is filled up to the bound
			filled := object("", str(strings.Repeat("x", most-len(s)-6)))
			v.Keys, v.Kids = append(filled.Keys, v.Keys...), append(filled.Kids, v.Kids...)
			s, e = Canon(v)
		}
		if len(s) != most || e != api.OK {
			t.Fatalf("%s: %d bytes, %d", name, len(s), e)
		}
		checkIs(t, s, true)
		checkParsed(t, s, v)
		for _, other := range []string{s + " ", " " + s, s[:most-1], s + "x", s[1:], strings.Replace(s, "a", "aa", 1)} {
			if other != s {
				checkIs(t, other, false)
			}
		}
	}
}

// A print may be longer than layer 9 takes: then it is none that Is takes.
func TestPrintsThatAreTooLong(t *testing.T) {
	const most = 1 << 20
	for _, v := range []api.Value{str(strings.Repeat("a", most-1)), str(strings.Repeat("\n", most/2)), object(strings.Repeat("k", most-5), whole("1")), list(slices.Repeat([]api.Value{whole("1")}, most/2)...)} {
		checkAll(t, v)
	}
}

// The longest print of a text has six bytes for each of the text.
func TestLongestPrints(t *testing.T) {
	for _, n := range []int{1, 2, 100, 1 << 18, 1 << 20} {
		s := strings.Repeat("\x01", n)
		want := `"` + strings.Repeat(`\u0001`, n) + `"`
		checkThree(t, str(s), want, want, want, api.OK)
		checkThree(t, object(s, str(s)), "{"+want+":"+want+"}", "{"+want+":"+want+"}", "{\n  "+want+": "+want+"\n}", api.OK)
		checkIs(t, want, len(want) <= 1<<20)
		checkParsed(t, want, str(s))
	}
	// The wide print may be too long, where the print isn't.
	v := inLists(62, list(slices.Repeat([]api.Value{null()}, 10000)...))
	checkAll(t, v)
}

// P10.1 to P10.3: values of all kinds, against the model and the library

func TestAllSmallValues(t *testing.T) {
	level := []api.Value{null(), str(","), list(), object()}
	for range 2 {
		grown := slices.Clone(level)
		for _, a := range level {
			grown = append(grown, list(a), object("\n", a))
			for _, b := range level {
				grown = append(grown, list(a, b), object("a", a, "B", b))
			}
		}
		level = grown
	}
	if len(level) < 3000 {
		t.Fatalf("only %d values", len(level))
	}
	for _, v := range level {
		checkAll(t, v)
	}
}

func TestMadeValues(t *testing.T) {
	canons := map[string]string{}
	for seed := range 6000 {
		v := made(seed)
		checkAll(t, v)
		canon, _ := Canon(v)
		for more := range 3 {
			one := shuffled(seed+more, v)
			if got, e := Canon(one); got != canon || e != api.OK {
				t.Errorf("Canon of %.300s: %s, %d, but %s of another order", told(one), some(got), e, some(canon))
			}
		}
		// Of two values that differ in more than the order of keys the canons differ.
		if other, ok := canons[canon]; ok && other != told(sorted(v)) {
			t.Errorf("%s is the canon of %.300s, and of %.300s", some(canon), other, told(sorted(v)))
		}
		canons[canon] = told(sorted(v))
	}
}
