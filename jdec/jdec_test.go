package jdec

import (
	"fmt"
	"strings"
	"testing"

	"tabularium/api"
	"tabularium/quote"
	"tabularium/tree"
)

// Values in short.

func null() api.Value { return api.Value{Kind: api.Null} }

func truth(is bool) api.Value { return api.Value{Kind: api.Bool, Is: is} }

func number(n api.Number) api.Value { return api.Value{Kind: api.Num, Num: n} }

// whole is a number of one digit that isn't 0.
func whole(digit string) api.Value { return number(power(false, digit, 0)) }

func str(s string) api.Value { return api.Value{Kind: api.Str, Str: s} }

func list(kids ...api.Value) api.Value { return api.Value{Kind: api.List, Kids: kids} }

// object is made of keys, each with its value behind it.
func object(fields ...any) api.Value {
	v := api.Value{Kind: api.Object}
	for i := 0; i < len(fields); i += 2 {
		v.Keys = append(v.Keys, fields[i].(string))
		v.Kids = append(v.Kids, fields[i+1].(api.Value))
	}
	return v
}

// nest is a way of laying values into others: what stands ahead of the inner one and behind it at each level, and the value.
type nest struct {
	ahead, behind func(level int) string
	within        func(level int, v api.Value) api.Value
}

var lists = nest{
	func(int) string { return "[" },
	func(int) string { return "]" },
	func(_ int, v api.Value) api.Value { return list(v) },
}

var objects = nest{
	func(int) string { return `{"in":` },
	func(int) string { return "}" },
	func(_ int, v api.Value) api.Value { return object("in", v) },
}

// both has other values beside the inner one, but for the innermost levels, where these would be too deep themselves.
var both = nest{
	func(level int) string {
		if level > 40 {
			return []string{"[ ", `{"in":`, " ["}[level%3]
		}
		return []string{"[1, ", `{"a":[{}],"in" : `, "[[],"}[level%3]
	},
	func(level int) string {
		if level > 40 {
			return []string{" ]", "}", "]"}[level%3]
		}
		return []string{" ]", `,"z":"]"}`, ",{}]"}[level%3]
	},
	func(level int, v api.Value) api.Value {
		switch {
		case level%3 == 1 && level > 40:
			return object("in", v)
		case level > 40:
			return list(v)
		case level%3 == 1:
			return object("a", list(object()), "in", v, "z", str("]"))
		case level%3 == 0:
			return list(whole("1"), v)
		}
		return list(list(), v, object())
	},
}

// nests are all of them, the mixed one in such orders that each kind is the innermost.
var nests = map[string]nest{"lists": lists, "objects": objects, "both": both, "both, one on": both.on(1), "both, two on": both.on(2)}

// on is the nest that begins some levels later.
func (n nest) on(by int) nest {
	return nest{
		func(level int) string { return n.ahead(level + by) },
		func(level int) string { return n.behind(level + by) },
		func(level int, v api.Value) api.Value { return n.within(level+by, v) },
	}
}

// around is the text that stands ahead of, and that behind, the inner value of so many levels.
func (n nest) around(levels int) (string, string) {
	ahead, behind := "", ""
	for level := range levels {
		ahead += n.ahead(level)
		behind = n.behind(level) + behind
	}
	return ahead, behind
}

// value is v within so many levels.
func (n nest) value(levels int, v api.Value) api.Value {
	for level := levels - 1; level >= 0; level-- {
		v = n.within(level, v)
	}
	return v
}

// P9.1: what is a text of JSON

func TestWords(t *testing.T) {
	checkRight(t, "null", null())
	checkRight(t, "true", truth(true))
	checkRight(t, "false", truth(false))
	for _, s := range []string{"Null", "NULL", "True", "False", "none", "nil", "yes", "no", "undefined", "NaN", "Infinity"} {
		v, at, e := Parse(s)
		if v.Kind != 0 || e != api.ErrForm || at > 1 {
			t.Errorf("Parse(%q): %v, %d, %d", s, v, at, e)
		}
	}
}

func TestNumbers(t *testing.T) {
	for _, f := range figures {
		checkRight(t, f.text, number(f.n))
		checkRight(t, " "+f.text+"\n", number(f.n))
		checkRight(t, "["+f.text+"]", list(number(f.n)))
		checkRight(t, "["+f.text+","+f.text+" , "+f.text+" ]", list(number(f.n), number(f.n), number(f.n)))
		checkRight(t, `{"a":`+f.text+`}`, object("a", number(f.n)))
	}
	digits := strings.Repeat("7", 1000)
	checkRight(t, digits, number(power(false, digits, 0)))
	checkRight(t, "[-"+digits+"e9000]", list(number(power(true, digits, 9000))))
	checkRight(t, "0."+strings.Repeat("0", 9999)+"1", number(power(false, "1", -10000)))
	checkRight(t, "1"+strings.Repeat("0", 10000), number(power(false, "1", 10000)))
}

func TestQuotedTexts(t *testing.T) {
	checkRight(t, `""`, str(""))
	for _, p := range parts {
		checkRight(t, `"`+p.text+`"`, str(p.means))
		checkRight(t, ` ["`+p.text+`", "`+p.text+p.text+`"]`, list(str(p.means), str(p.means+p.means)))
		checkRight(t, `{"`+p.text+`":"`+p.text+`"}`, object(p.means, str(p.means)))
	}
	for c := rune(0x20); c < 0x3000; c++ {
		if c != '"' && c != '\\' {
			checkRight(t, `["`+string(c)+`"]`, list(str(string(c))))
		}
	}
	for n := range 0xD800 {
		checkRight(t, fmt.Sprintf(`{"\u%04x":"\u%04X"}`, n, n), object(string(rune(n)), str(string(rune(n)))))
	}
}

func TestListsAndObjects(t *testing.T) {
	one, two := whole("1"), whole("2")
	for _, c := range []struct {
		s    string
		want api.Value
	}{
		{"[]", list()},
		{"{}", object()},
		{"[[]]", list(list())},
		{"[{}]", list(object())},
		{`{"":{}}`, object("", object())},
		{`{"":[]}`, object("", list())},
		{"[1]", list(one)},
		{"[1,2]", list(one, two)},
		{"[null,true,false,0,\"\",[],{}]", list(null(), truth(true), truth(false), number(api.Number{}), str(""), list(), object())},
		{"[[1],[2,[1]],[]]", list(list(one), list(two, list(one)), list())},
		{`{"a":1}`, object("a", one)},
		{`{"a":[1,2]}`, object("a", list(one, two))},
		{`{"b":1,"a":2}`, object("b", one, "a", two)},
		{`{"a":{"a":{"a":1}}}`, object("a", object("a", object("a", one)))},
		{`{"a":{"b":1},"b":{"a":2},"c":[{"a":1},{"a":2}]}`, object("a", object("b", one), "b", object("a", two), "c", list(object("a", one), object("a", two)))},
		{`{"":1," ":2}`, object("", one, " ", two)},
		{`{"a":1,"":2}`, object("a", one, "", two)},
		{`{"a":1,"ab":2,"abc":1}`, object("a", one, "ab", two, "abc", one)},
		{`{"abc":1,"ab":2,"a":1,"":2}`, object("abc", one, "ab", two, "a", one, "", two)},
		{`{"a":1,"A":2,"\u0061\u0000":1}`, object("a", one, "A", two, "a\x00", one)},
		{`{"e\u0301":1,"\u00e9":2}`, object("e\u0301", one, "\u00e9", two)},
		{`{"c":1,"a":2,"b":1,"0":2,"10":1,"9":2}`, object("c", one, "a", two, "b", one, "0", two, "10", one, "9", two)},
		{`{"]":"[","}":"{",":":","}`, object("]", str("["), "}", str("{"), ":", str(","))},
		{`{"a":null,"b":true,"c":false}`, object("a", null(), "b", truth(true), "c", truth(false))},
	} {
		checkRight(t, c.s, c.want)
		checkLibrary(t, c.s)
	}
}

// gapped is a text of JSON with a ~ at each place where blanks may be.
const gapped = `~{~"a"~:~[~1~,~-2.50~,~true~,~null~]~,~"b c"~:~{~}~,~""~:~[~]~,~"d"~:~"~ \""~,~"e"~:~{~"a"~:~false~}~}~`

// filled is gapped with the nth gap filled.
func filled(n int, with string) (string, int) {
	pieces := strings.Split(strings.ReplaceAll(gapped, `"~ `, `"! `), "~")
	at := len(strings.Join(pieces[:n+1], ""))
	return strings.Join(pieces[:n+1], "") + with + strings.Join(pieces[n+1:], ""), at
}

var gaps = strings.Count(gapped, "~") - 1 // one of them stands in a quoted text

func ungapped() api.Value {
	return object("a", list(whole("1"), number(power(true, "25", -1)), truth(true), null()), "b c", object(), "", list(), "d", str(`! "`), "e", object("a", truth(false)))
}

func TestBlanks(t *testing.T) {
	for n := range gaps {
		for _, blanks := range []string{"", " ", "\t", "\n", "\r", "\r\n", "  ", " \t\n\r", strings.Repeat(" \t", 100)} {
			s, _ := filled(n, blanks)
			checkRight(t, s, ungapped())
		}
	}
	for _, blanks := range []string{"", " ", "\t", "\n", "\r", "\r\n ", "\n\n\n"} {
		s := strings.ReplaceAll(strings.ReplaceAll(gapped, `"~ `, `"! `), "~", blanks)
		checkRight(t, s, ungapped())
		checkLibrary(t, s)
	}
	for _, s := range []string{"[]", "[ ]", "[\n]", "[\t\r ]", " [] ", "\n[\n]\n"} {
		checkRight(t, s, list())
		checkRight(t, strings.NewReplacer("[", "{", "]", "}").Replace(s), object())
	}
	checkRight(t, " \t\n\rnull\r\n\t ", null())
	checkRight(t, "\t7\t", whole("7"))
}

// What looks like a blank, but isn't one of the four, may stand nowhere.
func TestNoBlanks(t *testing.T) {
	for _, no := range []string{"\x00", "\x08", "\x0b", "\x0c", "\x1c", "\x1f", "\x7f", "\u0085", "\u00a0", "\u2003", "\u2028", "\ufeff", "/**/", "//", "#"} {
		for n := range gaps {
			s, at := filled(n, no)
			want := api.ErrForm
			if n == gaps-1 {
				want = api.ErrRest
			}
			checkWrong(t, s, at, want)
		}
	}
}

func TestEmpty(t *testing.T) {
	checkWrong(t, "", 0, api.ErrShort)
	for _, s := range []string{" ", "\t", "\n", "\r", " \n", strings.Repeat("\r\n", 1000)} {
		checkWrong(t, s, len(s), api.ErrShort)
	}
}

// P9.1: where it can't go on

// A value's first byte alone decides what is read.
func TestEachFirstByte(t *testing.T) {
	for c := range 256 {
		s := string([]byte{byte(c)})
		for ahead, errors := range map[string]api.Errno{"": api.ErrForm, " ": api.ErrForm, "[": api.ErrForm, "[1, ": api.ErrForm, `{"a": `: api.ErrForm} {
			switch {
			case strings.Contains("\t\n\r ", s), strings.Contains("[{ntf", s):
				checkWrong(t, ahead+s, len(ahead)+1, api.ErrShort)
			case s == "]" && ahead == "[":
				checkRight(t, ahead+s, list())
			case strings.Contains(`-"`, s):
				checkWrong(t, ahead+s, len(ahead), api.ErrShort)
			case strings.Contains("0123456789", s) && len(ahead) > 1:
				checkWrong(t, ahead+s, len(ahead)+1, api.ErrShort)
			case strings.Contains("0123456789", s):
				checkModel(t, ahead+s)
			default:
				checkWrong(t, ahead+s, len(ahead), errors)
			}
		}
	}
}

// Each byte behind a value that is whole.
func TestEachByteBehind(t *testing.T) {
	for c := range 256 {
		s := string([]byte{byte(c)})
		for _, one := range []string{"null", "true", "false", `"a"`, "[]", "{}", "[1]", `{"a":1}`} {
			blank := strings.Contains("\t\n\r ", s)
			v, _, _ := Parse(one)
			for _, between := range []string{"", " ", "\n\t"} {
				ahead := one + between
				if blank {
					checkRight(t, ahead+s, v)
				} else {
					checkWrong(t, ahead+s, len(ahead), api.ErrRest)
				}
				switch {
				case s == "]":
					checkRight(t, "["+ahead+s, list(v))
				case blank || s == ",":
					checkWrong(t, "["+ahead+s, len(ahead)+2, api.ErrShort)
				default:
					checkWrong(t, "["+ahead+s, len(ahead)+1, api.ErrForm)
				}
				switch {
				case s == "}":
					checkRight(t, `{"k":`+ahead+s, object("k", v))
				case blank || s == ",":
					checkWrong(t, `{"k":`+ahead+s, len(ahead)+6, api.ErrShort)
				default:
					checkWrong(t, `{"k":`+ahead+s, len(ahead)+5, api.ErrForm)
				}
			}
		}
	}
}

// Each byte ahead of a key, behind it, and behind the colon.
func TestEachByteOfAField(t *testing.T) {
	for c := range 256 {
		s := string([]byte{byte(c)})
		blank := strings.Contains("\t\n\r ", s)
		for _, ahead := range []string{"{", "{ ", `{"a":1,`, `{"a":1, `} {
			switch {
			case blank:
				checkWrong(t, ahead+s, len(ahead)+1, api.ErrShort)
			case s == `"`:
				checkWrong(t, ahead+s, len(ahead), api.ErrShort)
			case s == "}" && !strings.Contains(ahead, ","):
				checkRight(t, ahead+s, object())
			default:
				checkWrong(t, ahead+s, len(ahead), api.ErrForm)
			}
		}
		for _, ahead := range []string{`{"a"`, `{"a" `, `{"a":1,"b"`} {
			if blank || s == ":" {
				checkWrong(t, ahead+s, len(ahead)+1, api.ErrShort)
			} else {
				checkWrong(t, ahead+s, len(ahead), api.ErrForm)
			}
		}
	}
}

func TestWordsCutAndBroken(t *testing.T) {
	for _, ahead := range []string{"", " ", "[", "[1,", `{"a":`, `{"a":[null, `} {
		for _, word := range []string{"null", "true", "false"} {
			for n := 1; n < len(word); n++ {
				checkWrong(t, ahead+word[:n], len(ahead)+n, api.ErrShort)
				for c := range 256 {
					if byte(c) != word[n] {
						checkWrong(t, ahead+word[:n]+string([]byte{byte(c)}), len(ahead)+n, api.ErrForm)
						checkWrong(t, ahead+word[:n]+string([]byte{byte(c)})+word[n+1:], len(ahead)+n, api.ErrForm)
					}
				}
			}
		}
	}
	checkWrong(t, "nullnull", 4, api.ErrRest)
	checkWrong(t, "truefalse", 4, api.ErrRest)
	checkWrong(t, "[falsey]", 6, api.ErrForm)
}

func TestNumbersThatAreNone(t *testing.T) {
	for _, ahead := range []string{"", "\n", "[", `{"a":`, "[[],"} {
		at := len(ahead)
		checkWrong(t, ahead+"-", at, api.ErrShort)
		for c := range 256 {
			if c < '0' || c > '9' {
				checkWrong(t, ahead+"-"+string([]byte{byte(c)}), at, api.ErrForm)
				checkWrong(t, ahead+"-"+string([]byte{byte(c)})+"1]}", at, api.ErrForm)
			}
		}
		for _, s := range []string{"+1", ".5", "e5", "E5", "I", "x1"} {
			checkWrong(t, ahead+s, at, api.ErrForm)
		}
	}
}

// A number goes as far as layer 6's Scan tells; what is behind it may stand there or not.
func TestNumbersWithARest(t *testing.T) {
	for _, c := range []struct {
		s    string
		size int
	}{
		{"01", 1}, {"00", 1}, {"-01", 2}, {"-00.5", 2}, {"0000000", 1}, {"1.", 1}, {"1.e5", 1}, {"1..5", 1}, {"0.", 1}, {"-1.x", 2}, {"1e", 1}, {"1E+", 1}, {"1e-x", 1}, {"12.50e", 5}, {"1.5.5", 3},
		{"1e5.5", 3}, {"1e5e5", 3}, {"1-", 1}, {"1+1", 1}, {"1_000", 1}, {"0x10", 1}, {"1a", 1}, {"12\x00", 2}, {"1\xff", 1},
	} {
		checkWrong(t, c.s, c.size, api.ErrRest)
		checkWrong(t, " "+c.s, c.size+1, api.ErrRest)
		checkWrong(t, "["+c.s, c.size+1, api.ErrForm)
		checkWrong(t, "["+c.s+"]", c.size+1, api.ErrForm)
		checkWrong(t, `{"a":`+c.s+"}", c.size+5, api.ErrForm)
	}
	checkWrong(t, "1 2", 2, api.ErrRest)
	checkWrong(t, "[1 2]", 3, api.ErrForm)
	checkWrong(t, `{"a":1 2}`, 7, api.ErrForm)
}

func TestNumbersThatAreTooGreat(t *testing.T) {
	for _, s := range []string{
		"1e10001", "-1e10001", "1e-10001", "10e10000", "0.1e-10000", "1E99999999999999999999", "1e-99999999999999999999", "-5e+010001",
		strings.Repeat("7", 1001), "-0." + strings.Repeat("7", 1001), "1" + strings.Repeat("0", 10001), "1" + strings.Repeat("0", 999) + "1",
	} {
		for _, behind := range []string{"", " ", "]", ",", "x", ".", "e", "\xff"} {
			checkWrong(t, s+behind, 0, api.ErrBig)
			checkWrong(t, " \n"+s+behind, 2, api.ErrBig)
			checkWrong(t, "["+s+behind, 1, api.ErrBig)
			checkWrong(t, `[1, {"a" : `+s+behind, 11, api.ErrBig)
		}
	}
}

// noTexts begin with 22, and with no quoted text.
var noTexts = []struct {
	s    string
	want api.Errno
}{
	{`"`, api.ErrShort}, {`"a`, api.ErrShort}, {`"\`, api.ErrShort}, {`"\"`, api.ErrShort}, {`"\\\"`, api.ErrShort}, {`"\u`, api.ErrShort}, {`"\u00e`, api.ErrShort}, {`"\ud83d`, api.ErrShort}, {`"\ud83d\`, api.ErrShort}, {`"\ud83d\u`, api.ErrShort}, {`"\ud83d\ude0`, api.ErrShort},
	{`"\x"`, api.ErrForm}, {`"\'"`, api.ErrForm}, {`"\0"`, api.ErrForm}, {`"\U0041"`, api.ErrForm}, {`"\ug"`, api.ErrForm}, {`"\u004"`, api.ErrForm}, {`"\udc00"`, api.ErrForm}, {`"\ud83d"`, api.ErrForm}, {`"\ud83dx"`, api.ErrForm}, {`"\ud83d\n"`, api.ErrForm}, {`"\ud83d\u0041"`, api.ErrForm},
	{"\"\n\"", api.ErrForm}, {"\"a\tb\"", api.ErrForm}, {"\"\x00\"", api.ErrForm}, {"\"\x1f\"", api.ErrForm},
	{"\"\xff\"", api.ErrText}, {"\"a\x80\"", api.ErrText}, {"\"\xc3\"", api.ErrText}, {"\"\xe2\x82\"", api.ErrText}, {"\"\xed\xa0\x80\"", api.ErrText}, {"\"\xc0\x80\"", api.ErrText}, {"\"\xe2\x82", api.ErrText},
}

func TestTextsThatAreNone(t *testing.T) {
	for _, c := range noTexts {
		if _, _, e := quote.Scan(c.s); e != c.want {
			t.Fatalf("%q is told %d", c.s, e)
		}
		for _, ahead := range []string{"", " ", "[", "[ ", `["a",`, `{"a":`, "{", "{ ", `{"a":1,`, `{"a":[], `, `[[{"a":{`} {
			checkWrong(t, ahead+c.s, len(ahead), c.want)
			if c.want != api.ErrShort {
				checkWrong(t, ahead+c.s+`:1}]`, len(ahead), c.want)
				checkWrong(t, ahead+c.s+"\xff\"", len(ahead), c.want)
			}
		}
	}
}

func TestSignsThatAreWrong(t *testing.T) {
	for _, c := range []struct {
		s  string
		at int
		e  api.Errno
	}{
		// commas
		{"[,]", 1, api.ErrForm}, {"[,1]", 1, api.ErrForm}, {"[1,]", 3, api.ErrForm}, {"[1, ]", 4, api.ErrForm}, {"[1,,2]", 3, api.ErrForm}, {"[1,2,]", 5, api.ErrForm}, {"[[],]", 4, api.ErrForm},
		{"{,}", 1, api.ErrForm}, {`{,"a":1}`, 1, api.ErrForm}, {`{"a":1,}`, 7, api.ErrForm}, {`{"a":1 , }`, 9, api.ErrForm}, {`{"a":1,,"b":2}`, 7, api.ErrForm}, {`{"a":1,"b":2,}`, 13, api.ErrForm},
		{"[1 2]", 3, api.ErrForm}, {"[[][]]", 3, api.ErrForm}, {"[{}{}]", 3, api.ErrForm}, {`["a""b"]`, 4, api.ErrForm}, {"[true false]", 6, api.ErrForm}, {"[1;2]", 2, api.ErrForm},
		{`{"a":1 "b":2}`, 7, api.ErrForm}, {`{"a":1"b":2}`, 6, api.ErrForm}, {`{"a":{}"b":2}`, 7, api.ErrForm},
		// colons
		{`{"a"}`, 4, api.ErrForm}, {`{"a" }`, 5, api.ErrForm}, {`{"a","b"}`, 4, api.ErrForm}, {`{"a"1}`, 4, api.ErrForm}, {`{"a" 1}`, 5, api.ErrForm}, {`{"a"=1}`, 4, api.ErrForm}, {`{"a"::1}`, 5, api.ErrForm}, {`{"a":}`, 5, api.ErrForm}, {`{"a": }`, 6, api.ErrForm},
		{`{"a":,"b":1}`, 5, api.ErrForm}, {`{"a":1:2}`, 6, api.ErrForm}, {`{"a":"b":1}`, 8, api.ErrForm}, {`{:1}`, 1, api.ErrForm}, {"[1:2]", 2, api.ErrForm}, {`["a":1]`, 4, api.ErrForm}, {"[:]", 1, api.ErrForm},
		// keys
		{"{1:2}", 1, api.ErrForm}, {"{a:1}", 1, api.ErrForm}, {"{null:1}", 1, api.ErrForm}, {"{'a':1}", 1, api.ErrForm}, {"{[]:1}", 1, api.ErrForm}, {"{{}:1}", 1, api.ErrForm}, {`{"a":1,b:2}`, 7, api.ErrForm}, {`{"a":1, 2}`, 8, api.ErrForm}, {"{-", 1, api.ErrForm}, {"{n", 1, api.ErrForm},
		// brackets
		{"[1}", 2, api.ErrForm}, {"[}", 1, api.ErrForm}, {"[[]}", 3, api.ErrForm}, {"[1,}", 3, api.ErrForm}, {"{]", 1, api.ErrForm}, {`{"a":1]`, 6, api.ErrForm}, {`{"a":]`, 5, api.ErrForm}, {`{"a"]`, 4, api.ErrForm}, {`{"a":1,]`, 7, api.ErrForm}, {`[{"a":1]}`, 7, api.ErrForm}, {`{"a":[1}]`, 7, api.ErrForm},
		{"]", 0, api.ErrForm}, {"}", 0, api.ErrForm}, {" ]", 1, api.ErrForm}, {",", 0, api.ErrForm}, {":", 0, api.ErrForm}, {"(1)", 0, api.ErrForm},
		// what is behind
		{"1 2", 2, api.ErrRest}, {"null null", 5, api.ErrRest}, {"[]]", 2, api.ErrRest}, {"[] ]", 3, api.ErrRest}, {"{}}", 2, api.ErrRest}, {"[][]", 2, api.ErrRest}, {"{},", 2, api.ErrRest}, {`"a"b`, 3, api.ErrRest}, {`"a""`, 3, api.ErrRest}, {`"a":1`, 3, api.ErrRest}, {"1,2", 1, api.ErrRest}, {"[1]\x00", 3, api.ErrRest}, {"1\n\n\xff", 3, api.ErrRest}, {"1 -", 2, api.ErrRest}, {"1 nul", 2, api.ErrRest}, {"null/", 4, api.ErrRest}, {"1 // one", 2, api.ErrRest},
	} {
		checkWrong(t, c.s, c.at, c.e)
		checkModel(t, c.s)
		checkLibrary(t, c.s)
	}
}

// samples are texts of JSON that hold everything.
func samples() []string {
	whole, _ := filled(0, "")
	return []string{
		whole, strings.ReplaceAll(strings.ReplaceAll(gapped, `"~ `, `"! `), "~", " "),
		` {"b" : [ 1 , -2.50 , true,false,null ] ,"a":{} , "c":[ ],"d":"\n"}` + "\n",
		`[null,true,false,0,-0,10,-1.50E+05,0.0e-1,"","a","\"\\\/\b\f\n\r\t","\u00e9\ud83d\ude00",[],{}]`,
		`{"":"","a":{"a":{"a":[]}},"ab":[{"a":0},{"a":0}],"\u0061b\n":1}`,
		"[[[[]]],{},{\"\u20ac\":\"\U0001F600\"}, [ { \"a\" : [ ] } ] ]",
		"-12.75e-3", `"a\u0041b"`, " true ", "\tnull\n",
	}
}

// What a text of JSON begins with ends too soon, but where a number is cut, or a scalar's bytes are.
func TestCutShort(t *testing.T) {
	for _, s := range samples() {
		s = strings.TrimRight(s, " \n")
		for n := range len(s) {
			checkModel(t, s[:n])
			checkLibrary(t, s[:n])
			numberIsCut := s[len(s)-1] == '3' || n > 0 && strings.ContainsAny(s[n-1:n], ".eE+-")
			if _, _, e := Parse(s[:n]); !numberIsCut && e != api.ErrShort && e != api.ErrText {
				t.Errorf("Parse(%q): %d, not short", s[:n], e)
			}
		}
	}
	for _, c := range []struct {
		s  string
		at int
	}{
		{"[", 1}, {"[ ", 2}, {"[1", 2}, {"[1 ", 3}, {"[1,", 3}, {"[1, ", 4}, {"[1,2", 4}, {"[[", 2}, {"[[]", 3}, {"[nul", 4}, {`["a`, 1}, {`["a"`, 4}, {"[-", 1}, {"[1,-", 3}, {"[1.5", 4},
		{"{", 1}, {"{ ", 2}, {`{"`, 1}, {`{"a`, 1}, {`{"a"`, 4}, {`{"a" `, 5}, {`{"a":`, 5}, {`{"a": `, 6}, {`{"a":1`, 6}, {`{"a":1 `, 7}, {`{"a":1,`, 7}, {`{"a":1, `, 8}, {`{"a":1,"b`, 7}, {`{"a":1,"b"`, 10}, {`{"a":-`, 5}, {`{"a":fals`, 9}, {`{"a":{`, 6}, {`{"a":{}`, 7}, {`{"a":"`, 5},
	} {
		checkWrong(t, c.s, c.at, api.ErrShort)
	}
}

// Each byte of a text taken away, put otherwise, or another one put ahead of it.
func TestEachByteChanged(t *testing.T) {
	bytes := "\x00\t\n\x0b\r \"+,-./019:AEUZ[\\]aefnu{|}~\x7f\x80\xbf\xc3\xe2\xf0\xff"
	for _, s := range samples() {
		for at := range len(s) {
			checkModel(t, s[:at]+s[at+1:])
			checkLibrary(t, s[:at]+s[at+1:])
			for i := range len(bytes) {
				for _, one := range []string{s[:at] + bytes[i:i+1] + s[at:], s[:at] + bytes[i:i+1] + s[at+1:]} {
					checkModel(t, one)
					checkLibrary(t, one)
				}
			}
		}
	}
}

// P9.1: how deep

func TestBracketsThatMayBe(t *testing.T) {
	for _, n := range nests {
		for _, levels := range []int{1, 2, 10, 62, 63} {
			ahead, behind := n.around(levels)
			for s, v := range map[string]api.Value{"1": whole("1"), "-2.50": number(power(true, "25", -1)), `"a"`: str("a"), "null": null(), "true": truth(true), "false": truth(false), "[]": list(), "{ }": object()} {
				checkRight(t, ahead+s+behind, n.value(levels, v))
				checkModel(t, ahead+s+behind)
			}
		}
	}
	checkRight(t, strings.Repeat("[", 64)+strings.Repeat("]", 64), lists.value(63, list()))
	checkRight(t, strings.Repeat("[", 64)+" "+strings.Repeat("]\n", 64), lists.value(63, list()))
}

// All that stands side by side is as deep as it is, however much it is.
func TestBracketsSideBySide(t *testing.T) {
	ahead, behind := lists.around(62)
	one := ahead + "[{},[],{}]" + behind
	two, _ := objects.around(62)
	two += "[1,2]" + strings.Repeat("}", 62)
	many := "[" + strings.Repeat(one[1:len(one)-1]+","+two[len(`{"in":`):len(two)-1]+",", 20) + one[1:len(one)-1] + "]"
	v, at, e := Parse(many)
	if at != -1 || e != api.OK || len(v.Kids) != 41 || !tree.Right(v) {
		t.Errorf("%d, %d, %d", at, e, len(v.Kids))
	}
	checkModel(t, many)
}

func TestTooDeep(t *testing.T) {
	for _, n := range nests {
		ahead, behind := n.around(64)
		at := len(ahead)
		for _, s := range []string{
			"[", "{", "[]", "{}", "[[[[", "[x", "{x", "[1]", `{"a":1}`, "1", "0", "-1", "1.5e3", `"a"`, `""`, "null", "true", "false",
			"-", "-x", "--1", "01", "1.", "1e", "1e10001", strings.Repeat("7", 1001), `"`, `"a`, `"\x"`, "\"\n\"", "\"\xff\"", `"\ud83d"`, "n", "nul", "nulx", "nx", "t", "tru", "trux", "f", "fals", "falsy", "nullx",
		} {
			checkWrong(t, ahead+s, at, api.ErrDeep)
			checkWrong(t, ahead+" "+s, at+1, api.ErrDeep)
			checkWrong(t, ahead+s+behind, at, api.ErrDeep)
			checkModel(t, ahead+s+behind)
		}
		for c := range 256 {
			s := string([]byte{byte(c)})
			if !strings.Contains(begins+"\t\n\r ]", s) {
				checkWrong(t, ahead+s, at, api.ErrForm)
				checkWrong(t, ahead+s+"1", at, api.ErrForm)
			}
		}
		checkWrong(t, ahead, at, api.ErrShort)
		checkWrong(t, ahead+"\n ", at+2, api.ErrShort)
		checkModel(t, ahead+"]")
		checkModel(t, ahead+"}")
		ahead, _ = n.around(63)
		checkWrong(t, ahead, len(ahead), api.ErrShort)
		checkWrong(t, ahead+"-", len(ahead), api.ErrShort)
		checkWrong(t, ahead+"nul", len(ahead)+3, api.ErrShort)
		checkWrong(t, ahead+"1e10001", len(ahead), api.ErrBig)
		checkWrong(t, ahead+`"\x"`, len(ahead), api.ErrForm)
		checkWrong(t, ahead+"[x", len(ahead)+1, api.ErrForm)
		checkWrong(t, ahead+"{1", len(ahead)+1, api.ErrForm)
		checkWrong(t, ahead+`{"a":1`, len(ahead)+5, api.ErrDeep)
		checkWrong(t, ahead+"[[", len(ahead)+1, api.ErrDeep)
		checkWrong(t, ahead+"[1", len(ahead)+1, api.ErrDeep)
	}
	for _, many := range []int{65, 66, 100, 1000, 1 << 20} {
		checkWrong(t, strings.Repeat("[", many), 64, api.ErrDeep)
		checkWrong(t, strings.Repeat(" [", min(many, 1<<19)), 129, api.ErrDeep)
	}
	checkWrong(t, strings.Repeat(`{"a":`, 200000), 320, api.ErrDeep)
}

// A key is no value: it may stand in the 64th bracket, and what is wrong of it is told.
func TestKeysInTheDeepest(t *testing.T) {
	ahead, _ := lists.around(63)
	at := len(ahead) + 1
	for _, c := range noTexts {
		checkWrong(t, ahead+"{"+c.s, at, c.want)
	}
	checkWrong(t, ahead+`{"a"`, at+3, api.ErrShort)
	checkWrong(t, ahead+`{"a"x`, at+3, api.ErrForm)
	checkWrong(t, ahead+`{"a":`, at+4, api.ErrShort)
	checkWrong(t, ahead+`{"a":x`, at+4, api.ErrForm)
	checkWrong(t, ahead+`{"a":]`, at+4, api.ErrForm)
	checkWrong(t, ahead+`{"a": {}`, at+5, api.ErrDeep)
	checkWrong(t, ahead+`{"a":-`, at+4, api.ErrDeep)
}

// P9.1: keys

func TestTwice(t *testing.T) {
	for _, c := range []struct {
		s  string
		at int
	}{
		{`{"a":1,"a":2}`, 7}, {`{"a":1,"a":1}`, 7}, {`{"a":1 , "a":1}`, 9}, {`{"":1,"":1}`, 6}, {`{"a":1,"b":2,"a":3}`, 13}, {`{"a":1,"b":2,"b":3}`, 13}, {`{"a":1,"a":2,"a":3}`, 7},
		{`{"a":1,"\u0061":2}`, 7}, {`{"\u0061":1,"a":2}`, 12}, {`{"/":1,"\/":2}`, 7}, {`{"/":1,"\u002f":2}`, 7}, {`{"\n":1,"\u000A":2}`, 8}, {`{"\\":1,"\u005c":2}`, 8}, {`{"\"":1,"\u0022":2}`, 8},
		{`{"\u00e9":1,"\u00E9":2}`, 12}, {"{\"\u00e9\":1,\"\\u00e9\":2}", 8}, {"{\"\U0001F600\":1,\"\\ud83d\\uDE00\":2}", 10}, {`{"ab":1,"a\u0062":2}`, 8},
		{`[{"a":1},{"a":1,"a":2}]`, 16}, {`{"a":{"a":1,"a":2}}`, 12}, {`{"a":{"b":1},"a":2}`, 13}, {`{"a":[{"a":1}],"a":2}`, 15}, {`{"b":{"a":1},"a":2,"b":3}`, 19},
		{`{"a":null,"a"`, 10}, {`{"a":1,"a"x`, 7}, {`{"a":1,"a":x`, 7}, {`{"a":1,"a":1e10001}`, 7}, {`{"a":1,"a" 1}`, 7}, {`{"a":1,"a"}`, 7}, {"{\"a\":1,\"a\"\xff", 7},
	} {
		checkWrong(t, c.s, c.at, api.ErrTwice)
		checkModel(t, c.s)
	}
	// A key that isn't whole isn't there yet.
	checkWrong(t, `{"a":1,"a`, 7, api.ErrShort)
	checkWrong(t, `{"a":1,"a\x":1}`, 7, api.ErrForm)
	checkWrong(t, "{\"a\":1,\"a\xff\":1}", 7, api.ErrText)
}

func TestTwiceFarApart(t *testing.T) {
	keys := func(n int) (string, api.Value) {
		var s strings.Builder
		v := object()
		for i := range n {
			fmt.Fprintf(&s, `,"k%d":%d`, i, i%9+1)
			v.Keys, v.Kids = append(v.Keys, fmt.Sprint("k", i)), append(v.Kids, whole(fmt.Sprint(i%9+1)))
		}
		return "{" + s.String()[1:], v
	}
	for _, n := range []int{1, 2, 3, 10, 100, 1000, 20000} {
		s, v := keys(n)
		checkRight(t, s+"}", v)
		for _, again := range []int{0, n / 2, n - 1} {
			checkWrong(t, fmt.Sprintf(`%s,"k%d":1}`, s, again), len(s)+1, api.ErrTwice)
			checkWrong(t, fmt.Sprintf(`%s, "k%d":1,"k0":2}`, s, again), len(s)+2, api.ErrTwice)
		}
		checkRight(t, fmt.Sprintf(`[%s},%s,"k%d":1}]`, s, s, n), list(v, object(append(fields(v), fmt.Sprint("k", n), whole("1"))...)))
	}
}

// fields are an object's keys, each with its value behind it.
func fields(v api.Value) []any {
	var l []any
	for i, key := range v.Keys {
		l = append(l, key, v.Kids[i])
	}
	return l
}

// P9.1: how long

func TestLongTexts(t *testing.T) {
	const most = 1 << 20
	many := strings.Repeat("1,", most/2-1)
	for name, s := range map[string]string{
		"blanks ahead":  strings.Repeat(" ", most-4) + "null",
		"blanks behind": "null" + strings.Repeat("\n", most-4),
		"blanks within": "[" + strings.Repeat(" \t\r\n", most/4-1) + " ]",
		"a text":        `"` + strings.Repeat("a", most-2) + `"`,
		"escapes":       `"` + strings.Repeat(`\n`, most/2-1) + `"`,
		"many numbers":  "[" + many[:len(many)-1] + "]",
		"many lists":    "[" + strings.Repeat("[],", most/3-1) + "[]" + "]",
		"noughts":       "0." + strings.Repeat("0", most-2),
		"a power":       "0e" + strings.Repeat("9", most-2),
		"noughts e":     "1e" + strings.Repeat("0", most-3) + "1",
		"a key":         `{"` + strings.Repeat("k", most-6) + `":1}`,
	} {
		s += strings.Repeat(" ", most-len(s))
		v, at, e := Parse(s)
		if at != -1 || e != api.OK || !tree.Right(v) {
			t.Errorf("%s: %d, %d", name, at, e)
		}
		if one, e := Value(s); e != api.OK || !tree.Same(one, v) {
			t.Errorf("%s, without the place: %d", name, e)
		}
		for _, longer := range []string{s + " ", " " + s, s + "x"} {
			checkWrong(t, longer, 0, api.ErrBig)
		}
	}
	checkWrong(t, strings.Repeat(" ", most), most, api.ErrShort)
	checkWrong(t, strings.Repeat(" ", most-1)+"x", most-1, api.ErrForm)
	checkWrong(t, strings.Repeat(" ", most-1)+"-", most-1, api.ErrShort)
	checkWrong(t, strings.Repeat(" ", most-1)+"[", most, api.ErrShort)
	checkWrong(t, strings.Repeat("7", most), 0, api.ErrBig)
	checkWrong(t, `"`+strings.Repeat("a", most-1), 0, api.ErrShort)
	for _, s := range []string{strings.Repeat(" ", most+1), strings.Repeat("x", most+1), " x" + strings.Repeat(" ", most), strings.Repeat("[", most+1), strings.Repeat("\xff", most+1), "1 2" + strings.Repeat(" ", 3*most), `{"a":1,"a":2}` + strings.Repeat("\n", most)} {
		checkWrong(t, s, 0, api.ErrBig)
	}
}

// P9.1: which of two errors is told

func TestTheFirstErrorIsTold(t *testing.T) {
	for _, c := range []struct {
		s  string
		at int
		e  api.Errno
	}{
		{"x 1e10001", 0, api.ErrForm}, {"1e10001 x", 0, api.ErrBig}, {"[1e10001,x]", 1, api.ErrBig}, {"[x,1e10001]", 1, api.ErrForm}, {"[1 x", 3, api.ErrForm},
		{`["\x" x`, 1, api.ErrForm}, {"[\"\xff\\x\"", 1, api.ErrText}, {"[\"\\x\xff\"", 1, api.ErrForm}, {"1 \xff", 2, api.ErrRest}, {"\xff", 0, api.ErrForm}, {"[\xff", 1, api.ErrForm},
		{`{"a":1e10001,"a":1}`, 5, api.ErrBig}, {`{"a":1,"a":1e10001}`, 7, api.ErrTwice}, {`{"a":{"b":1,"b":2},"a":1}`, 12, api.ErrTwice}, {`{"a":1]"a":1}`, 6, api.ErrForm},
		{"nul 1e10001", 3, api.ErrForm}, {`{"a":1,"a":2}}`, 7, api.ErrTwice}, {"[]] x", 2, api.ErrRest}, {"-x1e10001", 0, api.ErrForm}, {"-1e10001", 0, api.ErrBig}, {"1e10001-", 0, api.ErrBig},
	} {
		checkWrong(t, c.s, c.at, c.e)
		checkModel(t, c.s)
	}
}

// P9.1 and P9.2: texts of all kinds, against the model

func TestAllShortTexts(t *testing.T) {
	texts([]string{"[", "]", "{", "}", ",", ":", `"a"`, `"`, `\`, "1", "-", "nul", "l", " "}, 5, func(s string) { checkModel(t, s) })
	texts([]string{"[", "]", `{"a":`, "}", ",", `"b":`, "0", "true", "\n"}, 6, func(s string) {
		checkModel(t, s)
		if _, _, e := Parse(s); e == api.OK {
			checkLibrary(t, s)
		}
	})
}

func TestMadeTexts(t *testing.T) {
	for seed := range 20000 {
		s, want := made(seed, 1+seed%8, seed%3 == 0)
		checkRight(t, s, want)
		checkModel(t, s)
		checkLibrary(t, s)
	}
}

func TestMadeTextsThatAreBroken(t *testing.T) {
	signs := "[]{},:\"\\-01e.ntf \x00\xff"
	for seed := range 60000 {
		s, _ := made(seed, 1+seed%8, seed%2 == 0)
		d := dice{uint64(seed)}
		for range 1 + d.below(2) {
			at, sign := d.below(len(s)+1), d.below(len(signs))
			to := min(len(s), at+d.below(4))
			if d.below(3) > 0 {
				to = at
			}
			s = s[:at] + signs[sign:sign+1] + s[to:]
		}
		checkModel(t, s)
		checkLibrary(t, s)
	}
}

// P9.2

func TestDeepest(t *testing.T) {
	for _, c := range []struct {
		s    string
		want int
	}{
		// values
		{"1", 0}, {"null", 0}, {`"a"`, 0}, {"[]", 1}, {"{}", 1}, {"[[]]", 2}, {"[[]{}]", 2}, {`{"a":[1,{"b":[]}]}`, 4}, {"[[],[[]],[]]", 3}, {" [ [ ] ] ", 2}, {`{"[":"{"}`, 1},
		// others
		{"", 0}, {"x", 0}, {"abc[def", 1}, {"[x[y]z[[", 3}, {"[[[", 3}, {"{{{{", 4}, {"[{[{", 4}, {"((((", 0}, {"[,,,]", 1}, {"\xff[\xff[", 2}, {"[\x00[", 2}, {"nul[", 1}, {"1[2[3", 2},
		// one that closes none
		{"]", 0}, {"}", 0}, {"][[[", 0}, {"}[[[", 0}, {"[]][[", 1}, {"[]}{{", 1}, {"[[]]][[[[", 2}, {"{}]{{{", 1}, {"[[[]]]", 3}, {"[][[]]]]][[[[", 2}, {"x]y[", 0},
		// one that closes one of the other kind
		{"[}", 1}, {"{]", 1}, {"[}[[]]", 2}, {"[{]}", 2}, {"[{]}]{{{{", 2}, {"{[}][[[", 3}, {"[}]", 1}, {"[}][[", 1},
		// in a quoted text
		{`"["`, 0}, {`"[[["[`, 1}, {`["]"[`, 2}, {`[["]]]"[`, 3}, {`"]"[`, 1}, {`"}"{[`, 2}, {`["{"{"}"]`, 2}, {`"""[`, 0}, {`""""[`, 1}, {`""[`, 1},
		// behind backslashes
		{`"\"[`, 0}, {`"\"["[`, 1}, {`"\\"[`, 1}, {`"\\"["[`, 1}, {`"\\\"[`, 0}, {`"\\\"["[`, 1}, {`"\\\\"[[`, 2}, {`"\[["`, 0}, {`"\["[`, 1}, {`"a\\\\\"]"[`, 1}, {`{["\\"]`, 2}, {`"\u005c"[`, 1}, {`"\u0022["`, 0}, {`"\n"[[`, 2}, {`"\x"[[`, 2},
		// outside of quoted texts a backslash is nothing
		{`\[`, 1}, {`\"[`, 0}, {`\\"["[`, 1}, {`[\]]`, 1}, {`[\][[`, 2}, {`\`, 0},
		// a quoted text that doesn't end
		{`"`, 0}, {`["`, 1}, {`["[[[[`, 1}, {`"[`, 0}, {`["\`, 1}, {`["\"`, 1}, {`["\\`, 1}, {`["\"[[`, 1}, {`"\\\`, 0}, {"[\"\n[[", 1}, {"[\"\xff\\\xff[\"[", 2},
	} {
		checkDeepest(t, c.s, c.want)
		checkModel(t, c.s)
	}
}

func TestDeepestOfManyBrackets(t *testing.T) {
	for _, n := range nests {
		for _, levels := range []int{1, 63, 64, 65, 1000} {
			ahead, behind := n.around(levels)
			checkDeepest(t, ahead, deepest(ahead))
			if got := Deepest(ahead + behind); got < levels || got > levels+2 {
				t.Errorf("of %d levels: %d", levels, got)
			}
		}
	}
	for _, many := range []int{64, 65, 1 << 20, 1<<20 + 1, 5 << 20} {
		checkDeepest(t, strings.Repeat("[", many), many)
		checkDeepest(t, strings.Repeat("{", many)+strings.Repeat("]", many)+"[", many)
		checkDeepest(t, strings.Repeat("[]", many), 1)
		checkDeepest(t, `"`+strings.Repeat(`\"[`, many), 0)
		checkDeepest(t, `[`+strings.Repeat(`"[{"`, many)+"[", 2)
	}
}

func TestDeepestOfShortTexts(t *testing.T) {
	texts([]string{"[", "]", "{", "}", `"`, `\`, "a"}, 7, func(s string) { checkDeepest(t, s, deepest(s)) })
}

// Of a value its brackets are one fewer than it is deep, but of a list or an object without Kids.
func TestDeepestOfValues(t *testing.T) {
	for seed := range 5000 {
		s, v := made(seed, 1+seed%10, seed%3 == 0)
		checkDeepest(t, s, brackets(v))
	}
}

// brackets is how many lists and objects of v lie in each other at most.
func brackets(v api.Value) int {
	most := 0
	for _, kid := range v.Kids {
		most = max(most, brackets(kid))
	}
	if v.Kind >= api.List {
		most++
	}
	return most
}

func TestValue(t *testing.T) {
	for s, want := range map[string]api.Value{`{"a":[1,2]}`: object("a", list(whole("1"), whole("2"))), " 7 ": whole("7"), "[]": list()} {
		if v, e := Value(s); e != api.OK || !tree.Same(v, want) {
			t.Errorf("Value(%q): %v, %d", s, v, e)
		}
	}
	for s, want := range map[string]api.Errno{"": api.ErrShort, "[1,]": api.ErrForm, "1e10001": api.ErrBig, `{"a":1,"a":2}`: api.ErrTwice, "1 2": api.ErrRest, "\"\xff\"": api.ErrText, strings.Repeat("[", 65): api.ErrDeep, strings.Repeat(" ", 1<<20+1): api.ErrBig} {
		if v, e := Value(s); e != want || !tree.Same(v, api.Value{}) {
			t.Errorf("Value(%.20q): %v, %d", s, v, e)
		}
	}
}

// P9.3

// Whatever bytes are read, what is told is right. (checkParse looks at it in all other tests too.)
func TestWhatIsToldIsRight(t *testing.T) {
	right := 0
	pieces := []string{"[", "]", "{", "}", ",", ":", `"a"`, `"b"`, `"\u0061"`, `"`, "1", "-", "1e10000", "0.", "e5", "00", "null", "true", "fal", "se", " ", "\n", "\xff", "\xc3\xa9", `\`, `"\ud83d\ude00"`, "[1,", `{"a":`, `,"b":2}`}
	for seed := range 300000 {
		d := dice{uint64(seed)}
		s := ""
		for range 1 + d.below(9) {
			s += pieces[d.below(len(pieces))]
		}
		v, at, e := Parse(s)
		switch {
		case e == api.OK && at == -1 && tree.Right(v):
			right++
		case e != api.OK && at >= 0 && at <= len(s) && tree.Same(v, api.Value{}):
		default:
			t.Errorf("Parse(%q): %v, %d, %d", s, v, at, e)
		}
	}
	if right < 3000 {
		t.Errorf("only %d of them were values", right)
	}
}
