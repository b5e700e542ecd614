package quote

import (
	"encoding/json"
	"fmt"
	"regexp"
	"strings"
	"testing"
	"unicode/utf8"
	"unsafe"

	"tabularium/api"
)

// The model: the document's words as patterns. Parts with a backslash stand for what Go's own reader of JSON tells of them.
var (
	escape = regexp.MustCompile(`^\\(?:["\\/bfnrt]|u(?:[0-9a-cA-CefEF][0-9a-fA-F]{3}|[dD][0-7][0-9a-fA-F]{2}|[dD][89abAB][0-9a-fA-F]{2}\\u[dD][c-fC-F][0-9a-fA-F]{2}))`)
	cut    = regexp.MustCompile(`^\\(?:u(?:[0-9a-fA-F]{0,3}|[dD][89abAB][0-9a-fA-F]{2}(?:\\(?:u[0-9a-fA-F]{0,3})?)?)?)?$`)
)

// scan is P7.2 by the model.
func scan(b string) (string, int, api.Errno) {
	if b == "" {
		return "", 0, api.ErrShort
	}
	if b[0] != '"' {
		return "", 0, api.ErrForm
	}
	at := 1
	for at < len(b) && b[at] != '"' {
		size, e := part(b[at:])
		if e != api.OK {
			return "", 0, e
		}
		at += size
	}
	if at == len(b) {
		return "", 0, api.ErrShort
	}
	var s string
	if err := json.Unmarshal([]byte(b[:at+1]), &s); err != nil {
		panic(err)
	}
	return s, at + 1, api.OK
}

// part answers how many bytes the part has that b begins with, or what is wrong of it.
func part(b string) (int, api.Errno) {
	if b[0] == '\\' {
		if found := escape.FindString(b); found != "" {
			return len(found), api.OK
		}
		if cut.MatchString(b) {
			return 0, api.ErrShort
		}
		return 0, api.ErrForm
	}
	c, size := utf8.DecodeRuneInString(b)
	if c < 0x20 {
		return 0, api.ErrForm
	}
	if c == utf8.RuneError && size < 3 {
		return 0, api.ErrText
	}
	return size, api.OK
}

// parse is P7.3 by the model.
func parse(b string) (string, api.Errno) {
	s, size, e := scan(b)
	if e != api.OK {
		return "", e
	}
	if size != len(b) {
		return "", api.ErrRest
	}
	return s, api.OK
}

// printed is how a scalar stands in a print.
func printed(c rune) string {
	switch c {
	case 0x22:
		return `\"`
	case 0x5C:
		return `\\`
	case 8:
		return `\b`
	case 0xC:
		return `\f`
	case 0xA:
		return `\n`
	case 0xD:
		return `\r`
	case 9:
		return `\t`
	}
	if c < 0x20 {
		return fmt.Sprintf(`\u%04x`, c)
	}
	return string(c)
}

// edges are the scalars at which something begins or ends.
var edges = []rune{0, 8, 9, 0xA, 0xB, 0xC, 0xD, 0x1F, 0x20, '"', '/', '\\', 0x7F, 0x80, 0x7FF, 0x800, 0xD7FF, 0xE000, 0xFFFF, 0x10000, 0x10FFFF}

// scalars calls tell with each scalar.
func scalars(tell func(rune)) {
	for c := rune(0); c <= 0x10FFFF; c++ {
		if c < 0xD800 || c > 0xDFFF {
			tell(c)
		}
	}
}

// texts calls tell with each text of at most that many of the pieces.
func texts(pieces []string, most int, tell func(string)) {
	var grow func(string, int)
	grow = func(s string, left int) {
		tell(s)
		if left == 0 {
			return
		}
		for _, p := range pieces {
			grow(s+p, left-1)
		}
	}
	grow("", most)
}

func checkScan(t *testing.T, b, want string, wantSize int, wantError api.Errno) {
	t.Helper()
	if s, size, e := Scan(b); s != want || size != wantSize || e != wantError {
		t.Errorf("Scan(%q): %q, %d, %d, not %q, %d, %d", b, s, size, e, want, wantSize, wantError)
	}
}

func checkParse(t *testing.T, b, want string, wantError api.Errno) {
	t.Helper()
	if s, e := Parse(b); s != want || e != wantError {
		t.Errorf("Parse(%q): %q, %d, not %q, %d", b, s, e, want, wantError)
	}
}

func checkPrint(t *testing.T, s, want string, wantError api.Errno) {
	t.Helper()
	if b, e := Print(s); b != want || e != wantError {
		t.Errorf("Print(%q): %q, %d, not %q, %d", s, b, e, want, wantError)
	}
}

// checkText looks at Scan and Parse of a quoted text that stands for want.
func checkText(t *testing.T, b, want string) {
	t.Helper()
	checkScan(t, b, want, len(b), api.OK)
	checkParse(t, b, want, api.OK)
}

// checkWrong looks at Scan and Parse of what begins with no quoted text.
func checkWrong(t *testing.T, b string, want api.Errno) {
	t.Helper()
	checkScan(t, b, "", 0, want)
	checkParse(t, b, "", want)
}

// checkModel looks at Scan and Parse by the model.
func checkModel(t *testing.T, b string) {
	t.Helper()
	s, size, e := scan(b)
	checkScan(t, b, s, size, e)
	s, e = parse(b)
	checkParse(t, b, s, e)
}

// P7.1

func TestPrint(t *testing.T) {
	for _, c := range []struct{ s, want string }{
		{"", `""`},
		{"a", `"a"`},
		{"abc def", `"abc def"`},
		{"a/b", `"a/b"`},
		{`say "no"`, `"say \"no\""`},
		{`c:\x`, `"c:\\x"`},
		{"\b\f\n\r\t", `"\b\f\n\r\t"`},
		{"a\nb", `"a\nb"`},
		{"\x00", `"\u0000"`},
		{"\x01\x0b\x0e\x1f", `"\u0001\u000b\u000e\u001f"`},
		{"\x7f", "\"\x7f\""},
		{"\u00e9\u20ac\U0001F600", "\"\u00e9\u20ac\U0001F600\""},
		{"a\u00e9\"\u20ac\n\U0001F600\\", "\"a\u00e9\\\"\u20ac\\n\U0001F600\\\\\""},
		{`\u0041`, `"\\u0041"`},
		{"\ufffd", "\"\ufffd\""},
	} {
		checkPrint(t, c.s, c.want, api.OK)
	}
}

func TestPrintEachScalar(t *testing.T) {
	scalars(func(c rune) { checkPrint(t, string(c), `"`+printed(c)+`"`, api.OK) })
}

func TestPrintScalarsInOrder(t *testing.T) {
	for _, a := range edges {
		for _, b := range edges {
			for _, c := range edges {
				checkPrint(t, string([]rune{a, b, c}), `"`+printed(a)+printed(b)+printed(c)+`"`, api.OK)
			}
		}
	}
}

// noText are bytes that no scalar begins with, each followed by nothing that mends it.
var noText = []string{
	"\x80", "\xbf", "\xc0", "\xc1", "\xf5", "\xfe", "\xff",
	"\xc2", "\xdf", "\xe2", "\xe2\x82", "\xf0", "\xf0\x9f", "\xf0\x9f\x98",
	"\xc0\x80", "\xc1\xbf", "\xe0\x80\x80", "\xe0\x9f\xbf", "\xf0\x80\x80\x80", "\xf0\x8f\xbf\xbf",
	"\xed\xa0\x80", "\xed\xaf\xbf", "\xed\xb0\x80", "\xed\xbf\xbf",
	"\xf4\x90\x80\x80", "\xf7\xbf\xbf\xbf",
}

func TestPrintWrong(t *testing.T) {
	for _, bad := range noText {
		for _, s := range []string{bad, "a" + bad, bad + "a", "\u20ac" + bad + "\"", "\n\\" + bad, strings.Repeat("a", 1000) + bad} {
			checkPrint(t, s, "", api.ErrText)
		}
	}
}

// P7.2

func TestScan(t *testing.T) {
	for _, c := range []struct{ b, want string }{
		{`""`, ""},
		{`"a"`, "a"},
		{`"a/b c"`, "a/b c"},
		{`"\"\\\/\b\f\n\r\t"`, "\"\\/\b\f\n\r\t"},
		{`"a\nb\\n"`, "a\nb\\n"},
		{"\"\u00e9\u20ac\U0001F600\x7f\"", "\u00e9\u20ac\U0001F600\x7f"},
		{`"\u0041\u00e9\u20ac"`, "A\u00e9\u20ac"},
		{`"a\u00e9\ud83d\ude00"`, "a\u00e9\U0001F600"},
		{`"\uD83D\uDE00"`, "\U0001F600"},
		{`"\uaBcD\uAbCd"`, "\uabcd\uabcd"},
		{`"\u0000\u0022\u005c\u002f"`, "\x00\"\\/"},
		{`"\u00e91"`, "\u00e91"},
		{`"\\u0041"`, `\u0041`},
		{`"\\\""`, `\"`},
	} {
		checkText(t, c.b, c.want)
	}
}

func TestScanLeavesWhatIsBehind(t *testing.T) {
	for _, b := range []string{`""`, `"ab"`, `"\""`, `"\u0041\\"`, `"\ud83d\ude00"`, "\"\u20ac\""} {
		s, _, _ := scan(b)
		for _, rest := range append([]string{"", " ", "a", `"`, `""`, `"x"`, `\`, "\n", "\x00", "\u20ac", strings.Repeat("x", 1000)}, noText...) {
			checkScan(t, b+rest, s, len(b), api.OK)
		}
	}
}

func TestScanEachScalarAsItIs(t *testing.T) {
	scalars(func(c rune) {
		b := `"` + string(c) + `"`
		switch {
		case c < 0x20:
			checkWrong(t, b, api.ErrForm)
		case c == '"':
			checkScan(t, b, "", 2, api.OK)
			checkParse(t, b, "", api.ErrRest)
		case c == '\\':
			checkWrong(t, b, api.ErrShort)
		default:
			checkText(t, b, string(c))
		}
	})
}

func TestScanEachSignBehindABackslash(t *testing.T) {
	stands := map[byte]string{'"': "\"", '\\': "\\", '/': "/", 'b': "\x08", 'f': "\x0c", 'n': "\x0a", 'r': "\x0d", 't': "\x09"}
	for c := range 256 {
		b := `"x\` + string([]byte{byte(c)})
		if s, is := stands[byte(c)]; is {
			checkText(t, b+`y"`, "x"+s+"y")
		} else if c != 'u' {
			for _, rest := range []string{"", `"`, `0041"`, "\x80\x80\""} {
				checkWrong(t, b+rest, api.ErrForm)
			}
		}
	}
}

// spellings are a number's four digits, small, great, and either in turns.
func spellings(n int) []string {
	small := fmt.Sprintf("%04x", n)
	great := fmt.Sprintf("%04X", n)
	return []string{small, great, small[:1] + great[1:2] + small[2:3] + great[3:], great[:1] + small[1:2] + great[2:3] + small[3:]}
}

func TestScanEachNumber(t *testing.T) {
	for n := range 0x10000 {
		for _, d := range spellings(n) {
			if n >= 0xD800 && n <= 0xDFFF {
				checkWrong(t, `"\u`+d+`"`, api.ErrForm)
			} else {
				checkText(t, `"\u`+d+`"`, string(rune(n)))
			}
		}
	}
}

func TestScanPairs(t *testing.T) {
	for _, former := range []int{0xD800, 0xD801, 0xD83D, 0xD87F, 0xDABC, 0xDBFE, 0xDBFF} {
		for _, latter := range []int{0xDC00, 0xDC01, 0xDDEF, 0xDE00, 0xDFFE, 0xDFFF} {
			want := string(rune(0x10000 + (former-0xD800)*0x400 + latter - 0xDC00))
			for _, a := range spellings(former) {
				for _, b := range spellings(latter) {
					checkText(t, `"\u`+a+`\u`+b+`"`, want)
					checkText(t, `"x\u`+a+`\u`+b+`\u`+a+`\u`+b+`1"`, "x"+want+want+"1")
				}
			}
		}
	}
	for c := 0x10000; c <= 0x10FFFF; c++ {
		b := fmt.Sprintf(`"\u%04x\u%04x"`, 0xD800+(c-0x10000)>>10, 0xDC00+(c-0x10000)&0x3FF)
		if s, size, e := Scan(b); s != string(rune(c)) || size != 14 || e != api.OK {
			t.Fatalf("Scan(%s): %q, %d, %d", b, s, size, e)
		}
	}
}

func TestScanFormerWithEachNumber(t *testing.T) {
	for _, former := range []string{"d800", "dbff", "DABC"} {
		for n := range 0x10000 {
			if n < 0xDC00 || n > 0xDFFF {
				checkWrong(t, fmt.Sprintf(`"\u%s\u%04x"`, former, n), api.ErrForm)
			}
		}
	}
}

func TestScanLatterFirst(t *testing.T) {
	for n := 0xDC00; n <= 0xDFFF; n++ {
		for _, rest := range []string{"", `"`, `\ud800"`, `\udc00"`, "\xff", `\`} {
			checkWrong(t, fmt.Sprintf(`"\u%04x%s`, n, rest), api.ErrForm)
		}
	}
}

func TestScanFormerAlone(t *testing.T) {
	for _, former := range []string{`"\ud800`, `"\uDBFF`, `"x\ud83d`, `"\ud83d\ude00\ud83d`} {
		for _, rest := range []string{"", `\`, `\u`, `\ud`, `\udc`, `\udc0`, `\u0`, `\u004`, `\ud80`} {
			checkWrong(t, former+rest, api.ErrShort)
		}
		for _, rest := range []string{
			`"`, "x", "u", "udc00\"", "\n", "\xff", "\u20ac", "\x00",
			`\"`, `\\`, `\n`, `\x`, `\U`, `\U"`, `\Udc00"`, "\\\xff", `\\udc00"`, `\/`,
			`\u"`, `\ug`, `\ud"`, `\udc"`, `\udc0"`, `\udcg`, `\u\`, `\ud\`, "\\udc0\xff",
			`\u0041"`, `\u0041`, `\ud800"`, `\udbff`, `\ue000"`, `\udb00\udc00"`, `\uffff`,
		} {
			checkWrong(t, former+rest, api.ErrForm)
		}
	}
}

func TestScanWrong(t *testing.T) {
	checkWrong(t, "", api.ErrShort)
	for c := range 256 {
		for _, rest := range []string{"", `"`, `a"`, "\xff"} {
			if c != '"' {
				checkWrong(t, string([]byte{byte(c)})+rest, api.ErrForm)
			}
		}
	}
	for _, b := range []string{`"`, `"a`, `"abc `, "\"\u20ac", `"\n`, `"\"`, `"\\`, `"\\\`, `"\u0041`, `"\ud83d\ude00`, `"\`, `"a\`, `"\n\`} {
		checkWrong(t, b, api.ErrShort)
	}
	for c := range 0x20 {
		for _, ahead := range []string{`"`, `"a`, "\"\u20ac", `"\n`, `"\u0041`, `"\ud83d\ude00`} {
			for _, rest := range []string{"", `"`, "\xff", `\`} {
				checkWrong(t, ahead+string([]byte{byte(c)})+rest, api.ErrForm)
			}
		}
	}
}

func TestScanNoText(t *testing.T) {
	for _, bad := range noText {
		for _, ahead := range []string{`"`, `"a`, "\"\u20ac", `"\n`, `"\u0041`, `"\ud83d\ude00`, `"\\`} {
			for _, rest := range []string{"", `"`, "a\"", "\n", `\`, `\x`, `\ud800"`} {
				checkWrong(t, ahead+bad+rest, api.ErrText)
			}
		}
	}
}

func TestScanNoDigit(t *testing.T) {
	for digits := range 4 {
		ahead := `"\u` + "dAf9"[:digits]
		checkWrong(t, ahead, api.ErrShort)
		for c := range 256 {
			if !strings.ContainsRune("0123456789abcdefABCDEF", rune(c)) {
				for _, rest := range []string{"", "0000\"", "\xff"} {
					checkWrong(t, ahead+string([]byte{byte(c)})+rest, api.ErrForm)
				}
			}
		}
		ahead = `"\ud83d\u` + "De00"[:digits]
		checkWrong(t, ahead, api.ErrShort)
		for c := range 256 {
			if !strings.ContainsRune("0123456789abcdefABCDEF", rune(c)) {
				checkWrong(t, ahead+string([]byte{byte(c)})+`"`, api.ErrForm)
			}
		}
	}
}

// What is wrong first, from the left, is told.
func TestScanFirstFault(t *testing.T) {
	faults := []struct {
		b string
		e api.Errno
	}{{"\n", api.ErrForm}, {"\xff", api.ErrText}, {"\xe2\x82", api.ErrText}, {`\x`, api.ErrForm}, {`\u12"`, api.ErrForm}, {`\udc00`, api.ErrForm}, {`\ud800x`, api.ErrForm}, {`\ud800\u0041`, api.ErrForm}}
	for _, first := range faults {
		for _, second := range faults {
			for _, end := range []string{"", `"`, `\`} {
				checkWrong(t, `"a`+first.b+second.b+end, first.e)
			}
		}
	}
}

func TestScanAllShortTexts(t *testing.T) {
	pieces := []string{`"`, `\`, "/", "u", "n", "x", "0", "d", "D", "8", "c", "\x1f", " ", "\x7f", "\x80", "\xc3", "\xe2", "\xff"}
	texts(pieces, 4, func(s string) {
		checkModel(t, s)
		checkModel(t, `"`+s)
	})
	texts([]string{`"`, `\`, "u", "d8", "dc", "00", "0", "g", "\xc3\xa9", "\xff"}, 5, func(s string) { checkModel(t, `"\u`+s) })
	texts([]string{`"`, `\`, `\u`, `\ud800`, `\uDFFF`, `\u0041`, "0", "\t", "a", "\u20ac", "\xe2\x82"}, 4, func(s string) { checkModel(t, `"`+s) })
	texts([]string{`"`, `\`, "u", "d", "c", "0"}, 7, func(s string) { checkModel(t, `"\ud8ff`+s) })
}

// P7.3

func TestParseRest(t *testing.T) {
	for _, b := range []string{`""`, `"ab"`, `"\""`, `"\u0041"`, "\"\u20ac\""} {
		for _, rest := range append([]string{" ", "\n", "a", `"`, `""`, `\`, "\x00", strings.Repeat(" ", 1000)}, noText...) {
			checkParse(t, b+rest, "", api.ErrRest)
		}
		checkParse(t, " "+b, "", api.ErrForm)
	}
}

// P7.4

// checkThereAndBack looks at a text, its print, and each beginning of that.
func checkThereAndBack(t *testing.T, s string) {
	t.Helper()
	b, e := Print(s)
	if e != api.OK {
		t.Fatalf("Print(%q): %d", s, e)
	}
	checkText(t, b, s)
	checkScan(t, b+b, s, len(b), api.OK)
	for n := range len(b) {
		want := api.ErrShort
		if !utf8.ValidString(b[:n]) {
			want = api.ErrText
		}
		checkWrong(t, b[:n], want)
	}
}

func TestPrintAndParse(t *testing.T) {
	scalars(func(c rune) {
		if c < 0x3000 || c%97 == 0 {
			checkThereAndBack(t, string(c))
		}
	})
	for _, a := range edges {
		for _, b := range edges {
			for _, c := range edges {
				checkThereAndBack(t, string([]rune{a, b, c}))
			}
		}
	}
	for _, s := range []string{"", `\u0041`, `\\\\`, `""""`, "a\nb\tc", strings.Repeat("\u20ac\"", 300)} {
		checkThereAndBack(t, s)
	}
}

// The ways of writing one text other than its print are parsed as it too.
func TestParseAndPrint(t *testing.T) {
	texts([]string{"a", `\/`, "/", `\u002F`, `\n`, `\u000a`, `\u0000`, `\"`, `\u005C`, "\u20ac", `\u20AC`, "\U0001F600", `\uD83d\uDe00`}, 3, func(parts string) {
		s, e := Parse(`"` + parts + `"`)
		want, _ := parse(`"` + parts + `"`)
		if e != api.OK || s != want {
			t.Fatalf("Parse(%q): %q, %d, not %q", parts, s, e, want)
		}
		checkThereAndBack(t, s)
	})
}

func TestLongTexts(t *testing.T) {
	for _, c := range []string{"a", "\n", "\x01", "\"", "\u20ac", "\U0001F600", "/"} {
		s := strings.Repeat(c, api.MaxBytes)
		b, e := Print(s)
		if e != api.OK || len(b) != 2+api.MaxBytes*len(printed([]rune(c)[0])) {
			t.Fatalf("Print of many %q: %d bytes, %d", c, len(b), e)
		}
		if back, size, e := Scan(b + "x"); back != s || size != len(b) || e != api.OK {
			t.Errorf("Scan of many %q: %d bytes, %d, %d", c, len(back), size, e)
		}
		if back, size, e := Scan(b[:len(b)-1]); back != "" || size != 0 || e != api.ErrShort {
			t.Errorf("Scan of many %q without an end: %d bytes, %d, %d", c, len(back), size, e)
		}
	}
}

// A reader of many quoted texts hands over all that is left, so Scan may not go through what stands behind.
func TestScanOfManyInARow(t *testing.T) {
	left := strings.Repeat(`"a\n"`, 200000)
	for n := 0; left != ""; n++ {
		s, size, e := Scan(left)
		if s != "a\n" || size != 5 || e != api.OK {
			t.Fatalf("the quoted text %d: %q, %d, %d", n, s, size, e)
		}
		left = left[size:]
	}
}

// R4

// kept keeps the bytes of shared's latest answer on the heap.
var kept []byte

// shared is s as bytes, and as a text that lies where these do.
func shared(s string) ([]byte, string) {
	kept = []byte(s)
	return kept, unsafe.String(unsafe.SliceData(kept), len(kept))
}

func TestAnswersAreNew(t *testing.T) {
	calls := map[string]func(string) string{
		"Print": func(s string) string { b, _ := Print(s); return b },
		"Scan":  func(s string) string { b, _, _ := Scan(s); return b },
		"Parse": func(s string) string { b, _ := Parse(s); return b },
	}
	for name, call := range calls {
		for _, s := range []string{`"abc"`, `"a"`, `"\n"`, `"ab\ncd"`, `"\u0041"`, "\"\u20ac\"", "abc"} {
			b, text := shared(s)
			told := call(text)
			want := strings.Clone(told)
			if string(b) != s {
				t.Errorf("%s(%q) changed it", name, s)
			}
			for i := range b {
				b[i] = '7'
			}
			if told != want {
				t.Errorf("%s(%q): what was written into it changed the answer to %q", name, s, told)
			}
			if again := call(s); len(again) > 1 && unsafe.StringData(again) == unsafe.StringData(told) {
				t.Errorf("%s(%q): two answers share memory", name, s)
			}
		}
	}
}
