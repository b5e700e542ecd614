package jdec

import (
	"encoding/json"
	"fmt"
	"io"
	"regexp"
	"strings"
	"testing"

	"tabularium/api"
	"tabularium/num"
	"tabularium/quote"
	"tabularium/tree"
)

// The model: the document's words, told in another way. It is a machine that goes from sign to sign, and holds what is open on a stack.

// What is wanted next.
const (
	aValue = iota
	aValueOrEnd
	aKey
	aKeyOrEnd
	aColon
	aCommaOrEnd
	nothing
)

const begins = `nft"[{-0123456789`

var numberText = regexp.MustCompile(`^-?(?:0|[1-9][0-9]*)(?:\.[0-9]+)?(?:[eE][-+]?[0-9]+)?`)

// machine is how far a text has been gone through.
type machine struct {
	left  string
	wants int
	open  []api.Value // the outermost list or object first
	done  api.Value
}

// mayBe are the bytes with which it may be gone on.
func (m *machine) mayBe() string {
	switch m.wants {
	case aValue:
		return begins
	case aValueOrEnd:
		return begins + "]"
	case aKey:
		return `"`
	case aKeyOrEnd:
		return `"}`
	case aColon:
		return ":"
	case aCommaOrEnd:
		return "," + m.end()
	}
	return ""
}

// end is what closes the innermost one that is open.
func (m *machine) end() string {
	if m.open[len(m.open)-1].Kind == 5 {
		return "]"
	}
	return "}"
}

// put lays a value that has been read where it belongs.
func (m *machine) put(v api.Value) {
	if len(m.open) == 0 {
		m.done, m.wants = v, nothing
		return
	}
	last := &m.open[len(m.open)-1]
	last.Kids = append(last.Kids, v)
	m.wants = aCommaOrEnd
}

// scalar takes a value that is none of brackets; beside an error it answers how far behind left's beginning that is told.
func (m *machine) scalar() (int, api.Errno) {
	for word, v := range map[string]api.Value{"null": {Kind: 1}, "true": {Kind: 2, Is: true}, "false": {Kind: 2}} {
		if word[0] == m.left[0] {
			n := 0
			for n < len(word) && n < len(m.left) && word[n] == m.left[n] {
				n++
			}
			return m.take(n, v, n < len(word), n == len(m.left))
		}
	}
	if m.left[0] == '"' {
		s, size, e := quote.Scan(m.left)
		if e != 0 {
			return 0, e
		}
		return m.take(size, api.Value{Kind: 4, Str: s}, false, false)
	}
	text := numberText.FindString(m.left)
	if text == "" {
		return m.take(0, api.Value{}, true, m.left == "-")
	}
	n, e := num.Parse(text)
	if e != 0 {
		return 0, e
	}
	return m.take(len(text), api.Value{Kind: 3, Num: n}, false, false)
}

// take puts v, whose text has that many bytes, or tells the error of one that is wrong.
func (m *machine) take(size int, v api.Value, wrong, short bool) (int, api.Errno) {
	if wrong && short {
		return size, 2
	}
	if wrong {
		return size, 3
	}
	m.left = m.left[size:]
	m.put(v)
	return 0, 0
}

// key takes a key.
func (m *machine) key() api.Errno {
	key, size, e := quote.Scan(m.left)
	if e != 0 {
		return e
	}
	last := &m.open[len(m.open)-1]
	for _, other := range last.Keys {
		if other == key {
			return 6
		}
	}
	last.Keys = append(last.Keys, key)
	m.left, m.wants = m.left[size:], aColon
	return 0
}

// step takes the next sign; beside an error it answers how far behind left's beginning that is told.
func (m *machine) step() (int, api.Errno) {
	c := m.left[:1]
	valueIsWanted := m.wants == aValue || m.wants == aValueOrEnd
	switch {
	case m.wants == nothing:
		return 0, 14
	case !strings.Contains(m.mayBe(), c):
		return 0, 3
	case c == "]" || c == "}":
		v := m.open[len(m.open)-1]
		m.open, m.left = m.open[:len(m.open)-1], m.left[1:]
		m.put(v)
	case valueIsWanted && len(m.open) == 64:
		return 0, 5
	case c == "[":
		m.open, m.left, m.wants = append(m.open, api.Value{Kind: 5}), m.left[1:], aValueOrEnd
	case c == "{":
		m.open, m.left, m.wants = append(m.open, api.Value{Kind: 6}), m.left[1:], aKeyOrEnd
	case c == ":":
		m.left, m.wants = m.left[1:], aValue
	case c == ",":
		m.left, m.wants = m.left[1:], aValue
		if m.end() == "}" {
			m.wants = aKey
		}
	case valueIsWanted:
		return m.scalar()
	default:
		return 0, m.key()
	}
	return 0, 0
}

// parse is P9.1 by the model.
func parse(s string) (api.Value, int, api.Errno) {
	if len(s) > 1048576 {
		return api.Value{}, 0, 4
	}
	m := machine{left: s}
	for {
		m.left = strings.TrimLeft(m.left, "\x09\x0A\x0D\x20")
		if m.left == "" && m.wants == nothing {
			return m.done, -1, 0
		}
		if m.left == "" {
			return api.Value{}, len(s), 2
		}
		at := len(s) - len(m.left)
		if n, e := m.step(); e != 0 {
			return api.Value{}, at + n, e
		}
	}
}

var quotedText = regexp.MustCompile(`(?s)"(?:\\.|[^"\\])*(?:"|\\?\z)`)

// deepest is Deepest by the model.
func deepest(s string) int {
	open, most := 0, 0
	for _, c := range quotedText.ReplaceAllString(s, "") {
		if c == '[' || c == '{' {
			open++
		}
		if c == ']' || c == '}' {
			open--
		}
		if open < 0 {
			break
		}
		most = max(most, open)
	}
	return most
}

// decode is the value of a text of JSON by the library's own decoder, which is held to no bounds.
func decode(s string) (api.Value, error) {
	d := json.NewDecoder(strings.NewReader(s))
	d.UseNumber()
	return decodeOne(d)
}

func decodeOne(d *json.Decoder) (api.Value, error) {
	token, err := d.Token()
	if err != nil {
		return api.Value{}, err
	}
	switch one := token.(type) {
	case bool:
		return api.Value{Kind: 2, Is: one}, nil
	case json.Number:
		n, e := num.Parse(one.String())
		if e != 0 {
			return api.Value{}, e
		}
		return api.Value{Kind: 3, Num: n}, nil
	case string:
		return api.Value{Kind: 4, Str: one}, nil
	case json.Delim:
		return decodeWithin(d, one)
	}
	return api.Value{Kind: 1}, nil
}

func decodeWithin(d *json.Decoder, bracket json.Delim) (api.Value, error) {
	v := api.Value{Kind: 5}
	if bracket == '{' {
		v.Kind = 6
	}
	for d.More() {
		if bracket == '{' {
			key, err := d.Token()
			if err != nil {
				return api.Value{}, err
			}
			v.Keys = append(v.Keys, key.(string))
		}
		kid, err := decodeOne(d)
		if err != nil {
			return api.Value{}, err
		}
		v.Kids = append(v.Kids, kid)
	}
	_, err := d.Token()
	if err == io.EOF {
		err = io.ErrUnexpectedEOF
	}
	return v, err
}

// Generated texts.

// dice are rolled alike in each run.
type dice struct{ state uint64 }

// below answers a number from 0 on below n.
func (d *dice) below(n int) int {
	d.state = d.state*6364136223846793005 + 1442695040888963407
	return int(d.state>>33) % n
}

// part is a text, and what it stands for.
type part struct{ text, means string }

var parts = []part{
	{"a", "a"}, {"b c", "b c"}, {`\"`, `"`}, {`\\`, `\`}, {`\/`, "/"}, {"/", "/"}, {`\b`, "\b"}, {`\f`, "\f"}, {`\n`, "\n"}, {`\r`, "\r"}, {`\t`, "\t"},
	{`\u0041`, "A"}, {`\u00E9`, "\u00e9"}, {"\u20ac", "\u20ac"}, {`\ud83d\uDE00`, "\U0001F600"}, {"\U0001F600", "\U0001F600"}, {"[", "["}, {"]", "]"}, {"{", "{"}, {"}", "}"}, {",", ","}, {":", ":"},
}

// figure is a number's text, and the number.
type figure struct {
	text string
	n    api.Number
}

// power is a number that isn't 0.
func power(below bool, digits string, exp int) api.Number {
	return api.Number{Neg: below, Digits: digits, Exp: exp}
}

var figures = []figure{
	{"0", api.Number{}}, {"-0", api.Number{}}, {"0.0", api.Number{}}, {"-0.000e9", api.Number{}}, {"0E0", api.Number{}}, {"0e99999999999999999999", api.Number{}},
	{"1", power(false, "1", 0)}, {"9", power(false, "9", 0)}, {"-1", power(true, "1", 0)}, {"10", power(false, "1", 1)}, {"1203400", power(false, "12034", 2)},
	{"-2.50", power(true, "25", -1)}, {"0.001", power(false, "1", -3)}, {"1.50e1", power(false, "15", 0)}, {"1e5", power(false, "1", 5)}, {"1E5", power(false, "1", 5)}, {"1e+5", power(false, "1", 5)},
	{"1e-5", power(false, "1", -5)}, {"1E+05", power(false, "1", 5)}, {"-1.25E-003", power(true, "125", -5)}, {"1e10000", power(false, "1", 10000)}, {"-1e-10000", power(true, "1", -10000)},
	{"123456789012345678901234567890.5", power(false, "1234567890123456789012345678905", -1)},
}

// maker writes texts of values, blanks and all, and tells the values.
type maker struct {
	dice
	out  strings.Builder
	tidy bool // without blanks
}

// blank writes some blanks or none.
func (m *maker) blank() {
	for !m.tidy && m.below(3) == 0 {
		m.out.WriteByte("\t\n\r "[m.below(4)])
	}
}

// sign writes a sign with blanks around it.
func (m *maker) sign(s string) {
	m.blank()
	m.out.WriteString(s)
	m.blank()
}

// quoted writes a quoted text.
func (m *maker) quoted() string {
	means := ""
	m.out.WriteByte('"')
	for m.below(3) > 0 {
		p := parts[m.below(len(parts))]
		m.out.WriteString(p.text)
		means += p.means
	}
	m.out.WriteByte('"')
	return means
}

// value writes a value that is at most that deep.
func (m *maker) value(deep int) api.Value {
	kinds := 6
	if deep == 1 {
		kinds = 4
	}
	switch 1 + m.below(kinds) {
	case 1:
		m.out.WriteString("null")
		return api.Value{Kind: 1}
	case 2:
		is := m.below(2) == 0
		fmt.Fprint(&m.out, is)
		return api.Value{Kind: 2, Is: is}
	case 3:
		f := figures[m.below(len(figures))]
		m.out.WriteString(f.text)
		return api.Value{Kind: 3, Num: f.n}
	case 4:
		return api.Value{Kind: 4, Str: m.quoted()}
	case 5:
		return m.list(deep)
	}
	return m.object(deep)
}

func (m *maker) list(deep int) api.Value {
	v := api.Value{Kind: 5}
	m.out.WriteByte('[')
	m.blank()
	for n := m.below(5); n > 0; n-- {
		v.Kids = append(v.Kids, m.value(deep-1))
		if n > 1 {
			m.sign(",")
		}
	}
	m.blank()
	m.out.WriteByte(']')
	return v
}

func (m *maker) object(deep int) api.Value {
	v := api.Value{Kind: 6}
	m.out.WriteByte('{')
	m.blank()
	for n := m.below(5); n > 0; n-- {
		fmt.Fprintf(&m.out, `"%d`, n) // so that no two keys are alike
		rest := m.below(len(parts))
		m.out.WriteString(parts[rest].text + `"`)
		v.Keys = append(v.Keys, fmt.Sprint(n)+parts[rest].means)
		m.sign(":")
		v.Kids = append(v.Kids, m.value(deep-1))
		if n > 1 {
			m.sign(",")
		}
	}
	m.blank()
	m.out.WriteByte('}')
	return v
}

// made is a text of JSON, and its value.
func made(seed int, deep int, tidy bool) (string, api.Value) {
	m := maker{dice: dice{uint64(seed)}, tidy: tidy}
	m.blank()
	v := m.value(deep)
	m.blank()
	return m.out.String(), v
}

// texts calls tell with each text of at most that many of the pieces.
func texts(pieces []string, most int, tell func(string)) {
	var grow func(string, int)
	grow = func(s string, left int) {
		tell(s)
		if left == 0 {
			return
		}
		for _, p := range pieces {
			grow(s+p, left-1)
		}
	}
	grow("", most)
}

// Checks.

// short tells a value in few signs.
func short(v api.Value) string { return fmt.Sprintf("%.200s", fmt.Sprint(v)) }

// checkParse looks at Parse and Value of s.
func checkParse(t *testing.T, s string, want api.Value, wantAt int, wantError api.Errno) {
	t.Helper()
	v, at, e := Parse(s)
	if at != wantAt || e != wantError || !tree.Same(v, want) {
		t.Errorf("Parse(%.200q): %s, %d, %d, not %s, %d, %d", s, short(v), at, e, short(want), wantAt, wantError)
	}
	if e == 0 && !tree.Right(v) {
		t.Errorf("Parse(%.200q): %s isn't right", s, short(v))
	}
	if v, e := Value(s); e != wantError || !tree.Same(v, want) {
		t.Errorf("Value(%.200q): %s, %d, not %s, %d", s, short(v), e, short(want), wantError)
	}
}

// checkWrong looks at Parse and Value of s, which is no text of JSON.
func checkWrong(t *testing.T, s string, at int, e api.Errno) {
	t.Helper()
	checkParse(t, s, api.Value{}, at, e)
}

// checkRight looks at Parse and Value of s, which is a text of JSON.
func checkRight(t *testing.T, s string, want api.Value) {
	t.Helper()
	checkParse(t, s, want, -1, api.OK)
}

// checkModel looks at all functions by the model.
func checkModel(t *testing.T, s string) {
	t.Helper()
	v, at, e := parse(s)
	checkParse(t, s, v, at, e)
	checkDeepest(t, s, deepest(s))
}

func checkDeepest(t *testing.T, s string, want int) {
	t.Helper()
	if got := Deepest(s); got != want {
		t.Errorf("Deepest(%.200q): %d, not %d", s, got, want)
	}
}

// halves is what half of a scalar's number begins with.
var halves = regexp.MustCompile(`\\u[dD][89a-fA-F]`)

// checkLibrary holds s against what the library's decoder tells of it, which knows no bounds, takes keys twice, and puts right what is no scalar.
func checkLibrary(t *testing.T, s string) {
	t.Helper()
	v, at, e := Parse(s)
	valid := json.Valid([]byte(s))
	switch e {
	case api.OK:
		if want, err := decode(s); !valid || err != nil || !tree.Same(v, want) {
			t.Errorf("Parse(%.200q): %s, but %s by the library (%v)", s, short(v), short(want), err)
		}
	case api.ErrShort, api.ErrRest:
		if valid {
			t.Errorf("Parse(%.200q): %d, %d, but a value by the library", s, at, e)
		}
	case api.ErrForm:
		if valid && !halves.MatchString(s) {
			t.Errorf("Parse(%.200q): %d, %d, but a value by the library", s, at, e)
		}
	}
}
