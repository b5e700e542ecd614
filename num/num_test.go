package num

import (
	"math"
	"math/big"
	"regexp"
	"strconv"
	"strings"
	"testing"
	"unsafe"

	"tabularium/api"
)

// what the document says, in other words than the program's

var (
	rightDigits = regexp.MustCompile(`^([1-9]([0-9]*[1-9])?)?$`)
	numberText  = regexp.MustCompile(`^-?(?:0|[1-9][0-9]*)(?:\.[0-9]+)?(?:[eE][+-]?[0-9]+)?$`)
)

func right(n api.Number) bool {
	if !rightDigits.MatchString(n.Digits) || len(n.Digits) > 1000 {
		return false
	}
	return n.Exp >= -10000 && n.Exp <= 10000 && (n.Digits != "" || n == api.Number{})
}

// scan tries each beginning of s, the longest first.
func scan(s string) int {
	for n := len(s); n > 0; n-- {
		if numberText.MatchString(s[:n]) {
			return n
		}
	}
	return 0
}

// parse brings a text to a whole number of any size and a power of any size, and takes noughts away one by one.
func parse(s string) (api.Number, api.Errno) {
	if !numberText.MatchString(s) {
		return api.Number{}, api.ErrForm
	}
	text, power := strings.ToLower(s), new(big.Int)
	if at := strings.IndexByte(text, 'e'); at >= 0 {
		power.SetString(text[at+1:], 10)
		text = text[:at]
	}
	n := api.Number{Neg: text[0] == '-', Digits: strings.TrimPrefix(text, "-")}
	if at := strings.IndexByte(n.Digits, '.'); at >= 0 {
		power.Sub(power, big.NewInt(int64(len(n.Digits)-at-1)))
		n.Digits = n.Digits[:at] + n.Digits[at+1:]
	}
	for n.Digits != "" && n.Digits[0] == '0' {
		n.Digits = n.Digits[1:]
	}
	if n.Digits == "" {
		return api.Number{}, api.OK
	}
	for n.Digits[len(n.Digits)-1] == '0' {
		n.Digits = n.Digits[:len(n.Digits)-1]
		power.Add(power, big.NewInt(1))
	}
	if len(n.Digits) > 1000 || power.CmpAbs(big.NewInt(10000)) > 0 {
		return api.Number{}, api.ErrBig
	}
	n.Exp = int(power.Int64())
	return n, api.OK
}

// printed lays noughts at both ends of the digits, and a point among them.
func printed(n api.Number) string {
	if !right(n) {
		return ""
	}
	dash := ""
	if n.Neg {
		dash = "-"
	}
	if n.Exp < -20 || n.Exp > 20 {
		return dash + n.Digits + "e" + strconv.Itoa(n.Exp)
	}
	digits := n.Digits
	for range n.Exp {
		if digits != "" {
			digits += "0"
		}
	}
	for len(digits) <= max(0, -n.Exp) {
		digits = "0" + digits
	}
	if n.Exp >= 0 {
		return dash + digits
	}
	return dash + digits[:len(digits)+n.Exp] + "." + digits[len(digits)+n.Exp:]
}

// tenToThe is 10 to that power.
func tenToThe(power int) *big.Int {
	return new(big.Int).Exp(big.NewInt(10), big.NewInt(int64(power)), nil)
}

// scaled is n, which is right, times 10 to the power 10000: so it is whole, whatever n is.
func scaled(n api.Number) *big.Int {
	v, ok := new(big.Int).SetString("0"+n.Digits, 10)
	if !ok {
		panic("no digits: " + n.Digits)
	}
	if n.Neg {
		v.Neg(v)
	}
	return v.Mul(v, tenToThe(10000+n.Exp))
}

func whole(n api.Number) (uint64, bool) {
	v, rest := new(big.Int).QuoRem(scaled(n), tenToThe(10000), new(big.Int))
	if rest.Sign() != 0 || !v.IsUint64() {
		return 0, false
	}
	return v.Uint64(), true
}

// what the tests go through

// noughts is a text of n noughts.
func noughts(n int) string { return strings.Repeat("0", n) }

// texts are all texts of the signs, up to that many.
func texts(signs string, most int) []string {
	l := []string{""}
	for at := 0; len(l[at]) < most; at++ {
		for i := range len(signs) {
			l = append(l, l[at]+signs[i:i+1])
		}
	}
	return l
}

// rightOnes are numbers that are right: digits of all lengths that matter, by powers of all that matter.
func rightOnes() []api.Number {
	l := []api.Number{{}}
	for _, digits := range []string{
		"1", "9", "12", "21", "101", "125", "1234567890123456789", "12345678901234567891", "123456789012345678912",
		"18446744073709551615", "18446744073709551616", "1" + noughts(18) + "1", "1" + noughts(98) + "1",
		strings.Repeat("9", 999), strings.Repeat("9", 1000), "1" + noughts(998) + "1",
	} {
		for _, exp := range []int{-10000, -9999, -1000, -999, -22, -21, -20, -19, -18, -3, -2, -1, 0, 1, 2, 18, 19, 20, 21, 22, 1000, 9999, 10000} {
			l = append(l, api.Number{Digits: digits, Exp: exp}, api.Number{Neg: true, Digits: digits, Exp: exp})
		}
	}
	return l
}

// wrongOnes are numbers that aren't right.
func wrongOnes() []api.Number {
	l := []api.Number{{Neg: true}, {Exp: 1}, {Exp: -1}, {Neg: true, Exp: 3}, {Exp: 10000}, {Exp: math.MinInt}, {Exp: math.MaxInt}}
	for _, digits := range []string{
		"0", "00", "10", "100", "01", "001", "010", "1x", "x1", "1x1", "x", "-1", "+1", "1.5", "1e5", " 1", "1 ", "1 1", "-", ".", "e",
		"1/1", "1:1", "/", ":", "\x00", "1\x001", "1\xFF1", "\xFF", "1_1", "\u0661", "1\u0660", "\uFF11",
		strings.Repeat("9", 1001), "1" + noughts(999) + "1", strings.Repeat("7", 5000), "1" + noughts(2000), noughts(1000), noughts(999) + "1",
	} {
		l = append(l, api.Number{Digits: digits}, api.Number{Neg: true, Digits: digits}, api.Number{Digits: digits, Exp: 3}, api.Number{Digits: digits, Exp: -3})
	}
	for _, exp := range []int{10001, -10001, 10010, -10010, 1 << 31, -1 << 31, 1 << 32, math.MaxInt, math.MinInt, math.MinInt + 10000} {
		for _, digits := range []string{"1", "12", strings.Repeat("9", 1000)} {
			l = append(l, api.Number{Digits: digits, Exp: exp}, api.Number{Neg: true, Digits: digits, Exp: exp})
		}
	}
	return l
}

func short(s string) string {
	if len(s) > 60 {
		return s[:30] + " .. " + s[len(s)-30:] + " (" + strconv.Itoa(len(s)) + ")"
	}
	return strconv.Quote(s)
}

func told(n api.Number) string {
	return "{" + strconv.FormatBool(n.Neg) + " " + short(n.Digits) + " " + strconv.Itoa(n.Exp) + "}"
}

func checkParse(t *testing.T, s string, want api.Number, wantError api.Errno) {
	t.Helper()
	if n, e := Parse(s); n != want || e != wantError {
		t.Errorf("Parse(%s): got %s, %d, want %s, %d", short(s), told(n), e, told(want), wantError)
	}
	if n, e := parse(s); n != want || e != wantError {
		t.Errorf("Parse(%s): this test's model tells %s, %d, want %s, %d", short(s), told(n), e, told(want), wantError)
	}
}

// P6.1: Right, Parse and Scan

func TestRight(t *testing.T) {
	for _, n := range rightOnes() {
		if !Right(n) || !right(n) {
			t.Errorf("%s is right", told(n))
		}
	}
	for _, n := range wrongOnes() {
		if Right(n) || right(n) {
			t.Errorf("%s isn't right", told(n))
		}
	}
	for _, digits := range texts("0519/:x", 4) {
		for _, exp := range []int{0, 1, -1, 10000, -10000, 10001, -10001} {
			for _, neg := range []bool{false, true} {
				n := api.Number{Neg: neg, Digits: digits, Exp: exp}
				if Right(n) != right(n) {
					t.Errorf("%s: got %t", told(n), Right(n))
				}
			}
		}
	}
	for c := range 256 { // each byte at each place
		sign := string([]byte{byte(c)})
		for _, digits := range []string{sign, sign + "1", "1" + sign, "1" + sign + "1"} {
			n := api.Number{Digits: digits}
			if Right(n) != right(n) {
				t.Errorf("%s: got %t", told(n), Right(n))
			}
		}
	}
}

func TestParse(t *testing.T) {
	for _, c := range []struct {
		s    string
		want api.Number
	}{
		{"1", api.Number{Digits: "1"}},
		{"-1", api.Number{Neg: true, Digits: "1"}},
		{"120", api.Number{Digits: "12", Exp: 1}},
		{"-120", api.Number{Neg: true, Digits: "12", Exp: 1}},
		{"1000", api.Number{Digits: "1", Exp: 3}},
		{"9007199254740993", api.Number{Digits: "9007199254740993"}},
		{"0.5", api.Number{Digits: "5", Exp: -1}},
		{"-0.5", api.Number{Neg: true, Digits: "5", Exp: -1}},
		{"0.050", api.Number{Digits: "5", Exp: -2}},
		{"12.50", api.Number{Digits: "125", Exp: -1}},
		{"100.0", api.Number{Digits: "1", Exp: 2}},
		{"100.001", api.Number{Digits: "100001", Exp: -3}},
		{"-1.50e1", api.Number{Neg: true, Digits: "15"}},
		{"1.50e1", api.Number{Digits: "15"}},
		{"1e5", api.Number{Digits: "1", Exp: 5}},
		{"1E5", api.Number{Digits: "1", Exp: 5}},
		{"1e+5", api.Number{Digits: "1", Exp: 5}},
		{"1E+5", api.Number{Digits: "1", Exp: 5}},
		{"1e-5", api.Number{Digits: "1", Exp: -5}},
		{"1E-5", api.Number{Digits: "1", Exp: -5}},
		{"1e0", api.Number{Digits: "1"}},
		{"1e-0", api.Number{Digits: "1"}},
		{"1e0005", api.Number{Digits: "1", Exp: 5}},
		{"1e-0005", api.Number{Digits: "1", Exp: -5}},
		{"-120.0340e-10", api.Number{Neg: true, Digits: "120034", Exp: -13}},
		{"0.001e3", api.Number{Digits: "1"}},
	} {
		checkParse(t, c.s, c.want, api.OK)
	}
}

func TestParseNought(t *testing.T) {
	for _, s := range []string{
		"0", "-0", "0.0", "-0.0", "0.00000", "0e0", "0e5", "0e-5", "0E+5", "-0.00e5", "0.000e9",
		"0e99999999999999999999", "0e-99999999999999999999", "-0.0e+99999999999999999999", "0e10001", "0e-10001",
		"0." + noughts(20000), "0." + noughts(20000) + "e20000", "0e" + noughts(5000), "0e" + strings.Repeat("9", 5000),
	} {
		checkParse(t, s, api.Number{}, api.OK)
	}
}

func TestParseDigits(t *testing.T) {
	full := strings.Repeat("9", 1000)
	for _, c := range []struct {
		s   string
		exp int
	}{
		{full, 0}, {full + noughts(1), 1}, {full + noughts(5000), 5000}, {full + "." + noughts(3000), 0}, {full + "e-10000", -10000},
		{"0." + noughts(100) + full, -1100}, {"0." + full + noughts(7), -1000}, {full[:500] + "." + full[500:], -500}, {"0.0" + full + "e+11001", 10000},
	} {
		checkParse(t, c.s, api.Number{Digits: full, Exp: c.exp}, api.OK)
		checkParse(t, "-"+c.s, api.Number{Neg: true, Digits: full, Exp: c.exp}, api.OK)
	}
	more := full + "9"
	for _, s := range []string{
		more, more + "000", "0." + more, "0.00" + more + "000", more[:500] + "." + more[500:], more + "e0", more + "e-1001", more + "e10000",
		"1" + noughts(999) + "1", "1." + noughts(999) + "1", strings.Repeat("1", 100000),
	} {
		checkParse(t, s, api.Number{}, api.ErrBig)
		checkParse(t, "-"+s, api.Number{}, api.ErrBig)
	}
}

func TestParsePower(t *testing.T) {
	for _, exp := range []int{10000, 10001, -10000, -10001, 9999, -9999, 5000, -5000, 20000, -20000} {
		want, e := api.Number{Digits: "1", Exp: exp}, api.OK
		if exp > 10000 || exp < -10000 {
			want, e = api.Number{}, api.ErrBig
		}
		power := strconv.Itoa
		for _, s := range []string{
			"1e" + power(exp), "1.00e" + power(exp), "100e" + power(exp-2), "10e" + power(exp-1), "0.1e" + power(exp+1), "0.00100e" + power(exp+3),
			"1" + noughts(30000) + "e" + power(exp-30000), "0." + noughts(29999) + "1e" + power(exp+30000), "1" + noughts(7) + "." + noughts(7) + "e" + power(exp-7),
		} {
			checkParse(t, s, want, e)
		}
		if exp > 0 {
			checkParse(t, "1"+noughts(exp), want, e)
			checkParse(t, "1"+noughts(exp-5)+"e5", want, e)
			checkParse(t, "1e+"+power(exp), want, e)
			checkParse(t, "1e"+noughts(50)+power(exp), want, e)
		} else {
			checkParse(t, "0."+noughts(-exp-1)+"1", want, e)
			checkParse(t, "0."+noughts(-exp-1-5)+"1e-5", want, e)
			checkParse(t, "1e-"+noughts(50)+power(-exp), want, e)
		}
	}
	checkParse(t, "12e10000", api.Number{Digits: "12", Exp: 10000}, api.OK)
	checkParse(t, "12.5e10000", api.Number{Digits: "125", Exp: 9999}, api.OK)
	checkParse(t, "12.5e10001", api.Number{Digits: "125", Exp: 10000}, api.OK)
	checkParse(t, "12.5e-10000", api.Number{}, api.ErrBig)
	checkParse(t, "12.5e-9999", api.Number{Digits: "125", Exp: -10000}, api.OK)
	checkParse(t, "1.5e-10000", api.Number{}, api.ErrBig)
}

// TestParsePowerBeyondAnyInt has powers that would be small ones, if they were counted in 32 or 64 bits.
func TestParsePowerBeyondAnyInt(t *testing.T) {
	for _, power := range []string{
		"2147483647", "2147483648", "4294967295", "4294967296", "4294967297", "9223372036854775807", "9223372036854775808",
		"18446744073709551615", "18446744073709551616", "18446744073709551617", "99999999999999999999",
		"340282366920938463463374607431768211456", "1" + noughts(64), strings.Repeat("9", 5000), noughts(30) + "18446744073709551617",
	} {
		for _, sign := range []string{"e", "E", "e+", "e-", "E-"} {
			for _, s := range []string{"1", "-1", "120", "0.5", "1" + noughts(20000), "0." + noughts(20000) + "1"} {
				checkParse(t, s+sign+power, api.Number{}, api.ErrBig)
			}
			checkParse(t, "0"+sign+power, api.Number{}, api.OK)
			checkParse(t, "-0.00"+sign+power, api.Number{}, api.OK)
		}
	}
}

// TestParsePowerMadeUpFor has great powers, and noughts that bring them back to 0: more of them than a text of MaxBytes has bytes.
func TestParsePowerMadeUpFor(t *testing.T) {
	const many = 3 << 20
	power := strconv.Itoa
	for _, c := range []struct {
		s string
		e api.Errno
	}{
		{"0." + noughts(many) + "7e" + power(many+1), api.OK},
		{"7" + noughts(many) + "e-" + power(many), api.OK},
		{"7" + noughts(many) + "." + noughts(many) + "e-" + power(many), api.OK},
		{"0." + noughts(many) + "7e" + power(many+10002), api.ErrBig},
		{"7" + noughts(many) + "e-" + power(many+10001), api.ErrBig},
		{"7" + noughts(many), api.ErrBig},
		{"0." + noughts(many) + "7", api.ErrBig},
	} {
		want := api.Number{Digits: "7"}
		if c.e != api.OK {
			want = api.Number{}
		}
		if n, e := Parse(c.s); n != want || e != c.e {
			t.Errorf("Parse(%s): got %s, %d, want %s, %d", short(c.s), told(n), e, told(want), c.e)
		}
	}
}

func TestParseWrong(t *testing.T) {
	for _, s := range []string{
		"", "-", "01", "-01", "00", "-00", "007", "00.5", "1.", "-1.", "0.", ".5", "-.5", ".", "1.e5", ".e5", "1..5", "1.5.", "1.2.3",
		"1e", "1E", "1e+", "1e-", "1E+", "1.5e", "1.5e-", "1e5.", "1e5.5", "1e1e1", "1ee1", "1e+-1", "1e--1", "e5", "E5", "e", "-e5", "1.e", "1e.5",
		"+1", "+", "+0", "-+1", "+-1", "--1", "1-", "1+", "1-1", " 1", "1 ", "- 1", "1 .5", "1e 5", "1e5 ", " ", "\t1", "1\n", "\n", "\r1", "1\x00", "\x00", "1\xA0",
		"?", "1x", "x1", "0x10", "0b1", "0o7", "1_000", "1,5", "1f", "1d", "NaN", "Inf", "-Infinity", "\u0661", "1\u0660", "1\u2009", "\u22121", "1\xFF", "\xFF", "1e\u0665",
		strings.Repeat("9", 5000) + "x", "0" + strings.Repeat("9", 5000), "1e99999999999999999999x",
	} {
		checkParse(t, s, api.Number{}, api.ErrForm)
	}
}

func TestScan(t *testing.T) {
	for _, c := range []struct {
		s    string
		want int
	}{
		{"", 0}, {"-", 0}, {"-x", 0}, {"x", 0}, {"--1", 0}, {"+1", 0}, {".5", 0}, {" 1", 0}, {"e5", 0}, {"-.5", 0}, {"-e5", 0}, {"\xFF", 0},
		{"0", 1}, {"01", 1}, {"00", 1}, {"-01", 2}, {"-0", 2}, {"1e", 1}, {"1.x", 1}, {"1.", 1}, {"1e+", 1}, {"1e-", 1}, {"1e+x", 1}, {"1ex", 1}, {"1.e5", 1}, {"0e", 1}, {"0.", 1}, {"0.e1", 1},
		{"12a", 2}, {"12 ", 2}, {"12,34", 2}, {"-12]", 3}, {"1-2", 1}, {"1+2", 1}, {"1.2.3", 3}, {"1.5e", 3}, {"1.5e-", 3}, {"1.5e-x", 3}, {"1e5e5", 3}, {"1e5.5", 3}, {"1e+5.", 4}, {"1e5-5", 3},
		{"-0.5e3x", 6}, {"0.5", 3}, {"10.00E+007}", 10}, {"1e05", 4}, {"1\x00", 1}, {"1\xE2\x82\xAC", 1},
		{"1e99999999999999999999,", 22}, {strings.Repeat("9", 5000) + "x", 5000}, {"0." + noughts(5000) + ".", 5002}, {"1" + strings.Repeat("e", 5000), 1},
	} {
		if got := Scan(c.s); got != c.want || scan(c.s[:min(len(c.s), 60)]) != min(c.want, 60) {
			t.Errorf("Scan(%s): got %d, want %d", short(c.s), got, c.want)
		}
	}
}

// TestAllShortTexts holds all texts of the signs that matter against the model.
func TestAllShortTexts(t *testing.T) {
	l := append(texts("015-+.eE x", 5), texts("01-.e", 7)...)
	for c := range 256 { // each byte in each state
		for _, ahead := range []string{"", "-", "0", "1", "1.", "1.5", "1e", "1e+", "1e5", "0.", "0e", "-0e-"} {
			l = append(l, ahead+string([]byte{byte(c)}), ahead+string([]byte{byte(c), '1'}))
		}
	}
	for _, s := range l {
		if got := Scan(s); got != scan(s) {
			t.Errorf("Scan(%q): got %d, want %d", s, got, scan(s))
		}
		n, e := Parse(s)
		if want, wantError := parse(s); n != want || e != wantError {
			t.Errorf("Parse(%q): got %s, %d, want %s, %d", s, told(n), e, told(want), wantError)
		}
		if e == api.OK && !Right(n) {
			t.Errorf("Parse(%q): %s isn't right", s, told(n))
		}
	}
}

// P6.2: Print and Compare

func TestPrint(t *testing.T) {
	for _, c := range []struct {
		n    api.Number
		want string
	}{
		{api.Number{}, "0"},
		{api.Number{Digits: "1"}, "1"},
		{api.Number{Neg: true, Digits: "15"}, "-15"},
		{api.Number{Digits: "12", Exp: 1}, "120"},
		{api.Number{Neg: true, Digits: "12", Exp: 1}, "-120"},
		{api.Number{Digits: "1", Exp: 19}, "10000000000000000000"},
		{api.Number{Digits: "1", Exp: 20}, "100000000000000000000"},
		{api.Number{Digits: "1", Exp: 21}, "1e21"},
		{api.Number{Neg: true, Digits: "25", Exp: 20}, "-2500000000000000000000"},
		{api.Number{Neg: true, Digits: "25", Exp: 21}, "-25e21"},
		{api.Number{Digits: "5", Exp: -1}, "0.5"},
		{api.Number{Digits: "25", Exp: -1}, "2.5"},
		{api.Number{Neg: true, Digits: "125", Exp: -1}, "-12.5"},
		{api.Number{Digits: "5", Exp: -2}, "0.05"},
		{api.Number{Digits: "25", Exp: -2}, "0.25"},
		{api.Number{Neg: true, Digits: "125", Exp: -2}, "-1.25"},
		{api.Number{Digits: "1", Exp: -20}, "0.00000000000000000001"},
		{api.Number{Digits: "1234567890123456789", Exp: -20}, "0.01234567890123456789"},
		{api.Number{Digits: "12345678901234567891", Exp: -20}, "0.12345678901234567891"},
		{api.Number{Digits: "123456789012345678912", Exp: -20}, "1.23456789012345678912"},
		{api.Number{Digits: "1", Exp: -21}, "1e-21"},
		{api.Number{Neg: true, Digits: "123456789012345678912", Exp: -21}, "-123456789012345678912e-21"},
		{api.Number{Digits: "1234567890123456789123", Exp: -21}, "1234567890123456789123e-21"},
		{api.Number{Digits: "12345678901234567891", Exp: 20}, "12345678901234567891" + noughts(20)},
		{api.Number{Digits: "12345678901234567891", Exp: 21}, "12345678901234567891e21"},
		{api.Number{Digits: "1", Exp: 10000}, "1e10000"},
		{api.Number{Neg: true, Digits: "1", Exp: -10000}, "-1e-10000"},
		{api.Number{Neg: true, Digits: strings.Repeat("9", 1000)}, "-" + strings.Repeat("9", 1000)},
		{api.Number{Digits: strings.Repeat("9", 1000), Exp: -20}, strings.Repeat("9", 980) + "." + strings.Repeat("9", 20)},
		{api.Number{Digits: strings.Repeat("9", 1000), Exp: -10000}, strings.Repeat("9", 1000) + "e-10000"},
	} {
		if got := Print(c.n); got != c.want || printed(c.n) != c.want {
			t.Errorf("Print(%s): got %s, want %s", told(c.n), short(got), short(c.want))
		}
	}
}

// TestPrintByLength has digits of all lengths up to 45 by powers of all from -45 to 45, so also one digit less and more than the power has noughts.
func TestPrintByLength(t *testing.T) {
	for length := 1; length <= 45; length++ {
		for exp := -45; exp <= 45; exp++ {
			digits := strings.Repeat("1203456789", 5)[:length-1] + "7"
			for _, neg := range []bool{false, true} {
				n := api.Number{Neg: neg, Digits: digits, Exp: exp}
				if got := Print(n); got != printed(n) {
					t.Errorf("Print(%s): got %s, want %s", told(n), short(got), short(printed(n)))
				}
			}
		}
	}
}

func TestPrintWrong(t *testing.T) {
	for _, n := range wrongOnes() {
		if got := Print(n); got != "" {
			t.Errorf("Print(%s): got %s", told(n), short(got))
		}
	}
}

func TestCompare(t *testing.T) {
	rising := []api.Number{
		{Neg: true, Digits: strings.Repeat("9", 1000), Exp: 10000}, {Neg: true, Digits: "9", Exp: 10000}, {Neg: true, Digits: "1", Exp: 10000}, {Neg: true, Digits: "1", Exp: 50},
		{Neg: true, Digits: "11", Exp: 1}, {Neg: true, Digits: "1", Exp: 2}, {Neg: true, Digits: "99"}, {Neg: true, Digits: "125", Exp: -1}, {Neg: true, Digits: "12"}, {Neg: true, Digits: "1"},
		{Neg: true, Digits: "99", Exp: -2}, {Neg: true, Digits: "1", Exp: -3}, {Neg: true, Digits: "1", Exp: -10000},
		{},
		{Digits: "1", Exp: -10000}, {Digits: "11", Exp: -10000}, {Digits: strings.Repeat("9", 1000), Exp: -10000}, {Digits: "1", Exp: -300}, {Digits: "1", Exp: -3}, {Digits: "99", Exp: -2}, {Digits: "999", Exp: -3},
		{Digits: "1"}, {Digits: "1" + noughts(998) + "1", Exp: -999}, {Digits: "11", Exp: -1}, {Digits: "2"}, {Digits: "9"}, {Digits: "95", Exp: -1}, {Digits: "1", Exp: 1}, {Digits: "12"}, {Digits: "121", Exp: -1}, {Digits: "125", Exp: -1}, {Digits: "13"},
		{Digits: "99"}, {Digits: "1", Exp: 2}, {Digits: "1005", Exp: -1}, {Digits: "101"}, {Digits: "11", Exp: 1}, {Digits: "1", Exp: 21}, {Digits: strings.Repeat("9", 1000)}, {Digits: "1", Exp: 1000}, {Digits: "1", Exp: 10000}, {Digits: "9", Exp: 10000}, {Digits: "91", Exp: 10000},
	}
	for i, a := range rising {
		for k, b := range rising {
			want := max(-1, min(1, i-k))
			if got := Compare(a, b); got != want {
				t.Errorf("Compare(%s, %s): got %d, want %d", told(a), told(b), got, want)
			}
		}
	}
}

// TestCompareValues holds all pairs of many numbers against Go's own whole ones, and each against the other way round.
func TestCompareValues(t *testing.T) {
	l := rightOnes()
	for _, digits := range []string{"1", "2", "19", "2001", "20010001", "199999"} {
		for exp := -10; exp <= 4; exp++ {
			l = append(l, api.Number{Digits: digits, Exp: exp}, api.Number{Neg: true, Digits: digits, Exp: exp})
		}
	}
	values := make([]*big.Int, len(l))
	for i, n := range l {
		values[i] = scaled(n)
	}
	for i, a := range l {
		for k, b := range l[:i+1] {
			want := values[i].Cmp(values[k])
			if got, back := Compare(a, b), Compare(b, a); got != want || back != -want {
				t.Errorf("Compare(%s, %s): got %d, and %d the other way round, want %d", told(a), told(b), got, back, want)
			}
			if (want == 0) != (a == b) {
				t.Errorf("%s, %s: each number is told in one way", told(a), told(b))
			}
		}
	}
}

func TestCompareWrong(t *testing.T) {
	for _, wrong := range wrongOnes() {
		for _, n := range append(wrongOnes()[:9], api.Number{}, api.Number{Digits: "1"}, api.Number{Neg: true, Digits: "1"}, api.Number{Digits: "9", Exp: 10000}, api.Number{Neg: true, Digits: "9", Exp: 10000}) {
			if a, b := Compare(wrong, n), Compare(n, wrong); a != 0 || b != 0 {
				t.Errorf("Compare(%s, %s): got %d, and %d the other way round", told(wrong), told(n), a, b)
			}
		}
	}
}

// P6.3: Whole and Of

func checkWhole(t *testing.T, n api.Number, want uint64, wantOK bool) {
	t.Helper()
	if got, ok := Whole(n); got != want || ok != wantOK {
		t.Errorf("Whole(%s): got %d, %t, want %d, %t", told(n), got, ok, want, wantOK)
	}
}

func TestWhole(t *testing.T) {
	for _, c := range []struct {
		s    string
		want uint64
		ok   bool
	}{
		{"0", 0, true}, {"-0", 0, true}, {"0.000e9", 0, true}, {"1", 1, true}, {"10", 10, true}, {"12.50e1", 125, true}, {"1200", 1200, true}, {"9007199254740993", 9007199254740993, true},
		{"4294967296", 1 << 32, true}, {"9223372036854775807", 1<<63 - 1, true}, {"9223372036854775808", 1 << 63, true},
		{"18446744073709551615", math.MaxUint64, true}, {"1.8446744073709551615e19", math.MaxUint64, true}, {"18446744073709551614", math.MaxUint64 - 1, true}, {"18446744073709551610", math.MaxUint64 - 5, true}, {"1e19", 10000000000000000000, true}, {"184467440737095516e2", 18446744073709551600, true},
		{"18446744073709551616", 0, false}, {"18446744073709551617", 0, false}, {"18446744073709551620", 0, false}, {"2e19", 0, false}, {"1e20", 0, false}, {"1e21", 0, false}, {"5e20", 0, false}, {"1e10000", 0, false}, {"36893488147419103232", 0, false}, {strings.Repeat("9", 1000), 0, false}, {"99999999999999999999", 0, false},
		{"-1", 0, false}, {"-10", 0, false}, {"-18446744073709551615", 0, false}, {"-0.5", 0, false}, {"0.5", 0, false}, {"1.5", 0, false}, {"10.5", 0, false}, {"1e-1", 0, false}, {"1e-10000", 0, false}, {"15e-1", 0, false}, {"18446744073709551615.5", 0, false}, {"18446744073709551614.9", 0, false},
	} {
		n, e := Parse(c.s)
		if e != api.OK {
			t.Errorf("Parse(%s): got %d", c.s, e)
		}
		checkWhole(t, n, c.want, c.ok)
	}
}

func TestWholeValues(t *testing.T) {
	for _, n := range rightOnes() {
		want, wantOK := whole(n)
		checkWhole(t, n, want, wantOK)
	}
	for exp := -2; exp <= 22; exp++ {
		for digit := 1; digit <= 9; digit++ {
			n := api.Number{Digits: strconv.Itoa(digit), Exp: exp}
			want, wantOK := whole(n)
			checkWhole(t, n, want, wantOK)
		}
	}
}

func TestWholeWrong(t *testing.T) {
	for _, n := range wrongOnes() {
		checkWhole(t, n, 0, false)
	}
}

func TestOf(t *testing.T) {
	for _, c := range []struct {
		n    uint64
		want api.Number
	}{
		{0, api.Number{}}, {1, api.Number{Digits: "1"}}, {9, api.Number{Digits: "9"}}, {10, api.Number{Digits: "1", Exp: 1}}, {101, api.Number{Digits: "101"}}, {1200, api.Number{Digits: "12", Exp: 2}},
		{10000000000000000000, api.Number{Digits: "1", Exp: 19}}, {1 << 63, api.Number{Digits: "9223372036854775808"}}, {math.MaxUint64 - 5, api.Number{Digits: "1844674407370955161", Exp: 1}}, {math.MaxUint64, api.Number{Digits: "18446744073709551615"}},
	} {
		if got := Of(c.n); got != c.want {
			t.Errorf("Of(%d): got %s, want %s", c.n, told(got), told(c.want))
		}
	}
}

// TestOfAndWhole goes through numbers there and back: small ones, and those around each power of 2 and of 10.
func TestOfAndWhole(t *testing.T) {
	var l []uint64
	for n := range uint64(20000) {
		l = append(l, n, math.MaxUint64-n)
	}
	for bit := range 64 {
		for near := range uint64(7) {
			l = append(l, 1<<bit-3+near)
		}
	}
	for power := uint64(1); power <= 1e18; power *= 10 {
		l = append(l, power-1, power, power+1, 10*power-1, 10*power, 10*power+1)
	}
	for _, w := range l {
		n := Of(w)
		if want, _ := parse(strconv.FormatUint(w, 10)); n != want {
			t.Errorf("Of(%d): got %s, want %s", w, told(n), told(want))
		}
		checkWhole(t, n, w, true)
		if got := Print(n); got != strconv.FormatUint(w, 10) {
			t.Errorf("Print(Of(%d)): got %s", w, got)
		}
	}
}

// P6.4: what is printed is parsed as it was

func checkThereAndBack(t *testing.T, n api.Number) {
	t.Helper()
	s := Print(n)
	if got, e := Parse(s); got != n || e != api.OK {
		t.Errorf("%s is printed %s, and parsed as %s, %d", told(n), short(s), told(got), e)
	}
	if Scan(s) != len(s) || Scan(s+",") != len(s) {
		t.Errorf("%s is printed %s, of which %d bytes are a number's text", told(n), short(s), Scan(s))
	}
}

func TestPrintAndParse(t *testing.T) {
	for _, n := range rightOnes() {
		checkThereAndBack(t, n)
	}
	for exp := -10000; exp <= 10000; exp++ {
		checkThereAndBack(t, api.Number{Digits: "1", Exp: exp})
		checkThereAndBack(t, api.Number{Neg: true, Digits: "10" + strconv.Itoa(2*max(exp, -exp)+1), Exp: exp}) // an odd number's last digit is no nought
	}
	for length := 1; length <= 1000; length++ {
		for _, exp := range []int{-1000, -20, -1, 0, 20} {
			checkThereAndBack(t, api.Number{Digits: strings.Repeat("7", length), Exp: exp})
		}
	}
}

// TestParseAndPrint takes texts there and back, and there again.
func TestParseAndPrint(t *testing.T) {
	for _, s := range texts("0125-.e", 6) {
		n, e := Parse(s)
		if e != api.OK {
			continue
		}
		p := Print(n)
		again, e := Parse(p)
		if again != n || e != api.OK || Print(again) != p {
			t.Errorf("%s is printed %s, and that %s", s, p, Print(again))
		}
	}
}

// R4: what is answered is new memory

// kept holds what was handed in, so that it lies where an answer could share it.
var kept []byte

// shared is s as bytes, and as a text that lies where these do.
func shared(s string) ([]byte, string) {
	kept = []byte(s)
	return kept, unsafe.String(unsafe.SliceData(kept), len(kept))
}

func TestAnswersAreNew(t *testing.T) {
	for _, s := range []string{"125", "-125", "12.5", "0.125", "1250", "125e3", "125.000", "1.25E-5", "9"} {
		b, text := shared(s)
		n, _ := Parse(text)
		want := strings.Clone(n.Digits)
		for i := range b {
			b[i] = '7'
		}
		if n.Digits != want {
			t.Errorf("Parse(%s): what was written into the text changed the digits to %s", s, n.Digits)
		}
	}
	for _, exp := range []int{0, 1, -1, -2, -3, -4, 30, -30} {
		b, digits := shared("125")
		n := api.Number{Digits: digits, Exp: exp}
		p := Print(n)
		want := strings.Clone(p)
		b[1] = '7'
		if p != want {
			t.Errorf("Print(%s): what was written into the digits changed the print to %s", told(n), p)
		}
	}
}
