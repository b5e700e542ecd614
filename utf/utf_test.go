package utf

import (
	"math"
	"slices"
	"strings"
	"testing"
	"unicode/utf8"
)

// told is a scalar and its place.
type told struct{ at, c int }

// good are texts of one scalar: the least and the greatest one of each size, and those beside the gap.
var good = []struct {
	c int
	s string
}{
	{0x0, "\x00"},
	{0x7F, "\x7F"},
	{0x80, "\xC2\x80"},
	{0x7FF, "\xDF\xBF"},
	{0x800, "\xE0\xA0\x80"},
	{0xFFF, "\xE0\xBF\xBF"},
	{0x1000, "\xE1\x80\x80"},
	{0x20AC, "\xE2\x82\xAC"},
	{0xCFFF, "\xEC\xBF\xBF"},
	{0xD000, "\xED\x80\x80"},
	{0xD7FF, "\xED\x9F\xBF"},
	{0xE000, "\xEE\x80\x80"},
	{0xFFFD, "\xEF\xBF\xBD"},
	{0xFFFF, "\xEF\xBF\xBF"},
	{0x10000, "\xF0\x90\x80\x80"},
	{0x3FFFF, "\xF0\xBF\xBF\xBF"},
	{0x40000, "\xF1\x80\x80\x80"},
	{0xFFFFF, "\xF3\xBF\xBF\xBF"},
	{0x100000, "\xF4\x80\x80\x80"},
	{0x10FFFF, "\xF4\x8F\xBF\xBF"},
}

// wrong are bytes of which not even the beginning is a text.
var wrong = []string{
	// bytes that no scalar begins with
	"\x80", "\xBF", "\x80\x80", "\xBFa",
	"\xF5\x80\x80\x80", "\xF8\x88\x80\x80\x80", "\xFC\x84\x80\x80\x80\x80", "\xFE", "\xFF", "\xFF\xFF\xFF\xFF",
	// cut short
	"\xC2", "\xDF",
	"\xE0", "\xE0\xA0", "\xE2", "\xE2\x82", "\xED", "\xED\x9F", "\xEF", "\xEF\xBF",
	"\xF0", "\xF0\x90", "\xF0\x90\x80", "\xF1", "\xF1\x80", "\xF1\x80\x80", "\xF4", "\xF4\x8F", "\xF4\x8F\xBF",
	// written longer than need be
	"\xC0\x80", "\xC0\xBF", "\xC1\x80", "\xC1\xBF",
	"\xE0\x80\x80", "\xE0\x81\xBF", "\xE0\x9F\xBF",
	"\xF0\x80\x80\x80", "\xF0\x8F\xBF\xBF", "\xF0\x82\x82\xAC",
	// numbers that are no scalars
	"\xED\xA0\x80", "\xED\xAF\xBF", "\xED\xB0\x80", "\xED\xBF\xBF", "\xED\xA0\xBD\xED\xB8\x80",
	"\xF4\x90\x80\x80", "\xF4\xBF\xBF\xBF", "\xF7\xBF\xBF\xBF",
	// wrong bytes behind a first one
	"\xC2a", "\xC2\x7F", "\xC2\xC0", "\xC2\xC2\x80", "\xDF\x00", "\xDF\xFF",
	"\xE2a\xAC", "\xE2\x82x", "\xE2\x82\x7F", "\xE2\x82\xC0", "\xE2\x7F\xAC", "\xE2\xC0\xAC", "\xE0\xC0\x80", "\xED\x7F\xBF",
	"\xF1\x80\x80x", "\xF1\x80\x80\x7F", "\xF1\x80\x80\xC0", "\xF1\x80\x7F\x80", "\xF1\x80\xC0\x80", "\xF1\x7F\x80\x80", "\xF1\xC0\x80\x80",
	"\xF0\xC0\x80\x80", "\xF4\x7F\xBF\xBF", "\xF4\x8F\xC0\xBF", "\xF4\x8F\xBF\xC0",
	"\xE2\x82\xE2\x82\xAC", "\xF1\x80\x80\xF1\x80\x80\x80",
}

// texts are several scalars long, or none.
var texts = []string{
	"", "a", "abc", "a\x00b", "a\xE2\x82\xACb", "\xC2\x80\xDF\xBF\xE0\xA0\x80", "\xEF\xBB\xBFx",
	"\xF4\x8F\xBF\xBF\xEE\x80\x80\xED\x9F\xBF", "\xEF\xBF\xBD\xEF\xBF\xBD", "line\n\ttab\r\n\x7F",
}

func list(s string) []told {
	var l []told
	for at, c := range All(s) {
		l = append(l, told{at, c})
	}
	return l
}

// written is how the document says that a scalar is written.
func written(c int) string {
	six := func(n int) byte { return byte(0x80 + c>>n%64) }
	switch {
	case c < 0x80:
		return string([]byte{byte(c)})
	case c < 0x800:
		return string([]byte{byte(0xC0 + c>>6), six(0)})
	case c < 0x10000:
		return string([]byte{byte(0xE0 + c>>12), six(6), six(0)})
	}
	return string([]byte{byte(0xF0 + c>>18), six(12), six(6), six(0)})
}

// check holds all that is told of s against the place where it goes wrong, and the scalars ahead of it.
func check(t *testing.T, s string, bad int, scalars []told) {
	t.Helper()
	if got := Bad(s); got != bad {
		t.Errorf("Bad(%q): got %d, want %d", s, got, bad)
	}
	if got := Valid(s); got != (bad < 0) {
		t.Errorf("Valid(%q): got %v", s, got)
	}
	if got := list(s); !slices.Equal(got, scalars) {
		t.Errorf("All(%q): got %v, want %v", s, got, scalars)
	}
	n, ok := 0, bad < 0
	if ok {
		n = len(scalars)
	}
	if gotN, gotOK := Count(s); gotN != n || gotOK != ok {
		t.Errorf("Count(%q): got %d, %v, want %d, %v", s, gotN, gotOK, n, ok)
	}
}

// expected answers what the library's own decoder tells of s.
func expected(s string) (bad int, scalars []told) {
	for at := 0; at < len(s); {
		c, size := utf8.DecodeRuneInString(s[at:])
		if c == utf8.RuneError && size == 1 {
			return at, scalars
		}
		scalars = append(scalars, told{at, int(c)})
		at += size
	}
	return -1, scalars
}

func checkExpected(t *testing.T, s string) {
	t.Helper()
	bad, scalars := expected(s)
	check(t, s, bad, scalars)
}

// P2.1: Put, Valid, Bad

func TestPut(t *testing.T) {
	for _, g := range good {
		if s, ok := Put(g.c); s != g.s || !ok {
			t.Errorf("Put(%X): got %q, %v, want %q", g.c, s, ok, g.s)
		}
	}
}

func TestPutNoScalar(t *testing.T) {
	for _, c := range []int{
		-1, -2, -0x80, -0xD800, math.MinInt32, math.MinInt, math.MinInt + 1,
		0xD800, 0xD801, 0xDBFF, 0xDC00, 0xDFFE, 0xDFFF,
		0x110000, 0x110001, 0x1FFFFF, 0x200000, math.MaxInt32, math.MaxInt - 1, math.MaxInt,
		// numbers whose lower 32 bits are a scalar
		1 << 32, 1<<32 + 'a', -1<<32 + 'a', 1<<62 + 0x20AC,
	} {
		if s, ok := Put(c); s != "" || ok {
			t.Errorf("Put(%d): got %q, %v", c, s, ok)
		}
	}
}

// TestEveryNumber puts all scalars, and all numbers around them.
func TestEveryNumber(t *testing.T) {
	for c := -0x1000; c < 0x120000; c++ {
		scalar := c >= 0 && c <= 0x10FFFF && (c < 0xD800 || c > 0xDFFF)
		want := ""
		if scalar {
			want = written(c)
		}
		s, ok := Put(c)
		if s != want || ok != scalar {
			t.Fatalf("Put(%X): got %q, %v, want %q, %v", c, s, ok, want, scalar)
		}
		if !scalar {
			continue
		}
		if Bad(s) != -1 || !Valid(s) {
			t.Fatalf("%q is none", s)
		}
		for at, got := range All(s) {
			if at != 0 || got != c {
				t.Fatalf("All(%q): got %d, %X", s, at, got)
			}
		}
		if n, ok := Count(s); n != 1 || !ok {
			t.Fatalf("Count(%q): got %d, %v", s, n, ok)
		}
	}
}

func TestEmpty(t *testing.T) {
	check(t, "", -1, nil)
}

func TestTexts(t *testing.T) {
	for _, s := range texts {
		checkExpected(t, s)
		if Bad(s) != -1 {
			t.Errorf("%q is a text", s)
		}
	}
}

func TestGood(t *testing.T) {
	for _, a := range good {
		check(t, a.s, -1, []told{{0, a.c}})
		for _, b := range good {
			check(t, a.s+b.s, -1, []told{{0, a.c}, {len(a.s), b.c}})
		}
	}
}

func TestWrongAtTheStart(t *testing.T) {
	for _, s := range wrong {
		check(t, s, 0, nil)
		check(t, s+" more", 0, nil)
		check(t, s+"\xE2\x82\xAC", 0, nil)
	}
}

func TestWrongBehindAText(t *testing.T) {
	for _, s := range wrong {
		for _, g := range good {
			check(t, g.s+s, len(g.s), []told{{0, g.c}})
			check(t, g.s+s+"a", len(g.s), []told{{0, g.c}})
		}
		for _, x := range texts {
			_, scalars := expected(x)
			check(t, x+s, len(x), scalars)
		}
	}
}

// TestCutShort cuts texts within their last scalar: Bad is where that one begins.
func TestCutShort(t *testing.T) {
	for _, g := range good {
		for n := 1; n < len(g.s); n++ {
			check(t, g.s[:n], 0, nil)
			check(t, "ab"+g.s[:n], 2, []told{{0, 'a'}, {1, 'b'}})
			check(t, g.s+g.s[:n], len(g.s), []told{{0, g.c}})
		}
	}
}

func TestShortBytes(t *testing.T) {
	for a := range 256 {
		checkExpected(t, string([]byte{byte(a)}))
		for b := range 256 {
			checkExpected(t, string([]byte{byte(a), byte(b)}))
		}
	}
}

// TestLongBytes takes all first and second bytes, and of those behind them the ones beside each bound.
func TestLongBytes(t *testing.T) {
	few := []byte{0x00, 'a', 0x7F, 0x80, 0x8F, 0x90, 0x9F, 0xA0, 0xBF, 0xC0, 0xC2, 0xE0, 0xF0, 0xFF}
	for a := 0xC0; a < 256; a++ {
		for b := range 256 {
			for _, c := range few {
				s := string([]byte{byte(a), byte(b), c})
				bad, _ := expected(s)
				if got := Bad(s); got != bad {
					t.Fatalf("Bad(%q): got %d, want %d", s, got, bad)
				}
				for _, d := range few {
					s := string([]byte{byte(a), byte(b), c, d})
					bad, _ := expected(s)
					if got := Bad(s); got != bad {
						t.Fatalf("Bad(%q): got %d, want %d", s, got, bad)
					}
				}
			}
		}
	}
}

func TestLongText(t *testing.T) {
	s := strings.Repeat("a\xC2\x80\xE2\x82\xAC\xF0\x90\x80\x80", 20000)
	check(t, s, -1, func() []told { _, l := expected(s); return l }())
	if n, ok := Count(s); n != 80000 || !ok {
		t.Errorf("Count: got %d, %v", n, ok)
	}
	if got := Bad(s + "\xF0"); got != len(s) {
		t.Errorf("Bad: got %d, want %d", got, len(s))
	}
	if n, ok := Count(s + "\xF0"); n != 0 || ok {
		t.Errorf("Count: got %d, %v", n, ok)
	}
}

// P2.2: All, Count

func TestAllExample(t *testing.T) {
	check(t, "a\xE2\x82\xACb\xFFcd", 5, []told{{0, 'a'}, {1, 0x20AC}, {4, 'b'}})
}

// TestAllStops stops behind each number of scalars, and is told of none any more then.
func TestAllStops(t *testing.T) {
	for _, s := range append(texts, "a\xE2\x82\xACb\xFF", "\xFF", "ab\xC0\x80") {
		_, scalars := expected(s)
		for n := 1; n <= len(scalars); n++ {
			var got []told
			All(s)(func(at, c int) bool {
				got = append(got, told{at, c})
				return len(got) < n
			})
			if !slices.Equal(got, scalars[:n]) {
				t.Errorf("All(%q), stopped at %d: got %v", s, n, got)
			}
		}
	}
}

func TestAllStopsInALoop(t *testing.T) {
	n := 0
	for at, c := range All("a\xE2\x82\xACb\xFF") {
		n++
		if at == 1 && c == 0x20AC {
			break
		}
	}
	if n != 2 {
		t.Errorf("got %d scalars", n)
	}
}

// TestAllAgain goes through one iterator several times, stopped early and within itself: it begins anew each time.
func TestAllAgain(t *testing.T) {
	const s = "x\xC2\x80\xE2\x82\xAC\xFF"
	want := []told{{0, 'x'}, {1, 0x80}, {3, 0x20AC}}
	all := All(s)
	for range all {
		break
	}
	for range 3 {
		var got []told
		for at, c := range all {
			got = append(got, told{at, c})
			inner := 0
			for range all {
				inner++
			}
			if inner != len(want) {
				t.Errorf("within: got %d scalars", inner)
			}
		}
		if !slices.Equal(got, want) {
			t.Errorf("got %v, want %v", got, want)
		}
	}
}

func TestAllOfNothing(t *testing.T) {
	for _, s := range []string{"", "\xFF", "\xC0\x80", "\xE2\x82"} {
		if All(s) == nil {
			t.Errorf("All(%q) is nil", s)
		}
		for at, c := range All(s) {
			t.Errorf("All(%q): got %d, %X", s, at, c)
		}
	}
}

func TestCount(t *testing.T) {
	for _, c := range []struct {
		s  string
		n  int
		ok bool
	}{
		{"", 0, true}, {"a", 1, true}, {"\x00\x00", 2, true}, {"a\xE2\x82\xAC", 2, true}, {"\xF4\x8F\xBF\xBF", 1, true},
		{"\xFF", 0, false}, {"a\xFF", 0, false}, {"\xFFa", 0, false}, {"\xE2\x82\xAC\xE2\x82", 0, false},
	} {
		if n, ok := Count(c.s); n != c.n || ok != c.ok {
			t.Errorf("Count(%q): got %d, %v, want %d, %v", c.s, n, ok, c.n, c.ok)
		}
	}
}
