package frame

import (
	"bytes"
	"math"
	"math/big"
	"runtime"
	"slices"
	"strings"
	"testing"

	"tabularium/api"
)

// call is a call of a reader that reads.
type call struct {
	name string
	arg  int
}

// told is what a call answers: a byte and a number as a number, all else as bytes.
type told struct {
	n uint64
	b string
}

// do calls r.
func (c call) do(r *Reader) told {
	switch c.name {
	case "Byte":
		return told{n: uint64(r.Byte())}
	case "Number":
		return told{n: r.Number()}
	case "Take":
		return told{b: string(r.Take(c.arg))}
	case "Frame":
		return told{b: string(r.Frame(c.arg))}
	case "Text":
		return told{b: r.Text()}
	}
	panic("no call: " + c.name)
}

// calls are all that read, with each kind of argument.
var calls = []call{
	{"Byte", 0}, {"Number", 0}, {"Text", 0},
	{"Take", 0}, {"Take", 1}, {"Take", 2}, {"Take", -1}, {"Take", math.MinInt}, {"Take", math.MaxInt},
	{"Frame", 0}, {"Frame", 1}, {"Frame", -1}, {"Frame", math.MinInt}, {"Frame", math.MaxInt64},
}

// model is what the document says of a reader.
type model struct {
	b string
	e api.Errno
}

// number answers what a number is that b begins with, its size and its error, with numbers of any size.
func number(b string) (*big.Int, int, api.Errno) {
	sum := new(big.Int)
	for i := range b {
		sum.Add(sum, new(big.Int).Lsh(big.NewInt(int64(b[i]%128)), uint(7*i)))
		if sum.BitLen() > 64 || i == 9 && b[i] >= 128 {
			return nil, 0, api.ErrBig
		}
		if i > 0 && b[i] == 0 {
			return nil, 0, api.ErrForm
		}
		if b[i] < 128 {
			return sum, i + 1, api.OK
		}
	}
	return nil, 0, api.ErrShort
}

// take answers n bytes behind the first skipped ones, and takes all of them, or ErrShort.
func (m *model) take(skipped int, n *big.Int) string {
	if n.Cmp(big.NewInt(int64(len(m.b)-skipped))) > 0 {
		m.e = api.ErrShort
		return ""
	}
	end := skipped + int(n.Int64())
	out := m.b[skipped:end]
	m.b = m.b[end:]
	return out
}

func (m *model) frame(most int) string {
	n, size, e := number(m.b)
	if e != api.OK {
		m.e = e
		return ""
	}
	if n.Cmp(big.NewInt(int64(max(most, 0)))) > 0 {
		m.e = api.ErrBig
		return ""
	}
	return m.take(size, n)
}

// do answers what the document says of the call.
func (m *model) do(c call) told {
	if m.e != api.OK {
		return told{}
	}
	switch c.name {
	case "Byte":
		if s := m.take(0, big.NewInt(1)); s != "" {
			return told{n: uint64(s[0])}
		}
		return told{}
	case "Number":
		n, size, e := number(m.b)
		if e != api.OK {
			m.e = e
			return told{}
		}
		m.b = m.b[size:]
		return told{n: n.Uint64()}
	case "Take":
		return told{b: m.take(0, big.NewInt(int64(max(c.arg, 0))))}
	case "Frame":
		return told{b: m.frame(c.arg)}
	}
	return told{b: m.frame(1 << 20)}
}

func (m *model) end() api.Errno {
	if m.e == api.OK && m.b != "" {
		return api.ErrRest
	}
	return m.e
}

// checkState holds what a reader tells of itself against the model, and that telling it changes nothing.
func checkState(t *testing.T, r *Reader, m model) {
	t.Helper()
	for range 2 {
		if r.Left() != len(m.b) || r.Err() != m.e || r.End() != m.end() {
			t.Errorf("got Left %d, Err %d, End %d, want %d, %d, %d", r.Left(), r.Err(), r.End(), len(m.b), m.e, m.end())
		}
	}
}

// checkCalls makes the calls, one behind the other, of a reader of b, and holds each against the model.
func checkCalls(t *testing.T, b string, l ...call) model {
	t.Helper()
	r, m := New([]byte(b)), model{b: b}
	checkState(t, r, m)
	for i, c := range l {
		got, want := c.do(r), m.do(c)
		if got != want || r.Left() != len(m.b) || r.Err() != m.e || r.End() != m.end() {
			t.Errorf("%.40q, %v: got %.40v, Left %d, Err %d, End %d, want %.40v, %d, %d, %d",
				b, l[:i+1], got, r.Left(), r.Err(), r.End(), want, len(m.b), m.e, m.end())
			break
		}
	}
	return m
}

// checkError makes a call that meets an error: nothing is told and nothing taken, neither by it nor by any further one.
func checkError(t *testing.T, b string, c call, e api.Errno) {
	t.Helper()
	if m := checkCalls(t, b, c); m.e != e {
		t.Errorf("%.40q, %v: this test's model tells %d, want %d", b, c, m.e, e)
	}
	r := New([]byte(b))
	for _, c := range slices.Concat([]call{c}, calls, calls) {
		if got := c.do(r); got != (told{}) {
			t.Errorf("%.40q, %v: got %v beside or behind an error", b, c, got)
		}
		if r.Left() != len(b) || r.Err() != e || r.End() != e {
			t.Errorf("%.40q, %v: got Left %d, Err %d, End %d, want %d, %d", b, c, r.Left(), r.Err(), r.End(), len(b), e)
		}
	}
}

// put is what the document says of Put.
func put(l ...string) string {
	var out strings.Builder
	for _, s := range l {
		n := len(s)
		for ; n >= 128; n /= 128 {
			out.WriteByte(byte(n%128 + 128))
		}
		out.WriteByte(byte(n))
		out.WriteString(s)
	}
	return out.String()
}

// split is what the document says of Split.
func split(b string) ([]string, api.Errno) {
	var l []string
	m := model{b: b}
	for m.b != "" {
		one := m.frame(math.MaxInt64)
		if m.e != api.OK {
			return nil, m.e
		}
		l = append(l, one)
	}
	return l, api.OK
}

func checkSplit(t *testing.T, b string, want []string, e api.Errno) {
	t.Helper()
	l, got := Split([]byte(b))
	if got != e || !slices.EqualFunc(l, want, func(b []byte, s string) bool { return string(b) == s }) {
		t.Errorf("Split(%.40x): got %d frames, %d, want %d, %d", b, len(l), got, len(want), e)
	}
}

func asBytes(l []string) [][]byte {
	out := make([][]byte, len(l))
	for i, s := range l {
		out[i] = []byte(s)
	}
	return out
}

// sample answers size bytes that follow from a short rule.
func sample(size int) string {
	out := make([]byte, size)
	n := uint32(size)*2654435761 + 12345
	for i := range out {
		n = n*1664525 + 1013904223
		out[i] = byte(n >> 24)
	}
	return string(out)
}

// lists are frames' bytes.
func lists() [][]string {
	out := [][]string{
		nil, {""}, {"a"}, {"a", ""}, {"", "a"}, {"", "", ""}, {"ab", "", "\x09"}, {"\x00"}, {"\x80"}, {"\xFF\xFF"},
		{"\x01a", "\x00\x00"}, {"\xC0\x80", "\xED\xA0\x80"},
	}
	for _, size := range []int{1, 2, 126, 127, 128, 129, 255, 256, 16383, 16384, 70000} {
		out = append(out, []string{sample(size)}, []string{"x", sample(size), "", sample(size), "yz"})
	}
	var many []string
	for size := range 300 {
		many = append(many, sample(size))
	}
	return append(out, many)
}

// wrong are bytes that no frame begins, and what Split says of them.
var wrong = []struct {
	b string
	e api.Errno
}{
	// a length that is cut short
	{"\x80", api.ErrShort},
	{"\xFF\xFF", api.ErrShort},
	{"\xFF\xFF\xFF\xFF\xFF\xFF\xFF\xFF\xFF", api.ErrShort},
	// not as it is written
	{"\x80\x00", api.ErrForm},
	{"\x81\x00a", api.ErrForm},
	{"\x81\x80\x00a", api.ErrForm},
	{"\x80\x80\x80\x80\x80\x80\x80\x80\x80\x00", api.ErrForm},
	// more than 2^64 - 1
	{"\x80\x80\x80\x80\x80\x80\x80\x80\x80\x02", api.ErrBig},
	{"\xFF\xFF\xFF\xFF\xFF\xFF\xFF\xFF\xFF\x7F", api.ErrBig},
	{"\x80\x80\x80\x80\x80\x80\x80\x80\x80\x80\x01", api.ErrBig},
	{"\xFF\xFF\xFF\xFF\xFF\xFF\xFF\xFF\xFF\xFF", api.ErrBig},
	// more than the bytes that are left
	{"\x01", api.ErrShort},
	{"\x02a", api.ErrShort},
	{"\x7F", api.ErrShort},
	{"\x80\x01", api.ErrShort},
	{"\xFF\xFF\xFF\xFF\x07", api.ErrShort},
	{"\x80\x80\x80\x80\x08abc", api.ErrShort},
	{"\xFF\xFF\xFF\xFF\x0Fabc", api.ErrShort},
	{"\x80\x80\x80\x80\x10", api.ErrShort},
	{"\x80\x80\x80\x80\x80\x80\x80\x80\x40abc", api.ErrShort},
	{"\xFE\xFF\xFF\xFF\xFF\xFF\xFF\xFF\x7F", api.ErrShort},
	{"\xFF\xFF\xFF\xFF\xFF\xFF\xFF\xFF\x7F", api.ErrShort},      // 2^63 - 1
	{"\xFF\xFF\xFF\xFF\xFF\xFF\xFF\xFF\x7Fabc", api.ErrShort},   // the same, with some bytes
	{"\x80\x80\x80\x80\x80\x80\x80\x80\x80\x01", api.ErrBig},    // 2^63
	{"\x81\x80\x80\x80\x80\x80\x80\x80\x80\x01a", api.ErrBig},   // 2^63 + 1
	{"\xFD\xFF\xFF\xFF\xFF\xFF\xFF\xFF\xFF\x01abc", api.ErrBig}, // 2^64 - 3
	{"\xFF\xFF\xFF\xFF\xFF\xFF\xFF\xFF\xFF\x01", api.ErrBig},    // 2^64 - 1
	{"\xFF\xFF\xFF\xFF\xFF\xFF\xFF\xFF\xFF\x01abc", api.ErrBig},
}

// P5.1: Put, Split

func TestPut(t *testing.T) {
	for _, c := range []struct {
		l []string
		b string
	}{
		{nil, ""},
		{[]string{""}, "\x00"},
		{[]string{"\x61"}, "\x01\x61"},
		{[]string{"\x61", ""}, "\x01\x61\x00"},
		{[]string{"", "\x61"}, "\x00\x01\x61"},
		{[]string{"ab", "", "\x09"}, "\x02ab\x00\x01\x09"},
		{[]string{sample(127)}, "\x7F" + sample(127)},
		{[]string{sample(128)}, "\x80\x01" + sample(128)},
		{[]string{sample(300), "x"}, "\xAC\x02" + sample(300) + "\x01x"},
		{[]string{sample(1 << 14)}, "\x80\x80\x01" + sample(1<<14)},
	} {
		if got := Put(asBytes(c.l)...); string(got) != c.b {
			t.Errorf("Put of %d frames: got %.40x, want %.40x", len(c.l), got, c.b)
		}
	}
	if got := Put(nil, []byte{}, nil); string(got) != "\x00\x00\x00" {
		t.Errorf("Put of nil: got %x", got)
	}
}

func TestPutNothing(t *testing.T) {
	for _, l := range [][][]byte{nil, {}} {
		if got := Put(l...); len(got) != 0 {
			t.Errorf("got %x", got)
		}
	}
}

func TestPutMany(t *testing.T) {
	for _, l := range lists() {
		if got := Put(asBytes(l)...); string(got) != put(l...) {
			t.Errorf("Put of %d frames: got %.40x, want %.40x", len(l), got, put(l...))
		}
	}
}

func TestSplit(t *testing.T) {
	for _, l := range lists() {
		checkSplit(t, put(l...), l, api.OK)
	}
	checkSplit(t, "\x00", []string{""}, api.OK)
	checkSplit(t, "\x00\x00\x02ab\x01c", []string{"", "", "ab", "c"}, api.OK)
}

func TestSplitNothing(t *testing.T) {
	for _, b := range [][]byte{nil, {}, make([]byte, 0, 9)} {
		if l, e := Split(b); len(l) != 0 || e != api.OK {
			t.Errorf("got %x, %d", l, e)
		}
	}
}

func TestSplitWrong(t *testing.T) {
	for _, w := range wrong {
		checkSplit(t, w.b, nil, w.e)
	}
}

func TestSplitWrongBehindGoodFrames(t *testing.T) {
	for _, l := range lists() {
		for _, w := range wrong {
			checkSplit(t, put(l...)+w.b, nil, w.e)
		}
	}
}

// TestSplitFirstError has frames behind a wrong one that are wrong in another way.
func TestSplitFirstError(t *testing.T) {
	checkSplit(t, "\x01a\x80\x00\x02", nil, api.ErrForm)
	checkSplit(t, "\x01a\x80\x80\x80\x80\x80\x80\x80\x80\x80\x01\x80\x00", nil, api.ErrBig)
	checkSplit(t, "\x05a\x80\x00", nil, api.ErrShort)
}

// TestSplitCutShort cuts frames at each place: those that end there are told, or ErrShort.
func TestSplitCutShort(t *testing.T) {
	for _, l := range [][]string{{"a"}, {"", ""}, {"ab", "", "\x09"}, {sample(127)}, {sample(128), "x"}, {"x", sample(300), ""}} {
		ends := map[int]int{0: 0} // how many frames end at a place
		for i := range l {
			ends[len(put(l[:i+1]...))] = i + 1
		}
		b := []byte(put(l...))
		for size := range b {
			for _, cut := range [][]byte{b[:size], slices.Clip(bytes.Clone(b[:size]))} { // the other bytes lie in the spare room, or nowhere
				got, e := Split(cut)
				n, whole := ends[size]
				if whole && (e != api.OK || len(got) != n) || !whole && (e != api.ErrShort || len(got) != 0) {
					t.Errorf("Split(%.40x), of %d bytes: got %d frames, %d", cut, size, len(got), e)
				}
			}
		}
	}
}

// TestSplitMixedBytes goes through all bytes of up to six of which each is one of a few that decide.
func TestSplitMixedBytes(t *testing.T) {
	few := []byte{0, 1, 2, 3, 0x80, 0x81, 0xFF}
	var b []byte
	var deeper func()
	deeper = func() {
		l, e := split(string(b))
		checkSplit(t, string(b), l, e)
		if len(b) == 6 {
			return
		}
		for _, c := range few {
			b = append(b, c)
			deeper()
			b = b[:len(b)-1]
		}
	}
	deeper()
}

// P5.2: a reader

func TestNew(t *testing.T) {
	for _, b := range []string{"", "a", "\x80", "\xFF\xFF", sample(1000)} {
		checkState(t, New([]byte(b)), model{b: b})
	}
	checkState(t, New(nil), model{})
}

// TestGoneThrough reads bytes to their end by one call alone.
func TestGoneThrough(t *testing.T) {
	l := []string{"a", "", "bc", sample(127), sample(128), sample(300)}
	b := put(l...)
	r := New([]byte(b))
	for i := range len(b) {
		if got := r.Byte(); got != b[i] || r.Left() != len(b)-i-1 || r.Err() != api.OK {
			t.Fatalf("Byte %d: got %d, Left %d, Err %d", i, got, r.Left(), r.Err())
		}
	}
	checkState(t, r, model{})
	r = New([]byte("\x00\x7F\x80\x01\xAC\x02\xFF\xFF\xFF\xFF\xFF\xFF\xFF\xFF\xFF\x01\x05"))
	for _, n := range []uint64{0, 127, 128, 300, math.MaxUint64, 5} {
		if got := r.Number(); got != n || r.Err() != api.OK {
			t.Fatalf("Number: got %d, want %d, Err %d", got, n, r.Err())
		}
	}
	checkState(t, r, model{})
	r = New([]byte(b))
	for at, n := 0, 0; at < len(b); at, n = at+n, n+1 {
		if got := r.Take(min(n, len(b)-at)); string(got) != b[at:min(at+n, len(b))] || r.Err() != api.OK {
			t.Fatalf("Take(%d) at %d: got %x, Err %d", n, at, got, r.Err())
		}
	}
	checkState(t, r, model{})
	frames, texts := New([]byte(b)), New([]byte(b))
	for i, s := range l {
		if got := frames.Frame(len(s)); string(got) != s || frames.Left() != len(put(l[i+1:]...)) {
			t.Fatalf("Frame %d: got %x, Left %d, Err %d", i, got, frames.Left(), frames.Err())
		}
		if got := texts.Text(); got != s || texts.Left() != len(put(l[i+1:]...)) {
			t.Fatalf("Text %d: got %x, Left %d, Err %d", i, got, texts.Left(), texts.Err())
		}
	}
	checkState(t, frames, model{})
	checkState(t, texts, model{})
}

func TestMixedCalls(t *testing.T) {
	b := "\x02ab\x00\x01\x09\xAC\x02" + put("", "c", sample(200)) + "xyz"
	m := checkCalls(t, b, call{"Text", 0}, call{"Byte", 0}, call{"Number", 0}, call{"Take", 1}, call{"Number", 0},
		call{"Frame", 0}, call{"Frame", 9}, call{"Take", 0}, call{"Frame", 200}, call{"Take", -7}, call{"Take", 2}, call{"Byte", 0})
	if m.b != "" || m.e != api.OK {
		t.Errorf("this test's model tells %q, %d", m.b, m.e)
	}
}

// TestAllCalls makes all calls in all orders of up to three, of all bytes of up to three that decide.
func TestAllCalls(t *testing.T) {
	few := "\x00\x01\x02\x80\xFF"
	texts := []string{""}
	for i := 0; len(texts[i]) < 3; i++ {
		for _, c := range []byte(few) {
			texts = append(texts, texts[i]+string([]byte{c}))
		}
	}
	texts = append(texts, put("ab", "", "c"), put(sample(127)), put(sample(128)), put("", "", "", ""))
	for _, w := range wrong {
		texts = append(texts, w.b, "\x01a"+w.b)
	}
	for _, b := range texts {
		for _, first := range calls {
			for _, second := range calls {
				for _, third := range calls {
					checkCalls(t, b, first, second, third)
				}
			}
		}
	}
}

func TestByte(t *testing.T) {
	for c := range 256 {
		r := New([]byte{byte(c), 7})
		if got := r.Byte(); got != byte(c) || r.Left() != 1 || r.Err() != api.OK {
			t.Errorf("got %d, want %d", got, c)
		}
	}
}

func TestNoBytes(t *testing.T) {
	for _, c := range calls {
		if c.name == "Take" && c.arg <= 0 {
			checkCalls(t, "", c, c, c)
			continue
		}
		checkError(t, "", c, api.ErrShort)
	}
}

func TestTake(t *testing.T) {
	b := sample(10)
	for n := -3; n <= 10; n++ {
		r := New([]byte(b))
		if got := r.Take(n); string(got) != b[:max(n, 0)] || r.Err() != api.OK || r.Left() != 10-max(n, 0) {
			t.Errorf("Take(%d): got %x, Left %d, Err %d", n, got, r.Left(), r.Err())
		}
	}
	checkCalls(t, b, call{"Take", math.MinInt}, call{"Take", 10}, call{"Take", 0}, call{"Take", -1})
	for _, n := range []int{11, 12, 1 << 31, 1 << 32, 1<<32 + 1, math.MaxInt - 1, math.MaxInt} {
		checkError(t, b, call{"Take", n}, api.ErrShort)
	}
}

func TestTakeOneMoreThanAreLeft(t *testing.T) {
	for size := range 20 {
		checkError(t, sample(size), call{"Take", size + 1}, api.ErrShort)
		r := New([]byte(sample(size) + "x"))
		r.Byte()
		if got := r.Take(size + 1); len(got) != 0 || r.Err() != api.ErrShort || r.Left() != size {
			t.Errorf("got %x, Left %d, Err %d", got, r.Left(), r.Err())
		}
	}
}

func TestNumberWrong(t *testing.T) {
	for _, w := range wrong {
		if _, _, e := number(w.b); e != api.OK {
			checkError(t, w.b, call{"Number", 0}, e)
		}
	}
	checkCalls(t, "\xFF\xFF\xFF\xFF\xFF\xFF\xFF\xFF\xFF\x01", call{"Number", 0})
	checkCalls(t, "\x80\x80\x80\x80\x80\x80\x80\x80\x80\x01x", call{"Number", 0})
}

func TestFrameMost(t *testing.T) {
	for _, size := range []int{0, 1, 2, 126, 127, 128, 129, 300, 16384} {
		s := sample(size)
		for _, most := range []int{size, size + 1, 1 << 20, math.MaxInt32, 1 << 32, math.MaxInt64} {
			r := New([]byte(put(s) + "more"))
			if got := r.Frame(most); string(got) != s || r.Left() != 4 || r.Err() != api.OK {
				t.Errorf("Frame(%d) of %d bytes: got %d, Left %d, Err %d", most, size, len(got), r.Left(), r.Err())
			}
		}
		for _, most := range []int{size - 1, 0, -1, -size, math.MinInt} {
			if most >= size || size == 0 {
				continue
			}
			checkError(t, put(s)+"more", call{"Frame", most}, api.ErrBig)
			checkError(t, put(s), call{"Frame", most}, api.ErrBig)
			checkError(t, put(s)[:len(put(s))-1], call{"Frame", most}, api.ErrBig) // also short: what is told first is that it is more than most
		}
	}
	for _, most := range []int{0, -1, math.MinInt} {
		checkCalls(t, "\x00\x00x", call{"Frame", most}, call{"Frame", most}, call{"Byte", 0})
	}
}

func TestFrameWrong(t *testing.T) {
	for _, w := range wrong {
		checkError(t, w.b, call{"Frame", math.MaxInt64}, w.e)
		n, _, e := number(w.b)
		if e != api.OK {
			for _, most := range []int{-1, 0, 1, 1000} {
				checkError(t, w.b, call{"Frame", most}, e)
			}
			continue
		}
		checkError(t, w.b, call{"Frame", 0}, api.ErrBig)
		if n.IsInt64() {
			checkError(t, w.b, call{"Frame", int(n.Int64())}, api.ErrShort)
			checkError(t, w.b, call{"Frame", int(n.Int64()) - 1}, api.ErrBig)
		}
	}
}

func TestFrameCutShort(t *testing.T) {
	for _, size := range []int{1, 2, 127, 128, 300} {
		b := put(sample(size))
		for cut := range b {
			checkError(t, b[:cut], call{"Frame", size}, api.ErrShort)
			checkError(t, b[:cut], call{"Text", 0}, api.ErrShort)
			r := New([]byte(b)[:cut]) // the other bytes lie in the spare room
			if got := r.Frame(size); len(got) != 0 || r.Err() != api.ErrShort || r.Left() != cut {
				t.Errorf("cut at %d: got %x, Left %d, Err %d", cut, got, r.Left(), r.Err())
			}
		}
	}
}

func TestText(t *testing.T) {
	for _, s := range []string{"", "a", "\xE2\x82\xAC", "\xFF\x00\xC0\x80", sample(127), sample(128), sample(1<<20 - 1), sample(1 << 20)} {
		r := New([]byte(put(s) + "x"))
		if got := r.Text(); got != s || r.Left() != 1 || r.Err() != api.OK {
			t.Errorf("Text of %d bytes: got %d, Left %d, Err %d", len(s), len(got), r.Left(), r.Err())
		}
	}
}

func TestTextWrong(t *testing.T) {
	for _, w := range wrong {
		m := model{b: w.b}
		m.do(call{"Text", 0})
		checkError(t, w.b, call{"Text", 0}, m.e)
	}
	checkError(t, put(sample(1<<20+1)), call{"Text", 0}, api.ErrBig)
	checkError(t, "\x81\x80\x40", call{"Text", 0}, api.ErrBig)
	checkError(t, "\x80\x80\x40", call{"Text", 0}, api.ErrShort)
	checkError(t, "\xFF\xFF\xFF\xFF\xFF\xFF\xFF\xFF\x7F", call{"Text", 0}, api.ErrBig)
	// a frame may be longer than a text
	r := New([]byte(put(sample(1<<20 + 1))))
	if got := r.Frame(1<<20 + 1); string(got) != sample(1<<20+1) || r.End() != api.OK {
		t.Errorf("Frame: got %d bytes, End %d", len(got), r.End())
	}
}

func TestEnd(t *testing.T) {
	r := New(nil)
	checkState(t, r, model{})
	r = New([]byte("ab"))
	for _, left := range []string{"ab", "b"} {
		if r.End() != api.ErrRest || r.End() != api.ErrRest || r.Err() != api.OK || r.Left() != len(left) {
			t.Errorf("bytes are left: got End %d, Err %d, Left %d", r.End(), r.Err(), r.Left())
		}
		if got := r.Byte(); got != left[0] {
			t.Errorf("behind End: got %d, want %d", got, left[0])
		}
	}
	if r.End() != api.OK {
		t.Errorf("nothing is left: got %d", r.End())
	}
	if r.Byte() != 0 || r.End() != api.ErrShort || r.Err() != api.ErrShort {
		t.Errorf("behind an error: got End %d, Err %d", r.End(), r.Err())
	}
	r = New([]byte("ab"))
	r.Take(3)
	if r.End() != api.ErrShort || r.Left() != 2 {
		t.Errorf("bytes are left, and an error: got End %d, Left %d", r.End(), r.Left())
	}
}

// TestTheFirstErrorStays meets an error, and then calls that would meet another one.
func TestTheFirstErrorStays(t *testing.T) {
	for _, c := range []struct {
		b     string
		first call
		e     api.Errno
	}{
		{"\x80\x00", call{"Take", 3}, api.ErrShort},
		{"\x80\x00", call{"Number", 0}, api.ErrForm},
		{"\x02a", call{"Frame", 1}, api.ErrBig},
		{"\x02a", call{"Frame", 2}, api.ErrShort},
		{"\x02a", call{"Text", 0}, api.ErrShort},
		{"\xFF\xFF\xFF\xFF\xFF\xFF\xFF\xFF\xFF\x02", call{"Number", 0}, api.ErrBig},
	} {
		checkError(t, c.b, c.first, c.e)
	}
}

// P5.3: what is put is split into what it was; no more is laid than there is

func TestPutAndSplit(t *testing.T) {
	for _, l := range lists() {
		got, e := Split(Put(asBytes(l)...))
		if e != api.OK || !slices.EqualFunc(got, l, func(b []byte, s string) bool { return string(b) == s }) {
			t.Errorf("%d frames: got %d, %d", len(l), len(got), e)
		}
		r := New(Put(asBytes(l)...))
		for i, s := range l {
			if got := r.Frame(math.MaxInt64); string(got) != s || r.Err() != api.OK {
				t.Errorf("frame %d of %d: got %d bytes, Err %d", i, len(l), len(got), r.Err())
			}
		}
		if r.End() != api.OK {
			t.Errorf("%d frames: End %d", len(l), r.End())
		}
	}
}

// TestOneWayAlone holds bytes that are split against what is put of their frames.
func TestOneWayAlone(t *testing.T) {
	for n := range 1 << 16 {
		for _, behind := range []string{"", "a", "\x00", "\x01b"} {
			b := string([]byte{byte(n >> 8), byte(n)}) + behind
			if l, e := Split([]byte(b)); e == api.OK && string(Put(l...)) != b {
				t.Errorf("%x is split into %x, which is put as %x", b, l, Put(l...))
			}
		}
	}
}

// TestNoMoreIsLaidThanThereIs reads lengths that are far more than the bytes behind them.
func TestNoMoreIsLaidThanThereIs(t *testing.T) {
	var before, after runtime.MemStats
	runtime.ReadMemStats(&before)
	for _, w := range wrong {
		for range 10 {
			Split([]byte(w.b))
			New([]byte(w.b)).Frame(math.MaxInt64)
			New([]byte(w.b)).Text()
			New([]byte(w.b)).Take(math.MaxInt64)
			New([]byte(w.b)).Take(1 << 30)
			New([]byte("\x80\x80\x40")).Text()
		}
	}
	runtime.ReadMemStats(&after)
	if laid := after.TotalAlloc - before.TotalAlloc; laid > 1<<19 {
		t.Errorf("%d bytes were laid", laid)
	}
}

// R4: arguments and answers

// fill writes into all of b, its spare room included.
func fill(b []byte) {
	b = b[:cap(b)]
	for i := range b {
		b[i] = 0xEE
	}
}

func TestArgumentsStay(t *testing.T) {
	room := []byte("\x02ab\x00\x01cthe spare room")
	full := bytes.Clone(room)
	b := room[:6]
	Split(b)
	for _, c := range calls {
		r := New(b)
		for range 9 {
			c.do(r)
		}
	}
	l := append(make([][]byte, 0, 4), b, b[:3], nil)
	Put(l...)
	if !bytes.Equal(room, full) {
		t.Errorf("bytes that were handed in: %q, want %q", room, full)
	}
	if len(l[0]) != len(b) || &l[0][0] != &b[0] || len(l[1]) != 3 || l[2] != nil || l[:4][3] != nil {
		t.Errorf("the list that was handed in: %x", l[:cap(l)])
	}
}

func TestNewKeepsNothing(t *testing.T) {
	b := append(make([]byte, 0, 16), "\x02ab\x01c"...)
	r := New(b)
	fill(b)
	if s := r.Text(); s != "ab" {
		t.Errorf("written into behind New: got %q", s)
	}
	fill(b)
	if got := r.Frame(1); string(got) != "c" || r.End() != api.OK {
		t.Errorf("written into behind Text: got %q, End %d", got, r.End())
	}
}

func TestWhatWasToldIsNew(t *testing.T) {
	b := []byte("abcd\x02ef\x03ghi\x01j\x00k")
	r := New(b)
	first := r.Take(4)
	fill(first)
	second := r.Frame(2)
	fill(second)
	fill(r.Take(0))
	third := r.Text()
	fourth := r.Frame(math.MaxInt64)
	fill(fourth)
	fill(r.Frame(0))
	if third != "ghi" || len(second) != 2 || r.Byte() != 'k' || r.End() != api.OK {
		t.Errorf("what was told was written into: got %q, %d bytes, End %d", third, len(second), r.End())
	}
	if string(b) != "abcd\x02ef\x03ghi\x01j\x00k" {
		t.Errorf("what was handed in: %q", b)
	}
	for _, l := range [][]byte{first, second, fourth} {
		if len(bytes.Trim(l, "\xEE")) != 0 {
			t.Errorf("what was told was written into by a later call: %x", l)
		}
	}
}

func TestReadersShareNothing(t *testing.T) {
	b := []byte("\x02ab\x02cd")
	one, two := New(b), New(b)
	fill(one.Frame(2))
	if s := two.Text(); s != "ab" || one.Left() != 3 {
		t.Errorf("got %q, Left %d", s, one.Left())
	}
	one.Take(9)
	if two.Err() != api.OK || two.Text() != "cd" || two.End() != api.OK {
		t.Errorf("another reader's error: got %d", two.Err())
	}
}

func TestSplitSharesNothing(t *testing.T) {
	b := append(make([]byte, 0, 16), "\x02ab\x00\x03cde"...)
	want := []string{"ab", "", "cde"}
	for i := range want {
		l, _ := Split(b)
		fill(l[i])
		for j, s := range want {
			if j != i && string(l[j]) != s {
				t.Errorf("frame %d was written into: frame %d is %x", i, j, l[j])
			}
		}
	}
	if string(b) != "\x02ab\x00\x03cde" {
		t.Errorf("what was handed in: %q", b)
	}
	l, _ := Split(b)
	fill(b)
	if string(l[0]) != "ab" || string(l[2]) != "cde" {
		t.Errorf("written into behind Split: got %x", l)
	}
}

func TestPutSharesNothing(t *testing.T) {
	in := append(make([]byte, 0, 8), "ab"...)
	for _, l := range [][][]byte{nil, {nil}, {in}, {in, in}} {
		a, b := Put(l...), Put(l...)
		want := bytes.Clone(b)
		fill(a)
		if !bytes.Equal(b, want) || !bytes.Equal(Put(l...), want) || string(in) != "ab" {
			t.Errorf("an answer shares memory: %x, %x, want %x", b, in, want)
		}
	}
	a := Put(in)
	fill(in)
	if string(a) != "\x02ab" {
		t.Errorf("written into behind Put: got %x", a)
	}
}
