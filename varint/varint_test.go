package varint

import (
	"bytes"
	"math"
	"math/big"
	"slices"
	"testing"

	"tabularium/api"
)

// edges are the least and the greatest number of each length, and some more.
var edges = []struct {
	n uint64
	b string
}{
	{0, "\x00"},
	{1, "\x01"},
	{0x7F, "\x7F"},
	{0x80, "\x80\x01"},
	{0x81, "\x81\x01"},
	{0xFF, "\xFF\x01"},
	{300, "\xAC\x02"},
	{1<<14 - 1, "\xFF\x7F"},
	{1 << 14, "\x80\x80\x01"},
	{1<<21 - 1, "\xFF\xFF\x7F"},
	{1 << 21, "\x80\x80\x80\x01"},
	{1<<28 - 1, "\xFF\xFF\xFF\x7F"},
	{1 << 28, "\x80\x80\x80\x80\x01"},
	{math.MaxInt32, "\xFF\xFF\xFF\xFF\x07"},
	{math.MaxUint32, "\xFF\xFF\xFF\xFF\x0F"},
	{1 << 32, "\x80\x80\x80\x80\x10"},
	{1<<35 - 1, "\xFF\xFF\xFF\xFF\x7F"},
	{1 << 35, "\x80\x80\x80\x80\x80\x01"},
	{1<<42 - 1, "\xFF\xFF\xFF\xFF\xFF\x7F"},
	{1 << 42, "\x80\x80\x80\x80\x80\x80\x01"},
	{1<<49 - 1, "\xFF\xFF\xFF\xFF\xFF\xFF\x7F"},
	{1 << 49, "\x80\x80\x80\x80\x80\x80\x80\x01"},
	{1<<56 - 1, "\xFF\xFF\xFF\xFF\xFF\xFF\xFF\x7F"},
	{1 << 56, "\x80\x80\x80\x80\x80\x80\x80\x80\x01"},
	{0x0102030405060708, "\x88\x8E\x98\xA8\xC0\xE0\x80\x81\x01"},
	{1<<63 - 1, "\xFF\xFF\xFF\xFF\xFF\xFF\xFF\xFF\x7F"},
	{1 << 63, "\x80\x80\x80\x80\x80\x80\x80\x80\x80\x01"},
	{1<<63 + 1, "\x81\x80\x80\x80\x80\x80\x80\x80\x80\x01"},
	{1<<64 - 2, "\xFE\xFF\xFF\xFF\xFF\xFF\xFF\xFF\xFF\x01"},
	{1<<64 - 1, "\xFF\xFF\xFF\xFF\xFF\xFF\xFF\xFF\xFF\x01"},
}

// wrong are bytes that no number begins, and what Get says of them.
var wrong = []struct {
	b string
	e api.Errno
}{
	{"", api.ErrShort},
	// the last byte is 0
	{"\x80\x00", api.ErrForm},
	{"\x81\x00", api.ErrForm},
	{"\xFF\x00", api.ErrForm},
	{"\x80\x80\x00", api.ErrForm},
	{"\xFF\x80\x00", api.ErrForm},
	{"\xFF\xFF\xFF\x00", api.ErrForm},
	{"\x80\x80\x80\x80\x80\x80\x80\x80\x00", api.ErrForm},
	{"\x80\x80\x80\x80\x80\x80\x80\x80\x80\x00", api.ErrForm},
	{"\xFF\xFF\xFF\xFF\xFF\xFF\xFF\xFF\xFF\x00", api.ErrForm},
	{"\x80\x00\x01", api.ErrForm},
	{"\x80\x00\x80", api.ErrForm},
	{"\xFF\xFF\xFF\xFF\xFF\xFF\xFF\xFF\xFF\x00\x01", api.ErrForm},
	// the tenth byte
	{"\x80\x80\x80\x80\x80\x80\x80\x80\x80\x02", api.ErrBig},
	{"\xFF\xFF\xFF\xFF\xFF\xFF\xFF\xFF\xFF\x02", api.ErrBig},
	{"\xFF\xFF\xFF\xFF\xFF\xFF\xFF\xFF\xFF\x03", api.ErrBig},
	{"\x80\x80\x80\x80\x80\x80\x80\x80\x80\x40", api.ErrBig},
	{"\xFF\xFF\xFF\xFF\xFF\xFF\xFF\xFF\xFF\x7F", api.ErrBig},
	{"\xFF\xFF\xFF\xFF\xFF\xFF\xFF\xFF\xFF\x80", api.ErrBig},
	{"\xFF\xFF\xFF\xFF\xFF\xFF\xFF\xFF\xFF\x81", api.ErrBig},
	{"\xFF\xFF\xFF\xFF\xFF\xFF\xFF\xFF\xFF\x82", api.ErrBig},
	{"\xFF\xFF\xFF\xFF\xFF\xFF\xFF\xFF\xFF\xFF", api.ErrBig},
	{"\x80\x80\x80\x80\x80\x80\x80\x80\x80\x80", api.ErrBig},
	// bytes behind the tenth one
	{"\xFF\xFF\xFF\xFF\xFF\xFF\xFF\xFF\xFF\xFF\xFF", api.ErrBig},
	{"\x80\x80\x80\x80\x80\x80\x80\x80\x80\x80\x80", api.ErrBig},
	{"\x80\x80\x80\x80\x80\x80\x80\x80\x80\x80\x00", api.ErrBig},
	{"\x80\x80\x80\x80\x80\x80\x80\x80\x80\x80\x01", api.ErrBig},
	{"\x80\x80\x80\x80\x80\x80\x80\x80\x80\x81\x01", api.ErrBig},
	{"\x80\x80\x80\x80\x80\x80\x80\x80\x80\x02\x00", api.ErrBig},
}

// written is how the document says that n is written.
func written(n uint64) []byte {
	var groups []byte
	for left := new(big.Int).SetUint64(n); left.Sign() > 0; left.Rsh(left, 7) {
		groups = append(groups, byte(left.Uint64()%128))
	}
	if len(groups) == 0 {
		groups = []byte{0}
	}
	for i := range groups[:len(groups)-1] {
		groups[i] += 128
	}
	return groups
}

// expected is what the document says of Get, with numbers of any size.
func expected(b []byte) (uint64, int, api.Errno) {
	sum, bound := new(big.Int), new(big.Int).Lsh(big.NewInt(1), 64)
	for i := 0; ; i++ {
		if i >= len(b) {
			return 0, 0, api.ErrShort
		}
		part := new(big.Int).Lsh(big.NewInt(int64(b[i]%128)), uint(7*i))
		sum.Add(sum, part)
		if sum.Cmp(bound) >= 0 || i == 9 && b[i] >= 128 {
			return 0, 0, api.ErrBig
		}
		if i > 0 && b[i] == 0 {
			return 0, 0, api.ErrForm
		}
		if b[i] < 128 {
			return sum.Uint64(), i + 1, api.OK
		}
	}
}

// sample answers numbers of all lengths that follow from a short rule.
func sample(count int) []uint64 {
	out := make([]uint64, count)
	n := uint64(88172645463325252)
	for i := range out {
		n ^= n << 13
		n ^= n >> 7
		n ^= n << 17
		out[i] = n >> (i % 64)
	}
	return out
}

func numbers() []uint64 {
	l := sample(2000)
	for _, g := range edges {
		l = append(l, g.n)
	}
	return l
}

func check(t *testing.T, b []byte, n uint64, size int, e api.Errno) {
	t.Helper()
	if gotN, gotSize, gotE := Get(b); gotN != n || gotSize != size || gotE != e {
		t.Errorf("Get(%x): got %d, %d, %d, want %d, %d, %d", b, gotN, gotSize, gotE, n, size, e)
	}
}

func checkAll(t *testing.T, b []byte, want []uint64) {
	t.Helper()
	if got := slices.Collect(All(b)); !slices.Equal(got, want) {
		t.Errorf("All(%x): got %d, want %d", b, got, want)
	}
}

// P4.1: Put, Size, List

func TestPut(t *testing.T) {
	for _, g := range edges {
		if got := Put(g.n); string(got) != g.b {
			t.Errorf("Put(%d): got %x, want %x", g.n, got, g.b)
		}
		if got := Size(g.n); got != len(g.b) {
			t.Errorf("Size(%d): got %d, want %d", g.n, got, len(g.b))
		}
	}
}

func TestPutMany(t *testing.T) {
	l := numbers()
	for n := range uint64(1 << 15) {
		l = append(l, n)
	}
	for _, n := range l {
		want := written(n)
		if got := Put(n); !bytes.Equal(got, want) {
			t.Errorf("Put(%d): got %x, want %x", n, got, want)
		}
		if got := Size(n); got != len(want) {
			t.Errorf("Size(%d): got %d, want %d", n, got, len(want))
		}
	}
}

func TestSizeOfEachLength(t *testing.T) {
	for bit := range 64 {
		least := uint64(1) << bit
		if got, want := Size(least), bit/7+1; got != want {
			t.Errorf("Size(%d): got %d, want %d", least, got, want)
		}
		if got, want := Size(least-1), max(1, (bit+6)/7); got != want {
			t.Errorf("Size(%d): got %d, want %d", least-1, got, want)
		}
	}
}

func TestList(t *testing.T) {
	for _, c := range []struct {
		l []uint64
		b string
	}{
		{nil, ""},
		{[]uint64{}, ""},
		{[]uint64{0}, "\x00"},
		{[]uint64{300}, "\xAC\x02"},
		{[]uint64{0, 0, 0}, "\x00\x00\x00"},
		{[]uint64{1, 300, 0}, "\x01\xAC\x02\x00"},
		{[]uint64{127, 128, 1 << 63, 5}, "\x7F\x80\x01\x80\x80\x80\x80\x80\x80\x80\x80\x80\x01\x05"},
	} {
		if got := List(c.l...); string(got) != c.b {
			t.Errorf("List(%d): got %x, want %x", c.l, got, c.b)
		}
	}
	if got := List(); len(got) != 0 {
		t.Errorf("List of nothing: got %x", got)
	}
}

func TestListOfMany(t *testing.T) {
	l := numbers()
	var want []byte
	for _, n := range l {
		want = append(want, written(n)...)
	}
	if got := List(l...); !bytes.Equal(got, want) {
		t.Error("List of many numbers isn't what they are written in, one behind the other")
	}
}

// P4.2: Get, All

func TestGet(t *testing.T) {
	for _, g := range edges {
		check(t, []byte(g.b), g.n, len(g.b), api.OK)
	}
}

func TestGetWithBytesBehind(t *testing.T) {
	for _, g := range edges {
		for _, behind := range []string{"\x00", "\x01", "\x7F", "\x80", "\x80\x00", "\xFF", "\xFF\xFF\xFF\xFF\xFF\xFF\xFF\xFF\xFF\xFF\xFF"} {
			check(t, []byte(g.b+behind), g.n, len(g.b), api.OK)
		}
	}
}

func TestGetCutShort(t *testing.T) {
	for _, n := range numbers() {
		b := written(n)
		for size := range b {
			check(t, b[:size], 0, 0, api.ErrShort) // the number's other bytes lie in the spare room
			check(t, slices.Clip(bytes.Clone(b[:size])), 0, 0, api.ErrShort)
		}
	}
	check(t, nil, 0, 0, api.ErrShort)
	check(t, []byte{}, 0, 0, api.ErrShort)
}

func TestGetWrong(t *testing.T) {
	for _, w := range wrong {
		check(t, []byte(w.b), 0, 0, w.e)
	}
}

func TestGetZeroLast(t *testing.T) {
	for size := 1; size <= 9; size++ {
		for _, c := range []byte{0x80, 0x81, 0xAA, 0xFF} {
			b := append(bytes.Repeat([]byte{c}, size), 0)
			check(t, b, 0, 0, api.ErrForm)
			check(t, append(b, 1), 0, 0, api.ErrForm)
		}
	}
}

func TestGetEachTenthByte(t *testing.T) {
	for _, c := range []byte{0x80, 0x81, 0xC0, 0xFF} {
		for tenth := range 256 {
			b := append(bytes.Repeat([]byte{c}, 9), byte(tenth))
			switch tenth {
			case 0:
				check(t, b, 0, 0, api.ErrForm)
			case 1:
				n, size, e := expected(b)
				check(t, b, n, size, e)
				if n < 1<<63 || size != 10 || e != api.OK {
					t.Errorf("%x: the document's words are told wrong by this test: %d, %d, %d", b, n, size, e)
				}
			default:
				check(t, b, 0, 0, api.ErrBig)
			}
			check(t, b[:9], 0, 0, api.ErrShort)
		}
	}
}

func TestGetThatGoesOn(t *testing.T) {
	for size := range 30 {
		for _, c := range []byte{0x80, 0x81, 0xFF} {
			e := api.ErrShort
			if size >= 10 {
				e = api.ErrBig
			}
			check(t, bytes.Repeat([]byte{c}, size), 0, 0, e)
		}
	}
}

func TestGetOfAllShortBytes(t *testing.T) {
	for n := range 1 << 16 {
		b := []byte{byte(n >> 8), byte(n)}
		for size := range 3 {
			value, length, e := expected(b[:size])
			check(t, b[:size], value, length, e)
		}
	}
}

// TestGetOfMixedBytes goes through all bytes of up to eleven of which each is one of a few that decide.
func TestGetOfMixedBytes(t *testing.T) {
	few := []byte{0x00, 0x01, 0x80, 0xFF}
	var b []byte
	var deeper func()
	deeper = func() {
		n, size, e := expected(b)
		check(t, b, n, size, e)
		if len(b) == 11 || len(b) > 0 && b[len(b)-1] < 128 {
			return
		}
		for _, c := range few {
			b = append(b, c)
			deeper()
			b = b[:len(b)-1]
		}
	}
	deeper()
}

func TestAll(t *testing.T) {
	checkAll(t, nil, nil)
	checkAll(t, []byte{}, nil)
	checkAll(t, []byte{0}, []uint64{0})
	checkAll(t, []byte{0, 0}, []uint64{0, 0})
	checkAll(t, []byte{1, 0xAC, 2, 0}, []uint64{1, 300, 0})
	for _, g := range edges {
		checkAll(t, []byte(g.b), []uint64{g.n})
		checkAll(t, []byte(g.b+g.b+"\x05"), []uint64{g.n, g.n, 5})
	}
	l := numbers()
	checkAll(t, List(l...), l)
	for i := range l[:50] {
		checkAll(t, List(l[i:2*i]...), l[i:2*i])
	}
}

func TestAllUpToAnError(t *testing.T) {
	for _, w := range wrong {
		checkAll(t, []byte(w.b), nil)
		for count := range 4 {
			l := []uint64{0, 300, 1<<64 - 1, 7}[:count]
			checkAll(t, append(List(l...), w.b...), l)
			if w.e != api.ErrShort {
				checkAll(t, append(append(List(l...), w.b...), 1, 2, 3), l)
			}
		}
	}
	for _, g := range edges {
		for size := range len(g.b) {
			checkAll(t, append([]byte{1, 0xAC, 2}, g.b[:size]...), []uint64{1, 300})
		}
	}
}

func TestAllStopsWhenAsked(t *testing.T) {
	l := []uint64{1, 300, 0, 1<<64 - 1, 9}
	all := All(append(List(l...), 0x80, 0))
	for stop := 1; stop <= len(l); stop++ {
		var got []uint64
		for n := range all {
			got = append(got, n)
			if len(got) == stop {
				break
			}
		}
		if !slices.Equal(got, l[:stop]) {
			t.Errorf("stopped at %d: got %d", stop, got)
		}
		calls := 0
		all(func(uint64) bool {
			calls++
			return calls < stop
		})
		if calls != stop {
			t.Errorf("asked to stop at %d: told %d", stop, calls)
		}
	}
}

func TestAllAnew(t *testing.T) {
	l := []uint64{5, 1 << 40, 0}
	all := All(List(l...))
	for range 3 {
		if got := slices.Collect(all); !slices.Equal(got, l) {
			t.Errorf("gone through again: got %d", got)
		}
		for n := range all {
			if n != 5 {
				t.Errorf("begun again: got %d", n)
			}
			break
		}
	}
	var outer []uint64
	for n := range all {
		outer = append(outer, n)
		if got := slices.Collect(all); !slices.Equal(got, l) {
			t.Errorf("gone through within itself: got %d", got)
		}
	}
	if !slices.Equal(outer, l) {
		t.Errorf("with others within it: got %d", outer)
	}
}

func TestAllIsNeverNil(t *testing.T) {
	for _, b := range [][]byte{nil, {}, {0x80}, {1}} {
		if All(b) == nil {
			t.Errorf("All(%x): nil", b)
		}
	}
}

// P4.3: one way alone

func TestOneWayAlone(t *testing.T) {
	for _, n := range numbers() {
		b := Put(n)
		check(t, b, n, len(b), api.OK)
	}
}

// TestOneWayAloneOfThreeBytes goes through all bytes of up to three: each number below 2^21 is read of one of them.
func TestOneWayAloneOfThreeBytes(t *testing.T) {
	sizes := make([]int, 1<<21) // of how many bytes each number was read
	for all := range 1 << 24 {
		b := []byte{byte(all), byte(all >> 8), byte(all >> 16)}
		n, size, e := Get(b)
		if e != api.OK || all>>(8*size) != 0 { // with other bytes behind them they were read before
			continue
		}
		if sizes[n] != 0 {
			t.Fatalf("%d is read of %x, and of %d bytes", n, b[:size], sizes[n])
		}
		sizes[n] = size
		if !bytes.Equal(Put(n), b[:size]) {
			t.Fatalf("%x: read as %d, which is written %x", b[:size], n, Put(n))
		}
	}
	for n, size := range sizes {
		if size != Size(uint64(n)) {
			t.Fatalf("%d is read of %d bytes", n, size)
		}
	}
}

func TestOnlyWhatIsWrittenIsRead(t *testing.T) {
	for _, g := range edges {
		for i := range g.b {
			for c := range 256 {
				b := []byte(g.b)
				b[i] = byte(c)
				n, size, e := Get(b)
				if e == api.OK && !bytes.Equal(Put(n), b[:size]) {
					t.Errorf("%x: read as %d, which is written %x", b[:size], n, Put(n))
				}
			}
		}
	}
}

// R4: arguments and answers

func TestArgumentsStay(t *testing.T) {
	b := append(make([]byte, 0, 16), 1, 0xAC, 2, 0x80)
	full := bytes.Clone(b[:cap(b)])
	Get(b)
	for range All(b) {
	}
	if !bytes.Equal(b[:cap(b)], full) {
		t.Errorf("bytes that were handed in: %x", b[:cap(b)])
	}
	l := append(make([]uint64, 0, 8), 1, 300, 0)
	List(l...)
	if !slices.Equal(l[:cap(l)], []uint64{1, 300, 0, 0, 0, 0, 0, 0}) {
		t.Errorf("numbers that were handed in: %d", l[:cap(l)])
	}
}

func TestAllKeepsNothing(t *testing.T) {
	b := append(make([]byte, 0, 16), 1, 0xAC, 2, 3)
	all := All(b)
	for i := range b[:cap(b)] {
		b[:cap(b)][i] = 9
	}
	if got := slices.Collect(all); !slices.Equal(got, []uint64{1, 300, 3}) {
		t.Errorf("written into behind the call: got %d", got)
	}
	b = []byte{1, 2, 3}
	var got []uint64
	for n := range All(b) {
		got = append(got, n)
		b[2] = 7
	}
	if !slices.Equal(got, []uint64{1, 2, 3}) {
		t.Errorf("written into while it is gone through: got %d", got)
	}
}

func TestAnswersAreNew(t *testing.T) {
	for _, answer := range []func() []byte{
		func() []byte { return Put(0) },
		func() []byte { return Put(300) },
		func() []byte { return List() },
		func() []byte { return List(1, 2, 300) },
	} {
		a, b := answer(), answer()
		want := bytes.Clone(b)
		a = a[:cap(a)]
		for i := range a {
			a[i] = 0xEE
		}
		if !bytes.Equal(b, want) || !bytes.Equal(answer(), want) {
			t.Errorf("an answer shares memory with an earlier one: %x, want %x", b, want)
		}
	}
}
