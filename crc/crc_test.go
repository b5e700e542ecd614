package crc

import (
	"bytes"
	"hash/crc32"
	"os"
	"sync"
	"testing"
)

const workers = 16

// first is what each worker was answered by its very first calls, which no other calls of this program came ahead of.
var first [workers]answers

type answers struct {
	of    uint32
	table [256]uint32
	ok    bool
}

func TestMain(m *testing.M) {
	first = callAtOnce()
	os.Exit(m.Run())
}

// callAtOnce lets all workers go at the same time; half of them ask for the table first, half of them for a sum.
func callAtOnce() [workers]answers {
	var out [workers]answers
	var all sync.WaitGroup
	begin := make(chan struct{})
	for i := range out {
		all.Go(func() {
			<-begin
			if i%2 == 0 {
				out[i].table = Table()
				out[i].of = Of([]byte("123456789"))
			} else {
				out[i].of = Of([]byte("123456789"))
				out[i].table = Table()
			}
			_, out[i].ok = Sealed(Seal([]byte("abc")))
		})
	}
	close(begin)
	all.Wait()
	return out
}

// number is what the document says of the table's number of i.
func number(i int) uint32 {
	n := uint32(i)
	for range 8 {
		if n%2 == 1 {
			n = n/2 ^ 0xEDB88320
		} else {
			n = n / 2
		}
	}
	return n
}

// sumOf is what the document says of the sum of b, without a table.
func sumOf(b []byte) uint32 {
	n := uint32(0xFFFFFFFF)
	for _, c := range b {
		n = n>>8 ^ number(int(byte(n)^c))
	}
	return n ^ 0xFFFFFFFF
}

// sample answers size bytes that follow from a short rule.
func sample(size int) []byte {
	out := make([]byte, size)
	n := uint32(size)*2654435761 + 12345
	for i := range out {
		n = n*1664525 + 1013904223
		out[i] = byte(n >> 24)
	}
	return out
}

// samples are bytes of many sizes, and some of one value alone.
func samples() [][]byte {
	out := [][]byte{nil, {}, []byte("a"), []byte("abc"), []byte("123456789")}
	for size := 1; size < 40; size++ {
		out = append(out, sample(size), make([]byte, size), bytes.Repeat([]byte{0xFF}, size))
	}
	return append(out, sample(255), sample(256), sample(257), sample(1000), sample(70000))
}

func checkTable(t *testing.T, got [256]uint32) {
	t.Helper()
	for i, n := range got {
		if n != number(i) {
			t.Errorf("table %d: got %08X, want %08X", i, n, number(i))
		}
	}
}

// P3.1: Table

func TestTable(t *testing.T) {
	checkTable(t, Table())
	checkTable(t, *crc32.IEEETable)
}

func TestTableNumbers(t *testing.T) {
	table := Table()
	for i, n := range map[int]uint32{0: 0, 1: 0x77073096, 2: 0xEE0E612C, 128: 0xEDB88320, 129: 0x9ABFB3B6, 255: 0x2D02EF8D} {
		if table[i] != n {
			t.Errorf("table %d: got %08X, want %08X", i, table[i], n)
		}
	}
}

func TestTableIsACopy(t *testing.T) {
	table := Table()
	for i := range table {
		table[i] = 1
	}
	checkTable(t, Table())
	if got := Of([]byte("123456789")); got != 0xCBF43926 {
		t.Errorf("got %08X", got)
	}
}

// P3.1: Of

func TestOf(t *testing.T) {
	for s, n := range map[string]uint32{
		"": 0, "\x00": 0xD202EF8D, "a": 0xE8B7BE43, "abc": 0x352441C2, "123456789": 0xCBF43926,
		"\x00\x00\x00\x00": 0x2144DF1C, "\xFF\xFF\xFF\xFF": 0xFFFFFFFF,
		"The quick brown fox jumps over the lazy dog": 0x414FA339,
	} {
		if got := Of([]byte(s)); got != n {
			t.Errorf("Of(%q): got %08X, want %08X", s, got, n)
		}
	}
	if got := Of(nil); got != 0 {
		t.Errorf("Of(nil): got %08X", got)
	}
}

func TestOfEachByte(t *testing.T) {
	for c := range 256 {
		b := []byte{byte(c)}
		if got, want := Of(b), sumOf(b); got != want {
			t.Errorf("Of(%X): got %08X, want %08X", b, got, want)
		}
	}
}

func TestOfSamples(t *testing.T) {
	for _, b := range samples() {
		got, want := Of(b), sumOf(b)
		if got != want || got != crc32.ChecksumIEEE(b) {
			t.Errorf("Of %d bytes: got %08X, want %08X", len(b), got, want)
		}
	}
}

func TestOfAgain(t *testing.T) {
	b := []byte("abc")
	for range 3 {
		if got := Of(b); got != 0x352441C2 {
			t.Errorf("got %08X", got)
		}
		Of([]byte("others between"))
	}
	b[0] = 'x'
	if got, want := Of(b), sumOf([]byte("xbc")); got != want {
		t.Errorf("changed: got %08X, want %08X", got, want)
	}
}

// P3.1: New, Add, Value

func checkValue(t *testing.T, s *Sum, added []byte) {
	t.Helper()
	if got, want := s.Value(), sumOf(added); got != want {
		t.Errorf("%d bytes: got %08X, want %08X", len(added), got, want)
	}
}

func TestNew(t *testing.T) {
	s := New()
	if s == nil {
		t.Fatal("nil")
	}
	for range 3 {
		checkValue(t, s, nil)
	}
}

func TestAddNothing(t *testing.T) {
	s := New().Add().Add(nil...).Add([]byte{}...)
	checkValue(t, s, nil)
	s.Add('a')
	s.Add()
	s.Add(nil...)
	checkValue(t, s, []byte("a"))
}

func TestAddAnswersTheSame(t *testing.T) {
	s := New()
	if s.Add() != s || s.Add('a') != s || s.Add('b', 'c') != s {
		t.Error("another Sum")
	}
	checkValue(t, s, []byte("abc"))
}

func TestAddEachByte(t *testing.T) {
	s := New()
	var added []byte
	for c := range 256 {
		checkValue(t, New().Add(byte(c)), []byte{byte(c)})
		s.Add(byte(c))
		added = append(added, byte(c))
		checkValue(t, s, added)
	}
}

func TestAddInPieces(t *testing.T) {
	whole := sample(50)
	for piece := 1; piece <= len(whole); piece++ {
		s := New()
		for at := 0; at < len(whole); at += piece {
			s.Add(whole[at:min(at+piece, len(whole))]...)
			s.Add()
		}
		checkValue(t, s, whole)
	}
}

func TestAddInTwoPieces(t *testing.T) {
	whole := sample(70)
	for cut := range len(whole) + 1 {
		checkValue(t, New().Add(whole[:cut]...).Add(whole[cut:]...), whole)
	}
}

func TestAddInOrder(t *testing.T) {
	checkValue(t, New().Add('a').Add('b'), []byte("ab"))
	checkValue(t, New().Add('b').Add('a'), []byte("ba"))
}

func TestAddBehindValue(t *testing.T) {
	s := New()
	whole := sample(50)
	for i, c := range whole {
		checkValue(t, s, whole[:i])
		checkValue(t, s, whole[:i])
		s.Add(c)
	}
	checkValue(t, s, whole)
}

func TestAddKeepsNothing(t *testing.T) {
	b := []byte("abc")
	s := New().Add(b...)
	b[0], b[2] = 'x', 'y'
	checkValue(t, s, []byte("abc"))
	s.Add('d')
	checkValue(t, s, []byte("abcd"))
}

func TestAddChangesNothing(t *testing.T) {
	room := []byte("abcdef")
	New().Add(room[:3]...)
	Of(room[:3])
	if string(room) != "abcdef" {
		t.Errorf("got %q", room)
	}
}

func TestSumsStandAlone(t *testing.T) {
	a, b := New().Add('a'), New()
	b.Add('b')
	a.Add('c')
	Of([]byte("others"))
	checkValue(t, a, []byte("ac"))
	checkValue(t, b, []byte("b"))
	checkValue(t, New(), nil)
}

// P3.2: Seal

func TestSeal(t *testing.T) {
	for s, want := range map[string]string{
		"":          "\x00\x00\x00\x00",
		"a":         "a\x43\xBE\xB7\xE8",
		"abc":       "abc\xC2\x41\x24\x35",
		"123456789": "123456789\x26\x39\xF4\xCB",
		"\x00":      "\x00\x8D\xEF\x02\xD2",
	} {
		if got := Seal([]byte(s)); string(got) != want {
			t.Errorf("Seal(%q): got %X, want %X", s, got, want)
		}
	}
	if got := Seal(nil); string(got) != "\x00\x00\x00\x00" {
		t.Errorf("Seal(nil): got %X", got)
	}
}

func TestSealSamples(t *testing.T) {
	for _, b := range samples() {
		n := sumOf(b)
		want := append(bytes.Clone(b), byte(n), byte(n>>8), byte(n>>16), byte(n>>24))
		if got := Seal(b); !bytes.Equal(got, want) {
			t.Errorf("%d bytes: got %X, want %X", len(b), got, want)
		}
	}
}

func TestSealIsNew(t *testing.T) {
	room := []byte("abcdefghij")
	got := Seal(room[:3])
	if string(room) != "abcdefghij" {
		t.Errorf("spare room was written: %q", room)
	}
	for i := range got {
		got[i] = 'x'
	}
	got = append(got, 'y', 'y')
	if string(room) != "abcdefghij" {
		t.Errorf("shared: %q", room)
	}
	other := Seal(room[:3])
	room[0] = 'z'
	if string(other) != "abc\xC2\x41\x24\x35" {
		t.Errorf("shared: %q", other)
	}
}

// P3.2: Sealed

// checkSealed holds Sealed(b) against what the document says of b.
func checkSealed(t *testing.T, b []byte) {
	t.Helper()
	var want []byte
	ok := false
	if at := len(b) - 4; at >= 0 {
		n := sumOf(b[:at])
		if ok = bytes.Equal(b[at:], []byte{byte(n), byte(n >> 8), byte(n >> 16), byte(n >> 24)}); ok {
			want = b[:at]
		}
	}
	if got, gotOK := Sealed(b); !bytes.Equal(got, want) || gotOK != ok {
		t.Errorf("Sealed(%X): got %X, %v, want %X, %v", b, got, gotOK, want, ok)
	}
}

func checkNotSealed(t *testing.T, b []byte) {
	t.Helper()
	if got, ok := Sealed(b); len(got) != 0 || ok {
		t.Errorf("Sealed(%X): got %X, %v", b, got, ok)
	}
}

func TestSealed(t *testing.T) {
	for s, want := range map[string]string{
		"\x00\x00\x00\x00":                 "",
		"abc\xC2\x41\x24\x35":              "abc",
		"123456789\x26\x39\xF4\xCB":        "123456789",
		"\x00\x8D\xEF\x02\xD2":             "\x00",
		"\xFF\xFF\xFF\xFF\xFF\xFF\xFF\xFF": "\xFF\xFF\xFF\xFF",
	} {
		if got, ok := Sealed([]byte(s)); string(got) != want || !ok {
			t.Errorf("Sealed(%X): got %X, %v, want %X", s, got, ok, want)
		}
	}
}

func TestSealedSamples(t *testing.T) {
	for _, b := range samples() {
		if got, ok := Sealed(Seal(b)); !bytes.Equal(got, b) || !ok {
			t.Errorf("%d bytes: got %d bytes, %v", len(b), len(got), ok)
		}
		checkSealed(t, b)
	}
}

func TestSealedTooShort(t *testing.T) {
	checkNotSealed(t, nil)
	checkNotSealed(t, []byte{})
	for c := range 256 {
		for size := 1; size < 4; size++ {
			checkNotSealed(t, bytes.Repeat([]byte{byte(c)}, size))
		}
	}
	// the spare room behind three bytes doesn't belong to them
	checkNotSealed(t, make([]byte, 3, 8))
	checkNotSealed(t, Seal([]byte("abc"))[:6])
}

func TestSealedOfFour(t *testing.T) {
	for at := range 4 {
		for c := range 256 {
			b := make([]byte, 4)
			b[at] = byte(c)
			if got, ok := Sealed(b); len(got) != 0 || ok != (c == 0) {
				t.Errorf("Sealed(%X): got %X, %v", b, got, ok)
			}
		}
	}
	checkNotSealed(t, []byte{0xFF, 0xFF, 0xFF, 0xFF})
	checkNotSealed(t, []byte{0xC2, 0x41, 0x24, 0x35})
}

func TestSealedOtherwise(t *testing.T) {
	for _, s := range []string{
		"abc\x35\x24\x41\xC2",     // the highest byte first
		"\xC2\x41\x24\x35abc",     // ahead
		"abc\x3D\xBE\xDB\xCA",     // not turned in the end
		"abd\xC2\x41\x24\x35",     // of others
		"acb\xC2\x41\x24\x35",     // of the same in another order
		"abc\xC2\x41\x24\x34",     // each byte of the sum wrong
		"abc\xC2\x41\x25\x35",     //
		"abc\xC2\x42\x24\x35",     //
		"abc\xC3\x41\x24\x35",     //
		"abc\x00\x00\x00\x00",     // no sum
		"\x00abc\xC2\x41\x24\x35", // one byte ahead
	} {
		checkNotSealed(t, []byte(s))
	}
}

func TestSealedCutShort(t *testing.T) {
	for _, body := range []string{"", "a", "abc", "123456789"} {
		sealed := Seal([]byte(body))
		for size := range len(sealed) {
			checkNotSealed(t, sealed[:size])
		}
		for from := 1; from < len(sealed); from++ {
			checkNotSealed(t, sealed[from:])
		}
	}
	for _, b := range samples()[:100] {
		sealed := Seal(b)
		for size := range len(sealed) {
			checkSealed(t, sealed[:size])
		}
	}
}

func TestSealedWithMore(t *testing.T) {
	for _, body := range []string{"", "a", "abc", "123456789"} {
		for c := range 256 {
			checkNotSealed(t, append(Seal([]byte(body)), byte(c)))
		}
	}
}

func TestSealedTwice(t *testing.T) {
	once := Seal([]byte("abc"))
	got, ok := Sealed(Seal(once))
	if !bytes.Equal(got, once) || !ok {
		t.Errorf("got %X, %v", got, ok)
	}
	if got, ok = Sealed(got); string(got) != "abc" || !ok {
		t.Errorf("got %X, %v", got, ok)
	}
}

func TestSealedIsNew(t *testing.T) {
	b := append(Seal([]byte("abc")), "spare"...)
	whole := string(b)
	got, _ := Sealed(b[:7])
	for i := range got {
		got[i] = 'x'
	}
	got = append(got, "yyyyyyyy"...)
	got[0] = 'z'
	if string(b) != whole {
		t.Errorf("shared: %q", b)
	}
	got, _ = Sealed(b[:7])
	b[0] = 'z'
	if string(got) != "abc" {
		t.Errorf("shared: %q", got)
	}
	none, _ := Sealed(make([]byte, 4))
	if cap(none) > 0 {
		copy(none[:1], "x")
		if again, _ := Sealed(make([]byte, 4)); cap(again) > 0 && again[:1][0] == 'x' {
			t.Error("earlier answers are shared")
		}
	}
}

// P3.3: bursts

// turn turns the bits of b that pattern has, the lowest one of it being b's bit from.
func turn(b []byte, from int, pattern uint32) {
	for i := range 32 {
		if pattern>>i&1 == 1 {
			b[(from+i)/8] ^= 1 << ((from + i) % 8)
		}
	}
}

// patterns are bursts of just that length: the first and the last bit are turned. Those of short ones are all there are.
func patterns(length int) []uint32 {
	if length == 1 {
		return []uint32{1}
	}
	ends := uint32(1) | 1<<(length-1)
	inner := uint32(1)<<(length-2) - 1
	if length <= 9 {
		var out []uint32
		for n := range inner + 1 {
			out = append(out, ends|n<<1)
		}
		return out
	}
	out := []uint32{ends, ends | inner<<1, ends | 0x55555555&inner<<1, ends | 0xAAAAAAAA&inner<<1}
	n := uint32(length)
	for range 30 {
		n = n*1664525 + 1013904223
		out = append(out, ends|(n^n>>16)&inner<<1)
	}
	return out
}

func checkBursts(t *testing.T, body []byte) {
	t.Helper()
	sealed := Seal(body)
	bits := len(sealed) * 8
	for length := 1; length <= 32; length++ {
		all := patterns(length)
		for from := 0; from+length <= bits; from++ {
			for _, p := range all {
				b := bytes.Clone(sealed)
				turn(b, from, p)
				if got, ok := Sealed(b); len(got) != 0 || ok {
					t.Fatalf("%X, burst %X from bit %d: got %X, %v", sealed, p, from, got, ok)
				}
			}
		}
	}
}

func TestBursts(t *testing.T) {
	for _, body := range [][]byte{nil, []byte("a"), []byte("abc"), make([]byte, 6), bytes.Repeat([]byte{0xFF}, 5), sample(9)} {
		checkBursts(t, body)
	}
}

// The burst that turns the bits by which sums are made is the likeliest one to be missed.
func TestBurstOfTheTable(t *testing.T) {
	for size := range 12 {
		sealed := Seal(sample(size))
		for from := 0; from+32 <= len(sealed)*8; from++ {
			for _, p := range []uint32{turned, turned>>5 | 1, ^uint32(turned), 0xFFFFFFFF, 0x04C11DB7, 0x80000001} {
				b := bytes.Clone(sealed)
				turn(b, from, p)
				checkNotSealed(t, b)
			}
		}
	}
}

func TestBurstInALongText(t *testing.T) {
	sealed := Seal(sample(3000))
	for from := 0; from+32 <= len(sealed)*8; from += 61 {
		for length := 1; length <= 32; length++ {
			p := patterns(length)
			b := bytes.Clone(sealed)
			turn(b, from, p[from%len(p)])
			checkNotSealed(t, b)
		}
	}
}

// Of and Table, called by many goroutines at once

func checkAnswers(t *testing.T, all [workers]answers) {
	t.Helper()
	for i, a := range all {
		if a.of != 0xCBF43926 || !a.ok {
			t.Errorf("worker %d: got %08X, %v", i, a.of, a.ok)
		}
		checkTable(t, a.table)
	}
}

func TestFirstCalls(t *testing.T) {
	checkAnswers(t, first)
}

// Each round begins as the program did, without a table.
func TestFirstCallsOverAndOver(t *testing.T) {
	for range 300 {
		made = sync.Once{}
		table = [256]uint32{}
		checkAnswers(t, callAtOnce())
	}
}

func TestMadeOnce(t *testing.T) {
	Of([]byte("a"))
	table[0] = 1
	defer func() { table[0] = 0 }()
	if Table()[0] != 1 || Of([]byte("\xFF")) == sumOf([]byte("\xFF")) {
		t.Error("made again, or not read")
	}
}
