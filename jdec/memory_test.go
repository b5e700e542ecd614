package jdec

import (
	"cmp"
	"slices"
	"strings"
	"testing"
	"unsafe"

	"tabularium/api"
	"tabularium/tree"
)

// R4: what is handed in isn't kept, and what is answered is new memory.

// span is memory that something lies in.
type span struct {
	begin unsafe.Pointer
	size  uintptr
	what  string
}

// spans are the spans of all lists and texts of v, spare room included.
func spans(v api.Value) []span {
	var l []span
	if cap(v.Keys) > 0 {
		l = append(l, span{unsafe.Pointer(unsafe.SliceData(v.Keys)), uintptr(cap(v.Keys)) * unsafe.Sizeof(""), "keys"})
	}
	if cap(v.Kids) > 0 {
		l = append(l, span{unsafe.Pointer(unsafe.SliceData(v.Kids)), uintptr(cap(v.Kids)) * unsafe.Sizeof(v), "kids"})
	}
	for _, s := range append([]string{v.Str, v.Num.Digits}, v.Keys...) {
		l = append(l, spanOf(s)...)
	}
	for _, kid := range v.Kids {
		l = append(l, spans(kid)...)
	}
	return l
}

// spanOf is the span of a text, if it has any bytes. (One byte alone may lie where Go keeps all bytes, which nobody writes.)
func spanOf(s string) []span {
	if len(s) < 2 {
		return nil
	}
	return []span{{unsafe.Pointer(unsafe.StringData(s)), uintptr(len(s)), "a text"}}
}

// checkApart holds all spans against each other: no two may share a byte.
func checkApart(t *testing.T, what string, l []span) {
	t.Helper()
	slices.SortFunc(l, func(a, b span) int { return cmp.Compare(uintptr(a.begin), uintptr(b.begin)) })
	for i := 1; i < len(l); i++ {
		if uintptr(l[i-1].begin)+l[i-1].size > uintptr(l[i].begin) {
			t.Errorf("%.200q: %s and %s share memory", what, l[i-1].what, l[i].what)
		}
	}
}

// kept keeps the bytes of shared's latest answer on the heap.
var kept []byte

// shared is s as bytes, and as a text that lies where these do.
func shared(s string) ([]byte, string) {
	kept = []byte(s)
	return kept, unsafe.String(unsafe.SliceData(kept), len(kept))
}

// someTexts are texts of JSON of every shape.
func someTexts() []string {
	l := append(samples(), `["abc","abc",123,123,1.25,1.25]`, `{"abc":"abc","abcd":["abc"]}`, "12345", `"abcde"`, `{"key":{"key":{"key":[[],[],{}]}}}`, "["+strings.Repeat("[1,2,3],", 50)+"{}]")
	for seed := range 500 {
		s, _ := made(seed, 6, false)
		l = append(l, s)
	}
	return l
}

func TestAnswersShareNothing(t *testing.T) {
	for _, s := range someTexts() {
		b, text := shared(s)
		v, _, _ := Parse(text)
		again, _, _ := Parse(text)
		alone, _ := Value(text)
		checkApart(t, s, slices.Concat(spanOf(text), spans(v), spans(again), spans(alone)))
		Deepest(text)
		if string(b) != s {
			t.Errorf("%.200q was changed", s)
		}
	}
}

func TestWritingOverWhatWasHandedIn(t *testing.T) {
	for _, s := range someTexts() {
		b, text := shared(s)
		v, _, e := Parse(text)
		alone, _ := Value(text)
		for i := range b {
			b[i] = '7'
		}
		want, _, wantError := Parse(s)
		if e != wantError || !tree.Same(v, want) || !tree.Same(alone, want) {
			t.Errorf("Parse(%.200q): what was written into it changed the answer", s)
		}
	}
}

// scribble writes over all that can be written of v's lists, spare room included.
func scribble(v api.Value) {
	for i, kid := range v.Kids[:cap(v.Kids)] {
		scribble(kid)
		v.Kids[:cap(v.Kids)][i] = api.Value{Kind: 77, Str: "scribbled"}
	}
	for i := range v.Keys[:cap(v.Keys)] {
		v.Keys[:cap(v.Keys)][i] = "scribbled"
	}
}

func TestWritingOverWhatWasAnswered(t *testing.T) {
	for _, s := range someTexts() {
		want, _, _ := parse(s)
		v, _, _ := Parse(s)
		again, _, _ := Parse(s)
		scribble(v)
		if later, _, _ := Parse(s); !tree.Same(again, want) || !tree.Same(later, want) {
			t.Errorf("Parse(%.200q): what was written into one answer changed another", s)
		}
	}
}
