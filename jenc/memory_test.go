package jenc

import (
	"cmp"
	"slices"
	"strings"
	"testing"
	"unsafe"

	"tabularium/api"
)

// R4: what is handed in isn't changed and isn't kept, and what is answered is new memory.

// roomy is v in lists that have spare room, which isn't empty, and in texts of its own.
func roomy(v api.Value) api.Value {
	v.Num.Digits, v.Str = strings.Clone(v.Num.Digits), strings.Clone(v.Str)
	keys := make([]string, 0, len(v.Keys)+2)
	for _, key := range v.Keys {
		keys = append(keys, strings.Clone(key))
	}
	kids := make([]api.Value, 0, len(v.Kids)+2)
	for _, kid := range v.Kids {
		kids = append(kids, roomy(kid))
	}
	v.Keys = append(keys, "spare", "room")[:len(keys)]
	v.Kids = append(kids, str("spare"), list(str("room")))[:len(kids)]
	return v
}

// filled is v with the spare room of its lists as a part of them.
func filled(v api.Value) api.Value {
	v.Keys = v.Keys[:cap(v.Keys)]
	kids := slices.Clone(v.Kids[:cap(v.Kids)])
	for i, kid := range kids {
		kids[i] = filled(kid)
	}
	v.Kids = kids
	return v
}

// span is memory that a text lies in.
type span struct {
	begin uintptr
	size  uintptr
	what  string
}

// spansOf are the spans of texts.
func spansOf(what string, texts ...string) []span {
	var l []span
	for _, s := range texts {
		if s != "" {
			l = append(l, span{uintptr(unsafe.Pointer(unsafe.StringData(s))), uintptr(len(s)), what})
		}
	}
	return l
}

// textsOf are all texts of v.
func textsOf(v api.Value) []string {
	l := append([]string{v.Str, v.Num.Digits}, v.Keys...)
	for _, kid := range v.Kids {
		l = append(l, textsOf(kid)...)
	}
	return l
}

// checkApart holds all spans against each other: no two may share a byte.
func checkApart(t *testing.T, what string, l []span) {
	t.Helper()
	slices.SortFunc(l, func(a, b span) int { return cmp.Compare(a.begin, b.begin) })
	for i := 1; i < len(l); i++ {
		if l[i-1].begin+l[i-1].size > l[i].begin {
			t.Errorf("%.300s: %s and %s share memory", what, l[i-1].what, l[i].what)
		}
	}
}

// someValues are values of every kind and shape.
func someValues() []api.Value {
	l := []api.Value{null(), truth(true), truth(false), str(""), str("a"), str("abc"), inBoth(63, str("abc"))}
	for _, f := range figures {
		l = append(l, f.v)
	}
	for _, s := range samples() {
		l = append(l, s.v)
	}
	for seed := range 500 {
		l = append(l, made(seed))
	}
	return l
}

func TestAnswersShareNothing(t *testing.T) {
	for _, v := range someValues() {
		v = roomy(v)
		l := spansOf("what was handed in", textsOf(v)...)
		for name, call := range calls {
			one, _ := call(v)
			again, _ := call(v)
			l = append(l, spansOf(name, one, again)...)
		}
		checkApart(t, told(v), l)
	}
}

func TestArgumentsStay(t *testing.T) {
	for _, v := range append(someValues(), wrong()...) {
		v = roomy(v)
		before := told(filled(v))
		for name, call := range calls {
			call(v)
			if told(filled(v)) != before {
				t.Fatalf("%s changed %.300s", name, before)
			}
		}
	}
}

// overwritten is v with texts that lie in memory of which a function writes over every byte, lists and all.
func overwritten(v api.Value) (api.Value, func()) {
	var all [][]byte
	loose := func(s string) string {
		b := []byte(s)
		all = append(all, b)
		return unsafe.String(unsafe.SliceData(b), len(b))
	}
	var loosen func(api.Value) api.Value
	loosen = func(v api.Value) api.Value {
		v.Num.Digits, v.Str = loose(v.Num.Digits), loose(v.Str)
		v.Keys, v.Kids = slices.Clone(v.Keys), slices.Clone(v.Kids)
		for i := range v.Keys {
			v.Keys[i] = loose(v.Keys[i])
		}
		for i := range v.Kids {
			v.Kids[i] = loosen(v.Kids[i])
		}
		return v
	}
	v = loosen(v)
	return v, func() {
		for _, b := range all {
			for i := range b {
				b[i] = '7'
			}
		}
		clear(v.Keys)
		clear(v.Kids)
	}
}

func TestWritingOverWhatWasHandedIn(t *testing.T) {
	for _, v := range someValues() {
		for name, call := range calls {
			handed, spoil := overwritten(v)
			got, _ := call(handed)
			spoil()
			if want, e := call(v); got != want || e != api.OK {
				t.Errorf("%s of %.300s: what was written into it changed the answer", name, told(v))
			}
		}
	}
}

func TestIsKeepsNothing(t *testing.T) {
	for _, s := range append(canons(), " 1", "[1,", `{"b":1,"a":2}`) {
		b := []byte(s)
		text := unsafe.String(unsafe.SliceData(b), len(b))
		want := Is(text)
		if string(b) != s {
			t.Fatalf("Is changed %s", some(s))
		}
		for i := range b {
			b[i] = 'x'
		}
		checkIs(t, text, false)
		checkIs(t, s, want)
	}
}
