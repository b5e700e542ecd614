package tree

import (
	"cmp"
	"fmt"
	"slices"
	"strings"
	"testing"
	"unsafe"

	"tabularium/api"
)

// R4: what is handed in isn't changed and isn't kept, and what is answered is new memory.

// roomy is v in lists that have spare room, which isn't empty, and in texts of its own.
func roomy(v api.Value) api.Value {
	v.Num.Digits, v.Str = strings.Clone(v.Num.Digits), strings.Clone(v.Str)
	keys := make([]string, 0, len(v.Keys)+2)
	for _, key := range v.Keys {
		keys = append(keys, strings.Clone(key))
	}
	kids := make([]api.Value, 0, len(v.Kids)+2)
	for _, kid := range v.Kids {
		kids = append(kids, roomy(kid))
	}
	v.Keys = append(keys, "spare", "room")[:len(keys)]
	v.Kids = append(kids, str("spare"), list(str("room")))[:len(kids)]
	return v
}

// whole is v with the spare room of its lists as a part of them.
func whole(v api.Value) api.Value {
	v.Keys = v.Keys[:cap(v.Keys)]
	kids := slices.Clone(v.Kids[:cap(v.Kids)])
	for i, kid := range kids {
		kids[i] = whole(kid)
	}
	v.Kids = kids
	return v
}

// scribble writes over all that can be written of v's lists, spare room included.
func scribble(v api.Value) {
	for i, kid := range v.Kids[:cap(v.Kids)] {
		scribble(kid)
		v.Kids[:cap(v.Kids)][i] = api.Value{Kind: 77, Str: "scribbled", Kids: []api.Value{str("over")}}
	}
	for i := range v.Keys[:cap(v.Keys)] {
		v.Keys[:cap(v.Keys)][i] = "scribbled"
	}
}

// span is memory that something lies in.
type span struct {
	begin unsafe.Pointer
	size  uintptr
	what  string
}

// lists are the spans of all lists of v, spare room included.
func lists(v api.Value) []span {
	var l []span
	if cap(v.Keys) > 0 {
		l = append(l, span{unsafe.Pointer(unsafe.SliceData(v.Keys)), uintptr(cap(v.Keys)) * unsafe.Sizeof(""), "keys"})
	}
	if cap(v.Kids) > 0 {
		l = append(l, span{unsafe.Pointer(unsafe.SliceData(v.Kids)), uintptr(cap(v.Kids)) * unsafe.Sizeof(v), "kids"})
	}
	for _, kid := range v.Kids {
		l = append(l, lists(kid)...)
	}
	return l
}

// texts are the spans of all texts of v.
func texts(v api.Value) []span {
	var l []span
	for _, s := range append([]string{v.Str, v.Num.Digits}, v.Keys...) {
		if s != "" {
			l = append(l, span{unsafe.Pointer(unsafe.StringData(s)), uintptr(len(s)), "a text"})
		}
	}
	for _, kid := range v.Kids {
		l = append(l, texts(kid)...)
	}
	return l
}

// checkApart holds all spans against each other: no two may share a byte.
func checkApart(t *testing.T, what string, l []span) {
	t.Helper()
	slices.SortFunc(l, func(a, b span) int { return cmp.Compare(uintptr(a.begin), uintptr(b.begin)) })
	for i := 1; i < len(l); i++ {
		if uintptr(l[i-1].begin)+l[i-1].size > uintptr(l[i].begin) {
			t.Errorf("%s: %s and %s share memory", what, l[i-1].what, l[i].what)
		}
	}
}

// answers are the calls that answer values, each as a function that answers all it tells of one value.
var answers = map[string]func(api.Value) []api.Value{
	"Copy": func(v api.Value) []api.Value { return []api.Value{Copy(v)} },
	"Sort": func(v api.Value) []api.Value { return []api.Value{Sort(v)} },
	"Get": func(v api.Value) []api.Value {
		var l []api.Value
		for _, key := range v.Keys {
			one, _ := Get(v, key)
			l = append(l, one)
		}
		return l
	},
	"At": func(v api.Value) []api.Value {
		one, _ := At(v)
		l := []api.Value{one}
		for i, key := range v.Keys {
			if one, ok := At(v, key); ok && len(v.Kids[i].Keys) > 0 {
				within, _ := At(v, key, v.Kids[i].Keys[0])
				l = append(l, one, within)
			}
		}
		return l
	},
	"Walk": func(v api.Value) []api.Value {
		var l []api.Value
		for _, one := range Walk(v) {
			l = append(l, one)
		}
		return l
	},
}

// someValues are values of every kind and shape, right ones and others.
func someValues(t *testing.T) []api.Value {
	l := append(plain(), mixed(t)[:300]...)
	for _, v := range wrong() {
		l = append(l, v, object("z", list(v), "a", named("c", "b")))
	}
	return append(l, inBoth(20, named("b", "a")), inObjects(40, named("b", "a")))
}

// tellAll is told of each of l.
func tellAll(l []api.Value) string {
	var out strings.Builder
	for _, v := range l {
		out.WriteString(told(v))
	}
	return out.String()
}

func TestAnswersShareNothing(t *testing.T) {
	for _, v := range someValues(t) {
		v = roomy(v)
		for name, call := range answers {
			var l []span
			for _, answer := range slices.Concat(call(v), call(v)) {
				l = append(append(l, lists(answer)...), texts(answer)...)
			}
			checkApart(t, fmt.Sprintf("%s of %.200s", name, told(v)), append(append(l, lists(v)...), texts(v)...))
		}
	}
}

func TestWritingOverWhatWasHandedIn(t *testing.T) {
	for _, v := range someValues(t) {
		for name, call := range answers {
			handed := roomy(v)
			got := call(handed)
			want := tellAll(got)
			scribble(handed)
			if tellAll(got) != want {
				t.Errorf("%s of %.200s: what was written into it changed the answer", name, told(v))
			}
		}
	}
}

func TestWritingOverWhatWasAnswered(t *testing.T) {
	for _, v := range someValues(t) {
		v = roomy(v)
		before := told(whole(v))
		for name, call := range answers {
			got, again := call(v), call(v)
			want := tellAll(again)
			for _, one := range got {
				scribble(one)
			}
			if told(whole(v)) != before {
				t.Fatalf("%s of %.200s: what was written into the answer changed what was handed in", name, before)
			}
			if tellAll(again) != want || tellAll(call(v)) != want {
				t.Errorf("%s of %.200s: what was written into the answer changed another one", name, before)
			}
		}
	}
}

func TestArgumentsStay(t *testing.T) {
	for _, v := range someValues(t) {
		v = roomy(v)
		before := told(whole(v))
		Right(v)
		Deep(v)
		Same(v, v)
		for _, call := range answers {
			call(v)
		}
		if told(whole(v)) != before {
			t.Errorf("%.300s was changed", before)
		}
	}
}

func TestPathStays(t *testing.T) {
	path := append(make([]string, 0, 5), "in", "in", "b", "spare", "room")
	if v, ok := At(inObjects(2, named("a", "b")), path[:3]...); !ok || v.Str != "of b" {
		t.Error(v, ok)
	}
	if !slices.Equal(path, []string{"in", "in", "b", "spare", "room"}) {
		t.Errorf("the path was changed to %q", path)
	}
}

// What Walk was handed may be written into before its iterator is gone through, and on the way.
func TestWalkKeepsNothing(t *testing.T) {
	for _, v := range someValues(t) {
		want := steps(v)
		handed := roomy(v)
		all := Walk(handed)
		scribble(handed)
		checkSteps(t, "written into behind the call", all, want, len(want)+1)

		handed = roomy(v)
		all = Walk(handed)
		n := 0
		for deep, one := range all {
			if n < len(want) && (deep != want[n].deep || told(one) != want[n].one) {
				t.Errorf("value %d of %.200s: %d, %.200s", n, told(v), deep, told(one))
			}
			scribble(one)
			scribble(handed)
			n++
		}
		if n != len(want) {
			t.Errorf("%d values were told of %.200s, not %d", n, told(v), len(want))
		}
		checkSteps(t, "written into on the way", all, want, len(want)+1)
	}
}
