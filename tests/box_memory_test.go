package tests

import (
	"reflect"
	"slices"
	"strings"
	"sync"
	"testing"
	"unsafe"

	"loop.example/g00629/impl"
)

// piece is where a list, or the bytes of a text, stand in memory.
type piece struct {
	what     string
	from, to uintptr
}

// piecesOf are the lists, with the room behind them, and the texts that a thing reaches.
func piecesOf(what string, v reflect.Value) (lists, texts []piece) {
	add := func(what string, v reflect.Value) {
		moreLists, moreTexts := piecesOf(what, v)
		lists, texts = append(lists, moreLists...), append(texts, moreTexts...)
	}
	switch v.Kind() {
	case reflect.String:
		from := uintptr(unsafe.Pointer(unsafe.StringData(v.String())))
		texts = append(texts, piece{what, from, from + uintptr(v.Len())})
	case reflect.Struct:
		for n := range v.NumField() {
			add(what+"."+v.Type().Field(n).Name, v.Field(n))
		}
	case reflect.Slice:
		from := v.Pointer()
		lists = append(lists, piece{what, from, from + uintptr(v.Cap())*v.Type().Elem().Size()})
		for n := range v.Len() {
			add(what+"[]", v.Index(n))
		}
	}
	return lists, texts
}

func meet(a, b piece) bool {
	return a.from < b.to && b.from < a.to
}

// isItsOwn looks that no two lists of an answer share memory, and none of its lists and texts
// any with an argument.
func isItsOwn(t *testing.T, what string, answer any, arguments ...any) {
	t.Helper()
	lists, texts := piecesOf(what, reflect.ValueOf(answer))
	for at, a := range lists {
		for _, b := range lists[:at] {
			if meet(a, b) {
				t.Errorf("%s and %s share memory", a.what, b.what)
			}
		}
	}
	for _, argument := range arguments {
		otherLists, otherTexts := piecesOf("an argument", reflect.ValueOf(argument))
		for _, a := range append(lists, texts...) {
			for _, b := range append(otherLists, otherTexts...) {
				if meet(a, b) {
					t.Errorf("%s and %s share memory", a.what, b.what)
				}
			}
		}
	}
}

// turnAll turns each item of each list that a thing reaches, and of the room behind it.
func turnAll(v reflect.Value) {
	switch v.Kind() {
	case reflect.Struct:
		for n := range v.NumField() {
			turnAll(v.Field(n))
		}
	case reflect.Slice:
		for n := range v.Len() {
			turnAll(v.Index(n))
		}
		all := v.Slice(0, v.Cap())
		for n := range all.Len() {
			all.Index(n).SetZero()
		}
	}
}

// roomyBox is b, with room behind each of its lists that is filled, so that a write there is seen.
func roomyBox(b impl.Box) impl.Box {
	own := ownABox(b)
	own.Keys = append(own.Keys, key("room", -7), key("room", -7))[:len(b.Keys)]
	own.Revoked = append(own.Revoked, 77, 77)[:len(b.Revoked)]
	own.In = append(own.In, share(-7, "room"), share(-7, "room"))[:len(b.In)]
	own.Audit = roomyAudit(b.Audit)
	return own
}

func isRoomyBox(b impl.Box) bool {
	keys, revoked, in := len(b.Keys), len(b.Revoked), len(b.In)
	return slices.Equal(b.Keys[:keys+2][keys:], []impl.Key{key("room", -7), key("room", -7)}) &&
		slices.Equal(b.Revoked[:revoked+2][revoked:], []int64{77, 77}) &&
		slices.Equal(b.In[:in+2][in:], []impl.Share{share(-7, "room"), share(-7, "room")}) && isRoomy(b.Audit)
}

// fullBox has something in each of its lists.
func fullBox() impl.Box {
	b := dealtBox("master", 2, 6, 1, 3, 4)
	b.Keys = []impl.Key{boxKeyAsked("master", "b"), boxKeyAsked("master", "k1")}
	b.Revoked, b.Audit = []int64{2, 6}, someAudit(8)
	return ownABox(b)
}

// asking is a call upon a box, with the other things that are handed in.
type asking struct {
	what string
	with []any
	call func(b impl.Box) any
}

func ownPins(pins []string) []string {
	var own []string
	for _, pin := range pins {
		own = append(own, strings.Clone(pin))
	}
	return append(own, "room")[:len(pins)]
}

// askings are made anew each time: what is handed in is in memory of its own.
func askings() []asking {
	c := cardsFor(fullBox())[4]
	c.Pin, c.Share.Data = strings.Clone(c.Pin), strings.Clone(c.Share.Data)
	gone := c
	gone.Tries = 0
	forged := cardsFor(dealtBox("masteR", 3, 6))[4]
	forged.Share.Data = "no"
	name, there, text, salt, pin := strings.Clone("a1"), strings.Clone("k1"), strings.Clone("pay"), strings.Clone("new"), strings.Clone(boxPin)
	pins, few := ownPins(somePins(6)), ownPins(somePins(5))
	return []asking{
		{"Insert", []any{c, pin}, func(b impl.Box) any { return impl.Insert(b, c, pin) }},
		{"Insert by a wrong pin", []any{c}, func(b impl.Box) any { return impl.Insert(b, c, "4321") }},
		{"Insert of one shut out", []any{gone, pin}, func(b impl.Box) any { return impl.Insert(b, gone, pin) }},
		{"Insert of a forged one", []any{forged, pin}, func(b impl.Box) any { return impl.Insert(b, forged, pin) }},
		{"Insert of none", []any{pin}, func(b impl.Box) any { return impl.Insert(b, impl.Card{}, pin) }},
		{"Eject", nil, func(b impl.Box) any { return impl.Eject(b, 3) }},
		{"Eject of the first one", nil, func(b impl.Box) any { return impl.Eject(b, 1) }},
		{"Eject of none", nil, func(b impl.Box) any { return impl.Eject(b, 5) }},
		{"NewKey ahead", []any{name}, func(b impl.Box) any { return impl.NewKey(b, name) }},
		{"NewKey between", nil, func(b impl.Box) any { return impl.NewKey(b, "c") }},
		{"NewKey behind", nil, func(b impl.Box) any { return impl.NewKey(b, "z") }},
		{"NewKey of one there", []any{there}, func(b impl.Box) any { return impl.NewKey(b, there) }},
		{"SignKey", []any{there, text}, func(b impl.Box) any { return impl.SignKey(b, there, text) }},
		{"SignKey of none", []any{name, text}, func(b impl.Box) any { return impl.SignKey(b, name, text) }},
		{"Issue", []any{salt, pins}, func(b impl.Box) any { return impl.Issue(b, salt, pins) }},
		{"Issue of too few", []any{salt, few}, func(b impl.Box) any { return impl.Issue(b, salt, few) }},
		{"Revoke of one in", nil, func(b impl.Box) any { return impl.Revoke(b, 1) }},
		{"Revoke of one out", nil, func(b impl.Box) any { return impl.Revoke(b, 5) }},
		{"Revoke again", nil, func(b impl.Box) any { return impl.Revoke(b, 6) }},
		{"BoxRight", nil, func(b impl.Box) any { return impl.BoxRight(b) }},
		{"Opened", nil, func(b impl.Box) any { return impl.Opened(b) }},
		{"KeyOf", []any{there}, func(b impl.Box) any { return impl.KeyOf(b, there) }},
		{"BoxNew", []any{text, salt, pins}, func(b impl.Box) any { return impl.BoxNew(text, 2, salt, pins) }},
		{"BoxNew of too many needed", []any{text, salt, few}, func(b impl.Box) any { return impl.BoxNew(text, 6, salt, few) }},
	}
}

// sameAgain holds two answers of one call against each other, part by part; an empty list and none are the same.
func sameAgain(t *testing.T, what string, a, b any) {
	t.Helper()
	switch x := a.(type) {
	case impl.BoxOut:
		sameBoxOut(t, what, b.(impl.BoxOut), x)
	case impl.SignOut:
		sameSignOut(t, what, b.(impl.SignOut), x)
	default:
		same(t, what, b, a)
	}
}

// No call changes what is handed in, nor what stands behind it.
func TestBoxLeavesItsArguments(t *testing.T) {
	for _, was := range []impl.Box{fullBox(), dealtBox("master", 2, 6), changed([]impl.Box{fullBox()}, withAudit(someAudit(12)))[0], {Need: 1}} {
		for at := range askings() {
			b := roomyBox(was)
			asked := askings()[at]
			before := askings()[at]
			asked.call(b)
			same(t, asked.what+": the box", equalBoxes(b, was), true)
			same(t, asked.what+": behind its lists", isRoomyBox(b), true)
			same(t, asked.what+": all else", reflect.DeepEqual(asked.with, before.with), true)
			for _, one := range asked.with {
				if pins, is := one.([]string); is {
					same(t, asked.what+": behind the pins", pins[:len(pins)+1][len(pins)], "room")
				}
			}
		}
	}
}

// An answer shares no memory with an argument, and no two lists of it share any.
func TestBoxAnswerIsItsOwn(t *testing.T) {
	boxes := []impl.Box{fullBox(), roomyBox(fullBox()), dealtBox("master", 2, 6, 2), dealtBox("master", 2, 6), changed([]impl.Box{fullBox()}, withAudit(someAudit(11)))[0]}
	for _, b := range boxes {
		for _, asked := range askings() {
			isItsOwn(t, asked.what, asked.call(b), append(asked.with, b)...)
		}
	}
}

// Either may be turned behind the call, and the other one stays.
func TestBoxAnswerTurned(t *testing.T) {
	for at := range askings() {
		b, asked, want := fullBox(), askings()[at], askings()[at].call(fullBox())
		got := asked.call(b)
		turnAll(reflect.ValueOf(b))
		for _, one := range asked.with {
			turnAll(reflect.ValueOf(one))
		}
		sameAgain(t, asked.what+": the arguments turned", want, got)

		b, asked = fullBox(), askings()[at]
		turnAll(reflect.ValueOf(asked.call(b)))
		same(t, asked.what+": the answer turned", equalBoxes(b, fullBox()), true)
		same(t, asked.what+": all else", reflect.DeepEqual(asked.with, askings()[at].with), true)
	}
}

// One list of an answer turned, whichever: all others stay.
func TestBoxListsAreApart(t *testing.T) {
	b := fullBox()
	shared := []int64{2, 6}
	b.Revoked = shared
	for at := range b.Audit.Lines {
		b.Audit.Lines[at].Cards = shared
	}
	b.Audit = auditAsked(b.Audit.Lines...)
	for at := range b.Audit.Lines {
		b.Audit.Lines[at].Cards = shared
	}
	same(t, "right", impl.BoxRight(b), true)
	for _, asked := range askings() {
		out := asked.call(b)
		isItsOwn(t, asked.what, out, append(asked.with, b)...)
		told, is := out.(impl.BoxOut)
		if !is || told.Code != impl.OK || len(told.Box.Revoked) == 0 {
			continue
		}
		want := ownABox(told.Box)
		clear(told.Box.Revoked)
		clear(want.Revoked)
		same(t, asked.what+": Revoked turned", equalBoxes(told.Box, want), true)
		clear(told.Box.Audit.Lines[0].Cards)
		clear(want.Audit.Lines[0].Cards)
		same(t, asked.what+": the Cards of a Line turned", equalBoxes(told.Box, want), true)
	}
	same(t, "what was shared", slices.Equal(shared, []int64{2, 6}), true)
}

// The same calls answer the same, one after the other and many at once.
func TestBoxAnswersTheSame(t *testing.T) {
	b := fullBox()
	wants := make([]any, len(askings()))
	for at, asked := range askings() {
		wants[at] = asked.call(b)
	}
	var all sync.WaitGroup
	for range 12 {
		all.Go(func() {
			for range 3 {
				for at, asked := range askings() {
					sameAgain(t, asked.what+" again", wants[at], asked.call(b))
				}
			}
		})
	}
	all.Wait()
	same(t, "the box", equalBoxes(b, fullBox()), true)
}
