package fresh_test

import (
	"reflect"
	"testing"

	"comptoir/api"
	"comptoir/fresh"
)

// roomy is the items in a list with room behind its end, in which one more stands.
func roomy[T any](behind T, items ...T) []T {
	return append(append(make([]T, 0, len(items)+1), items...), behind)[:len(items)]
}

// message has something of each field, and room behind each list.
func message() api.Message {
	return api.Message{
		Kind: 1, Stan: 2, Time: "a", Acquirer: "b", Pan: "c", Currency: "d", Amount: 3, Rrn: "e", Merchant: "f", Terminal: "g", Approval: "h", Entry: 4, Action: "i", Reason: "j",
		Origin: api.Origin{Stan: 5, Time: "k"},
		Tags:   roomy(api.Tag{Tag: 99}, api.Tag{Tag: 6, Data: roomy[byte](99, 1, 2)}, api.Tag{Tag: 7}),
		Key:    "l", Note: "m",
		Extra: roomy(api.Pair{Key: "room"}, api.Pair{Key: "n", Val: "o"}, api.Pair{}),
		Other: roomy(api.Element{No: 99}, api.Element{No: 60, Data: roomy[byte](99, 3)}, api.Element{No: 61}),
	}
}

// residue has something of each field, and room behind each list.
func residue() api.Residue {
	m := message()
	return api.Residue{Note: m.Note, Merchant: m.Merchant, Terminal: m.Terminal, Extra: m.Extra, Other: m.Other}
}

// scribble writes over all data of l, and the room behind them.
func scribble(l []byte) {
	for i := range l[:cap(l)] {
		l[:cap(l)][i] = 170
	}
}

// scribbleTags writes over l, the data in it, and the room behind it.
func scribbleTags(l []api.Tag) {
	l = l[:cap(l)]
	for i := range l {
		scribble(l[i].Data)
		l[i] = api.Tag{Tag: 170}
	}
}

// scribbleElements writes over l, the data in it, and the room behind it.
func scribbleElements(l []api.Element) {
	l = l[:cap(l)]
	for i := range l {
		scribble(l[i].Data)
		l[i] = api.Element{No: 170}
	}
}

// scribblePairs writes over l, and the room behind it.
func scribblePairs(l []api.Pair) {
	l = l[:cap(l)]
	for i := range l {
		l[i] = api.Pair{Key: "170"}
	}
}

// scribbleMessage writes over all lists of m.
func scribbleMessage(m api.Message) {
	scribbleTags(m.Tags)
	scribblePairs(m.Extra)
	scribbleElements(m.Other)
}

// scribbleResidue writes over all lists of r.
func scribbleResidue(r api.Residue) {
	scribblePairs(r.Extra)
	scribbleElements(r.Other)
}

// behind fails if the room behind the lists of m was written.
func behind(t *testing.T, m api.Message) {
	t.Helper()
	if m.Tags[:3][2].Tag != 99 || m.Tags[0].Data[:3][2] != 99 || m.Extra[:3][2].Key != "room" || m.Other[:3][2].No != 99 || m.Other[0].Data[:2][1] != 99 {
		t.Errorf("the room behind a list was written: %+v", m)
	}
}

func TestMessageIsTheSame(t *testing.T) {
	for i, m := range []api.Message{{}, message(), {Extra: []api.Pair{{}}}, {Tags: []api.Tag{{}}}, {Other: []api.Element{{}}}} {
		if got := fresh.Message(m); !reflect.DeepEqual(got, m) {
			t.Errorf("row %d: %+v; want %+v", i, got, m)
		}
	}
}

func TestResidueIsTheSame(t *testing.T) {
	for i, r := range []api.Residue{{}, residue(), {Extra: []api.Pair{{}}}, {Other: []api.Element{{}}}} {
		if got := fresh.Residue(r); !reflect.DeepEqual(got, r) {
			t.Errorf("row %d: %+v; want %+v", i, got, r)
		}
	}
}

func TestEmptyListsAreNone(t *testing.T) {
	m := api.Message{Tags: []api.Tag{}, Extra: []api.Pair{}, Other: []api.Element{}}
	if got := fresh.Message(m); !reflect.DeepEqual(got, api.Message{}) {
		t.Errorf("Message: %#v", got)
	}
	if got := fresh.Residue(api.Residue{Extra: m.Extra, Other: m.Other}); !reflect.DeepEqual(got, api.Residue{}) {
		t.Errorf("Residue: %#v", got)
	}
}

func TestMessageSharesNothing(t *testing.T) {
	in := message()
	got, more := fresh.Message(in), fresh.Message(in)
	behind(t, in)
	scribbleMessage(in)
	if want := message(); !reflect.DeepEqual(got, want) {
		t.Errorf("it turned with what was handed in: %+v", got)
	}
	scribbleMessage(got)
	if want := message(); !reflect.DeepEqual(more, want) {
		t.Errorf("it turned with another: %+v", more)
	}
	in = message()
	scribbleMessage(fresh.Message(in))
	behind(t, in)
	if want := message(); !reflect.DeepEqual(in, want) {
		t.Errorf("what was handed in turned: %+v", in)
	}
}

func TestResidueSharesNothing(t *testing.T) {
	in := residue()
	got, more := fresh.Residue(in), fresh.Residue(in)
	scribbleResidue(in)
	if want := residue(); !reflect.DeepEqual(got, want) {
		t.Errorf("it turned with what was handed in: %+v", got)
	}
	scribbleResidue(got)
	if want := residue(); !reflect.DeepEqual(more, want) {
		t.Errorf("it turned with another: %+v", more)
	}
	in = residue()
	scribbleResidue(fresh.Residue(in))
	if want := residue(); !reflect.DeepEqual(in, want) {
		t.Errorf("what was handed in turned: %+v", in)
	}
}
