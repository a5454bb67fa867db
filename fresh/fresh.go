// Package fresh is what layers share that hand out lists which were handed in to them: each list in memory of its own.
package fresh

import (
	"comptoir/api"
)

// Message is m, with lists of its own.
func Message(m api.Message) api.Message {
	m.Tags = each(m.Tags, tag)
	m.Extra = pairs(m.Extra)
	m.Other = each(m.Other, element)
	return m
}

// Residue is r, with lists of its own.
func Residue(r api.Residue) api.Residue {
	r.Extra = pairs(r.Extra)
	r.Other = each(r.Other, element)
	return r
}

// tag is t, with data of its own.
func tag(t api.Tag) api.Tag {
	t.Data = data(t.Data)
	return t
}

// element is x, with data of its own.
func element(x api.Element) api.Element {
	x.Data = data(x.Data)
	return x
}

// pairs are those of l, in a list of its own; texts are never written, and may be shared.
func pairs(l []api.Pair) []api.Pair {
	return append([]api.Pair(nil), l...)
}

// data is the bytes of b, in a list of its own.
func data(b []byte) []byte {
	return append([]byte(nil), b...)
}

// each is a list of what the call makes of each of l.
func each[T any](l []T, anew func(T) T) []T {
	var out []T
	for _, x := range l {
		out = append(out, anew(x))
	}
	return out
}
