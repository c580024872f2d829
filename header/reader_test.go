package header

import (
	"reflect"
	"testing"

	"hanaper/api"
)

// Behind the first error nothing is read, counted or kept, whatever is left.
func TestMethodsDoNothingBehindAnError(t *testing.T) {
	left := "\x01\x01a\x00" + string(make([]byte, 100))
	for _, e := range []api.Errno{api.ErrShort, api.ErrSize, api.ErrOrder} {
		want := reader{v: api.Version{Id: 5, Names: []string{"b", "a"}}, left: left, e: e}
		got := want
		ones := 0
		for _, do := range []func(){got.id, got.block, got.file, got.end} {
			do()
			got.many(api.MaxBlocks, do)
			got.many(api.MaxBlocks, func() { ones++ })
		}
		if !reflect.DeepEqual(got, want) || ones != 0 {
			t.Errorf("a reader behind error %d: %v, want %v; %d things read", e, got, want, ones)
		}
	}
}

// An error leaves what is left where it was met.
func TestAnErrorReadsNothing(t *testing.T) {
	for i, c := range []struct {
		left string
		do   func(r *reader)
		e    api.Errno
	}{
		{"abc", (*reader).id, api.ErrShort},
		{"abc", (*reader).block, api.ErrShort},
		{"\x80\x00", (*reader).file, api.ErrLong},
		{"\x02a", (*reader).file, api.ErrShort},
		{"\x02a", func(r *reader) { r.many(1, r.id) }, api.ErrSize},
		{"\x02\x00\x00\x00\x00", (*reader).end, api.OK},
	} {
		r := reader{left: c.left}
		c.do(&r)
		if !reflect.DeepEqual(r, reader{left: c.left, e: c.e}) {
			t.Errorf("reader %d: %v, want error %d and all of %q left", i, r, c.e, c.left)
		}
	}
}
