package bitio

import (
	"slices"
	"testing"
)

func TestBitsAreToldOnceMore(t *testing.T) {
	all := bits([]Piece{{N: 2, Width: 3}, {}, {N: 1, Width: 2}})
	for range 3 {
		var got []byte
		for bit := range all {
			got = append(got, bit)
		}
		if !slices.Equal(got, []byte{0, 1, 0, 1, 0}) {
			t.Errorf("the bits: %d", got)
		}
	}
}

func TestBitsMayBeLeft(t *testing.T) {
	told := 0
	for bit := range bits([]Piece{{N: 3, Width: 2}, {N: 7, Width: 3}}) {
		told++
		if bit != 1 {
			t.Errorf("bit %d", bit)
		}
		if told == 3 {
			break
		}
	}
	if told != 3 {
		t.Errorf("%d bits were told", told)
	}
}
