package varint

import (
	"slices"
	"testing"
)

func TestSevensAreToldOnceMore(t *testing.T) {
	all := sevens(300)
	for range 3 {
		var got []byte
		for seven := range all {
			got = append(got, seven)
		}
		if !slices.Equal(got, []byte{44, 2}) {
			t.Errorf("the sevens of 300: %d", got)
		}
	}
}

func TestSevensMayBeLeft(t *testing.T) {
	told := 0
	for seven, last := range sevens(1<<64 - 1) {
		told++
		if seven != 127 || last {
			t.Errorf("seven %d, last %t", seven, last)
		}
		if told == 3 {
			break
		}
	}
	if told != 3 {
		t.Errorf("%d sevens were told", told)
	}
}
