package check

import (
	"hash/crc32"
	"slices"
	"testing"
)

func TestTableOfEachByte(t *testing.T) {
	if got := table(); !slices.Equal(got[:], crc32.IEEETable[:]) {
		t.Errorf("the table: %x", got)
	}
}

func someFrames(t *testing.T) string {
	t.Helper()
	all := ""
	for _, s := range []string{"a", "", "c"} {
		made, _ := Frame(s)
		all += made
	}
	return all
}

func TestFramesAreToldOnceMore(t *testing.T) {
	l := frames(someFrames(t) + "z")
	for range 3 {
		var got, rests []string
		for framed, behind := range l {
			got = append(got, framed)
			rests = append(rests, behind)
		}
		if !slices.Equal(got, []string{"a", "", "c"}) || rests[2] != "z" {
			t.Errorf("frames %q, behind them %q", got, rests)
		}
	}
}

func TestFramesMayBeLeft(t *testing.T) {
	told := 0
	for framed := range frames(someFrames(t)) {
		told++
		if framed == "" {
			break
		}
	}
	if told != 2 {
		t.Errorf("%d frames were told", told)
	}
}
