package files

import (
	"slices"
	"strings"
	"testing"
)

func TestPiecesAreToldOnceMore(t *testing.T) {
	s := strings.Repeat("x", 256) + strings.Repeat("y", 256) + "z"
	all := pieces(s)
	for range 3 {
		var got []string
		for piece := range all {
			got = append(got, piece)
		}
		if !slices.Equal(got, []string{s[:256], s[256:512], "z"}) {
			t.Errorf("the pieces: %.20q", got)
		}
	}
}

func TestPiecesMayBeLeft(t *testing.T) {
	s := strings.Repeat("x", 2000)
	told := 0
	for piece := range pieces(s) {
		told++
		if piece != s[:256] {
			t.Errorf("a piece of %d bytes", len(piece))
		}
		if told == 3 {
			break
		}
	}
	if told != 3 {
		t.Errorf("%d pieces were told", told)
	}
}
