package wire

import (
	"strings"

	"hanaper/api"
	"hanaper/header"
	"hanaper/varint"
)

// The bytes of numbers.
const (
	small = 1 // of kinds, ends, clients and counts
	short = 2 // of errors
	whole = 4 // of views, of what clients number, and of Ids
)

// field is what is written as a number.
type field interface{ ~int | ~uint32 }

func putNumbers[N field](made *strings.Builder, width int, l ...N) {
	for _, n := range l {
		made.WriteString(varint.Big(uint64(n), width))
	}
}

func putVersion(made *strings.Builder, v api.Version) {
	// No error comes: whoever asks has looked whether v may be.
	s, _ := header.Encode(v)
	made.WriteString(s)
}

func putRequest(made *strings.Builder, r api.Request) {
	putNumbers(made, small, r.Client)
	putNumbers(made, whole, r.Seq)
	putNumbers(made, small, r.Op.Kind)
	putNumbers(made, whole, r.Op.Id)
	if r.Op.Kind == putKind {
		putVersion(made, r.Op.V)
	}
}

func putMsg(made *strings.Builder, m Msg) {
	putNumbers(made, small, m.Kind, m.From, m.To)
	putNumbers(made, whole, m.View, m.Last)
	putNumbers(made, small, m.N, m.Commit, len(m.Log))
	for _, r := range m.Log {
		putRequest(made, r)
	}
	putNumbers(made, small, m.Client)
	putNumbers(made, whole, m.Seq)
	putReply(made, m.Reply)
	made.Write(m.Hash[:])
	made.WriteString(varint.Text(m.Block))
}

func putReply(made *strings.Builder, r api.Reply) {
	putNumbers(made, short, r.E)
	putNumbers(made, small, len(r.Ids))
	putNumbers(made, whole, r.Ids...)
	putVersion(made, r.V)
}
