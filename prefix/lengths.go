package prefix

import (
	"cmp"
	"slices"

	"hanaper/api"
)

const heaviest = 1 << 20 // that a symbol may come

// tree of a symbol, or, with two branches, of a pair of trees.
type tree struct {
	weight      int
	symbol      int
	left, right *tree
}

// Lengths are those of words that are the shorter the more often their symbols come.
func Lengths(freq []int, limit int) ([]int, api.Errno) {
	if limit < 1 || limit > api.MaxBits || !mayCome(freq, limit) {
		return nil, api.ErrArg
	}
	isTooLong := func(length int) bool { return length > limit }
	freq = slices.Clone(freq)
	for {
		lengths := depths(freq)
		if !slices.ContainsFunc(lengths, isTooLong) {
			return lengths, api.OK
		}
		// This ends: once all weigh 1, no tree is deeper than it has to be.
		halve(freq)
	}
}

func mayCome(freq []int, limit int) bool {
	if len(freq) > most {
		return false
	}
	used := 0
	for _, n := range freq {
		if n < 0 || n > heaviest {
			return false
		}
		if n > 0 {
			used++
		}
	}
	return used <= 1<<limit
}

// halve rounds up: what comes at all goes on coming.
func halve(freq []int) {
	for symbol, n := range freq {
		freq[symbol] = (n + 1) / 2
	}
}

// depths are the symbols' lengths, however great they are.
func depths(freq []int) []int {
	lengths := make([]int, len(freq))
	symbols := leaves(freq)
	switch len(symbols) {
	case 0:
	case 1:
		lengths[symbols[0].symbol] = 1 // a word has a bit, though no branch leads to it
	default:
		grown(symbols).tell(lengths, 0)
	}
	return lengths
}

// leaves are the trees of the symbols that come, the lightest first.
func leaves(freq []int) []*tree {
	var row []*tree
	for symbol, n := range freq {
		if n > 0 {
			row = append(row, &tree{weight: n, symbol: symbol})
		}
	}
	slices.SortStableFunc(row, func(a, b *tree) int { return cmp.Compare(a.weight, b.weight) })
	return row
}

// grown is the one tree of all symbols. Pairs wait in a row of their own, which needs no sorting: none is lighter than those made ahead of it.
func grown(symbols []*tree) *tree {
	var pairs []*tree
	lightest := func() *tree {
		row := &symbols
		// All symbols were there ahead of all pairs: of the same weight a symbol goes.
		if len(symbols) == 0 || len(pairs) > 0 && pairs[0].weight < symbols[0].weight {
			row = &pairs
		}
		first := (*row)[0]
		*row = (*row)[1:]
		return first
	}
	for len(symbols)+len(pairs) > 1 {
		left := lightest()
		right := lightest()
		pairs = append(pairs, &tree{weight: left.weight + right.weight, left: left, right: right})
	}
	return lightest()
}

// tell writes down how deep each symbol stands.
func (t *tree) tell(lengths []int, depth int) {
	if t.left == nil {
		lengths[t.symbol] = depth
		return
	}
	t.left.tell(lengths, depth+1)
	t.right.tell(lengths, depth+1)
}
