package vault_test

import (
	"fmt"
	"math"
	"math/rand"
	"reflect"
	"runtime"
	"slices"
	"strings"
	"sync"
	"testing"

	"hanaper/api"
	"hanaper/header"
	"hanaper/vault"
)

const (
	put    = 1
	remove = 2
	prune  = 3
	list   = 4
	get    = 5

	mostVers  = 8
	clients   = 3
	mostFiles = 12
	mostName  = 20
	mostData  = 300
	piece     = 256
)

func someText(r *rand.Rand, n int) string {
	b := make([]byte, n)
	r.Read(b)
	return string(b)
}

// hashes is n names of blocks, each another one, and others than those of the next k.
func hashes(n, k int) []api.Hash {
	l := make([]api.Hash, n)
	for i := range l {
		l[i] = api.Hash{0: byte(i), 1: byte(i >> 8), 2: byte(k), 31: byte(k >> 8)}
	}
	return l
}

// rising is n names that rise.
func rising(n int) []string {
	l := make([]string, n)
	for i := range l {
		l[i] = fmt.Sprintf("%04d", i)
	}
	return l
}

// sized is a version of these sizes, with as many blocks as they need, if they may be.
func sized(id uint32, sizes ...int) api.Version {
	sum := 0
	for _, size := range sizes {
		sum += size
	}
	return api.Version{Id: id, Blocks: hashes((max(sum, 0)+piece-1)/piece, int(id)), Names: rising(len(sizes)), Sizes: sizes}
}

// some is a version that may be, another one for each Id.
func some(id uint32) api.Version {
	sizes := make([]int, id%4)
	for i := range sizes {
		sizes[i] = int(id+uint32(i)*100) % 301
	}
	return sized(id, sizes...)
}

func putting(v api.Version) api.Op { return api.Op{Kind: put, V: v} }

// holding is a state of some versions of these Ids, whose clients asked for something already.
func holding(ids ...uint32) vault.State {
	s := vault.State{Seqs: [clients]uint32{4, 0, math.MaxUint32}, Last: [clients]api.Reply{{Ids: []uint32{3, 1}}, {}, {E: api.ErrNone}}}
	for _, id := range ids {
		s.Vers = append(s.Vers, some(id))
	}
	return s
}

// upTo is the numbers from 1 to n.
func upTo(n int) []uint32 {
	l := make([]uint32, n)
	for i := range l {
		l[i] = uint32(i + 1)
	}
	return l
}

func copyVersion(v api.Version) api.Version {
	return api.Version{Id: v.Id, Blocks: slices.Clone(v.Blocks), Names: slices.Clone(v.Names), Sizes: slices.Clone(v.Sizes)}
}

func copyReply(r api.Reply) api.Reply {
	return api.Reply{E: r.E, Ids: slices.Clone(r.Ids), V: copyVersion(r.V)}
}

func copyState(s vault.State) vault.State {
	made := vault.State{Seqs: s.Seqs}
	for _, v := range s.Vers {
		made.Vers = append(made.Vers, copyVersion(v))
	}
	for i := range s.Last {
		made.Last[i] = copyReply(s.Last[i])
	}
	return made
}

// sameList goes element by element; a list without elements may be nil or not.
func sameList[T any](a, b []T, same func(T, T) bool) bool {
	if len(a) != len(b) {
		return false
	}
	for i := range a {
		if !same(a[i], b[i]) {
			return false
		}
	}
	return true
}

func equal[T comparable](a, b T) bool { return a == b }

func sameVersion(a, b api.Version) bool {
	return a.Id == b.Id && sameList(a.Blocks, b.Blocks, equal) && sameList(a.Names, b.Names, equal) && sameList(a.Sizes, b.Sizes, equal)
}

func sameReply(a, b api.Reply) bool {
	return a.E == b.E && sameList(a.Ids, b.Ids, equal) && sameVersion(a.V, b.V)
}

func sameState(a, b vault.State) bool {
	return sameList(a.Vers, b.Vers, sameVersion) && a.Seqs == b.Seqs && sameList(a.Last[:], b.Last[:], sameReply)
}

// told is what a failing test says of a state.
func told(s vault.State) string {
	var b strings.Builder
	for _, v := range s.Vers {
		fmt.Fprintf(&b, "version %d (%d blocks, names %q, sizes %d), ", v.Id, len(v.Blocks), v.Names, v.Sizes)
	}
	fmt.Fprintf(&b, "last %d: %.200s", s.Seqs, fmt.Sprint(s.Last))
	return b.String()
}

func checkState(t *testing.T, why string, got, want vault.State) {
	t.Helper()
	if !sameState(got, want) {
		t.Errorf("%s: the state is %s\nwant %s", why, told(got), told(want))
	}
}

func checkReply(t *testing.T, why string, got, want api.Reply) {
	t.Helper()
	if !sameReply(got, want) {
		t.Errorf("%s: the reply is %v, want %v", why, got, want)
	}
}

// checkDo holds an op against the versions behind it, and its reply; all else of the state stays.
func checkDo(t *testing.T, why string, s vault.State, o api.Op, vers []api.Version, reply api.Reply) vault.State {
	t.Helper()
	got, r := vault.Do(s, o)
	want := copyState(s)
	want.Vers = vers
	checkState(t, why, got, want)
	checkReply(t, why, r, reply)
	return got
}

func checkDoError(t *testing.T, why string, s vault.State, o api.Op, e api.Errno) {
	t.Helper()
	checkDo(t, why, s, o, s.Vers, api.Reply{E: e})
}

func checkApply(t *testing.T, why string, s vault.State, r api.Request, want vault.State, reply api.Reply) vault.State {
	t.Helper()
	got, x := vault.Apply(s, r)
	checkState(t, why, got, want)
	checkReply(t, why, x, reply)
	return got
}

// wantLook is the place of the version of an Id, or below 0.
func wantLook(l []api.Version, id uint32) int {
	for i := len(l) - 1; i >= 0; i-- {
		if l[i].Id == id {
			return i
		}
	}
	return -1
}

func idsOf(l []api.Version) []uint32 {
	var all []uint32
	for _, v := range l {
		all = append(all, v.Id)
	}
	return all
}

// wantDo is the chapter's words, on lists that are made anew each time.
func wantDo(s vault.State, o api.Op) (vault.State, api.Reply) {
	is := copyState(s)
	at := wantLook(is.Vers, o.Id)
	no := func(e api.Errno) (vault.State, api.Reply) { return is, api.Reply{E: e} }
	switch o.Kind {
	case put:
		if !header.May(o.V) {
			return no(api.ErrArg)
		}
		if wantLook(is.Vers, o.V.Id) >= 0 {
			return no(api.ErrTwice)
		}
		if len(is.Vers) > mostVers-1 {
			return no(api.ErrFull)
		}
		is.Vers = append(is.Vers, copyVersion(o.V))
		return is, api.Reply{}
	case remove:
		if at < 0 {
			return no(api.ErrNone)
		}
		var left []api.Version
		for i, v := range is.Vers {
			if i != at {
				left = append(left, v)
			}
		}
		is.Vers = left
		return is, api.Reply{}
	case prune:
		var reply api.Reply
		for int64(len(is.Vers)) > int64(o.Id) {
			reply.Ids = append(reply.Ids, is.Vers[0].Id)
			is.Vers = is.Vers[1:]
		}
		return is, reply
	case list:
		return is, api.Reply{Ids: idsOf(is.Vers)}
	case get:
		if at < 0 {
			return no(api.ErrNone)
		}
		return is, api.Reply{V: copyVersion(is.Vers[at])}
	}
	return no(api.ErrKind)
}

func wantApply(s vault.State, r api.Request) (vault.State, api.Reply) {
	switch {
	case r.Client != 0 && r.Client != 1 && r.Client != 2, r.Seq == 0:
		return copyState(s), api.Reply{E: api.ErrUser}
	case r.Seq == s.Seqs[r.Client]:
		return copyState(s), copyReply(s.Last[r.Client])
	case r.Seq < s.Seqs[r.Client]:
		return copyState(s), api.Reply{E: api.ErrOld}
	}
	is, reply := wantDo(s, r.Op)
	is.Seqs[r.Client] = r.Seq
	is.Last[r.Client] = copyReply(reply)
	return is, reply
}

type faulty struct {
	why string
	v   api.Version
}

// mayNot are versions that may not be.
func mayNot(id uint32) []faulty {
	long := sized(id, 1, 1)
	long.Names[1] = strings.Repeat("x", mostName+1)
	empty := sized(id, 1, 1)
	empty.Names[0] = ""
	falling := sized(id, 1, 1)
	falling.Names[0], falling.Names[1] = "b", "a"
	twice := sized(id, 1, 1)
	twice.Names[0] = twice.Names[1]
	many := sized(id, 300)
	many.Blocks = hashes(3, 1)
	few := sized(id, 300)
	few.Blocks = few.Blocks[:1]
	return []faulty{
		{"thirteen files", sized(id, make([]int, mostFiles+1)...)},
		{"a size above", sized(id, mostData+1)},
		{"a size below", sized(id, 1, -1)},
		{"a long name", long},
		{"an empty name", empty},
		{"names that fall", falling},
		{"one name twice", twice},
		{"a block too many", many},
		{"a block too few", few},
		{"a block alone", api.Version{Id: id, Blocks: hashes(1, 1)}},
		{"a name alone", api.Version{Id: id, Names: []string{"a"}}},
		{"a size alone", api.Version{Id: id, Sizes: []int{0}}},
	}
}

// greatest is the version of the most files that may be, of the longest names and data.
func greatest(id uint32) api.Version {
	v := sized(id, slices.Repeat([]int{mostData}, mostFiles)...)
	for i := range v.Names {
		v.Names[i] += strings.Repeat("x", mostName-len(v.Names[i]))
	}
	return v
}

// P17.1

func TestPutIsBehindAll(t *testing.T) {
	s := holding()
	var want []api.Version
	for _, id := range []uint32{5, 3, 0, math.MaxUint32, 4, 1, 1 << 31, 2} {
		v := some(id)
		want = append(want, v)
		s = checkDo(t, "put", s, putting(v), want, api.Reply{})
	}
	if len(s.Vers) != mostVers {
		t.Errorf("%d versions", len(s.Vers))
	}
}

func TestPutKeepsAll(t *testing.T) {
	for _, v := range []api.Version{{}, {Id: 7}, sized(7, 0), sized(7, 1), sized(7, 256), sized(7, 257, 0, 300), greatest(7), {Id: 7, Blocks: []api.Hash{{1}, {1}}, Names: []string{"\x00", "\xff"}, Sizes: []int{300, 1}}} {
		s := holding(3, 9)
		checkDo(t, "put", s, putting(v), append(slices.Clone(s.Vers), v), api.Reply{})
	}
}

func TestPutOfWhatMayNotBe(t *testing.T) {
	for _, x := range mayNot(7) {
		for n := range 10 {
			checkDoError(t, x.why, holding(upTo(n)...), putting(x.v), api.ErrArg)
		}
	}
}

func TestPutTwice(t *testing.T) {
	for n := range mostVers + 1 {
		for _, id := range upTo(n) {
			s := holding(upTo(n)...)
			checkDoError(t, "the same version", s, putting(some(id)), api.ErrTwice)
			checkDoError(t, "another version of the Id", s, putting(sized(id, 300, 300)), api.ErrTwice)
			checkDoError(t, "nothing of the Id", s, putting(api.Version{Id: id}), api.ErrTwice)
		}
	}
}

// All bits of an Id count.
func TestPutOfOtherIds(t *testing.T) {
	for bit := range 32 {
		v := some(77 ^ 1<<bit)
		s := holding(77)
		checkDo(t, "put", s, putting(v), append(slices.Clone(s.Vers), v), api.Reply{})
	}
}

func TestPutOfTooMany(t *testing.T) {
	for n := range 2 * mostVers {
		s := holding(upTo(n)...)
		v := some(99)
		if n < mostVers {
			checkDo(t, fmt.Sprint(n), s, putting(v), append(slices.Clone(s.Vers), v), api.Reply{})
		} else {
			checkDoError(t, fmt.Sprint(n), s, putting(v), api.ErrFull)
		}
	}
	s := holding(upTo(300)...)
	checkDoError(t, "three hundred", s, putting(some(400)), api.ErrFull)
	checkDoError(t, "three hundred", s, putting(some(300)), api.ErrTwice)
}

func TestPutTellsTheFirstError(t *testing.T) {
	for _, n := range []int{mostVers, mostVers + 1, 20} {
		s := holding(upTo(n)...)
		for _, id := range []uint32{1, 5, 8, 99} {
			for _, x := range mayNot(id) {
				checkDoError(t, x.why, s, putting(x.v), api.ErrArg)
			}
		}
		checkDoError(t, "twice, and full", s, putting(some(1)), api.ErrTwice)
		checkDoError(t, "twice, and full", s, putting(some(8)), api.ErrTwice)
	}
}

func TestRoomAgain(t *testing.T) {
	for _, o := range []api.Op{{Kind: remove, Id: 4}, {Kind: remove, Id: 8}, {Kind: prune, Id: 7}, {Kind: prune, Id: 0}} {
		s := holding(upTo(mostVers)...)
		checkDoError(t, "full", s, putting(some(99)), api.ErrFull)
		s, _ = vault.Do(s, o)
		s = checkDo(t, "room", s, putting(some(99)), append(slices.Clone(s.Vers), some(99)), api.Reply{})
		if _, r := vault.Do(s, putting(some(100))); (r.E == api.ErrFull) != (len(s.Vers) == mostVers) {
			t.Errorf("%d versions, and one more: %d", len(s.Vers), r.E)
		}
	}
}

func TestDeleteEach(t *testing.T) {
	for n := range 12 {
		for i := range n {
			s := holding(upTo(n)...)
			left := slices.Concat(s.Vers[:i], s.Vers[i+1:])
			o := api.Op{Kind: remove, Id: uint32(i + 1)}
			s = checkDo(t, "delete", s, o, left, api.Reply{})
			checkDoError(t, "delete again", s, o, api.ErrNone)
			if n <= mostVers {
				checkDo(t, "put again", s, putting(some(o.Id)), append(left, some(o.Id)), api.Reply{})
			}
		}
		for _, id := range []uint32{0, uint32(n) + 1, math.MaxUint32, 1 << 31, 1<<31 + 1, 1<<16 + 1, 1<<8 + 1} {
			checkDoError(t, "delete of none", holding(upTo(n)...), api.Op{Kind: remove, Id: id}, api.ErrNone)
		}
	}
}

func TestPruneToEachNumber(t *testing.T) {
	for n := range 14 {
		ids := upTo(n)
		slices.Reverse(ids)
		to := []uint32{math.MaxUint32, math.MaxUint32 - 1, 1 << 31, 1<<31 - 1, 1<<31 + 1, 1 << 16, 1 << 8}
		for k := range uint32(20) {
			to = append(to, k)
		}
		for _, k := range to {
			gone := 0
			if k < uint32(n) {
				gone = n - int(k)
			}
			s := holding(ids...)
			o := api.Op{Kind: prune, Id: k}
			s = checkDo(t, fmt.Sprintf("%d pruned to %d", n, k), s, o, s.Vers[gone:], api.Reply{Ids: ids[:gone]})
			checkDo(t, fmt.Sprintf("%d pruned to %d again", n, k), s, o, s.Vers, api.Reply{})
		}
	}
}

func TestListEach(t *testing.T) {
	checkDo(t, "nothing", vault.State{}, api.Op{Kind: list}, nil, api.Reply{})
	for n := range 14 {
		ids := upTo(n)
		rand.New(rand.NewSource(int64(n))).Shuffle(n, func(i, j int) { ids[i], ids[j] = ids[j], ids[i] })
		s := holding(ids...)
		checkDo(t, "list", s, api.Op{Kind: list, Id: 2}, s.Vers, api.Reply{Ids: ids})
	}
	s := holding(math.MaxUint32, 0, 1<<31)
	checkDo(t, "list", s, api.Op{Kind: list}, s.Vers, api.Reply{Ids: []uint32{math.MaxUint32, 0, 1 << 31}})
}

func TestGetEach(t *testing.T) {
	for n := range 14 {
		s := holding(upTo(n)...)
		for i := range n {
			checkDo(t, "get", s, api.Op{Kind: get, Id: uint32(i + 1)}, s.Vers, api.Reply{V: s.Vers[i]})
		}
		for _, id := range []uint32{0, uint32(n) + 1, math.MaxUint32, 1 << 31, 1<<31 + 1, 1<<16 + 1, 1<<8 + 1} {
			checkDoError(t, "get of none", s, api.Op{Kind: get, Id: id}, api.ErrNone)
		}
	}
	s := holding()
	s.Vers = []api.Version{{Id: 1}, greatest(0)}
	checkDo(t, "get of the greatest", s, api.Op{Kind: get}, s.Vers, api.Reply{V: greatest(0)})
}

func TestOtherKinds(t *testing.T) {
	kinds := []int{math.MinInt, math.MinInt + 1, math.MinInt + 4, math.MaxInt, 1<<32 + 1, 1<<31 + 4, 1<<16 + 3, 1<<8 + 1, 1<<62 + 4, -1 << 32, 1<<63 - 4}
	for kind := -300; kind <= 300; kind++ {
		if kind < put || kind > get {
			kinds = append(kinds, kind)
		}
	}
	for _, kind := range kinds {
		for _, n := range []int{0, 2, mostVers} {
			checkDoError(t, fmt.Sprint("kind ", kind), holding(upTo(n)...), api.Op{Kind: kind, Id: 1, V: some(99)}, api.ErrKind)
			checkDoError(t, fmt.Sprint("kind ", kind), holding(upTo(n)...), api.Op{Kind: kind, Id: 99, V: sized(1, -1)}, api.ErrKind)
		}
	}
}

// What a kind does not name is not looked at.
func TestOtherFieldsAreNothing(t *testing.T) {
	s := holding(1, 2, 3)
	for _, v := range []api.Version{{}, some(2), some(9), sized(9, -1)} {
		checkDo(t, "delete", s, api.Op{Kind: remove, Id: 2, V: v}, []api.Version{s.Vers[0], s.Vers[2]}, api.Reply{})
		checkDoError(t, "delete", s, api.Op{Kind: remove, Id: 9, V: v}, api.ErrNone)
		checkDo(t, "prune", s, api.Op{Kind: prune, Id: 1, V: v}, s.Vers[2:], api.Reply{Ids: []uint32{1, 2}})
		checkDo(t, "list", s, api.Op{Kind: list, Id: 9, V: v}, s.Vers, api.Reply{Ids: []uint32{1, 2, 3}})
		checkDo(t, "get", s, api.Op{Kind: get, Id: 2, V: v}, s.Vers, api.Reply{V: s.Vers[1]})
		checkDoError(t, "get", s, api.Op{Kind: get, Id: 9, V: v}, api.ErrNone)
	}
	for _, id := range []uint32{0, 1, 9, math.MaxUint32} {
		checkDo(t, "put", s, api.Op{Kind: put, Id: id, V: some(7)}, append(slices.Clone(s.Vers), some(7)), api.Reply{})
		checkDoError(t, "put", s, api.Op{Kind: put, Id: id, V: some(3)}, api.ErrTwice)
	}
}

// Versions that may not be, and were handed in, are versions like others.
func TestStatesOfAnyVersions(t *testing.T) {
	for _, x := range mayNot(7) {
		why, v := x.why, x.v
		s := holding(1, 2)
		s.Vers = append(s.Vers, v, some(8))
		checkDo(t, why, s, api.Op{Kind: get, Id: 7}, s.Vers, api.Reply{V: v})
		checkDo(t, why, s, api.Op{Kind: list}, s.Vers, api.Reply{Ids: []uint32{1, 2, 7, 8}})
		checkDoError(t, why, s, putting(some(7)), api.ErrTwice)
		checkDo(t, why, s, putting(some(9)), append(slices.Clone(s.Vers), some(9)), api.Reply{})
		checkDo(t, why, s, api.Op{Kind: remove, Id: 7}, []api.Version{s.Vers[0], s.Vers[1], s.Vers[3]}, api.Reply{})
		checkDo(t, why, s, api.Op{Kind: prune, Id: 2}, s.Vers[2:], api.Reply{Ids: []uint32{1, 2}})
	}
}

// P17.2

func TestApplyOfOtherUsers(t *testing.T) {
	s := holding(1, 2)
	for _, client := range []int{-1, -2, -3, 3, 4, 5, 10, 11, 12, 255, 256, 257, 1 << 8, 1 << 16, 1 << 31, 1<<32 + 1, 1 << 62, math.MaxInt, math.MinInt, math.MinInt + 1} {
		for _, seq := range []uint32{0, 1, 4, 5, math.MaxUint32} {
			for kind := range 7 {
				r := api.Request{Client: client, Seq: seq, Op: api.Op{Kind: kind, Id: 1, V: some(9)}}
				checkApply(t, fmt.Sprint("client ", client), s, r, s, api.Reply{E: api.ErrUser})
			}
		}
	}
}

func TestApplyOfNoNumber(t *testing.T) {
	for _, s := range []vault.State{{}, holding(1, 2)} {
		for client := range clients {
			for kind := range 7 {
				r := api.Request{Client: client, Op: api.Op{Kind: kind, Id: 1, V: some(9)}}
				checkApply(t, fmt.Sprint("number 0 of client ", client), s, r, s, api.Reply{E: api.ErrUser})
			}
		}
	}
}

// manyOps are ops of all kinds, with and without an error on holding(1, 2).
func manyOps() []api.Op {
	return []api.Op{putting(some(9)), putting(some(1)), putting(sized(9, -1)), {Kind: remove, Id: 1}, {Kind: remove, Id: 9}, {Kind: prune, Id: 1}, {Kind: prune, Id: 9}, {Kind: list}, {Kind: get, Id: 2}, {Kind: get, Id: 9}, {}, {Kind: 6}, {Kind: -1}}
}

func TestApplyOfANewOne(t *testing.T) {
	for client := range clients {
		for _, o := range manyOps() {
			for _, last := range []uint32{0, 1, 2, 255, 1<<31 - 1, 1 << 31, math.MaxUint32 - 2} {
				for _, seq := range []uint32{last + 1, last + 2, math.MaxUint32, max(1<<31, last+1)} {
					s := holding(1, 2)
					s.Seqs = [clients]uint32{7, 8, 9}
					s.Seqs[client] = last
					want, reply := vault.Do(s, o)
					want.Seqs[client], want.Last[client] = seq, reply
					why := fmt.Sprintf("client %d, %d behind %d, kind %d", client, seq, last, o.Kind)
					got := checkApply(t, why, s, api.Request{Client: client, Seq: seq, Op: o}, want, reply)
					checkApply(t, why+", again", got, api.Request{Client: client, Seq: seq, Op: o}, want, reply)
				}
			}
		}
	}
}

// The reply is the one that is kept, whatever that is, and whatever is asked now.
func TestApplyOfTheLastOne(t *testing.T) {
	for client := range clients {
		for _, reply := range []api.Reply{{}, {E: api.ErrFull}, {Ids: []uint32{4, 4}}, {V: some(3)}, {E: -5, Ids: []uint32{1}, V: sized(3, -1)}, {V: greatest(1)}} {
			for _, seq := range []uint32{1, 2, 1 << 31, math.MaxUint32} {
				for _, o := range manyOps() {
					s := holding(1, 2)
					s.Seqs = [clients]uint32{7, 8, 9}
					s.Seqs[client], s.Last[client] = seq, reply
					checkApply(t, "the last one", s, api.Request{Client: client, Seq: seq, Op: o}, s, reply)
				}
			}
		}
	}
}

func TestApplyOfAnOldOne(t *testing.T) {
	for client := range clients {
		for _, last := range []uint32{2, 3, 256, 1 << 31, 1<<31 + 1, math.MaxUint32} {
			for _, seq := range []uint32{1, last / 2, last - 1} {
				for _, o := range manyOps() {
					s := holding(1, 2)
					s.Seqs = [clients]uint32{0, 0, 0}
					s.Seqs[client], s.Last[client] = last, api.Reply{Ids: []uint32{6}}
					checkApply(t, fmt.Sprintf("%d behind %d", seq, last), s, api.Request{Client: client, Seq: seq, Op: o}, s, api.Reply{E: api.ErrOld})
				}
			}
		}
	}
}

// A client's numbers are nothing to another one.
func TestClientsAreTheirOwn(t *testing.T) {
	var s vault.State
	var want vault.State
	for i, x := range []struct {
		client int
		seq    uint32
		o      api.Op
		reply  api.Reply
	}{
		{0, 5, putting(some(1)), api.Reply{}},
		{1, 5, putting(some(1)), api.Reply{E: api.ErrTwice}},
		{2, 5, api.Op{Kind: list}, api.Reply{Ids: []uint32{1}}},
		{1, 9, putting(some(2)), api.Reply{}},
		{0, 6, api.Op{Kind: get, Id: 2}, api.Reply{V: some(2)}},
		{2, 6, api.Op{Kind: 9}, api.Reply{E: api.ErrKind}},
		{2, 7, api.Op{Kind: prune}, api.Reply{Ids: []uint32{1, 2}}},
		{0, 7, api.Op{Kind: get, Id: 2}, api.Reply{E: api.ErrNone}},
	} {
		want.Seqs[x.client], want.Last[x.client] = x.seq, x.reply
		want.Vers = [][]api.Version{{some(1)}, {some(1)}, {some(1)}, {some(1), some(2)}, {some(1), some(2)}, {some(1), some(2)}, nil, nil}[i]
		s = checkApply(t, fmt.Sprint("request ", i), s, api.Request{Client: x.client, Seq: x.seq, Op: x.o}, want, x.reply)
	}
}

// P17.3

// someOp is an op of few Ids, so that they meet; some may not be.
func someOp(r *rand.Rand) api.Op {
	id := uint32(r.Intn(14))
	o := api.Op{Kind: []int{put, put, put, put, remove, prune, list, get, r.Intn(12) - 3}[r.Intn(9)], Id: id, V: some(id)}
	if o.Kind == prune {
		o.Id = uint32(r.Intn(12))
	}
	if r.Intn(8) == 0 {
		l := mayNot(id)
		o.V = l[r.Intn(len(l))].v
	}
	if r.Intn(3) == 0 {
		o.V = sized(id, r.Intn(301), r.Intn(301))
		r.Shuffle(len(o.V.Blocks), func(i, j int) { o.V.Blocks[i], o.V.Blocks[j] = o.V.Blocks[j], o.V.Blocks[i] })
	}
	return o
}

// someRequests are requests whose numbers rise mostly; some come again, some are old, some of nobody.
func someRequests(r *rand.Rand, n int) []api.Request {
	var seqs [clients]uint32
	l := make([]api.Request, n)
	for i := range l {
		c := r.Intn(clients)
		seqs[c] += uint32(r.Intn(3))
		l[i] = api.Request{Client: c, Seq: seqs[c] - min(seqs[c], uint32(r.Intn(8)/6)), Op: someOp(r)}
		if r.Intn(20) == 0 {
			l[i].Client = r.Intn(9) - 3
		}
		if i > 0 && r.Intn(5) == 0 {
			l[i] = l[r.Intn(i)]
		}
	}
	return l
}

func TestAllOfRandomRequests(t *testing.T) {
	r := rand.New(rand.NewSource(1))
	seen := map[api.Errno]int{}
	for round := range 600 {
		l := someRequests(r, r.Intn(80))
		var want, step vault.State
		var replies []api.Reply
		for i, x := range l {
			var reply api.Reply
			want, reply = wantApply(want, x)
			step = checkApply(t, fmt.Sprintf("round %d, request %d", round, i), step, x, want, reply)
			replies = append(replies, reply)
			seen[reply.E]++
		}
		got, all := vault.All(l)
		checkState(t, fmt.Sprint("round ", round), got, want)
		if !sameList(all, replies, sameReply) {
			t.Errorf("round %d: the replies are %v, want %v", round, all, replies)
		}
		if t.Failed() {
			return
		}
	}
	for _, e := range []api.Errno{api.OK, api.ErrArg, api.ErrFull, api.ErrNone, api.ErrTwice, api.ErrUser, api.ErrOld, api.ErrKind} {
		if seen[e] < 100 {
			t.Errorf("the reply %d came %d times alone", e, seen[e])
		}
	}
}

func TestAllOfFew(t *testing.T) {
	for _, l := range [][]api.Request{nil, {}} {
		s, replies := vault.All(l)
		checkState(t, "nothing", s, vault.State{})
		if len(replies) != 0 {
			t.Errorf("%d replies to nothing", len(replies))
		}
	}
	s, replies := vault.All([]api.Request{{Client: 2, Seq: 3, Op: api.Op{Kind: list}}})
	checkState(t, "list", s, vault.State{Seqs: [clients]uint32{2: 3}})
	if len(replies) != 1 || !sameReply(replies[0], api.Reply{}) {
		t.Errorf("the replies to a list of nothing: %v", replies)
	}
}

// Each call begins with nothing: what was asked by an earlier one is nothing to it.
func TestAllBeginsWithNothing(t *testing.T) {
	l := []api.Request{{Seq: 1, Op: putting(some(1))}, {Client: 1, Seq: 1, Op: putting(some(1))}, {Seq: 1, Op: putting(some(3))}}
	for range 3 {
		s, replies := vault.All(l)
		checkState(t, "all", s, vault.State{Vers: []api.Version{some(1)}, Seqs: [clients]uint32{1, 1}, Last: [clients]api.Reply{{}, {E: api.ErrTwice}}})
		if !sameList(replies, []api.Reply{{}, {E: api.ErrTwice}, {}}, sameReply) {
			t.Errorf("the replies are %v", replies)
		}
	}
}

func TestAllOfMany(t *testing.T) {
	var l []api.Request
	for i := range 5000 {
		l = append(l, api.Request{Client: i % 3, Seq: uint32(i + 1), Op: api.Op{Kind: 1 + i%5, Id: uint32(i % 7), V: some(uint32(i % 11))}})
	}
	var want vault.State
	var replies []api.Reply
	for _, x := range l {
		var reply api.Reply
		want, reply = wantApply(want, x)
		replies = append(replies, reply)
	}
	s, all := vault.All(l)
	checkState(t, "many", s, want)
	if !sameList(all, replies, sameReply) {
		t.Error("other replies to many")
	}
}

func TestLiveKnown(t *testing.T) {
	a, b, c, d := api.Hash{1}, api.Hash{31: 1}, api.Hash{15: 1}, api.Hash{}
	of := func(l ...[]api.Hash) vault.State {
		var s vault.State
		for i, blocks := range l {
			s.Vers = append(s.Vers, api.Version{Id: uint32(i), Blocks: blocks})
		}
		return s
	}
	for i, x := range []struct {
		s    vault.State
		want []api.Hash
	}{
		{of(), nil},
		{of(nil, nil), nil},
		{of([]api.Hash{b, a}), []api.Hash{b, a}},
		{of([]api.Hash{d}), []api.Hash{d}},
		{of([]api.Hash{a, a, a}), []api.Hash{a}},
		{of([]api.Hash{a, b, a, c, b}), []api.Hash{a, b, c}},
		{of([]api.Hash{c, b}, nil, []api.Hash{b, a, c, d}, []api.Hash{d, c}), []api.Hash{c, b, a, d}},
		{of([]api.Hash{a, b}, []api.Hash{b, a}), []api.Hash{a, b}},
		{of([]api.Hash{b}, []api.Hash{a}, []api.Hash{b}, []api.Hash{c}), []api.Hash{b, a, c}},
		{vault.State{Last: [clients]api.Reply{{V: api.Version{Blocks: []api.Hash{a}}}}}, nil},
	} {
		if l := vault.Live(x.s); !sameList(l, x.want, equal) {
			t.Errorf("%d: Live = %.2x, want %.2x", i, l, x.want)
		}
	}
}

// One bit makes another name.
func TestLiveOfEachBit(t *testing.T) {
	for bit := range 256 {
		other := api.Hash{3: 7}
		other[bit/8] ^= 1 << (bit % 8)
		want := []api.Hash{{3: 7}, other}
		s := vault.State{Vers: []api.Version{{Blocks: []api.Hash{{3: 7}, other, {3: 7}, other}}}}
		if l := vault.Live(s); !sameList(l, want, equal) {
			t.Errorf("bit %d: Live = %x", bit, l)
		}
	}
}

func TestLiveOfRandomStates(t *testing.T) {
	r := rand.New(rand.NewSource(2))
	for range 2000 {
		var s vault.State
		var want []api.Hash
		there := map[api.Hash]bool{}
		for range r.Intn(12) {
			var v api.Version
			for range r.Intn(40) {
				var h api.Hash
				h[r.Intn(len(h))] = byte(r.Intn(8))
				v.Blocks = append(v.Blocks, h)
				if !there[h] {
					want = append(want, h)
				}
				there[h] = true
			}
			s.Vers = append(s.Vers, v)
		}
		if l := vault.Live(s); !sameList(l, want, equal) {
			t.Fatalf("Live = %x, want %x", l, want)
		}
	}
}

func checkSame(t *testing.T, why string, a, b api.Reply, want bool) {
	t.Helper()
	if vault.Same(a, b) != want || vault.Same(b, a) != want {
		t.Errorf("%s: Same of %v and %v is %v, the other way round %v, want %v", why, a, b, vault.Same(a, b), vault.Same(b, a), want)
	}
}

func TestSameKnown(t *testing.T) {
	reply := api.Reply{E: 2, Ids: []uint32{4, 7}, V: sized(3, 300, 0)}
	checkSame(t, "nothing", api.Reply{}, api.Reply{}, true)
	checkSame(t, "lists without elements", api.Reply{}, api.Reply{Ids: []uint32{}, V: api.Version{Blocks: []api.Hash{}, Names: []string{}, Sizes: []int{}}}, true)
	checkSame(t, "two copies", reply, copyReply(reply), true)
	checkSame(t, "nothing and something", reply, api.Reply{}, false)
	for i, change := range []func(*api.Reply){
		func(r *api.Reply) { r.E = 0 },
		func(r *api.Reply) { r.E++ },
		func(r *api.Reply) { r.E = -2 },
		func(r *api.Reply) { r.E += 1 << 32 },
		func(r *api.Reply) { r.Ids = nil },
		func(r *api.Reply) { r.Ids = r.Ids[:1] },
		func(r *api.Reply) { r.Ids = r.Ids[1:] },
		func(r *api.Reply) { r.Ids = append(r.Ids, 0) },
		func(r *api.Reply) { r.Ids = append(r.Ids, 7) },
		func(r *api.Reply) { r.Ids[0], r.Ids[1] = r.Ids[1], r.Ids[0] },
		func(r *api.Reply) { r.Ids[0] ^= 1 << 31 },
		func(r *api.Reply) { r.Ids[1]++ },
		func(r *api.Reply) { r.V = api.Version{} },
		func(r *api.Reply) { r.V.Id++ },
		func(r *api.Reply) { r.V.Blocks[0][31]++ },
		func(r *api.Reply) { r.V.Blocks[1][0] ^= 128 },
		func(r *api.Reply) { r.V.Blocks = r.V.Blocks[:1] },
		func(r *api.Reply) { r.V.Names[1] = "z" },
		func(r *api.Reply) { r.V.Names = r.V.Names[:1] },
		func(r *api.Reply) { r.V.Sizes[0]-- },
		func(r *api.Reply) { r.V.Sizes = append(r.V.Sizes, 0) },
	} {
		other := copyReply(reply)
		change(&other)
		checkSame(t, fmt.Sprint("a change, ", i), reply, other, false)
		checkSame(t, fmt.Sprint("a change and its copy, ", i), other, copyReply(other), true)
	}
}

func TestSameAtEachPlace(t *testing.T) {
	for i := range 300 {
		reply := api.Reply{Ids: upTo(300)}
		reply.Ids[i] += 1 << 20
		checkSame(t, "an Id", reply, api.Reply{Ids: upTo(300)}, false)
	}
	checkSame(t, "many Ids", api.Reply{Ids: upTo(300)}, api.Reply{Ids: upTo(300)}, true)
}

func TestSameOfRandomReplies(t *testing.T) {
	r := rand.New(rand.NewSource(3))
	one := func() api.Reply {
		reply := api.Reply{E: api.Errno(r.Intn(2)), Ids: upTo(r.Intn(3))}
		if r.Intn(2) == 0 {
			reply.V = some(uint32(r.Intn(3)))
		}
		return reply
	}
	seen := map[bool]int{}
	for range 20000 {
		a, b := one(), one()
		want := sameReply(a, b)
		checkSame(t, "two replies", a, b, want)
		seen[want]++
	}
	if seen[true] < 1000 || seen[false] < 1000 {
		t.Errorf("%d that are the same, %d that are not", seen[true], seen[false])
	}
}

// P17.4

// Each request comes again, at once and later: nothing is changed by it, and while it is its client's last one it is answered alike.
func TestAgainChangesNothing(t *testing.T) {
	r := rand.New(rand.NewSource(4))
	for round := range 300 {
		l := someRequests(r, 1+r.Intn(60))
		var s vault.State
		last := map[int]api.Request{}
		replies := map[int]api.Reply{}
		for i, x := range l {
			next, reply := vault.Apply(s, x)
			if x.Client >= 0 && x.Client < clients && x.Seq > s.Seqs[x.Client] {
				last[x.Client], replies[x.Client] = x, reply
			}
			s = next
			why := fmt.Sprintf("round %d, request %d again", round, i)
			checkApply(t, why, s, x, s, reply)
			for c, y := range last {
				checkApply(t, why, s, y, s, replies[c])
			}
			for _, y := range l[:i] {
				if same, reply := vault.Apply(s, y); !sameState(same, s) || reply.E == api.OK && y.Seq != s.Seqs[y.Client] {
					t.Errorf("%s: an earlier one is done again: %v", why, y)
				}
			}
		}
		if t.Failed() {
			return
		}
	}
}

// Requests that come again, in whatever places, leave what they came to without that.
func TestTwiceIsOnce(t *testing.T) {
	r := rand.New(rand.NewSource(5))
	for round := range 300 {
		once := make([]api.Request, 1+r.Intn(40))
		for i := range once {
			once[i] = api.Request{Client: r.Intn(clients), Seq: uint32(i + 1), Op: someOp(r)}
		}
		var often []api.Request
		var at []int // of each one's first coming
		for i := range once {
			at = append(at, len(often))
			often = append(often, once[i])
			for range r.Intn(3) {
				often = append(often, once[r.Intn(i+1)])
			}
		}
		want, replies := vault.All(once)
		got, all := vault.All(often)
		checkState(t, fmt.Sprint("round ", round), got, want)
		for i := range once {
			checkReply(t, fmt.Sprint("round ", round), all[at[i]], replies[i])
		}
	}
}

func TestNoTwoOfOneId(t *testing.T) {
	r := rand.New(rand.NewSource(6))
	for range 300 {
		var s vault.State
		for range 100 {
			s, _ = vault.Do(s, someOp(r))
			ids := idsOf(s.Vers)
			slices.Sort(ids)
			if len(slices.Compact(ids)) != len(s.Vers) || len(s.Vers) > mostVers {
				t.Fatalf("the versions are %d", idsOf(s.Vers))
			}
			for _, v := range s.Vers {
				if !header.May(v) {
					t.Fatalf("a version that may not be: %v", v)
				}
			}
		}
	}
}

// R1

// All versions of a state may be of one Id, and whatever else nobody put: each call ends.
func TestStatesOfAnything(t *testing.T) {
	r := rand.New(rand.NewSource(7))
	for range 3000 {
		s := vault.State{Seqs: [clients]uint32{r.Uint32() % 4, r.Uint32() % 4, r.Uint32()}}
		for range r.Intn(20) {
			s.Vers = append(s.Vers, api.Version{Id: r.Uint32() % 3, Blocks: hashes(r.Intn(30), r.Intn(3)), Names: make([]string, r.Intn(20)), Sizes: make([]int, r.Intn(20))})
		}
		for i := range s.Last {
			s.Last[i] = api.Reply{E: api.Errno(r.Intn(999) - 99), Ids: make([]uint32, r.Intn(99)), V: sized(2, r.Intn(999)-99)}
		}
		o := someOp(r)
		o.Id %= 4
		got, reply := vault.Do(s, o)
		if got.Seqs != s.Seqs || reply.E != api.OK && !sameState(got, s) {
			t.Fatalf("%v of %s: %v and %s", o, told(s), reply, told(got))
		}
		want, other := vault.Apply(s, api.Request{Client: 1, Seq: 4, Op: o})
		if !sameReply(reply, other) || !sameList(want.Vers, got.Vers, sameVersion) {
			t.Fatalf("%v of %s: %v and %s", o, told(s), other, told(want))
		}
		vault.Live(s)
		vault.All([]api.Request{{Client: r.Intn(9) - 4, Seq: r.Uint32(), Op: o}})
	}
}

// R3

// span is where a list stands, with what lies behind its length.
type span struct{ from, to uintptr }

// spans are those of x's lists, of those behind others, too.
func spans(x reflect.Value) []span {
	var all []span
	switch x.Kind() {
	case reflect.Slice:
		if x.Cap() > 0 {
			all = append(all, span{x.Pointer(), x.Pointer() + uintptr(x.Cap())*x.Type().Elem().Size()})
		}
		for i := range x.Len() {
			all = append(all, spans(x.Index(i))...)
		}
	case reflect.Array:
		for i := range x.Len() {
			all = append(all, spans(x.Index(i))...)
		}
	case reflect.Struct:
		for i := range x.NumField() {
			all = append(all, spans(x.Field(i))...)
		}
	}
	return all
}

// checkNew holds that no two lists of the answers, and none of the arguments, share memory.
func checkNew(t *testing.T, why string, arguments []any, answers ...any) {
	t.Helper()
	var there []span
	for _, x := range arguments {
		there = append(there, spans(reflect.ValueOf(x))...)
	}
	for _, x := range answers {
		for _, a := range spans(reflect.ValueOf(x)) {
			if slices.ContainsFunc(there, func(b span) bool { return a.from < b.to && b.from < a.to }) {
				t.Errorf("%s: a list of the answer is one of an argument, or another one of the answer", why)
			}
			there = append(there, a)
		}
	}
	// Lists that nobody holds any more might make room for others.
	runtime.KeepAlive(arguments)
	runtime.KeepAlive(answers)
}

func TestAnswersAreNew(t *testing.T) {
	for _, o := range append(manyOps(), api.Op{Kind: prune}, api.Op{Kind: get, Id: 1}) {
		why := fmt.Sprint("kind ", o.Kind)
		s := holding(1, 2, 3)
		s.Seqs[1], s.Last[1] = 5, api.Reply{E: 3, Ids: []uint32{1, 2}, V: some(3)}
		next, reply := vault.Do(s, o)
		checkNew(t, "Do, "+why, []any{s, o}, next, reply)
		for client := range 4 {
			for seq := range uint32(8) {
				r := api.Request{Client: client, Seq: seq, Op: o}
				next, reply := vault.Apply(s, r)
				checkNew(t, "Apply, "+why, []any{s, r}, next, reply)
			}
		}
	}
	var l []api.Request
	for i, o := range append(manyOps(), manyOps()...) {
		l = append(l, api.Request{Client: i % 3, Seq: uint32(i + 1), Op: o}, api.Request{Client: i % 3, Seq: uint32(i + 1), Op: o})
	}
	s, replies := vault.All(l)
	checkNew(t, "All", []any{l}, s, replies)
	checkNew(t, "Live", []any{s}, vault.Live(s))
}

// What is done to an answer is nothing to what is answered next.
func TestAnswersMayBeChanged(t *testing.T) {
	s, replies := vault.All([]api.Request{{Seq: 1, Op: putting(some(3))}, {Seq: 2, Op: api.Op{Kind: get, Id: 3}}, {Client: 1, Seq: 1, Op: api.Op{Kind: list}}})
	kept := copyState(s)
	spoil := func(r api.Reply) {
		for i := range r.Ids {
			r.Ids[i] = 77
		}
		for i := range r.V.Blocks {
			r.V.Blocks[i] = api.Hash{77}
		}
		for i := range r.V.Names {
			r.V.Names[i], r.V.Sizes[i] = "spoilt", 77
		}
	}
	for _, r := range replies {
		spoil(r)
	}
	checkState(t, "replies of All", s, kept)
	for range 3 {
		for _, x := range []api.Request{{Seq: 2}, {Client: 1, Seq: 1}, {Client: 2, Seq: 1, Op: api.Op{Kind: get, Id: 3}}, {Client: 2, Seq: 1, Op: api.Op{Kind: list}}} {
			next, r := vault.Apply(s, x)
			spoil(r)
			for i := range next.Vers {
				spoil(api.Reply{V: next.Vers[i]})
			}
			for i := range next.Last {
				spoil(next.Last[i])
			}
			checkState(t, "replies of Apply", s, kept)
		}
	}
}

// roomy is a list with more behind its length.
func roomy[T any](l []T, more T) []T {
	return append(slices.Clone(l), more, more, more)[:len(l)]
}

func roomyVersion(v api.Version) api.Version {
	return api.Version{Id: v.Id, Blocks: roomy(v.Blocks, api.Hash{9}), Names: roomy(v.Names, "more"), Sizes: roomy(v.Sizes, 9)}
}

// full is x with all that stands behind its lists' lengths, copied.
func full(x reflect.Value) string {
	switch x.Kind() {
	case reflect.Slice:
		s := fmt.Sprint("[", x.Len(), ":")
		for i := range x.Cap() {
			s += full(x.Slice(0, x.Cap()).Index(i)) + " "
		}
		return s + "]"
	case reflect.Array:
		s := "("
		for i := range x.Len() {
			s += full(x.Index(i)) + " "
		}
		return s + ")"
	case reflect.Struct:
		s := "{"
		for i := range x.NumField() {
			s += full(x.Field(i)) + " "
		}
		return s + "}"
	}
	return fmt.Sprintf("%#v", x)
}

func TestArgumentsStay(t *testing.T) {
	for _, o := range append(manyOps(), api.Op{Kind: prune}, api.Op{Kind: get, Id: 1}) {
		s := holding(1, 2, 3)
		s.Last[1] = api.Reply{Ids: roomy([]uint32{1, 2}, 9), V: roomyVersion(some(3))}
		s.Seqs[1] = 5
		for i := range s.Vers {
			s.Vers[i] = roomyVersion(s.Vers[i])
		}
		s.Vers = roomy(s.Vers, some(9))
		o.V = roomyVersion(o.V)
		l := roomy([]api.Request{{Client: 1, Seq: 6, Op: o}, {Seq: 6, Op: o}, {Client: 1, Seq: 6, Op: o}}, api.Request{Client: 2, Seq: 5})
		was := full(reflect.ValueOf(s)) + full(reflect.ValueOf(l))
		for range 2 {
			vault.Do(s, o)
			vault.Live(s)
			for _, x := range l {
				vault.Apply(s, x)
				vault.Apply(s, api.Request{Client: 1, Seq: 5, Op: o})
			}
			vault.All(l)
			vault.Same(s.Last[1], s.Last[0])
		}
		if is := full(reflect.ValueOf(s)) + full(reflect.ValueOf(l)); is != was {
			t.Errorf("kind %d: what was handed in became\n%s, it was\n%s", o.Kind, is, was)
		}
	}
}

// What was put is kept, whatever becomes of the list that it was put from.
func TestArgumentsAreNotKept(t *testing.T) {
	v := sized(3, 300, 5)
	kept := copyVersion(v)
	reply := api.Reply{Ids: []uint32{4}, V: copyVersion(v)}
	before := vault.State{Vers: []api.Version{sized(1, 300)}, Seqs: [clients]uint32{2: 7}, Last: [clients]api.Reply{2: reply}}
	was := copyState(before)
	after, _ := vault.Apply(before, api.Request{Seq: 1, Op: putting(v)})
	all, _ := vault.All([]api.Request{{Seq: 1, Op: putting(v)}})
	v.Blocks[0], v.Names[0], v.Sizes[0] = api.Hash{77}, "spoilt", 77
	before.Vers[0].Blocks[0], before.Vers[0].Names[0], before.Vers[0].Sizes[0] = api.Hash{77}, "spoilt", 77
	before.Vers[0].Id, reply.Ids[0] = 77, 77
	reply.V.Blocks[0], reply.V.Names[0], reply.V.Sizes[0] = api.Hash{77}, "spoilt", 77
	was.Vers = append(was.Vers, kept)
	was.Seqs[0] = 1
	checkState(t, "Apply", after, was)
	checkState(t, "All", all, vault.State{Vers: []api.Version{kept}, Seqs: [clients]uint32{1}})
}

// R5

func TestAnswersAreTheSame(t *testing.T) {
	acts := func() string {
		r := rand.New(rand.NewSource(8))
		var b strings.Builder
		s, replies := vault.All(someRequests(r, 200))
		fmt.Fprint(&b, told(s), replies, vault.Live(s))
		for _, x := range someRequests(r, 100) {
			next, reply := vault.Apply(s, x)
			fmt.Fprint(&b, told(next), reply)
		}
		return b.String()
	}
	want := acts()
	var wait sync.WaitGroup
	for range 8 {
		wait.Go(func() {
			for range 5 {
				if acts() != want {
					t.Error("another answer")
				}
			}
		})
	}
	wait.Wait()
}
