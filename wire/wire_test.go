package wire_test

import (
	"encoding/binary"
	"fmt"
	"math"
	"math/rand"
	"reflect"
	"runtime"
	"slices"
	"strings"
	"sync"
	"testing"

	"hanaper/api"
	"hanaper/header"
	"hanaper/wire"
)

const (
	mostOps    = 40
	mostVers   = 8
	mostBlock  = 1000
	mostError  = 1000
	mostFiles  = 12
	mostName   = 20
	mostData   = 300
	mostBlocks = 16
	piece      = 256
	hashBytes  = 32

	put      = 1 // kinds of ops
	remove   = 2
	prune    = 3
	list     = 4
	get      = 5
	lastKind = 14 // of messages
)

// The places of a message's bytes, up to its log.
const (
	kindAt   = 0
	fromAt   = 1
	toAt     = 2
	viewAt   = 3
	lastAt   = 7
	nAt      = 11
	commitAt = 12
	opsAt    = 13
	logAt    = 14
)

func someText(r *rand.Rand, n int) string {
	b := make([]byte, n)
	r.Read(b)
	return string(b)
}

func hashes(n int) []api.Hash {
	l := make([]api.Hash, n)
	for i := range l {
		for j := range l[i] {
			l[i][j] = byte(40*i + j + 1)
		}
	}
	return l
}

// sized is a version of files of these sizes, which may be.
func sized(id uint32, sizes ...int) api.Version {
	v := api.Version{Id: id, Sizes: sizes}
	sum := 0
	for i, size := range sizes {
		v.Names = append(v.Names, fmt.Sprintf("%04d", i))
		sum += size
	}
	v.Blocks = hashes((sum + piece - 1) / piece)
	return v
}

// greatest is a version of as many bytes as there may be.
func greatest() api.Version {
	v := sized(math.MaxUint32, slices.Repeat([]int{mostData}, mostFiles)...)
	for i := range v.Names {
		v.Names[i] = fmt.Sprintf("%0*d", mostName, i)
	}
	return v
}

func someVersion(r *rand.Rand) api.Version {
	if r.Intn(3) == 0 {
		return api.Version{Id: r.Uint32()}
	}
	var names []string
	for range r.Intn(mostFiles + 1) {
		names = append(names, someText(r, 1+r.Intn(mostName)))
	}
	slices.Sort(names)
	v := api.Version{Id: r.Uint32(), Names: slices.Compact(names)}
	sum := 0
	for range v.Names {
		size := r.Intn(2) * r.Intn(mostData+1)
		v.Sizes = append(v.Sizes, size)
		sum += size
	}
	for range (sum + piece - 1) / piece {
		v.Blocks = append(v.Blocks, api.Hash([]byte(someText(r, hashBytes))))
	}
	return v
}

func someRequest(r *rand.Rand) api.Request {
	x := api.Request{Client: r.Intn(3), Seq: r.Uint32(), Op: api.Op{Kind: 1 + r.Intn(5)}}
	if x.Op.Kind == put {
		x.Op.V = someVersion(r)
	} else {
		x.Op.Id = r.Uint32()
	}
	return x
}

func someEnd(r *rand.Rand) int { return []int{0, 1, 2, 10, 11, 12}[r.Intn(6)] }

// someLength is small more often than not.
func someLength(r *rand.Rand, most int) int { return r.Intn(1 + r.Intn(1+r.Intn(most+1))) }

// someMsg is a message that may be.
func someMsg(r *rand.Rand) wire.Msg {
	m := wire.Msg{Kind: 1 + r.Intn(lastKind), From: someEnd(r), To: someEnd(r), View: r.Uint32(), Last: r.Uint32(), N: r.Intn(mostOps + 1), Commit: r.Intn(mostOps + 1)}
	for range someLength(r, mostOps) {
		m.Log = append(m.Log, someRequest(r))
	}
	m.Client, m.Seq = r.Intn(3), r.Uint32()
	m.Reply = api.Reply{E: api.Errno(r.Intn(mostError + 1)), V: someVersion(r)}
	for range someLength(r, mostVers) {
		m.Reply.Ids = append(m.Reply.Ids, r.Uint32())
	}
	m.Hash = api.Hash([]byte(someText(r, hashBytes)))
	m.Block = someText(r, someLength(r, mostBlock))
	return m
}

// plain is a message of which each field is another one.
func plain() wire.Msg {
	return wire.Msg{
		Kind: 9, From: 2, To: 11, View: 0x01020304, Last: 0xfffefdfc, N: 40, Commit: 33,
		Log:    []api.Request{{Client: 1, Seq: 0x05060708, Op: api.Op{Kind: get, Id: 0x090a0b0c}}, {Seq: 3, Op: api.Op{Kind: put, V: sized(4, 1, 300)}}},
		Client: 2, Seq: 0x0d0e0f10,
		Reply: api.Reply{E: 0x0102, Ids: []uint32{0x11121314, 7}, V: sized(6, 5)},
		Hash:  hashes(3)[2], Block: "block",
	}
}

// tiny is the message of the fewest bytes.
func tiny() wire.Msg { return wire.Msg{Kind: 1} }

// huge is one of the most bytes.
func huge() wire.Msg {
	most := api.Request{Client: 2, Seq: math.MaxUint32, Op: api.Op{Kind: put, V: greatest()}}
	return wire.Msg{
		Kind: lastKind, From: 12, To: 12, View: math.MaxUint32, Last: math.MaxUint32, N: mostOps, Commit: mostOps,
		Log: slices.Repeat([]api.Request{most}, mostOps), Client: 2, Seq: math.MaxUint32,
		Reply: api.Reply{E: mostError, Ids: slices.Repeat([]uint32{math.MaxUint32}, mostVers), V: greatest()},
		Hash:  hashes(1)[0], Block: strings.Repeat("\xff", mostBlock),
	}
}

// with is m, changed.
func with(m wire.Msg, change func(*wire.Msg)) wire.Msg {
	m = copied(m)
	change(&m)
	return m
}

// spliced is s with other bytes in the place of those at a place.
func spliced(s string, at int, bytes string) string {
	return s[:at] + bytes + s[at+len(bytes):]
}

func copiedVersion(v api.Version) api.Version {
	return api.Version{Id: v.Id, Blocks: slices.Clone(v.Blocks), Names: slices.Clone(v.Names), Sizes: slices.Clone(v.Sizes)}
}

func copied(m wire.Msg) wire.Msg {
	m.Log = slices.Clone(m.Log)
	for i := range m.Log {
		m.Log[i].Op.V = copiedVersion(m.Log[i].Op.V)
	}
	m.Reply.Ids = slices.Clone(m.Reply.Ids)
	m.Reply.V = copiedVersion(m.Reply.V)
	return m
}

func isVersion(a, b api.Version) bool {
	return a.Id == b.Id && fmt.Sprintf("%x %q %d", a.Blocks, a.Names, a.Sizes) == fmt.Sprintf("%x %q %d", b.Blocks, b.Names, b.Sizes)
}

func isRequest(a, b api.Request) bool {
	return a.Client == b.Client && a.Seq == b.Seq && a.Op.Kind == b.Op.Kind && a.Op.Id == b.Op.Id && isVersion(a.Op.V, b.Op.V)
}

// isMsg goes field by field, by itself; a list without elements may be nil or not.
func isMsg(a, b wire.Msg) bool {
	if len(a.Log) != len(b.Log) || !isVersion(a.Reply.V, b.Reply.V) || fmt.Sprint(a.Reply.Ids) != fmt.Sprint(b.Reply.Ids) {
		return false
	}
	for i := range a.Log {
		if !isRequest(a.Log[i], b.Log[i]) {
			return false
		}
	}
	a.Log, b.Log, a.Reply.Ids, b.Reply.Ids, a.Reply.V, b.Reply.V = nil, nil, nil, nil, api.Version{}, api.Version{}
	return reflect.DeepEqual(a, b)
}

// What the calls should answer, by the chapter's words.

func wantMayRequest(r api.Request) bool {
	if r.Client != 0 && r.Client != 1 && r.Client != 2 {
		return false
	}
	v := r.Op.V
	switch r.Op.Kind {
	case put:
		return r.Op.Id == 0 && header.May(v)
	case remove, prune, list, get:
		return v.Id == 0 && len(v.Blocks)+len(v.Names)+len(v.Sizes) == 0
	}
	return false
}

func wantEnd(n int) bool {
	return n == 0 || n == 1 || n == 2 || n == 10 || n == 11 || n == 12
}

func wantMay(m wire.Msg) bool {
	for _, r := range m.Log {
		if !wantMayRequest(r) {
			return false
		}
	}
	switch {
	case m.Kind < 1 || m.Kind > lastKind:
	case !wantEnd(m.From) || !wantEnd(m.To):
	case m.N < 0 || m.N > mostOps || m.Commit < 0 || m.Commit > mostOps:
	case len(m.Log) > mostOps || m.Client < 0 || m.Client > 2:
	case m.Reply.E < 0 || m.Reply.E > mostError || len(m.Reply.Ids) > mostVers || !header.May(m.Reply.V):
	case len(m.Block) > mostBlock:
	default:
		return true
	}
	return false
}

func versionBytes(v api.Version) string {
	b := binary.BigEndian.AppendUint32(nil, v.Id)
	b = binary.AppendUvarint(b, uint64(len(v.Blocks)))
	for _, h := range v.Blocks {
		b = append(b, h[:]...)
	}
	b = binary.AppendUvarint(b, uint64(len(v.Names)))
	for i, name := range v.Names {
		b = binary.AppendUvarint(b, uint64(len(name)))
		b = append(b, name...)
		b = binary.AppendUvarint(b, uint64(v.Sizes[i]))
	}
	return string(b)
}

// requestBytes are those of r, whether it may be or not; of a version only where its kind has one.
func requestBytes(r api.Request) string {
	b := []byte{byte(r.Client)}
	b = binary.BigEndian.AppendUint32(b, r.Seq)
	b = append(b, byte(r.Op.Kind))
	b = binary.BigEndian.AppendUint32(b, r.Op.Id)
	if r.Op.Kind == put {
		return string(b) + versionBytes(r.Op.V)
	}
	return string(b)
}

// tail is the bytes of m behind its log.
func tail(m wire.Msg) string {
	b := []byte{byte(m.Client)}
	b = binary.BigEndian.AppendUint32(b, m.Seq)
	b = binary.BigEndian.AppendUint16(b, uint16(m.Reply.E))
	b = append(b, byte(len(m.Reply.Ids)))
	for _, id := range m.Reply.Ids {
		b = binary.BigEndian.AppendUint32(b, id)
	}
	b = append(b, versionBytes(m.Reply.V)...)
	b = append(b, m.Hash[:]...)
	b = binary.AppendUvarint(b, uint64(len(m.Block)))
	return string(b) + m.Block
}

// msgBytes are those of m, whether it may be or not.
func msgBytes(m wire.Msg) string {
	b := []byte{byte(m.Kind), byte(m.From), byte(m.To)}
	b = binary.BigEndian.AppendUint32(b, m.View)
	b = binary.BigEndian.AppendUint32(b, m.Last)
	b = append(b, byte(m.N), byte(m.Commit), byte(len(m.Log)))
	for _, r := range m.Log {
		b = append(b, requestBytes(r)...)
	}
	return string(b) + tail(m)
}

// wantGetRequest reads by the chapter's steps, each error told where it is met.
func wantGetRequest(s string) (api.Request, string, api.Errno) {
	var r api.Request
	fault := func(e api.Errno) (api.Request, string, api.Errno) { return api.Request{}, "", e }
	if len(s) < 1 {
		return fault(api.ErrShort)
	}
	if s[0] > 2 {
		return fault(api.ErrArg)
	}
	if len(s) < 6 {
		return fault(api.ErrShort)
	}
	if s[5] < put || s[5] > get {
		return fault(api.ErrArg)
	}
	if len(s) < 10 {
		return fault(api.ErrShort)
	}
	r.Client, r.Seq = int(s[0]), binary.BigEndian.Uint32([]byte(s[1:]))
	r.Op.Kind, r.Op.Id = int(s[5]), binary.BigEndian.Uint32([]byte(s[6:]))
	if s[5] != put {
		return r, s[10:], api.OK
	}
	v, rest, e := header.Read(s[10:])
	if e != api.OK {
		return fault(e)
	}
	if r.Op.Id != 0 {
		return fault(api.ErrArg)
	}
	r.Op.V = v
	return r, rest, api.OK
}

func wantDecode(s string) (wire.Msg, api.Errno) {
	var m wire.Msg
	if len(s) <= opsAt {
		return m, api.ErrShort
	}
	got := wire.Msg{
		Kind: int(s[kindAt]), From: int(s[fromAt]), To: int(s[toAt]),
		View: binary.BigEndian.Uint32([]byte(s[viewAt:])), Last: binary.BigEndian.Uint32([]byte(s[lastAt:])),
		N: int(s[nAt]), Commit: int(s[commitAt]),
	}
	ops := s[opsAt]
	if ops > mostOps {
		return m, api.ErrSize
	}
	s = s[logAt:]
	for range ops {
		r, rest, e := wantGetRequest(s)
		if e != api.OK {
			return m, e
		}
		got.Log = append(got.Log, r)
		s = rest
	}
	if len(s) < 8 {
		return m, api.ErrShort
	}
	got.Client, got.Seq = int(s[0]), binary.BigEndian.Uint32([]byte(s[1:]))
	got.Reply.E = api.Errno(binary.BigEndian.Uint16([]byte(s[5:])))
	ids := s[7]
	if ids > mostVers {
		return m, api.ErrSize
	}
	s = s[8:]
	for range ids {
		if len(s) < 4 {
			return m, api.ErrShort
		}
		got.Reply.Ids = append(got.Reply.Ids, binary.BigEndian.Uint32([]byte(s)))
		s = s[4:]
	}
	v, s, e := header.Read(s)
	if e != api.OK {
		return m, e
	}
	got.Reply.V = v
	if len(s) < hashBytes {
		return m, api.ErrShort
	}
	got.Hash = api.Hash([]byte(s[:hashBytes]))
	block, rest, e := wantText(s[hashBytes:])
	switch {
	case e != api.OK:
		return m, e
	case rest != "":
		return m, api.ErrMore
	}
	got.Block = block
	if !wantMay(got) {
		return m, api.ErrArg
	}
	return got, api.OK
}

// wantText reads a number by Go's library, and as many bytes.
func wantText(s string) (string, string, api.Errno) {
	for i := 0; i < len(s) && i < 10; i++ {
		if s[i] >= 128 {
			continue
		}
		n, used := binary.Uvarint([]byte(s[:i+1]))
		if used != i+1 || i > 0 && s[i] == 0 {
			return "", "", api.ErrLong
		}
		if n > uint64(len(s)-i-1) {
			return "", "", api.ErrShort
		}
		return s[i+1 : i+1+int(n)], s[i+1+int(n):], api.OK
	}
	if len(s) >= 10 {
		return "", "", api.ErrLong
	}
	return "", "", api.ErrShort
}

func checkPut(t *testing.T, why string, r api.Request, want string) {
	t.Helper()
	if got := wire.PutRequest(r); got != want {
		t.Errorf("PutRequest of %s, %v: %.80q, want %.80q", why, r, got, want)
	}
}

// checkMayRequest checks what follows from whether r may be.
func checkMayRequest(t *testing.T, why string, r api.Request, may bool) {
	t.Helper()
	want := ""
	if may {
		want = requestBytes(r)
	}
	checkPut(t, why, r, want)
	checkMay(t, "a log of "+why, with(plain(), func(m *wire.Msg) { m.Log = []api.Request{m.Log[0], r} }), may)
}

func checkGet(t *testing.T, why, s string, want api.Request, rest string, wantE api.Errno) {
	t.Helper()
	if r, behind, e := wire.GetRequest(s); !isRequest(r, want) || behind != rest || e != wantE {
		t.Errorf("GetRequest of %s, %.80q: %v, %.40q, %d, want %v, %.40q, %d", why, s, r, behind, e, want, rest, wantE)
	}
}

func checkGetFault(t *testing.T, why, s string, want api.Errno) {
	t.Helper()
	checkGet(t, why, s, api.Request{}, "", want)
}

// checkMay checks Encode, too, which tells an error of all that may not be.
func checkMay(t *testing.T, why string, m wire.Msg, want bool) {
	t.Helper()
	if got := wire.May(m); got != want {
		t.Errorf("May of %s: %v, want %v", why, got, want)
	}
	s, e := wire.Encode(m)
	switch {
	case !want && (s != "" || e != api.ErrArg):
		t.Errorf("Encode of %s: %.60q, %d, want ErrArg", why, s, e)
	case want && (s != msgBytes(m) || e != api.OK):
		t.Errorf("Encode of %s: %.900q, %d, want %.900q", why, s, e, msgBytes(m))
	}
}

func checkDecode(t *testing.T, why, s string, want wire.Msg, wantE api.Errno) {
	t.Helper()
	if m, e := wire.Decode(s); !isMsg(m, want) || e != wantE {
		t.Errorf("Decode of %s, %.80q: %.300v, %d, want %.300v, %d", why, s, m, e, want, wantE)
	}
}

func checkFault(t *testing.T, why, s string, want api.Errno) {
	t.Helper()
	checkDecode(t, why, s, wire.Msg{}, want)
}

// checkBytes holds both calls that read against the plain reading.
func checkBytes(t *testing.T, why, s string) api.Errno {
	t.Helper()
	m, e := wantDecode(s)
	checkDecode(t, why, s, m, e)
	r, rest, requestE := wantGetRequest(s)
	checkGet(t, why, s, r, rest, requestE)
	return e
}

func checkSame(t *testing.T, why string, a, b wire.Msg, want bool) {
	t.Helper()
	if wire.Same(a, b) != want || wire.Same(b, a) != want {
		t.Errorf("Same of %s: %v and %v, want %v", why, wire.Same(a, b), wire.Same(b, a), want)
	}
}

// manyNumbers are those near the edges of all that is asked, and those that are the same as others in fewer bits.
func manyNumbers() []int {
	l := []int{math.MinInt, math.MinInt + 1, math.MinInt + 10, math.MaxInt, math.MaxInt - 1, 1 << 32, 1<<32 + 1, 1<<32 + 10, -1 << 32, 1<<31 - 1, 1 << 31, 1 << 16, 1<<16 + 1, -1<<16 + 1}
	for n := -300; n <= 600; n++ {
		l = append(l, n)
	}
	for n := 950; n <= 1050; n++ {
		l = append(l, n)
	}
	return l
}

// The kinds.

func TestKinds(t *testing.T) {
	kinds := []int{wire.Prepare, wire.Took, wire.Commit, wire.Change, wire.Mine, wire.Start, wire.Ask, wire.Tell, wire.Answer, wire.Upload, wire.Have, wire.Fetch, wire.Here, wire.Submit}
	for i, kind := range kinds {
		if kind != i+1 {
			t.Errorf("kind %d is %d", i+1, kind)
		}
	}
	if len(kinds) != lastKind {
		t.Errorf("%d kinds", len(kinds))
	}
	// They are numbers of no type: a byte, or a float, may have each of them.
	var b byte = wire.Submit
	var f float64 = wire.Prepare
	if b != 14 || f != 1 {
		t.Error("kinds of a type")
	}
}

// P18.1

func TestPutRequestKnown(t *testing.T) {
	block := strings.Repeat("\x09", 32)
	version := api.Version{Id: 7, Blocks: []api.Hash{api.Hash([]byte(block))}, Names: []string{"a", "bc"}, Sizes: []int{3, 200}}
	for _, c := range []struct {
		r    api.Request
		want string
	}{
		{api.Request{Op: api.Op{Kind: list}}, "\x00\x00\x00\x00\x00\x04\x00\x00\x00\x00"},
		{api.Request{Client: 1, Seq: 1, Op: api.Op{Kind: remove, Id: 1}}, "\x01\x00\x00\x00\x01\x02\x00\x00\x00\x01"},
		{api.Request{Client: 2, Seq: 0x01020304, Op: api.Op{Kind: get, Id: 0x05060708}}, "\x02\x01\x02\x03\x04\x05\x05\x06\x07\x08"},
		{api.Request{Client: 2, Seq: math.MaxUint32, Op: api.Op{Kind: prune, Id: math.MaxUint32}}, "\x02\xff\xff\xff\xff\x03\xff\xff\xff\xff"},
		{api.Request{Client: 1, Seq: 2, Op: api.Op{Kind: put}}, "\x01\x00\x00\x00\x02\x01\x00\x00\x00\x00\x00\x00\x00\x00\x00\x00"},
		{api.Request{Client: 1, Seq: 2, Op: api.Op{Kind: put, V: version}}, "\x01\x00\x00\x00\x02\x01\x00\x00\x00\x00\x00\x00\x00\x07\x01" + block + "\x02\x01a\x03\x02bc\xc8\x01"},
	} {
		checkPut(t, "a known one", c.r, c.want)
		checkGet(t, "a known one", c.want, c.r, "", api.OK)
		checkGet(t, "a known one and more", c.want+"\x00more", c.r, "\x00more", api.OK)
	}
}

func TestRequestsOfEachClient(t *testing.T) {
	for _, client := range manyNumbers() {
		may := client >= 0 && client <= 2
		for kind := put; kind <= get; kind++ {
			checkMayRequest(t, fmt.Sprint("client ", client), api.Request{Client: client, Seq: 8, Op: api.Op{Kind: kind}}, may)
		}
	}
}

func TestRequestsOfEachKind(t *testing.T) {
	for _, kind := range manyNumbers() {
		may := kind >= put && kind <= get
		checkMayRequest(t, fmt.Sprint("kind ", kind), api.Request{Client: 1, Seq: 8, Op: api.Op{Kind: kind}}, may)
		checkMayRequest(t, fmt.Sprint("kind ", kind, " and an Id"), api.Request{Client: 1, Seq: 8, Op: api.Op{Kind: kind, Id: 1}}, may && kind != put)
		checkMayRequest(t, fmt.Sprint("kind ", kind, " and a version"), api.Request{Client: 1, Seq: 8, Op: api.Op{Kind: kind, V: sized(1, 4)}}, kind == put)
	}
}

func TestRequestsOfEachNumber(t *testing.T) {
	for bit := range 32 {
		for _, n := range []uint32{1 << bit, 1<<bit - 1, ^(1 << bit)} {
			for kind := put; kind <= get; kind++ {
				checkMayRequest(t, fmt.Sprint("Seq ", n), api.Request{Seq: n, Op: api.Op{Kind: kind}}, true)
				checkMayRequest(t, fmt.Sprint("Id ", n), api.Request{Op: api.Op{Kind: kind, Id: n}}, kind != put || n == 0)
			}
			checkMayRequest(t, fmt.Sprint("version ", n), api.Request{Op: api.Op{Kind: put, V: api.Version{Id: n}}}, true)
		}
	}
}

// faultyVersions may not be.
func faultyVersions() []api.Version {
	return []api.Version{
		{Blocks: hashes(1)},
		{Names: []string{"a"}},
		{Sizes: []int{0}},
		{Names: []string{""}, Sizes: []int{0}},
		{Names: []string{"b", "a"}, Sizes: []int{0, 0}},
		{Names: []string{"a", "a"}, Sizes: []int{0, 0}},
		{Names: []string{"a"}, Sizes: []int{1}},
		{Names: []string{"a"}, Sizes: []int{-1}},
		{Blocks: hashes(2), Names: []string{"a"}, Sizes: []int{301}},
		{Blocks: hashes(2), Names: []string{"a"}, Sizes: []int{1}},
		{Names: []string{strings.Repeat("a", mostName+1)}, Sizes: []int{0}},
		sized(1, make([]int, mostFiles+1)...),
		{Blocks: hashes(mostBlocks + 1)},
	}
}

func TestRequestsOfVersionsThatMayNotBe(t *testing.T) {
	for i, v := range faultyVersions() {
		for kind := range 7 {
			checkMayRequest(t, fmt.Sprint("faulty version ", i), api.Request{Seq: 1, Op: api.Op{Kind: kind, V: v}}, false)
		}
		checkMay(t, fmt.Sprint("a reply of faulty version ", i), with(plain(), func(m *wire.Msg) { m.Reply.V = v }), false)
	}
}

// Of other kinds than 1 a version is nothing, whichever of its fields it has; lists without elements are nothing.
func TestRequestsOfNoVersion(t *testing.T) {
	for kind := put; kind <= get; kind++ {
		for _, v := range []api.Version{{Id: 1}, {Id: math.MaxUint32}, sized(0, 0), sized(0, 300), sized(2, 1, 2), greatest()} {
			checkMayRequest(t, "a version", api.Request{Op: api.Op{Kind: kind, V: v}}, kind == put)
			checkMayRequest(t, "a version and an Id", api.Request{Op: api.Op{Kind: kind, Id: 4, V: v}}, false)
		}
		empty := api.Version{Blocks: []api.Hash{}, Names: make([]string, 0, 5), Sizes: []int{}}
		checkMayRequest(t, "empty lists", api.Request{Op: api.Op{Kind: kind, V: empty}}, true)
	}
}

func TestGetRequestOfEachCut(t *testing.T) {
	for _, r := range []api.Request{{Op: api.Op{Kind: list}}, {Client: 2, Seq: 9, Op: api.Op{Kind: get, Id: 9}}, {Op: api.Op{Kind: put}}, {Op: api.Op{Kind: put, V: sized(5, 300, 0, 7)}}, {Op: api.Op{Kind: put, V: greatest()}}} {
		s := requestBytes(r)
		for i := range s {
			checkGetFault(t, "a cut", s[:i], api.ErrShort)
		}
		for _, more := range []string{"", "\x00", "more", s, strings.Repeat("\xff", 5000)} {
			checkGet(t, "bytes with others behind", s+more, r, more, api.OK)
		}
	}
}

// A client, and a kind, that may not be is told as soon as it is read, whatever is behind.
func TestGetRequestOfEachFirstByte(t *testing.T) {
	for b := range 256 {
		client, kind := string([]byte{byte(b)}), "\x02\x00\x00\x00\x07"+string([]byte{byte(b)})
		want := api.ErrShort
		if b > 2 {
			want = api.ErrArg
		}
		for _, behind := range []string{"", "\x00", "\xff\xff", "\x00\x00\x00\x00"} {
			checkGetFault(t, "a client", client+behind, want)
		}
		want = api.ErrShort
		if b < put || b > get {
			want = api.ErrArg
		}
		for _, behind := range []string{"", "\x00", "\xff\xff", "\x00\x00\x00"} {
			checkGetFault(t, "a kind", kind+behind, want)
		}
	}
}

func TestGetRequestOfFaults(t *testing.T) {
	putting := "\x00\x00\x00\x00\x01\x01\x00\x00\x00\x00"
	puttingId := "\x00\x00\x00\x00\x01\x01\x00\x00\x00\x01"
	for _, c := range []struct {
		why, s string
		want   api.Errno
	}{
		{"nothing", "", api.ErrShort},
		{"a client and a kind that may not be", "\x03\x00\x00\x00\x00\x06", api.ErrArg},
		{"a client that may be, three bytes", "\x02\x00\x00\x00", api.ErrShort},
		{"no kind", "\x02\x00\x00\x00\x01", api.ErrShort},
		{"no version", putting, api.ErrShort},
		{"too many blocks", putting + "\x00\x00\x00\x07\x11", api.ErrSize},
		{"a long number of blocks", putting + "\x00\x00\x00\x07\x80\x00", api.ErrLong},
		{"a number of ten bytes", putting + "\x00\x00\x00\x07" + strings.Repeat("\xff", 10), api.ErrLong},
		{"too many names", putting + "\x00\x00\x00\x07\x00\x0d", api.ErrSize},
		{"a great size", putting + "\x00\x00\x00\x07\x00\x01\x01a\xad\x02", api.ErrSize},
		{"a block too few", putting + "\x00\x00\x00\x07\x00\x01\x01a\x01", api.ErrArg},
		{"no name", putting + "\x00\x00\x00\x07\x00\x01\x00\x00", api.ErrArg},
		{"an Id, and a version", puttingId + "\x00\x00\x00\x07\x00\x00", api.ErrArg},
		{"an Id, and more behind", puttingId + "\x00\x00\x00\x07\x00\x00more", api.ErrArg},
		{"an Id, ahead of a version that is cut", puttingId + "\x00\x00\x00\x07\x00", api.ErrShort},
		{"an Id, ahead of too many blocks", puttingId + "\x00\x00\x00\x07\x11", api.ErrSize},
		{"an Id, ahead of a long number", puttingId + "\x00\x00\x00\x07\x80\x00", api.ErrLong},
		{"an Id of each byte", "\x00\x00\x00\x00\x01\x01\x01\x00\x00\x00" + "\x00\x00\x00\x07\x00\x00", api.ErrArg},
	} {
		checkGetFault(t, c.why, c.s, c.want)
		s := msgBytes(plain())[:opsAt] + "\x01" + c.s
		if c.want != api.ErrShort {
			s += tail(plain())
		}
		checkFault(t, "a message of "+c.why, s, c.want)
	}
	// Kinds without a version read none.
	checkGet(t, "a kind without a version", "\x00\x00\x00\x00\x01\x02\x00\x00\x00\x00\xff\xff", api.Request{Seq: 1, Op: api.Op{Kind: remove}}, "\xff\xff", api.OK)
}

func TestGetRequestOfRandomBytes(t *testing.T) {
	r := rand.New(rand.NewSource(1))
	seen := map[api.Errno]int{}
	for range 30000 {
		s := []byte(requestBytes(someRequest(r)) + someText(r, r.Intn(3)))
		for range r.Intn(4) {
			s[r.Intn(len(s))] = byte(r.Intn(8) * r.Intn(37))
		}
		s = s[:len(s)-r.Intn(2)*r.Intn(len(s))]
		request, rest, e := wantGetRequest(string(s))
		checkGet(t, "random bytes", string(s), request, rest, e)
		seen[e]++
	}
	for _, e := range []api.Errno{api.OK, api.ErrShort, api.ErrArg, api.ErrSize} {
		if seen[e] < 100 {
			t.Errorf("error %d comes %d times", e, seen[e])
		}
	}
}

func TestPutRequestOfRandomRequests(t *testing.T) {
	r := rand.New(rand.NewSource(2))
	seen := map[bool]int{}
	for range 20000 {
		x := someRequest(r)
		switch r.Intn(12) {
		case 0:
			x.Client = r.Intn(9) - 3
		case 1:
			x.Op.Kind = r.Intn(9) - 1
		case 2:
			x.Op.V = someVersion(r)
		case 3:
			x.Op.Id = r.Uint32() % 2
		case 4:
			x.Op.V = faultyVersions()[r.Intn(13)]
		}
		may := wantMayRequest(x)
		checkMayRequest(t, "a random request", x, may)
		seen[may]++
	}
	if seen[true] < 3000 || seen[false] < 3000 {
		t.Errorf("%d that may be, %d that may not", seen[true], seen[false])
	}
}

// P18.2

func TestMayKnown(t *testing.T) {
	for _, m := range []wire.Msg{tiny(), plain(), huge()} {
		checkMay(t, "a message that may be", m, true)
	}
	checkMay(t, "nothing", wire.Msg{}, false)
}

func TestMayOfEachNumber(t *testing.T) {
	for _, m := range []wire.Msg{tiny(), plain()} {
		for _, n := range manyNumbers() {
			within := func(least, most int) bool { return n >= least && n <= most }
			end := within(0, 2) || within(10, 12)
			for _, c := range []struct {
				why    string
				change func(*wire.Msg)
				may    bool
			}{
				{"Kind", func(m *wire.Msg) { m.Kind = n }, within(1, lastKind)},
				{"From", func(m *wire.Msg) { m.From = n }, end},
				{"To", func(m *wire.Msg) { m.To = n }, end},
				{"From and To", func(m *wire.Msg) { m.From, m.To = n, n }, end},
				{"N", func(m *wire.Msg) { m.N = n }, within(0, mostOps)},
				{"Commit", func(m *wire.Msg) { m.Commit = n }, within(0, mostOps)},
				{"N and Commit", func(m *wire.Msg) { m.N, m.Commit = n, n }, within(0, mostOps)},
				{"Client", func(m *wire.Msg) { m.Client = n }, within(0, 2)},
				{"E", func(m *wire.Msg) { m.Reply.E = api.Errno(n) }, within(0, mostError)},
			} {
				checkMay(t, fmt.Sprint(c.why, " ", n), with(m, c.change), c.may)
			}
		}
	}
}

func TestMayOfEachLength(t *testing.T) {
	for n := range 70 {
		one := api.Request{Op: api.Op{Kind: list}}
		checkMay(t, fmt.Sprint(n, " requests"), with(tiny(), func(m *wire.Msg) { m.Log = slices.Repeat([]api.Request{one}, n) }), n <= mostOps)
		checkMay(t, fmt.Sprint(n, " Ids"), with(tiny(), func(m *wire.Msg) { m.Reply.Ids = make([]uint32, n) }), n <= mostVers)
	}
	for _, n := range []int{255, 256, 257, 256 + 8, 256 + 40, 1 << 16, 1<<16 + 1} {
		one := api.Request{Op: api.Op{Kind: list}}
		checkMay(t, fmt.Sprint(n, " requests"), with(tiny(), func(m *wire.Msg) { m.Log = slices.Repeat([]api.Request{one}, n) }), false)
		checkMay(t, fmt.Sprint(n, " Ids"), with(tiny(), func(m *wire.Msg) { m.Reply.Ids = make([]uint32, n) }), false)
	}
	for n := range 1300 {
		checkMay(t, fmt.Sprint("a block of ", n), with(tiny(), func(m *wire.Msg) { m.Block = strings.Repeat("b", n) }), n <= mostBlock)
	}
	checkMay(t, "a long block", with(tiny(), func(m *wire.Msg) { m.Block = strings.Repeat("b", 1<<16) }), false)
}

// A request that may not be is found wherever it stands.
func TestMayOfEachRequest(t *testing.T) {
	for n := 1; n <= mostOps; n++ {
		for i := range n {
			m := wire.Msg{Kind: 1, Log: slices.Repeat([]api.Request{{Op: api.Op{Kind: list}}}, n)}
			m.Log[i].Op.Kind = get
			checkMay(t, fmt.Sprintf("request %d of %d changed", i, n), m, true)
			m.Log[i].Op.Kind = 0
			checkMay(t, fmt.Sprintf("request %d of %d faulty", i, n), m, false)
		}
	}
}

func TestMayOfAnyView(t *testing.T) {
	for bit := range 32 {
		for _, n := range []uint32{1 << bit, 1<<bit - 1, ^(1 << bit)} {
			checkMay(t, fmt.Sprint("View ", n), with(tiny(), func(m *wire.Msg) { m.View = n }), true)
			checkMay(t, fmt.Sprint("Last ", n), with(tiny(), func(m *wire.Msg) { m.Last = n }), true)
			checkMay(t, fmt.Sprint("Seq ", n), with(tiny(), func(m *wire.Msg) { m.Seq = n }), true)
			checkMay(t, fmt.Sprint("Ids ", n), with(tiny(), func(m *wire.Msg) { m.Reply.Ids = []uint32{n, 0, n} }), true)
		}
	}
}

// changeSome changes one thing of m, or none.
func changeSome(r *rand.Rand, m *wire.Msg) {
	near := func() int {
		return []int{-1, 0, 1, 2, 3, 9, 10, 12, 13, 14, 15, 39, 40, 41, 1000, 1001, 256, 257}[r.Intn(18)]
	}
	switch r.Intn(20) {
	case 0:
		m.Kind = near()
	case 1:
		m.From = near()
	case 2:
		m.To = near()
	case 3:
		m.N = near()
	case 4:
		m.Commit = near()
	case 5:
		m.Client = near()
	case 6:
		m.Reply.E = api.Errno(near())
	case 7:
		m.Log = append(m.Log, someRequest(r))
		m.Log[r.Intn(len(m.Log))].Client = near()
	case 8:
		m.Log = slices.Repeat([]api.Request{someRequest(r)}, 38+r.Intn(5))
	case 9:
		m.Reply.Ids = make([]uint32, 6+r.Intn(5))
	case 10:
		m.Reply.V = faultyVersions()[r.Intn(13)]
	case 11:
		m.Block = someText(r, 995+r.Intn(10))
	case 12:
		m.View, m.Last, m.Seq = r.Uint32(), r.Uint32(), r.Uint32()
	}
}

func TestMayOfRandomMessages(t *testing.T) {
	r := rand.New(rand.NewSource(3))
	seen := map[bool]int{}
	for range 5000 {
		m := someMsg(r)
		for range 2 {
			changeSome(r, &m)
		}
		may := wantMay(m)
		checkMay(t, "a random message", m, may)
		seen[may]++
	}
	if seen[true] < 1000 || seen[false] < 1000 {
		t.Errorf("%d that may be, %d that may not", seen[true], seen[false])
	}
}

// P18.3

func TestEncodeKnown(t *testing.T) {
	m := plain()
	m.Log, m.Reply.V = m.Log[:1], api.Version{Id: 5, Names: []string{"n"}, Sizes: []int{0}}
	m.Hash = api.Hash([]byte(strings.Repeat("h", 31) + "i"))
	m.Block = strings.Repeat("b", 130)
	known := "\x09\x02\x0b" + "\x01\x02\x03\x04" + "\xff\xfe\xfd\xfc" + "\x28\x21" +
		"\x01" + "\x01\x05\x06\x07\x08\x05\x09\x0a\x0b\x0c" +
		"\x02\x0d\x0e\x0f\x10" +
		"\x01\x02" + "\x02\x11\x12\x13\x14\x00\x00\x00\x07" + "\x00\x00\x00\x05\x00\x01\x01n\x00" +
		strings.Repeat("h", 31) + "i" + "\x82\x01" + strings.Repeat("b", 130)
	least := "\x01\x00\x00" + strings.Repeat("\x00", 8) + "\x00\x00" + "\x00" + "\x00\x00\x00\x00\x00" + "\x00\x00\x00" + "\x00\x00\x00\x00\x00\x00" + strings.Repeat("\x00", 32) + "\x00"
	for _, c := range []struct {
		m    wire.Msg
		want string
	}{{m, known}, {tiny(), least}} {
		if s, e := wire.Encode(c.m); s != c.want || e != api.OK {
			t.Errorf("Encode of %v: %q, %d, want %q", c.m, s, e, c.want)
		}
		checkDecode(t, "known bytes", c.want, c.m, api.OK)
	}
}

func TestEncodeTheLongest(t *testing.T) {
	version := 4 + 1 + 15*hashBytes + 1 + mostFiles*(1+mostName+2)
	want := 14 + mostOps*(10+version) + 5 + 2 + 1 + mostVers*4 + version + hashBytes + 2 + mostBlock
	if s, e := wire.Encode(huge()); len(s) != want || e != api.OK || s != msgBytes(huge()) {
		t.Errorf("%d bytes, %d, want %d", len(s), e, want)
	}
	checkDecode(t, "the longest one", msgBytes(huge()), huge(), api.OK)
}

func TestEncodeOfEachNumberOfThings(t *testing.T) {
	for n := range mostOps + 1 {
		m := tiny()
		for i := range n {
			m.Log = append(m.Log, api.Request{Client: i % 3, Seq: uint32(i), Op: api.Op{Kind: 2 + i%4, Id: uint32(n)}})
		}
		for i := range n % (mostVers + 1) {
			m.Reply.Ids = append(m.Reply.Ids, uint32(n*i))
		}
		checkMay(t, fmt.Sprint(n, " things"), m, true)
		checkDecode(t, fmt.Sprint(n, " things"), msgBytes(m), m, api.OK)
	}
}

// P18.4

func TestDecodeOfEachCut(t *testing.T) {
	r := rand.New(rand.NewSource(4))
	for _, m := range []wire.Msg{tiny(), plain(), someMsg(r), someMsg(r)} {
		s := msgBytes(m)
		for i := range s {
			checkFault(t, "a cut", s[:i], api.ErrShort)
		}
		checkDecode(t, "no cut", s, m, api.OK)
		for _, more := range []string{"\x00", "\xff", "more", s} {
			checkFault(t, "more", s+more, api.ErrMore)
		}
	}
	s := msgBytes(huge())
	for i := 0; i < len(s); i += 97 {
		checkFault(t, "a cut of the longest one", s[:i], api.ErrShort)
	}
}

func TestDecodeOfEachByteChanged(t *testing.T) {
	s := msgBytes(plain())
	for i := range s {
		for b := range 256 {
			checkBytes(t, fmt.Sprintf("byte %d changed", i), spliced(s, i, string([]byte{byte(b)})))
		}
	}
}

// replyAt is where the reply of a message without a log stands.
const replyAt = logAt + 5

func TestDecodeOfEachNumberOfThings(t *testing.T) {
	s := msgBytes(tiny())
	one := requestBytes(api.Request{Op: api.Op{Kind: list}})
	id := "\x00\x00\x00\x07"
	for n := range 256 {
		count := string([]byte{byte(n)})
		ops, ids := s[:opsAt]+count, s[:replyAt+2]+count
		if n > mostOps {
			checkFault(t, "too many requests", ops, api.ErrSize)
			checkFault(t, "too many requests", ops+"\xff", api.ErrSize)
			checkFault(t, "too many requests, all there", ops+strings.Repeat(one, n)+s[logAt:], api.ErrSize)
		} else {
			checkDecode(t, "requests", ops+strings.Repeat(one, n)+s[logAt:], with(tiny(), func(m *wire.Msg) {
				m.Log = slices.Repeat([]api.Request{{Op: api.Op{Kind: list}}}, n)
			}), api.OK)
		}
		if n > mostVers {
			checkFault(t, "too many Ids", ids, api.ErrSize)
			checkFault(t, "too many Ids", ids+"\xff", api.ErrSize)
			checkFault(t, "too many Ids, all there", ids+strings.Repeat(id, n)+s[replyAt+3:], api.ErrSize)
		} else {
			checkDecode(t, "Ids", ids+strings.Repeat(id, n)+s[replyAt+3:], with(tiny(), func(m *wire.Msg) {
				m.Reply.Ids = slices.Repeat([]uint32{7}, n)
			}), api.OK)
		}
	}
}

// faults are changes by which a message may not be, though it can be read.
func faults() []func(*wire.Msg) {
	return []func(*wire.Msg){
		func(m *wire.Msg) { m.Kind = 0 },
		func(m *wire.Msg) { m.Kind = 15 },
		func(m *wire.Msg) { m.Kind = 255 },
		func(m *wire.Msg) { m.From = 3 },
		func(m *wire.Msg) { m.From = 9 },
		func(m *wire.Msg) { m.From = 13 },
		func(m *wire.Msg) { m.To = 3 },
		func(m *wire.Msg) { m.To = 9 },
		func(m *wire.Msg) { m.To = 255 },
		func(m *wire.Msg) { m.N = 41 },
		func(m *wire.Msg) { m.N = 255 },
		func(m *wire.Msg) { m.Commit = 41 },
		func(m *wire.Msg) { m.Client = 3 },
		func(m *wire.Msg) { m.Client = 255 },
		func(m *wire.Msg) { m.Reply.E = 1001 },
		func(m *wire.Msg) { m.Reply.E = 65535 },
		func(m *wire.Msg) { m.Block = strings.Repeat("b", 1001) },
		func(m *wire.Msg) { m.Block = strings.Repeat("b", 1<<16) },
	}
}

// What may not be is told behind all: behind each cut, and behind bytes that are too many.
func TestDecodeOfWhatMayNotBe(t *testing.T) {
	for i, change := range faults() {
		for _, m := range []wire.Msg{tiny(), plain()} {
			why := fmt.Sprint("fault ", i)
			s := msgBytes(with(m, change))
			checkFault(t, why, s, api.ErrArg)
			checkFault(t, why+" and more", s+"\x00", api.ErrMore)
			for at := range min(len(s), 300) {
				checkFault(t, why+" and a cut", s[:at], api.ErrShort)
			}
			checkFault(t, why+" and a cut", s[:len(s)-1], api.ErrShort)
			checkFault(t, why+" and too many requests", spliced(s, opsAt, "\x29"), api.ErrSize)
		}
	}
}

func TestDecodeTellsTheFirstError(t *testing.T) {
	m := tiny()
	m.Kind = 99
	s := msgBytes(m)
	zeros := strings.Repeat("\x00", 32)
	ops := s[:opsAt]
	reply := s[:replyAt]
	version := reply + "\x03\xe8\x00\x00\x00\x00\x01"
	behind := version + "\x00\x00"
	for _, c := range []struct {
		why, s string
		want   api.Errno
	}{
		{"nothing", "", api.ErrShort},
		{"no number of requests", ops, api.ErrShort},
		{"too many requests, ahead of a faulty one", ops + "\x29\x03", api.ErrSize},
		{"a faulty request", ops + "\x28\x03", api.ErrArg},
		{"a faulty kind", ops + "\x28\x00\x00\x00\x00\x01\x00", api.ErrArg},
		{"a faulty request behind another one", ops + "\x02\x00\x00\x00\x00\x01\x04\x00\x00\x00\x00\x03", api.ErrArg},
		{"a request too few", ops + "\x02\x00\x00\x00\x00\x01\x04\x00\x00\x00\x00\x00", api.ErrShort},
		{"a request of an Id, ahead of too many Ids", ops + "\x01\x00\x00\x00\x00\x01\x01\x00\x00\x00\x01" + zeros[:6] + "\x00\x00\x00\x00\x00\x00\x00\x09", api.ErrArg},
		{"too many blocks of a request, ahead of too many Ids", ops + "\x01\x00\x00\x00\x00\x01\x01\x00\x00\x00\x01\x00\x00\x00\x00\x11", api.ErrSize},
		{"a long number of a request", ops + "\x01\x00\x00\x00\x00\x01\x01\x00\x00\x00\x00\x00\x00\x00\x00\x80\x00", api.ErrLong},
		{"too many Ids, and a great error", reply + "\xff\xff\x09", api.ErrSize},
		{"Ids, of a version with too many blocks", reply + "\x00\x00\x01\x00\x00\x00\x07\x00\x00\x00\x01\x11", api.ErrSize},
		{"Ids that are cut", reply + "\x00\x00\x02\x00\x00\x00\x07\x00\x00\x00", api.ErrShort},
		{"too many blocks", version + "\x11", api.ErrSize},
		{"a long number of blocks", version + "\x81\x00", api.ErrLong},
		{"too many names", version + "\x00\x0d", api.ErrSize},
		{"a great size", version + "\x00\x01\x01a\xad\x02", api.ErrSize},
		{"a version that may not be", version + "\x00\x01\x01a\x01", api.ErrArg},
		{"a version that may not be, and nothing behind", version + "\x00\x01\x00\x00", api.ErrArg},
		{"a hash that is cut", behind + zeros[:31], api.ErrShort},
		{"no block", behind + zeros, api.ErrShort},
		{"a block that is cut", behind + zeros + "\x02b", api.ErrShort},
		{"a block of a long number", behind + zeros + "\x81\x00b", api.ErrLong},
		{"a block of a number of ten bytes", behind + zeros + strings.Repeat("\x80", 10), api.ErrLong},
		{"a block of a number that does not end", behind + zeros + strings.Repeat("\x80", 9), api.ErrShort},
		{"a block of the greatest number", behind + zeros + strings.Repeat("\xff", 9) + "\x01", api.ErrShort},
		{"a block of a number that is too great", behind + zeros + strings.Repeat("\xff", 9) + "\x02", api.ErrLong},
		{"a long block that is cut", behind + zeros + "\xe9\x07" + strings.Repeat("b", 1000), api.ErrShort},
		{"a long block with more behind", behind + zeros + "\xe9\x07" + strings.Repeat("b", 1002), api.ErrMore},
		{"a long block", behind + zeros + "\xe9\x07" + strings.Repeat("b", 1001), api.ErrArg},
		{"more", behind + zeros + "\x01bb", api.ErrMore},
		{"a kind that may not be", behind + zeros + "\x01b", api.ErrArg},
	} {
		checkFault(t, c.why, c.s, c.want)
		checkBytes(t, c.why, c.s)
	}
}

func TestDecodeOfRandomBytes(t *testing.T) {
	r := rand.New(rand.NewSource(5))
	seen := map[api.Errno]int{}
	for range 30000 {
		m := someMsg(r)
		if r.Intn(4) == 0 {
			changeSome(r, &m)
		}
		if len(m.Reply.V.Names) != len(m.Reply.V.Sizes) {
			m.Reply.V = api.Version{}
		}
		s := []byte(msgBytes(m))
		for range r.Intn(3) {
			s[r.Intn(1+r.Intn(len(s)))] = byte(r.Intn(8) * r.Intn(37))
		}
		switch r.Intn(6) {
		case 0:
			s = s[:r.Intn(len(s))]
		case 1:
			s = append(s, someText(r, 1+r.Intn(3))...)
		case 2:
			at := r.Intn(len(s))
			s = slices.Delete(s, at, min(len(s), at+1+r.Intn(3)))
		}
		seen[checkBytes(t, "random bytes", string(s))]++
	}
	for _, e := range []api.Errno{api.OK, api.ErrShort, api.ErrArg, api.ErrMore, api.ErrSize} {
		if seen[e] < 500 {
			t.Errorf("error %d comes %d times", e, seen[e])
		}
	}
	if seen[api.ErrLong] < 5 {
		t.Errorf("a long number comes %d times", seen[api.ErrLong])
	}
	for range 3000 {
		checkBytes(t, "any bytes", someText(r, r.Intn(200)))
	}
}

// P18.5

// changes are those of each of plain's fields alone.
func changes() map[string]func(*wire.Msg) {
	all := map[string]func(*wire.Msg){
		"Kind":            func(m *wire.Msg) { m.Kind++ },
		"From":            func(m *wire.Msg) { m.From-- },
		"To":              func(m *wire.Msg) { m.To++ },
		"View":            func(m *wire.Msg) { m.View++ },
		"Last":            func(m *wire.Msg) { m.Last++ },
		"N":               func(m *wire.Msg) { m.N-- },
		"Commit":          func(m *wire.Msg) { m.Commit++ },
		"Client":          func(m *wire.Msg) { m.Client-- },
		"Seq":             func(m *wire.Msg) { m.Seq++ },
		"E":               func(m *wire.Msg) { m.Reply.E++ },
		"the first Id":    func(m *wire.Msg) { m.Reply.Ids[0]++ },
		"the last Id":     func(m *wire.Msg) { m.Reply.Ids[1]++ },
		"an Id more":      func(m *wire.Msg) { m.Reply.Ids = append(m.Reply.Ids, 0) },
		"an Id less":      func(m *wire.Msg) { m.Reply.Ids = m.Reply.Ids[:1] },
		"no Ids":          func(m *wire.Msg) { m.Reply.Ids = nil },
		"Ids turned":      func(m *wire.Msg) { slices.Reverse(m.Reply.Ids) },
		"V's Id":          func(m *wire.Msg) { m.Reply.V.Id++ },
		"V's block":       func(m *wire.Msg) { m.Reply.V.Blocks[0][31]++ },
		"V's name":        func(m *wire.Msg) { m.Reply.V.Names[0] = "other" },
		"V's size":        func(m *wire.Msg) { m.Reply.V.Sizes[0]++ },
		"no V":            func(m *wire.Msg) { m.Reply.V = api.Version{} },
		"Block's end":     func(m *wire.Msg) { m.Block += "\x00" },
		"Block's start":   func(m *wire.Msg) { m.Block = m.Block[1:] },
		"Block's letters": func(m *wire.Msg) { m.Block = strings.ToUpper(m.Block) },
		"no log":          func(m *wire.Msg) { m.Log = nil },
		"a request less":  func(m *wire.Msg) { m.Log = m.Log[:1] },
		"a request more":  func(m *wire.Msg) { m.Log = append(m.Log, m.Log[0]) },
		"requests turned": func(m *wire.Msg) { slices.Reverse(m.Log) },
		"Log's kind":      func(m *wire.Msg) { m.Log[0].Op.Kind-- },
		"Log's block":     func(m *wire.Msg) { m.Log[1].Op.V.Blocks[1][0]++ },
		"Log's name":      func(m *wire.Msg) { m.Log[1].Op.V.Names[1] = "other" },
		"Log's size":      func(m *wire.Msg) { m.Log[1].Op.V.Sizes[1]-- },
		"Log's version":   func(m *wire.Msg) { m.Log[1].Op.V.Id++ },
		"Log's Id":        func(m *wire.Msg) { m.Log[0].Op.Id++ },
	}
	for i := range 2 {
		all[fmt.Sprint("Client of request ", i)] = func(m *wire.Msg) { m.Log[i].Client++ }
		all[fmt.Sprint("Seq of request ", i)] = func(m *wire.Msg) { m.Log[i].Seq++ }
	}
	for i := range hashBytes {
		all[fmt.Sprint("byte of Hash ", i)] = func(m *wire.Msg) { m.Hash[i]++ }
	}
	return all
}

func TestSameOfEachField(t *testing.T) {
	checkSame(t, "one message", plain(), plain(), true)
	checkSame(t, "the smallest one", tiny(), tiny(), true)
	checkSame(t, "the greatest one", huge(), huge(), true)
	checkSame(t, "nothing", wire.Msg{}, wire.Msg{}, true)
	checkSame(t, "two messages", plain(), tiny(), false)
	for why, change := range changes() {
		a := with(plain(), change)
		checkSame(t, why, plain(), a, false)
		checkSame(t, why+" of both", with(plain(), change), a, true)
	}
}

func TestSameOfEachBit(t *testing.T) {
	for bit := range 32 {
		for why, change := range map[string]func(*wire.Msg){
			"View":              func(m *wire.Msg) { m.View ^= 1 << bit },
			"Last":              func(m *wire.Msg) { m.Last ^= 1 << bit },
			"Seq":               func(m *wire.Msg) { m.Seq ^= 1 << bit },
			"an Id":             func(m *wire.Msg) { m.Reply.Ids[0] ^= 1 << bit },
			"a request's Seq":   func(m *wire.Msg) { m.Log[1].Seq ^= 1 << bit },
			"a request's Op Id": func(m *wire.Msg) { m.Log[0].Op.Id ^= 1 << bit },
			"Kind":              func(m *wire.Msg) { m.Kind ^= 1 << (2 * bit) },
			"From":              func(m *wire.Msg) { m.From ^= 1 << (2 * bit) },
			"To":                func(m *wire.Msg) { m.To ^= 1 << (2 * bit) },
			"N":                 func(m *wire.Msg) { m.N ^= 1 << (2 * bit) },
			"Commit":            func(m *wire.Msg) { m.Commit ^= 1 << (2 * bit) },
			"Client":            func(m *wire.Msg) { m.Client ^= 1 << (2 * bit) },
			"E":                 func(m *wire.Msg) { m.Reply.E ^= 1 << (2 * bit) },
			"a request's Op":    func(m *wire.Msg) { m.Log[1].Op.Kind ^= 1 << (2 * bit) },
			"a request's end":   func(m *wire.Msg) { m.Log[1].Client ^= 1 << (2 * bit) },
		} {
			checkSame(t, fmt.Sprintf("bit %d of %s", bit, why), plain(), with(plain(), change), false)
		}
	}
}

// A list without elements may be nil or not.
func TestSameOfEmptyLists(t *testing.T) {
	empty := api.Version{Blocks: []api.Hash{}, Names: []string{}, Sizes: []int{}}
	a := wire.Msg{Kind: 1, Log: []api.Request{}, Reply: api.Reply{Ids: []uint32{}, V: empty}}
	checkSame(t, "empty lists", a, tiny(), true)
	one, other := tiny(), tiny()
	one.Log = []api.Request{{Op: api.Op{Kind: 2}}}
	other.Log = []api.Request{{Op: api.Op{Kind: 2, V: empty}}}
	checkSame(t, "empty lists of a request", one, other, true)
	checkSame(t, "a request of nothing", with(tiny(), func(m *wire.Msg) { m.Log = make([]api.Request, 1) }), tiny(), false)
	checkSame(t, "an Id of nothing", with(tiny(), func(m *wire.Msg) { m.Reply.Ids = make([]uint32, 1) }), tiny(), false)
}

// Whether they may be is none of its matter.
func TestSameOfWhatMayNotBe(t *testing.T) {
	a := wire.Msg{Kind: -5, From: 99, To: math.MinInt, N: math.MaxInt, Commit: -1, Client: 77, Log: make([]api.Request, 50), Reply: api.Reply{E: -9, Ids: make([]uint32, 50), V: api.Version{Names: []string{"", ""}, Sizes: []int{-1}}}, Block: strings.Repeat("b", 3000)}
	checkSame(t, "what may not be", a, copied(a), true)
	checkSame(t, "what may not be, another request", a, with(a, func(m *wire.Msg) { m.Log[49].Op.V.Names = []string{""} }), false)
	checkSame(t, "what may not be, another size", a, with(a, func(m *wire.Msg) { m.Reply.V.Sizes[0] = 1 }), false)
	checkSame(t, "what may not be, another kind", a, with(a, func(m *wire.Msg) { m.Kind = 5 }), false)
}

func TestSameOfRandomMessages(t *testing.T) {
	r := rand.New(rand.NewSource(6))
	seen := map[bool]int{}
	for range 3000 {
		a := someMsg(r)
		b := copied(a)
		changeSome(r, &b)
		want := isMsg(a, b)
		checkSame(t, "two messages", a, b, want)
		seen[want]++
	}
	if seen[true] < 500 || seen[false] < 500 {
		t.Errorf("%d that are the same, %d that are not", seen[true], seen[false])
	}
}

// P18.6

func TestWhatWasEncodedIsDecoded(t *testing.T) {
	r := rand.New(rand.NewSource(7))
	for range 5000 {
		m := someMsg(r)
		s, e := wire.Encode(m)
		got, decodeE := wire.Decode(s)
		if e != api.OK || decodeE != api.OK || !wire.Same(got, m) || !isMsg(got, m) {
			t.Fatalf("%v: %d, %v, %d", m, e, got, decodeE)
		}
	}
	for range 5000 {
		l := []api.Request{someRequest(r), someRequest(r), someRequest(r)}
		s := wire.PutRequest(l[0]) + wire.PutRequest(l[1]) + wire.PutRequest(l[2]) + "z"
		for _, x := range l {
			got, rest, e := wire.GetRequest(s)
			if e != api.OK || !isRequest(got, x) {
				t.Fatalf("%v: %v, %d", x, got, e)
			}
			s = rest
		}
		if s != "z" {
			t.Fatalf("%q is left", s)
		}
	}
}

// What is decoded is encoded as just the bytes that it was told by.
func TestBytesAreOfOneMessageAlone(t *testing.T) {
	r := rand.New(rand.NewSource(8))
	seen := 0
	for range 30000 {
		b := []byte(msgBytes(someMsg(r)))
		for range 1 + r.Intn(2) {
			b[r.Intn(1+r.Intn(len(b)))] = byte(r.Intn(256))
		}
		m, e := wire.Decode(string(b))
		if e != api.OK {
			continue
		}
		seen++
		if s, e := wire.Encode(m); s != string(b) || e != api.OK || !wire.May(m) {
			t.Fatalf("%q is decoded, and encoded as %q, %d", b, s, e)
		}
	}
	if seen < 3000 {
		t.Errorf("%d were decoded", seen)
	}
}

func TestOtherMessagesHaveOtherBytes(t *testing.T) {
	m := plain()
	s, _ := wire.Encode(m)
	for why, change := range changes() {
		if other, e := wire.Encode(with(m, change)); e == api.OK && other == s {
			t.Errorf("%s changed: the same bytes", why)
		}
	}
	r := rand.New(rand.NewSource(9))
	told := map[string]wire.Msg{}
	for range 3000 {
		m := someMsg(r)
		s, _ := wire.Encode(m)
		if other, is := told[s]; is && !isMsg(other, m) {
			t.Errorf("%q is of two messages", s)
		}
		told[s] = m
	}
}

// R1

func TestLongThings(t *testing.T) {
	long := strings.Repeat("\x00", 1<<20)
	checkFault(t, "bytes 0", long, api.ErrMore)
	checkFault(t, "bytes 255", strings.Repeat("\xff", 1<<20), api.ErrSize)
	checkGet(t, "many bytes behind", "\x00\x00\x00\x00\x00\x02\x00\x00\x00\x00"+long, api.Request{Op: api.Op{Kind: remove}}, long, api.OK)
	v := api.Version{Blocks: make([]api.Hash, 5000), Names: make([]string, 5000), Sizes: make([]int, 5000)}
	for kind := range 7 {
		checkMayRequest(t, "a long version", api.Request{Op: api.Op{Kind: kind, V: v}}, false)
	}
	checkMay(t, "a long version", with(tiny(), func(m *wire.Msg) { m.Reply.V = v }), false)
	m := with(tiny(), func(m *wire.Msg) {
		m.Log, m.Reply.Ids = make([]api.Request, 5000), make([]uint32, 5000)
		m.Log[0].Op.V = v
	})
	checkMay(t, "a long log", m, false)
	checkSame(t, "a long log", m, copied(m), true)
}

// R3

// span is where a list stands, with what lies behind its length.
type span struct{ from, to uintptr }

// spans are those of x's lists, of those behind others, too.
func spans(x reflect.Value) []span {
	var all []span
	switch x.Kind() {
	case reflect.Slice:
		if x.Cap() > 0 {
			all = append(all, span{x.Pointer(), x.Pointer() + uintptr(x.Cap())*x.Type().Elem().Size()})
		}
		for i := range x.Len() {
			all = append(all, spans(x.Index(i))...)
		}
	case reflect.Struct:
		for i := range x.NumField() {
			all = append(all, spans(x.Field(i))...)
		}
	}
	return all
}

// checkNew holds that no two lists of the answers share memory.
func checkNew(t *testing.T, why string, answers ...any) {
	t.Helper()
	var there []span
	for _, x := range answers {
		for _, a := range spans(reflect.ValueOf(x)) {
			if slices.ContainsFunc(there, func(b span) bool { return a.from < b.to && b.from < a.to }) {
				t.Errorf("%s: two lists of the answers share memory", why)
			}
			there = append(there, a)
		}
	}
	// Lists that nobody holds any more might make room for others.
	runtime.KeepAlive(answers)
}

func TestAnswersAreNew(t *testing.T) {
	for _, m := range []wire.Msg{tiny(), plain(), huge()} {
		s, _ := wire.Encode(m)
		a, _ := wire.Decode(s)
		b, _ := wire.Decode(s)
		checkNew(t, "Decode", a, b)
		for i := range a.Log {
			a.Log[i].Op.V.Sizes = append(a.Log[i].Op.V.Sizes, 99)
			a.Log[i].Client = 99
		}
		for i := range a.Reply.Ids {
			a.Reply.Ids[i] = 99
		}
		if !isMsg(b, m) {
			t.Error("an answer is changed by another one")
		}
	}
	s := requestBytes(plain().Log[1])
	a, _, _ := wire.GetRequest(s)
	b, _, _ := wire.GetRequest(s)
	checkNew(t, "GetRequest", a, b)
}

// roomy is a list with more behind its length.
func roomy[T any](l []T, more T) []T {
	return append(slices.Clone(l), more, more, more)[:len(l)]
}

func roomyVersion(v api.Version) api.Version {
	return api.Version{Id: v.Id, Blocks: roomy(v.Blocks, api.Hash{9}), Names: roomy(v.Names, "more"), Sizes: roomy(v.Sizes, 9)}
}

// full is x with all that stands behind its lists' lengths, copied.
func full(x reflect.Value) string {
	switch x.Kind() {
	case reflect.Slice:
		s := fmt.Sprint("[", x.Len(), ":")
		for i := range x.Cap() {
			s += full(x.Slice(0, x.Cap()).Index(i)) + " "
		}
		return s + "]"
	case reflect.Struct:
		s := "{"
		for i := range x.NumField() {
			s += full(x.Field(i)) + " "
		}
		return s + "}"
	}
	return fmt.Sprintf("%#v", x)
}

func TestArgumentsStay(t *testing.T) {
	faulty := plain()
	faulty.Reply.E = -1
	for _, m := range []wire.Msg{plain(), faulty} {
		for i := range m.Log {
			m.Log[i].Op.V = roomyVersion(m.Log[i].Op.V)
		}
		m.Log = roomy(m.Log, api.Request{Client: 9, Op: api.Op{V: roomyVersion(sized(3, 1))}})
		m.Reply.Ids, m.Reply.V = roomy(m.Reply.Ids, 9), roomyVersion(m.Reply.V)
		was := full(reflect.ValueOf(m))
		for range 2 {
			wire.Encode(m)
			wire.May(m)
			wire.Same(m, m)
			wire.Same(m, plain())
			for _, r := range m.Log {
				wire.PutRequest(r)
			}
		}
		if is := full(reflect.ValueOf(m)); is != was {
			t.Errorf("what was handed in became\n%s, it was\n%s", is, was)
		}
	}
}

// What was encoded stays, whatever becomes of the message.
func TestArgumentsAreNotKept(t *testing.T) {
	m := plain()
	s, _ := wire.Encode(m)
	m.Log[0].Op.Id, m.Log[1].Op.V.Blocks[0], m.Log[1].Op.V.Names[0] = 77, api.Hash{77}, "spoilt"
	m.Reply.Ids[0], m.Reply.V.Blocks[0] = 77, api.Hash{77}
	if s != msgBytes(plain()) {
		t.Error("the bytes were changed")
	}
}

// R5

func TestAnswersAreTheSame(t *testing.T) {
	acts := func() string {
		r := rand.New(rand.NewSource(10))
		var b strings.Builder
		for range 60 {
			m := someMsg(r)
			changeSome(r, &m)
			s, e := wire.Encode(m)
			text := []byte(s + someText(r, r.Intn(3)*r.Intn(100)))
			for range min(len(text), r.Intn(3)) {
				text[r.Intn(len(text))]++
			}
			got, decodeE := wire.Decode(string(text))
			request, rest, requestE := wire.GetRequest(string(text))
			fmt.Fprint(&b, s, e, got, decodeE, request, rest, requestE, wire.May(m), wire.Same(m, got))
		}
		return b.String()
	}
	want := acts()
	var wait sync.WaitGroup
	for range 8 {
		wait.Go(func() {
			for range 5 {
				if acts() != want {
					t.Error("another answer")
				}
			}
		})
	}
	wait.Wait()
}
