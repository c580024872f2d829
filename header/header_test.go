package header_test

import (
	"encoding/binary"
	"fmt"
	"math"
	"math/rand"
	"reflect"
	"slices"
	"strings"
	"sync"
	"testing"

	"hanaper/api"
	"hanaper/files"
	"hanaper/header"
)

const (
	mostFiles  = 12
	mostName   = 20
	mostData   = 300
	mostBlocks = 16
	piece      = 256
	hashBytes  = 32
)

func someText(r *rand.Rand, n int) string {
	b := make([]byte, n)
	r.Read(b)
	return string(b)
}

func long(n int) string {
	return strings.Repeat("x", n)
}

// rising is n names that rise.
func rising(n int) []string {
	l := make([]string, n)
	for i := range l {
		l[i] = fmt.Sprintf("%04d", i)
	}
	return l
}

// hashes is n hashes, each another one.
func hashes(n int) []api.Hash {
	l := make([]api.Hash, n)
	for i := range l {
		for j := range l[i] {
			l[i][j] = byte(40*i + j + 1)
		}
	}
	return l
}

// times is a list of n times the same.
func times(n, one int) []int {
	return slices.Repeat([]int{one}, n)
}

// wantBlocks counts pieces without cutting and without a division.
func wantBlocks(sizes []int) int {
	sum, n := 0, 0
	for _, size := range sizes {
		if size >= 0 && size <= mostData {
			sum += size
		}
	}
	for ; sum > 0; sum -= piece {
		n++
	}
	return n
}

// sized is a version of these sizes, that may be if they may.
func sized(sizes ...int) api.Version {
	return api.Version{Id: 7, Blocks: hashes(wantBlocks(sizes)), Names: rising(len(sizes)), Sizes: sizes}
}

// named is a version of files of these names, without data.
func named(names ...string) api.Version {
	return api.Version{Id: 7, Names: names, Sizes: make([]int, len(names))}
}

func someVersion(r *rand.Rand) api.Version {
	var l []string
	for range r.Intn(mostFiles + 1) {
		l = append(l, someText(r, 1+r.Intn(mostName)))
	}
	slices.Sort(l)
	v := api.Version{Id: r.Uint32(), Names: slices.Compact(l)}
	for range v.Names {
		v.Sizes = append(v.Sizes, r.Intn(2)*r.Intn(mostData+1))
	}
	for range wantBlocks(v.Sizes) {
		var h api.Hash
		r.Read(h[:])
		v.Blocks = append(v.Blocks, h)
	}
	return v
}

// isBelow goes byte by byte.
func isBelow(a, b string) bool {
	for i := 0; i < len(a) && i < len(b); i++ {
		if a[i] != b[i] {
			return a[i] < b[i]
		}
	}
	return len(a) < len(b)
}

func wantMay(v api.Version) bool {
	if len(v.Names) > mostFiles || len(v.Sizes) != len(v.Names) || len(v.Blocks) != wantBlocks(v.Sizes) {
		return false
	}
	for i, name := range v.Names {
		if len(name) < 1 || len(name) > mostName || v.Sizes[i] < 0 || v.Sizes[i] > mostData {
			return false
		}
		if i > 0 && !isBelow(v.Names[i-1], name) {
			return false
		}
	}
	return true
}

// wantBytes writes by Go's library, whatever v is.
func wantBytes(v api.Version) string {
	b := binary.BigEndian.AppendUint32(nil, v.Id)
	b = binary.AppendUvarint(b, uint64(len(v.Blocks)))
	for _, h := range v.Blocks {
		b = append(b, h[:]...)
	}
	b = binary.AppendUvarint(b, uint64(len(v.Names)))
	for i, name := range v.Names {
		b = binary.AppendUvarint(b, uint64(len(name)))
		b = append(b, name...)
		b = binary.AppendUvarint(b, uint64(v.Sizes[i]))
	}
	return string(b)
}

// wantNumber reads a number digit by digit.
func wantNumber(s string) (uint64, string, api.Errno) {
	for i := 0; i < len(s) && i < 10; i++ {
		if s[i] >= 128 {
			continue
		}
		n, used := binary.Uvarint([]byte(s[:i+1]))
		if used != i+1 || i > 0 && s[i] == 0 {
			return 0, "", api.ErrLong
		}
		return n, s[i+1:], api.OK
	}
	if len(s) >= 10 {
		return 0, "", api.ErrLong
	}
	return 0, "", api.ErrShort
}

// wantRead reads by the chapter's steps, each error told where it is met.
func wantRead(s string) (api.Version, string, api.Errno) {
	var v api.Version
	fault := func(e api.Errno) (api.Version, string, api.Errno) { return api.Version{}, "", e }
	if len(s) < 4 {
		return fault(api.ErrShort)
	}
	v.Id = binary.BigEndian.Uint32([]byte(s))
	blocks, s, e := wantNumber(s[4:])
	if e != api.OK {
		return fault(e)
	}
	if blocks > mostBlocks {
		return fault(api.ErrSize)
	}
	for range blocks {
		if len(s) < hashBytes {
			return fault(api.ErrShort)
		}
		v.Blocks = append(v.Blocks, api.Hash([]byte(s[:hashBytes])))
		s = s[hashBytes:]
	}
	names, s, e := wantNumber(s)
	if e != api.OK {
		return fault(e)
	}
	if names > mostFiles {
		return fault(api.ErrSize)
	}
	for range names {
		var n uint64
		if n, s, e = wantNumber(s); e != api.OK {
			return fault(e)
		}
		if n > uint64(len(s)) {
			return fault(api.ErrShort)
		}
		v.Names = append(v.Names, s[:n])
		if n, s, e = wantNumber(s[n:]); e != api.OK {
			return fault(e)
		}
		if n > mostData {
			return fault(api.ErrSize)
		}
		v.Sizes = append(v.Sizes, int(n))
	}
	if !wantMay(v) {
		return fault(api.ErrArg)
	}
	return v, s, api.OK
}

// isEqual goes field by field, by itself; a list without elements may be nil or not.
func isEqual(a, b api.Version) bool {
	if a.Id != b.Id || len(a.Blocks) != len(b.Blocks) || len(a.Names) != len(b.Names) || len(a.Sizes) != len(b.Sizes) {
		return false
	}
	for i := range a.Blocks {
		if string(a.Blocks[i][:]) != string(b.Blocks[i][:]) {
			return false
		}
	}
	for i := range a.Names {
		if a.Names[i] != b.Names[i] {
			return false
		}
	}
	for i := range a.Sizes {
		if a.Sizes[i] != b.Sizes[i] {
			return false
		}
	}
	return true
}

// copied shares nothing with v.
func copied(v api.Version) api.Version {
	return api.Version{Id: v.Id, Blocks: slices.Clone(v.Blocks), Names: slices.Clone(v.Names), Sizes: slices.Clone(v.Sizes)}
}

// told is what a failing test says of v.
func told(v api.Version) string {
	return fmt.Sprintf("{Id %d, blocks %.3x, names %.30q, sizes %d}", v.Id, v.Blocks, v.Names, v.Sizes)
}

func checkBlocks(t *testing.T, sizes []int, want int) {
	t.Helper()
	if got := header.Blocks(sizes); got != want {
		t.Errorf("Blocks of %d sizes, %d: %d, want %d", len(sizes), sizes[:min(20, len(sizes))], got, want)
	}
}

// checkMay checks Encode, too, which tells an error of all that may not be.
func checkMay(t *testing.T, why string, v api.Version, want bool) {
	t.Helper()
	if got := header.May(v); got != want {
		t.Errorf("May of %s, %s: %v, want %v", why, told(v), got, want)
	}
	s, e := header.Encode(v)
	switch {
	case !want && (s != "" || e != api.ErrArg):
		t.Errorf("Encode of %s: %.60q, %d, want ErrArg", why, s, e)
	case want && (s != wantBytes(v) || e != api.OK):
		t.Errorf("Encode of %s: %.60q, %d, want %.60q", why, s, e, wantBytes(v))
	}
}

func checkSame(t *testing.T, why string, a, b api.Version, want bool) {
	t.Helper()
	if header.Same(a, b) != want || header.Same(b, a) != want {
		t.Errorf("Same of %s: %v and %v, want %v", why, header.Same(a, b), header.Same(b, a), want)
	}
}

// checkRead checks Decode, too.
func checkRead(t *testing.T, why, s string, want api.Version, rest string, wantE api.Errno) {
	t.Helper()
	if v, behind, e := header.Read(s); !isEqual(v, want) || behind != rest || e != wantE {
		t.Errorf("Read of %s, %.80q: %s, %.40q, %d, want %s, %.40q, %d", why, s, told(v), behind, e, told(want), rest, wantE)
	}
	if rest != "" {
		want, wantE = api.Version{}, api.ErrMore
	}
	if v, e := header.Decode(s); !isEqual(v, want) || e != wantE {
		t.Errorf("Decode of %s, %.80q: %s, %d, want %s, %d", why, s, told(v), e, told(want), wantE)
	}
}

func checkFault(t *testing.T, why, s string, want api.Errno) {
	t.Helper()
	checkRead(t, why, s, api.Version{}, "", want)
}

// P12.1

func TestBlocksKnown(t *testing.T) {
	for _, c := range []struct {
		sizes []int
		want  int
	}{
		{nil, 0},
		{[]int{}, 0},
		{[]int{0}, 0},
		{times(12, 0), 0},
		{[]int{1}, 1},
		{[]int{255}, 1},
		{[]int{256}, 1},
		{[]int{257}, 2},
		{[]int{300}, 2},
		{[]int{128, 128}, 1},
		{[]int{128, 0, 129}, 2},
		{[]int{1, 1, 1}, 1},
		{[]int{300, 212}, 2},
		{[]int{300, 213}, 3},
		{times(12, 300), 15},
		{times(12, 256), 12},
		{times(256, 1), 1},
		{times(257, 1), 2},
		{times(500, 300), 586},
		{[]int{301}, 0},
		{[]int{-1}, 0},
		{[]int{0, -5, 301}, 0},
		{[]int{-1, 256}, 1},
		{[]int{256, -1}, 1},
		{[]int{257, -1}, 2},
		{[]int{256, 301}, 1},
		{[]int{301, 256, 1}, 2},
		{[]int{math.MaxInt, 1, math.MinInt}, 1},
		{[]int{math.MinInt, math.MinInt, 300}, 2},
		{[]int{math.MaxInt, math.MaxInt, 2}, 1},
		{[]int{1 << 31, 1 << 32, 1<<32 + 1, 1<<63 - 300, -1 << 32}, 0},
	} {
		checkBlocks(t, c.sizes, c.want)
	}
}

func TestBlocksOfEachSize(t *testing.T) {
	for size := -400; size <= 700; size++ {
		want, two := 0, 1
		switch {
		case size < 0 || size > mostData:
		case size > piece:
			want, two = 2, 2
		case size > 0:
			want = 1
			if size == piece {
				two = 2
			}
		}
		checkBlocks(t, []int{size}, want)
		checkBlocks(t, []int{size, 1}, two)
		checkBlocks(t, []int{1, size}, two)
	}
}

// The order is none of its matter, nor whether a map may have as many files.
func TestBlocksAreWhatCutMakes(t *testing.T) {
	r := rand.New(rand.NewSource(1))
	for range 5000 {
		sizes := make([]int, r.Intn(30))
		all := 0
		for i := range sizes {
			sizes[i] = r.Intn(mostData+200) - 100
			if sizes[i] >= 0 && sizes[i] <= mostData {
				all += sizes[i]
			}
		}
		want := len(files.Cut(long(all)))
		checkBlocks(t, sizes, want)
		slices.Sort(sizes)
		checkBlocks(t, sizes, want)
	}
	for all := range 12*mostData + 1 {
		sizes := append(times(all/mostData, mostData), all%mostData)
		checkBlocks(t, sizes, len(files.Cut(long(all))))
	}
}

// P12.2, and P12.3's error

func TestMayKnown(t *testing.T) {
	checkMay(t, "nothing", api.Version{}, true)
	checkMay(t, "nothing", api.Version{Id: 1, Blocks: []api.Hash{}, Names: []string{}, Sizes: []int{}}, true)
	checkMay(t, "a greatest Id", api.Version{Id: math.MaxUint32}, true)
	checkMay(t, "a file", sized(1), true)
	checkMay(t, "two files", sized(257, 0), true)
	checkMay(t, "the most files", sized(times(12, 300)...), true)
	checkMay(t, "hashes of 0s", api.Version{Blocks: make([]api.Hash, 2), Names: []string{"a"}, Sizes: []int{257}}, true)
}

func TestMayNumberOfNames(t *testing.T) {
	for n := range 40 {
		checkMay(t, "some files", sized(make([]int, n)...), n <= mostFiles)
		checkMay(t, "some files with data", sized(times(n, 30)...), n <= mostFiles)
	}
	checkMay(t, "many files", sized(make([]int, 5000)...), false)
}

func TestMayAsManySizes(t *testing.T) {
	for names := range 16 {
		for sizes := range 16 {
			v := sized(times(sizes, 20)...)
			v.Names = rising(names)
			checkMay(t, "names and sizes", v, names == sizes && names <= mostFiles)
		}
	}
	checkMay(t, "sizes of no names", api.Version{Sizes: []int{0}}, false)
	checkMay(t, "names of no sizes", api.Version{Names: []string{"a"}}, false)
}

func TestMayEachSize(t *testing.T) {
	for size := -400; size <= 700; size++ {
		checkMay(t, "a size", sized(size), 0 <= size && size <= mostData)
	}
	for i := range mostFiles {
		for _, size := range []int{-1, 301, math.MinInt, math.MaxInt, 1 << 32, -1 << 32, 1<<32 + 1, 1<<31 + 1} {
			sizes := times(mostFiles, 10)
			sizes[i] = size
			checkMay(t, "a wrong size", sized(sizes...), false)
		}
		for _, size := range []int{0, 300} {
			sizes := times(mostFiles, 10)
			sizes[i] = size
			checkMay(t, "an outermost size", sized(sizes...), true)
		}
	}
	checkMay(t, "sizes that come to 0", sized(1, -1), false)
	checkMay(t, "sizes that come to 300", api.Version{Names: rising(2), Sizes: []int{301, -1}, Blocks: hashes(2)}, false)
}

func TestMayEachName(t *testing.T) {
	for n := range 300 {
		checkMay(t, "a name", named(long(n)), 1 <= n && n <= mostName)
	}
	checkMay(t, "ten letters", named(strings.Repeat("ä", 10)), true)
	checkMay(t, "eleven letters", named(strings.Repeat("ä", 11)), false)
	checkMay(t, "no letters", named("\x00", "\xff\xfe"), true)
	for i := range mostFiles {
		l := rising(mostFiles)
		l[i] += long(mostName - len(l[i]))
		checkMay(t, "a longest name", named(l...), true)
		l[i] += "y"
		checkMay(t, "a longer name", named(l...), false)
		l[i] = ""
		checkMay(t, "an empty name", named(l...), false)
	}
	checkMay(t, "an empty name alone", named(""), false)
}

func TestMayOrder(t *testing.T) {
	for _, c := range []struct {
		names []string
		want  bool
	}{
		{[]string{"a", "b"}, true},
		{[]string{"b", "a"}, false},
		{[]string{"a", "a"}, false},
		{[]string{"a", "aa"}, true},
		{[]string{"aa", "a"}, false},
		{[]string{"aa", "b"}, true},
		{[]string{"B", "a"}, true},
		{[]string{"a", "B"}, false},
		{[]string{"10", "9"}, true},
		{[]string{"9", "10"}, false},
		{[]string{"a", "a\x00"}, true},
		{[]string{"\x7f", "\x80"}, true},
		{[]string{"\x80", "\x7f"}, false},
		{[]string{"z", "ä", "\xff"}, true},
		{[]string{"a", "c", "b"}, false},
		{[]string{"a", "b", "a"}, false},
		{[]string{"a", "b", "b", "c"}, false},
	} {
		checkMay(t, "names", named(c.names...), c.want)
	}
	for i := 1; i < mostFiles; i++ {
		l := rising(mostFiles)
		l[i-1], l[i] = l[i], l[i-1]
		checkMay(t, "two names", named(l...), false)
		l = rising(mostFiles)
		l[i] = l[i-1]
		checkMay(t, "one name twice", named(l...), false)
	}
}

func TestMayNumberOfBlocks(t *testing.T) {
	for _, sizes := range [][]int{nil, {0}, {1}, {256}, {257}, {300, 300}, {256, 0, 256}, times(12, 300), times(12, 0)} {
		for n := range 40 {
			v := sized(sizes...)
			v.Blocks = hashes(n)
			checkMay(t, "blocks", v, n == wantBlocks(sizes))
		}
	}
	twice := sized(300)
	twice.Blocks[1] = twice.Blocks[0]
	checkMay(t, "one block twice", twice, true)
	many := sized(300)
	many.Blocks = hashes(2 + 1<<8)
	checkMay(t, "many blocks", many, false)
}

func TestMayOfRandomVersions(t *testing.T) {
	r := rand.New(rand.NewSource(2))
	seen := map[bool]int{}
	for range 20000 {
		v := someVersion(r)
		changeSome(r, &v)
		want := wantMay(v)
		checkMay(t, "some version", v, want)
		seen[want]++
	}
	if seen[true] < 2000 || seen[false] < 2000 {
		t.Errorf("%d that may be, %d that may not", seen[true], seen[false])
	}
}

// changeSome changes a thing or none, most of them to what may not be; there are as many sizes as names yet.
func changeSome(r *rand.Rand, v *api.Version) {
	n := len(v.Names)
	switch {
	case n == 0:
	case r.Intn(6) == 0:
		v.Names[r.Intn(n)] = someText(r, r.Intn(mostName+3))
	case r.Intn(5) == 0:
		v.Sizes[r.Intn(n)] = r.Intn(mostData + 20)
	case r.Intn(4) == 0:
		v.Names, v.Sizes = append(v.Names, someText(r, 1+r.Intn(3))), append(v.Sizes, 0)
	}
	switch r.Intn(8) {
	case 0:
		v.Blocks = append(v.Blocks, api.Hash{1})
	case 1:
		v.Blocks = v.Blocks[:max(0, len(v.Blocks)-1)]
	}
}

// P12.3

func TestEncodeKnown(t *testing.T) {
	var a, b api.Hash
	copy(a[:], "0123456789abcdefghijklmnopqrstuv")
	copy(b[:], strings.Repeat("\xff", hashBytes))
	for _, c := range []struct {
		v    api.Version
		want string
	}{
		{api.Version{Id: 1}, "\x00\x00\x00\x01\x00\x00"},
		{api.Version{}, "\x00\x00\x00\x00\x00\x00"},
		{api.Version{Id: 0xfffefdfc}, "\xff\xfe\xfd\xfc\x00\x00"},
		{api.Version{Id: 0x01020304, Names: []string{"a"}, Sizes: []int{0}}, "\x01\x02\x03\x04\x00\x01\x01a\x00"},
		{api.Version{Blocks: []api.Hash{a}, Names: []string{"a"}, Sizes: []int{127}}, "\x00\x00\x00\x00\x01" + "0123456789abcdefghijklmnopqrstuv" + "\x01\x01a\x7f"},
		{api.Version{Blocks: []api.Hash{a}, Names: []string{"a"}, Sizes: []int{128}}, "\x00\x00\x00\x00\x01" + "0123456789abcdefghijklmnopqrstuv" + "\x01\x01a\x80\x01"},
		{api.Version{Blocks: []api.Hash{b, a}, Names: []string{"\x00", "abc"}, Sizes: []int{0, 300}}, "\x00\x00\x00\x00\x02" + strings.Repeat("\xff", 32) + "0123456789abcdefghijklmnopqrstuv" + "\x02\x01\x00\x00\x03abc\xac\x02"},
		{named(long(20)), "\x00\x00\x00\x07\x00\x01\x14" + long(20) + "\x00"},
	} {
		if s, e := header.Encode(c.v); s != c.want || e != api.OK {
			t.Errorf("Encode of %s: %q, %d, want %q", told(c.v), s, e, c.want)
		}
		checkRead(t, "known bytes", c.want, c.v, "", api.OK)
	}
}

func TestEncodeTheLongest(t *testing.T) {
	names := rising(mostFiles)
	for i := range names {
		names[i] += long(mostName - len(names[i]))
	}
	v := sized(times(mostFiles, mostData)...)
	v.Names = names
	s, e := header.Encode(v)
	if len(s) != 4+1+15*hashBytes+1+mostFiles*(1+mostName+2) || s != wantBytes(v) || e != api.OK {
		t.Errorf("Encode of the longest: %d bytes, %d", len(s), e)
	}
	checkRead(t, "the longest", s, v, "", api.OK)
	checkRead(t, "the longest and more", s+"\x00", v, "\x00", api.OK)
}

func TestEncodeOfRandomVersions(t *testing.T) {
	r := rand.New(rand.NewSource(3))
	for range 10000 {
		checkMay(t, "some version", someVersion(r), true)
	}
}

// P12.4

const nothing = "\x00\x00\x00\x07\x00" // an Id, no blocks

// put is n as the chapter of varint puts it.
func put(n uint64) string {
	return string(binary.AppendUvarint(nil, n))
}

func TestReadTellsWhatIsBehind(t *testing.T) {
	for _, v := range []api.Version{{}, named("a"), sized(1), sized(300, 0, 256)} {
		s := wantBytes(v)
		for _, rest := range []string{"", "\x00", "\xff", "more", s, s + "x", long(5000)} {
			checkRead(t, "a version and more", s+rest, v, rest, api.OK)
		}
	}
}

// Whatever a version's bytes are cut to: they end too early.
func TestReadOfEachCut(t *testing.T) {
	for _, v := range []api.Version{{}, named("a"), named("a", "b"), sized(1), sized(300, 0, 256), sized(times(12, 300)...)} {
		s := wantBytes(v)
		for n := range len(s) {
			checkFault(t, "a cut version", s[:n], api.ErrShort)
		}
		checkRead(t, "a whole version", s, v, "", api.OK)
	}
}

func TestReadOfFaults(t *testing.T) {
	block := long(hashBytes)
	for _, c := range []struct {
		why, s string
		e      api.Errno
	}{
		{"nothing", "", api.ErrShort},
		{"an Id of three bytes", "\x01\x02\x03", api.ErrShort},
		{"an Id alone", "\x01\x02\x03\x04", api.ErrShort},
		{"no number of names", nothing, api.ErrShort},
		{"half a number of blocks", nothing[:4] + "\x80", api.ErrShort},
		{"a longer number of blocks", nothing[:4] + "\x80\x00", api.ErrLong},
		{"a number of blocks too great", nothing[:4] + strings.Repeat("\xff", 9) + "\x02", api.ErrLong},
		{"ten bytes above 127", nothing[:4] + strings.Repeat("\x80", 10), api.ErrLong},
		{"nine bytes above 127", nothing[:4] + strings.Repeat("\x80", 9), api.ErrShort},
		{"a block of 31 bytes", nothing[:4] + "\x01" + block[1:], api.ErrShort},
		{"a second block of 31 bytes", nothing[:4] + "\x02" + block + block[1:], api.ErrShort},
		{"half a number of names", nothing + "\x80", api.ErrShort},
		{"a longer number of names", nothing + "\x81\x00", api.ErrLong},
		{"a number of names too great", nothing + strings.Repeat("\xff", 11), api.ErrLong},
		{"a name that ends too early", nothing + "\x01\x02a", api.ErrShort},
		{"half a length of a name", nothing + "\x01\x80", api.ErrShort},
		{"a longer length of a name", nothing + "\x01\x81\x00a\x00", api.ErrLong},
		{"a length that would wrap round", nothing + "\x01" + put(math.MaxUint64) + "a\x00", api.ErrShort},
		{"a length of 2^63", nothing + "\x01" + put(1<<63) + "a\x00", api.ErrShort},
		{"a length of 2^32 and 1", nothing + "\x01" + put(1<<32+1) + "a\x00", api.ErrShort},
		{"no size", nothing + "\x01\x01a", api.ErrShort},
		{"half a size", nothing + "\x01\x01a\x80", api.ErrShort},
		{"a longer size", nothing + "\x01\x01a\x80\x00", api.ErrLong},
		{"a size too great", nothing + "\x01\x01a\xff\xff\xff\xff\xff\xff\xff\xff\xff\x02", api.ErrLong},
		{"a second name that is missing", nothing + "\x02\x01a\x00", api.ErrShort},
		{"a block that is missing", nothing + "\x01\x01a\x01", api.ErrArg},
		{"a block of no bytes", nothing[:4] + "\x01" + block + "\x00", api.ErrArg},
		{"a block too many", nothing[:4] + "\x02" + block + block + "\x01\x01a\x01", api.ErrArg},
		{"a block too few", nothing[:4] + "\x01" + block + "\x01\x01a\x81\x02", api.ErrArg},
		{"an empty name", nothing + "\x01\x00\x00", api.ErrArg},
		{"a long name", nothing + "\x01\x15" + long(21) + "\x00", api.ErrArg},
		{"a very long name", nothing + "\x01\xe8\x07" + long(1000) + "\x00", api.ErrArg},
		{"names that fall", nothing + "\x02\x01b\x00\x01a\x00", api.ErrArg},
		{"one name twice", nothing + "\x02\x01a\x00\x01a\x00", api.ErrArg},
	} {
		checkFault(t, c.why, c.s, c.e)
		if c.e != api.ErrShort {
			checkFault(t, c.why+" and more", c.s+"more", c.e)
		}
	}
}

// Each number, whatever stands behind it: it is what is counted that may be missing.
func TestReadOfEachNumberOfBlocks(t *testing.T) {
	for n := range uint64(700) {
		want := api.ErrSize
		if n <= mostBlocks {
			want = api.ErrShort
		}
		checkFault(t, "a number of blocks", nothing[:4]+put(n), want)
		if n > 0 {
			checkFault(t, "a number of blocks and some bytes", nothing[:4]+put(n)+long(5), want)
		}
	}
	for _, n := range []uint64{1 << 8, 1 << 16, 1 << 31, 1<<31 + 1, 1 << 32, 1<<32 + 1, 1 << 63, 1<<63 + 1, math.MaxUint64} {
		checkFault(t, "a great number of blocks", nothing[:4]+put(n)+"\x00\x00", api.ErrSize)
	}
}

func TestReadOfEachNumberOfNames(t *testing.T) {
	for n := range uint64(700) {
		want := api.ErrSize
		if n <= mostFiles {
			want = api.ErrShort
		}
		if n > 0 {
			checkFault(t, "a number of names", nothing+put(n), want)
			checkFault(t, "a number of names and some bytes", nothing+put(n)+"\x05x", want)
		}
	}
	for _, n := range []uint64{1 << 8, 1 << 16, 1 << 31, 1<<31 + 1, 1 << 32, 1<<32 + 1, 1 << 63, 1<<63 + 1, math.MaxUint64} {
		checkFault(t, "a great number of names", nothing+put(n)+"\x01a\x00", api.ErrSize)
	}
}

func TestReadOfEachSize(t *testing.T) {
	for n := range uint64(1000) {
		v := sized(int(n))
		s := wantBytes(v)
		if n <= mostData {
			checkRead(t, "a size", s, v, "", api.OK)
		} else {
			checkFault(t, "a size", s, api.ErrSize)
		}
	}
	for _, n := range []uint64{1 << 8, 1 << 16, 1 << 31, 1<<31 + 1, 1 << 32, 1<<32 + 1, 1 << 63, 1<<63 + 1, math.MaxUint64} {
		want := api.ErrSize
		if n == 1<<8 {
			want = api.ErrArg // there is no block
		}
		checkFault(t, "a great size", nothing+"\x01\x01a"+put(n), want)
	}
	for i := range mostFiles {
		v := sized(make([]int, mostFiles)...)
		v.Sizes[i] = mostData + 1
		checkFault(t, "a size at some place", wantBytes(v), api.ErrSize)
	}
}

// The most blocks that are read at all may not be: no sizes come to as many.
func TestReadOfTheMostBlocks(t *testing.T) {
	for _, sizes := range [][]int{nil, {300}, times(12, 300)} {
		v := sized(sizes...)
		v.Blocks = hashes(mostBlocks)
		checkFault(t, "the most blocks", wantBytes(v), api.ErrArg)
		v.Blocks = hashes(mostBlocks + 1)
		checkFault(t, "more blocks", wantBytes(v), api.ErrSize)
	}
	v := sized(make([]int, mostFiles+1)...)
	checkFault(t, "more names", wantBytes(v), api.ErrSize)
}

// Errors as bytes are read, in order.
func TestReadTellsTheFirstError(t *testing.T) {
	block := long(hashBytes)
	for _, c := range []struct {
		why, s string
		e      api.Errno
	}{
		{"too many blocks, too many names", nothing[:4] + "\x11" + strings.Repeat(block, 17) + "\x0d", api.ErrSize},
		{"too many blocks, a longer number", nothing[:4] + "\x11\x80\x00", api.ErrSize},
		{"a longer number, too many", nothing[:4] + "\x91\x00", api.ErrLong},
		{"a longer number of blocks, too many names", nothing[:4] + "\x80\x00\x0d", api.ErrLong},
		{"a block that is missing, a longer number in what is there", nothing[:4] + "\x01\x80\x00", api.ErrShort},
		{"a block too many, a longer number of names", nothing[:4] + "\x01" + block + "\x80\x00", api.ErrLong},
		{"a block too many, too many names", nothing[:4] + "\x01" + block + "\x0d", api.ErrSize},
		{"a block too many, no names told", nothing[:4] + "\x01" + block, api.ErrShort},
		{"a longer length, a size above", nothing + "\x02\x81\x00a\x00\x01b\xad\x02", api.ErrLong},
		{"an empty name, a size above", nothing + "\x01\x00\xad\x02", api.ErrSize},
		{"an empty name, no size", nothing + "\x01\x00", api.ErrShort},
		{"an empty name, a longer size", nothing + "\x01\x00\x80\x00", api.ErrLong},
		{"a long name, a size above", nothing + "\x01\x15" + long(21) + "\xad\x02", api.ErrSize},
		{"a long name, no size", nothing + "\x01\x15" + long(21), api.ErrShort},
		{"a size above, no second name", nothing + "\x02\x01a\xad\x02", api.ErrSize},
		{"a size above, a longer length", nothing + "\x02\x01a\xad\x02\x81\x00b\x00", api.ErrSize},
		{"a longer size, no second name", nothing + "\x02\x01a\x80\x00", api.ErrLong},
		{"a longer size, a size above", nothing + "\x02\x01a\x80\x00\x01b\xad\x02", api.ErrLong},
		{"names that fall, no size", nothing + "\x02\x01b\x00\x01a", api.ErrShort},
		{"names that fall, a size above", nothing + "\x02\x01b\x00\x01a\xad\x02", api.ErrSize},
		{"a size without its block, no second name", nothing + "\x02\x01a\x01", api.ErrShort},
		{"an Id that is short, whatever it is", "\x80\x00\x80", api.ErrShort},
	} {
		checkFault(t, c.why, c.s, c.e)
	}
	if v, e := header.Decode(nothing + "\x02\x01b\x00\x01a\x00" + "more"); !isEqual(v, api.Version{}) || e != api.ErrArg {
		t.Errorf("Decode of names that fall, and more: %d", e)
	}
}

// Each byte of some versions is made another one.
func TestReadOfEachByteChanged(t *testing.T) {
	for _, v := range []api.Version{{Id: 1}, named("a", "b"), sized(1), sized(300, 0, 256)} {
		s := wantBytes(v)
		for i := range len(s) {
			for b := range 256 {
				changed := s[:i] + string([]byte{byte(b)}) + s[i+1:]
				want, rest, e := wantRead(changed)
				checkRead(t, "a changed version", changed, want, rest, e)
			}
		}
	}
}

// Bytes are put in, left out and changed at random, most behind the blocks, where most can go wrong.
func TestReadOfRandomBytes(t *testing.T) {
	r := rand.New(rand.NewSource(4))
	seen := map[api.Errno]int{}
	for range 60000 {
		v := someVersion(r)
		changeSome(r, &v)
		s := wantBytes(v)
		at := 4 + r.Intn(len(s)-3)
		if behind := 5 + hashBytes*len(v.Blocks); r.Intn(3) > 0 && behind < len(s) {
			at = behind + r.Intn(len(s)-behind)
		}
		switch r.Intn(6) {
		case 0:
			s = s[:at] + someText(r, 1+r.Intn(2)) + s[at:]
		case 1:
			s = s[:at] + s[min(len(s), at+1+r.Intn(2)):]
		case 2:
			s = s[:at] + "\x80\x00" + s[at:]
		case 3:
			s = s[:at]
		case 4:
			s = s[:at] + string([]byte{byte(r.Intn(20))}) + s[min(len(s), at+1):]
		}
		want, rest, e := wantRead(s)
		checkRead(t, "some bytes", s, want, rest, e)
		if rest != "" {
			e = api.ErrMore
		}
		seen[e]++
	}
	for _, e := range []api.Errno{api.OK, api.ErrArg, api.ErrShort, api.ErrLong, api.ErrMore, api.ErrSize} {
		if seen[e] < 300 {
			t.Errorf("%d texts alone came to %d", seen[e], e)
		}
	}
}

// P12.5

func TestSameKnown(t *testing.T) {
	v := api.Version{Id: 3, Blocks: hashes(2), Names: []string{"a", "b"}, Sizes: []int{257, 0}}
	checkSame(t, "nothing", api.Version{}, api.Version{}, true)
	checkSame(t, "lists without elements", api.Version{}, api.Version{Blocks: []api.Hash{}, Names: []string{}, Sizes: []int{}}, true)
	checkSame(t, "two copies", v, copied(v), true)
	checkSame(t, "nothing and something", v, api.Version{}, false)
	for i, change := range []func(*api.Version){
		func(v *api.Version) { v.Id++ },
		func(v *api.Version) { v.Id ^= 1 << 31 },
		func(v *api.Version) { v.Blocks = v.Blocks[:1] },
		func(v *api.Version) { v.Blocks = nil },
		func(v *api.Version) { v.Blocks = append(v.Blocks, api.Hash{}) },
		func(v *api.Version) { v.Blocks[0], v.Blocks[1] = v.Blocks[1], v.Blocks[0] },
		func(v *api.Version) { v.Names[1] = "c" },
		func(v *api.Version) { v.Names[0] = "A" },
		func(v *api.Version) { v.Names[0] = "a\x00" },
		func(v *api.Version) { v.Names[0] = "" },
		func(v *api.Version) { v.Names = v.Names[:1] },
		func(v *api.Version) { v.Names = nil },
		func(v *api.Version) { v.Names = append(v.Names, "") },
		func(v *api.Version) { v.Names[0], v.Names[1] = v.Names[1], v.Names[0] },
		func(v *api.Version) { v.Names = []string{"ab", ""} },
		func(v *api.Version) { v.Sizes[1] = 1 },
		func(v *api.Version) { v.Sizes[0] = -257 },
		func(v *api.Version) { v.Sizes[0] += 1 << 32 },
		func(v *api.Version) { v.Sizes = v.Sizes[:1] },
		func(v *api.Version) { v.Sizes = nil },
		func(v *api.Version) { v.Sizes = append(v.Sizes, 0) },
		func(v *api.Version) { v.Sizes[0], v.Sizes[1] = v.Sizes[1], v.Sizes[0] },
	} {
		w := copied(v)
		change(&w)
		checkSame(t, fmt.Sprintf("a version changed, %d", i), v, w, false)
		checkSame(t, fmt.Sprintf("two copies, changed, %d", i), w, copied(w), true)
	}
}

func TestSameOfEachBit(t *testing.T) {
	v := sized(300, 300)
	for i := range v.Blocks {
		for bit := range 8 * hashBytes {
			w := copied(v)
			w.Blocks[i][bit/8] ^= 1 << (bit % 8)
			checkSame(t, "a block's bit", v, w, false)
		}
	}
	for bit := range 32 {
		w := copied(v)
		w.Id ^= 1 << bit
		checkSame(t, "an Id's bit", v, w, false)
	}
}

// One thing is another one, in each place of a long list; lists that may not be are held against each other, too.
func TestSameAtEachPlace(t *testing.T) {
	v := api.Version{Blocks: hashes(200), Names: rising(200), Sizes: times(200, 7)}
	for i := range 200 {
		w := copied(v)
		w.Blocks[i][31]++
		checkSame(t, "a block", v, w, false)
		w = copied(v)
		w.Names[i] += "x"
		checkSame(t, "a name", v, w, false)
		w = copied(v)
		w.Sizes[i]++
		checkSame(t, "a size", v, w, false)
	}
	checkSame(t, "long lists", v, copied(v), true)
}

func TestSameOfRandomVersions(t *testing.T) {
	r := rand.New(rand.NewSource(5))
	seen := map[bool]int{}
	for range 20000 {
		v := someVersion(r)
		w := copied(v)
		changeSome(r, &w)
		want := isEqual(v, w)
		checkSame(t, "two versions", v, w, want)
		seen[want]++
	}
	if seen[true] < 2000 || seen[false] < 2000 {
		t.Errorf("%d that are the same, %d that are not", seen[true], seen[false])
	}
}

// P12.6

func TestWhatWasEncodedIsDecoded(t *testing.T) {
	r := rand.New(rand.NewSource(6))
	for i := range 10000 {
		v := someVersion(r)
		s, e := header.Encode(v)
		if e != api.OK {
			t.Fatalf("Encode of version %d: %d", i, e)
		}
		back, e := header.Decode(s)
		if !header.Same(back, v) || !isEqual(back, v) || e != api.OK {
			t.Errorf("Decode of version %d: %s, %d, want %s", i, told(back), e, told(v))
		}
		rest := someText(r, r.Intn(40))
		if back, behind, e := header.Read(s + rest); !isEqual(back, v) || behind != rest || e != api.OK {
			t.Errorf("Read of version %d and %d bytes: %s, %q, %d", i, len(rest), told(back), behind, e)
		}
	}
}

// Of the bytes behind the blocks all short ones are tried: what is read of them is encoded as just these.
func TestBytesAreOfOneVersionAlone(t *testing.T) {
	read := 0
	try := func(s string) {
		v, rest, e := header.Read(s)
		if e != api.OK {
			return
		}
		read++
		if made, e := header.Encode(v); made+rest != s || e != api.OK {
			t.Errorf("%q was read as what is encoded as %q", s, made)
		}
	}
	few := []byte{0, 1, 2, 3, 'a', 0x80, 0x81, 0xff}
	var all func(s string, n int)
	all = func(s string, n int) {
		try(s)
		for _, b := range few {
			if n > 0 {
				all(s+string([]byte{b}), n-1)
			}
		}
	}
	all(nothing, 6)
	all(nothing[:4]+"\x01"+long(hashBytes), 6)
	all(nothing[:4], 3)
	if read < 1000 {
		t.Errorf("%d versions alone were read", read)
	}
}

func TestOtherVersionsHaveOtherBytes(t *testing.T) {
	r := rand.New(rand.NewSource(7))
	for range 10000 {
		v := someVersion(r)
		w := copied(v)
		w.Id = uint32(r.Intn(2)) + v.Id
		changeSome(r, &w)
		if !header.May(w) {
			continue
		}
		a, _ := header.Encode(v)
		b, _ := header.Encode(w)
		if (a == b) != header.Same(v, w) {
			t.Errorf("the same bytes: %v, the same version: %v", a == b, header.Same(v, w))
		}
	}
}

// R1 and R3

func TestArgumentsStay(t *testing.T) {
	v := sized(300, 0, 256)
	room := api.Version{Id: v.Id, Blocks: append(slices.Clone(v.Blocks), hashes(4)...), Names: append(slices.Clone(v.Names), "y", "z"), Sizes: append(slices.Clone(v.Sizes), 8, 9)}
	kept := copied(room)
	part := api.Version{Id: v.Id, Blocks: room.Blocks[:len(v.Blocks)], Names: room.Names[:3], Sizes: room.Sizes[:3]}
	if !header.May(part) || !header.Same(part, v) || header.Blocks(part.Sizes) != 3 {
		t.Error("what lies behind the lists is looked at")
	}
	if s, e := header.Encode(part); s != wantBytes(v) || e != api.OK {
		t.Errorf("Encode of lists with more behind: %q, %d", s, e)
	}
	if !reflect.DeepEqual(room, kept) {
		t.Error("what was handed in is another one")
	}
}

func TestAnswersAreNew(t *testing.T) {
	v := sized(300, 0, 256)
	s := wantBytes(v)
	for range 3 {
		got, _, _ := header.Read(s)
		other, _ := header.Decode(s)
		for _, x := range []api.Version{got, other} {
			if !isEqual(x, v) {
				t.Errorf("a version that hangs on what was done to another one: %s", told(x))
			}
		}
		got.Blocks[0][0]++
		got.Names[0], got.Sizes[0] = "z", 9
		_, _, _ = append(got.Blocks[:1], api.Hash{}), append(got.Names[:1], "y"), append(got.Sizes[:1], 3)
	}
}

func TestLongTexts(t *testing.T) {
	checkRead(t, "many 0s", strings.Repeat("\x00", 1<<20), api.Version{}, strings.Repeat("\x00", 1<<20-6), api.OK)
	checkFault(t, "many bytes", long(1<<20), api.ErrSize)
	checkFault(t, "a name of many bytes", nothing+"\x01"+put(1<<20)+long(1<<20)+"\x00", api.ErrArg)
	checkMay(t, "a name of many bytes", named(long(1<<20)), false)
	checkMay(t, "many of all", api.Version{Blocks: hashes(3000), Names: rising(3000), Sizes: times(3000, 256)}, false)
}

// R5

func TestAnswersAreTheSame(t *testing.T) {
	r := rand.New(rand.NewSource(8))
	v := someVersion(r)
	for len(v.Blocks) < 3 {
		v = someVersion(r)
	}
	s := wantBytes(v)
	var wait sync.WaitGroup
	for range 8 {
		wait.Go(func() {
			for range 50 {
				made, e := header.Encode(v)
				back, eBack := header.Decode(made)
				if made != s || e != api.OK || !isEqual(back, v) || eBack != api.OK {
					t.Errorf("%q, %d, and %s, %d", made, e, told(back), eBack)
				}
			}
		})
	}
	wait.Wait()
}
