package files_test

import (
	"fmt"
	"math"
	"math/big"
	"math/rand"
	"slices"
	"strings"
	"sync"
	"testing"

	"hanaper/api"
	"hanaper/files"
)

const (
	mostFiles = 12
	mostName  = 20
	mostData  = 300
	piece     = 256
)

func someText(r *rand.Rand, n int) string {
	b := make([]byte, n)
	r.Read(b)
	return string(b)
}

// named is files of these names, without data.
func named(names ...string) []api.File {
	l := make([]api.File, len(names))
	for i, n := range names {
		l[i].Name = n
	}
	return l
}

// rising is n names that rise.
func rising(n int) []string {
	l := make([]string, n)
	for i := range l {
		l[i] = fmt.Sprintf("%04d", i)
	}
	return l
}

// holding is files whose names rise, and of these data.
func holding(data ...string) []api.File {
	l := named(rising(len(data))...)
	for i, d := range data {
		l[i].Data = d
	}
	return l
}

// long is n bytes.
func long(n int) string {
	return strings.Repeat("x", n)
}

// someFiles is a map of files that may be.
func someFiles(r *rand.Rand) []api.File {
	names := map[string]bool{}
	for range r.Intn(mostFiles + 1) {
		names[someText(r, 1+r.Intn(mostName))] = true
	}
	var l []api.File
	for n := range names {
		l = append(l, api.File{Name: n})
	}
	slices.SortFunc(l, func(a, b api.File) int { return slices.Compare([]byte(a.Name), []byte(b.Name)) })
	for i := range l {
		l[i].Data = someText(r, r.Intn(2)*r.Intn(mostData+1))
	}
	return l
}

// isBelow goes byte by byte.
func isBelow(a, b string) bool {
	for i := 0; i < len(a) && i < len(b); i++ {
		if a[i] != b[i] {
			return a[i] < b[i]
		}
	}
	return len(a) < len(b)
}

func wantCheck(l []api.File) api.Errno {
	tooMuch, wrongOrder := len(l) > mostFiles, false
	for i, f := range l {
		if len(f.Name) == 0 || len(f.Name) > mostName || len(f.Data) > mostData {
			tooMuch = true
		}
		for _, g := range l[:i] {
			if !isBelow(g.Name, f.Name) {
				wrongOrder = true
			}
		}
	}
	switch {
	case tooMuch:
		return api.ErrSize
	case wrongOrder:
		return api.ErrOrder
	}
	return api.OK
}

// wantPart sums by numbers that don't wrap round, and cuts by places.
func wantPart(names []string, sizes []int, s string) ([]api.File, api.Errno) {
	sum := big.NewInt(0)
	for _, n := range sizes {
		if n < 0 {
			return nil, api.ErrArg
		}
		sum.Add(sum, big.NewInt(int64(n)))
	}
	if len(names) != len(sizes) || sum.Cmp(big.NewInt(int64(len(s)))) != 0 {
		return nil, api.ErrArg
	}
	var l []api.File
	at := 0
	for i, n := range sizes {
		l = append(l, api.File{Name: names[i], Data: s[at : at+n]})
		at += n
	}
	if e := wantCheck(l); e != api.OK {
		return nil, e
	}
	return l, api.OK
}

func checkCheck(t *testing.T, why string, l []api.File, want api.Errno) {
	t.Helper()
	if got := files.Check(l); got != want {
		t.Errorf("Check of %s, %d files, %.60q: %d, want %d", why, len(l), l, got, want)
	}
}

func checkCut(t *testing.T, s string, want []string) {
	t.Helper()
	if got := files.Cut(s); !slices.Equal(got, want) {
		t.Errorf("Cut of %d bytes: %d pieces, %.20q, want %d, %.20q", len(s), len(got), got, len(want), want)
	}
}

func checkPart(t *testing.T, names []string, sizes []int, s string, want []api.File, wantE api.Errno) {
	t.Helper()
	if got, e := files.Part(names, sizes, s); !slices.Equal(got, want) || e != wantE {
		t.Errorf("Part of %.40q, %d, %d bytes: %.40q, %d, want %.40q, %d", names, sizes, len(s), got, e, want, wantE)
	}
}

// P11.1

func TestCheckSizes(t *testing.T) {
	checkCheck(t, "none", nil, api.OK)
	checkCheck(t, "none", []api.File{}, api.OK)
	for n := range 40 {
		want := api.OK
		if n > mostFiles {
			want = api.ErrSize
		}
		checkCheck(t, "some files", named(rising(n)...), want)
	}
	for n := range 600 {
		nameE, dataE := api.OK, api.OK
		if n == 0 || n > mostName {
			nameE = api.ErrSize
		}
		if n > mostData {
			dataE = api.ErrSize
		}
		checkCheck(t, "a name", named(long(n)), nameE)
		checkCheck(t, "a name ahead", named(strings.Repeat("\x00", n), "b"), nameE)
		checkCheck(t, "data", holding(long(n)), dataE)
		checkCheck(t, "data between", holding("", long(n), "y"), dataE)
	}
	checkCheck(t, "many files", named(rising(5000)...), api.ErrSize)
	checkCheck(t, "a long name", named(long(1<<20)), api.ErrSize)
	checkCheck(t, "long data", holding(long(1<<20)), api.ErrSize)
}

// Bytes are counted, not letters.
func TestCheckCountsBytes(t *testing.T) {
	checkCheck(t, "ten letters", named(strings.Repeat("ä", 10)), api.OK)
	checkCheck(t, "eleven letters", named(strings.Repeat("ä", 11)), api.ErrSize)
	checkCheck(t, "a hundred letters", holding(strings.Repeat("€", 100)), api.OK)
	checkCheck(t, "a hundred and one", holding(strings.Repeat("€", 101)), api.ErrSize)
	checkCheck(t, "no letters", named(strings.Repeat("\xff", 20)), api.OK)
}

// What is too long is found at each place.
func TestCheckSizesOfEachFile(t *testing.T) {
	for i := range mostFiles {
		all := make([]string, mostFiles)
		for j := range all {
			all[j] = long(mostData)
		}
		l := holding(all...)
		checkCheck(t, "the longest data", l, api.OK)
		l[i].Data += "y"
		checkCheck(t, "longer data", l, api.ErrSize)
		l = named(rising(mostFiles)...)
		l[i].Name += long(mostName - len(l[i].Name))
		checkCheck(t, "a longest name", l, api.OK)
		l[i].Name += "y"
		checkCheck(t, "a longer name", l, api.ErrSize)
		l[i].Name = ""
		checkCheck(t, "an empty name", l, api.ErrSize)
	}
}

func TestCheckOrder(t *testing.T) {
	for _, c := range []struct {
		names []string
		want  api.Errno
	}{
		{[]string{"a"}, api.OK},
		{[]string{"a", "b"}, api.OK},
		{[]string{"b", "a"}, api.ErrOrder},
		{[]string{"a", "a"}, api.ErrOrder},
		{[]string{"a", "aa"}, api.OK},
		{[]string{"aa", "a"}, api.ErrOrder},
		{[]string{"aa", "b"}, api.OK},
		{[]string{"b", "aa"}, api.ErrOrder},
		{[]string{"a", "a\x00"}, api.OK},
		{[]string{"a\x00", "a"}, api.ErrOrder},
		{[]string{"\x00", "\x00\x00", "\x01"}, api.OK},
		{[]string{"B", "a"}, api.OK},
		{[]string{"a", "B"}, api.ErrOrder},
		{[]string{"10", "9"}, api.OK},
		{[]string{"9", "10"}, api.ErrOrder},
		{[]string{"z", "ä", "\xff"}, api.OK},
		{[]string{"\x7f", "\x80"}, api.OK},
		{[]string{"\x80", "\x7f"}, api.ErrOrder},
		{[]string{"\xff", "\xc3\xa4"}, api.ErrOrder},
		{[]string{"a", "c", "b"}, api.ErrOrder},
		{[]string{"b", "a", "c"}, api.ErrOrder},
		{[]string{"a", "b", "a"}, api.ErrOrder},
		{[]string{"a", "b", "b", "c"}, api.ErrOrder},
		{[]string{"c", "b", "a"}, api.ErrOrder},
		{[]string{long(19) + "a", long(19) + "b"}, api.OK},
		{[]string{long(19) + "b", long(19) + "a"}, api.ErrOrder},
	} {
		checkCheck(t, "names", named(c.names...), c.want)
	}
}

// Two names that are the same, or the other way round, are found at each place.
func TestCheckOrderOfEachTwo(t *testing.T) {
	for i := 1; i < mostFiles; i++ {
		l := named(rising(mostFiles)...)
		l[i-1], l[i] = l[i], l[i-1]
		checkCheck(t, "two names", l, api.ErrOrder)
		l = named(rising(mostFiles)...)
		l[i].Name = l[i-1].Name
		l[i].Data = "other data"
		checkCheck(t, "one name twice", l, api.ErrOrder)
	}
}

// The data's order is none of its matter.
func TestCheckOrdersNamesAlone(t *testing.T) {
	checkCheck(t, "data that fall", holding("c", "b", "b", "a", ""), api.OK)
	l := holding("a", "b")
	l[0].Name, l[1].Name = "y", "x"
	checkCheck(t, "data that rise", l, api.ErrOrder)
}

func TestCheckTellsSizesFirst(t *testing.T) {
	fall := rising(mostFiles + 1)
	slices.Reverse(fall)
	data := named("b", "a", "c")
	data[2].Data = long(mostData + 1)
	for _, c := range []struct {
		why string
		l   []api.File
	}{
		{"too many that fall", named(fall...)},
		{"too many of one name", named(strings.Split(strings.Repeat("a", mostFiles+1), "")...)},
		{"an empty name behind", named("a", "")},
		{"two empty names", named("", "")},
		{"an empty name behind two that fall", named("b", "a", "")},
		{"a long name behind two that fall", named("b", "a", long(mostName+1))},
		{"a long name twice", named(long(mostName+1), long(mostName+1))},
		{"long data behind two that fall", data},
	} {
		checkCheck(t, c.why, c.l, api.ErrSize)
	}
}

func TestCheckOfRandomFiles(t *testing.T) {
	r := rand.New(rand.NewSource(1))
	seen := map[api.Errno]int{}
	for range 20000 {
		l := someFiles(r)
		if n := len(l); n > 0 && r.Intn(2) == 0 {
			f := &l[r.Intn(n)]
			f.Name = someText(r, r.Intn(mostName+2))
			f.Data = long(r.Intn(mostData + 4))
		}
		if r.Intn(10) == 0 {
			l = append(l, someFiles(r)...)
		}
		want := wantCheck(l)
		checkCheck(t, "some files", l, want)
		seen[want]++
	}
	for _, e := range []api.Errno{api.OK, api.ErrSize, api.ErrOrder} {
		if seen[e] < 1000 {
			t.Errorf("%d maps alone came to %d", seen[e], e)
		}
	}
}

// P11.2

func TestSolidKnown(t *testing.T) {
	for _, c := range []struct {
		l    []api.File
		want string
	}{
		{nil, ""},
		{named("a", "b"), ""},
		{[]api.File{{Name: "a", Data: "x"}, {Name: "b", Data: "yz"}}, "xyz"},
		{[]api.File{{Name: "b", Data: "yz"}, {Name: "a", Data: "x"}}, "yzx"},
		{[]api.File{{Data: "x"}, {Data: ""}, {Data: "x"}}, "xx"},
		{holding("\x00", "", "\xff\xfe", "ä"), "\x00\xff\xfeä"},
		{holding(long(5000), "y", long(5000)), long(5000) + "y" + long(5000)},
	} {
		if got := files.Solid(c.l); got != c.want {
			t.Errorf("Solid of %.60q: %d bytes, want %d", c.l, len(got), len(c.want))
		}
	}
}

// Lists that may not be maps of files are joined, too.
func TestSolidOfRandomFiles(t *testing.T) {
	r := rand.New(rand.NewSource(2))
	for n := range 300 {
		l := make([]api.File, n)
		want := ""
		for i := range l {
			l[i] = api.File{Name: someText(r, r.Intn(3)), Data: someText(r, r.Intn(20))}
			want += l[i].Data
		}
		if got := files.Solid(l); got != want {
			t.Errorf("Solid of %d files: %d bytes, want %d", n, len(got), len(want))
		}
	}
}

func TestCutKnown(t *testing.T) {
	x, y := long(piece), strings.Repeat("y", piece)
	for _, c := range []struct {
		s    string
		want []string
	}{
		{"", nil},
		{"a", []string{"a"}},
		{x[1:], []string{x[1:]}},
		{x, []string{x}},
		{x + "a", []string{x, "a"}},
		{x + y[1:], []string{x, y[1:]}},
		{x + y, []string{x, y}},
		{x + y + "a", []string{x, y, "a"}},
		{strings.Repeat("ä", 128) + "ö", []string{strings.Repeat("ä", 128), "ö"}},
		{x[1:] + "ä", []string{x[1:] + "\xc3", "\xa4"}},
	} {
		checkCut(t, c.s, c.want)
	}
}

func TestCutAtAllLengths(t *testing.T) {
	r := rand.New(rand.NewSource(3))
	for n := range 3000 {
		s := someText(r, n)
		var want []string
		for b := range slices.Chunk([]byte(s), piece) {
			want = append(want, string(b))
		}
		checkCut(t, s, want)
	}
	for _, n := range []int{1 << 16, 1<<16 + 1, 1<<20 - 1, 1 << 20} {
		l := files.Cut(someText(r, n))
		if len(l) != (n+piece-1)/piece || len(l[len(l)-1]) != (n-1)%piece+1 {
			t.Errorf("Cut of %d bytes: %d pieces", n, len(l))
		}
	}
}

func checkNames(t *testing.T, l []api.File, names []string, sizes []int) {
	t.Helper()
	if gotNames, gotSizes := files.Names(l); !slices.Equal(gotNames, names) || !slices.Equal(gotSizes, sizes) {
		t.Errorf("Names of %.60q: %.60q, %d, want %.60q, %d", l, gotNames, gotSizes, names, sizes)
	}
}

func TestNamesKnown(t *testing.T) {
	checkNames(t, nil, nil, nil)
	checkNames(t, holding("x", "", "yz"), []string{"0000", "0001", "0002"}, []int{1, 0, 2})
	checkNames(t, []api.File{{Name: "b", Data: "ä"}, {Name: "a", Data: long(300)}}, []string{"b", "a"}, []int{2, 300})
	checkNames(t, []api.File{{Data: long(5000)}, {}, {Name: long(5000)}}, []string{"", "", long(5000)}, []int{5000, 0, 0})
	checkNames(t, named("a", "a", "a"), []string{"a", "a", "a"}, []int{0, 0, 0})
}

func TestNamesOfRandomFiles(t *testing.T) {
	r := rand.New(rand.NewSource(4))
	for n := range 300 {
		var l []api.File
		var names []string
		var sizes []int
		for range n {
			names = append(names, someText(r, r.Intn(25)))
			sizes = append(sizes, r.Intn(400))
			l = append(l, api.File{Name: names[len(names)-1], Data: long(sizes[len(sizes)-1])})
		}
		checkNames(t, l, names, sizes)
	}
}

// P11.3

func TestPartKnown(t *testing.T) {
	for _, c := range []struct {
		names []string
		sizes []int
		s     string
		want  []api.File
		e     api.Errno
	}{
		{nil, nil, "", nil, api.OK},
		{[]string{}, []int{}, "", nil, api.OK},
		{[]string{"a"}, []int{0}, "", named("a"), api.OK},
		{[]string{"a", "b"}, []int{1, 2}, "xyz", []api.File{{Name: "a", Data: "x"}, {Name: "b", Data: "yz"}}, api.OK},
		{[]string{"a", "b", "c"}, []int{0, 3, 0}, "xyz", []api.File{{Name: "a"}, {Name: "b", Data: "xyz"}, {Name: "c"}}, api.OK},
		{[]string{"a", "b"}, []int{1, 2}, "\xc3\xa4\x00", []api.File{{Name: "a", Data: "\xc3"}, {Name: "b", Data: "\xa4\x00"}}, api.OK},
		{[]string{"a"}, []int{300}, long(300), []api.File{{Name: "a", Data: long(300)}}, api.OK},
		{nil, nil, "x", nil, api.ErrArg},
		{nil, []int{0}, "", nil, api.ErrArg},
		{[]string{"a"}, nil, "", nil, api.ErrArg},
		{[]string{"a"}, nil, "x", nil, api.ErrArg},
		{nil, []int{1}, "x", nil, api.ErrArg},
		{[]string{"a", "b"}, []int{1}, "x", nil, api.ErrArg},
		{[]string{"a"}, []int{1, 0}, "x", nil, api.ErrArg},
		{[]string{"a"}, []int{1, 2}, "xyz", nil, api.ErrArg},
		{[]string{"a"}, []int{2}, "x", nil, api.ErrArg},
		{[]string{"a"}, []int{1}, "", nil, api.ErrArg},
		{[]string{"a"}, []int{1}, "xy", nil, api.ErrArg},
		{[]string{"a"}, []int{0}, "x", nil, api.ErrArg},
		{[]string{"a", "b"}, []int{1, 2}, "xyzz", nil, api.ErrArg},
		{[]string{"a", "b"}, []int{1, 2}, "xy", nil, api.ErrArg},
		{[]string{"a"}, []int{-1}, "", nil, api.ErrArg},
		{[]string{"a", "b", "c"}, []int{1, -1, 3}, "xyz", nil, api.ErrArg},
		{[]string{"a", "b"}, []int{-1, 2}, "x", nil, api.ErrArg},
		{[]string{"a", "b"}, []int{2, -1}, "x", nil, api.ErrArg},
		{[]string{"a", "b"}, []int{2, -2}, "", nil, api.ErrArg},
		{[]string{"b", "a"}, []int{1, 2}, "xyz", nil, api.ErrOrder},
		{[]string{"a", "a"}, []int{1, 2}, "xyz", nil, api.ErrOrder},
		{[]string{""}, []int{1}, "x", nil, api.ErrSize},
		{[]string{long(21)}, []int{1}, "x", nil, api.ErrSize},
		{[]string{"a"}, []int{301}, long(301), nil, api.ErrSize},
		{rising(13), make([]int, 13), "", nil, api.ErrSize},
		{rising(12), make([]int, 12), "", named(rising(12)...), api.OK},
	} {
		checkPart(t, c.names, c.sizes, c.s, c.want, c.e)
	}
}

// Sums that wrap round are not the length of s.
func TestPartOfGreatSizes(t *testing.T) {
	half := math.MaxInt/2 + 1
	for _, sizes := range [][]int{
		{math.MaxInt},
		{math.MinInt},
		{math.MaxInt, math.MaxInt, 2},
		{math.MaxInt, math.MaxInt, 3},
		{1, math.MaxInt, math.MaxInt, 2},
		{half, half, half, half},
		{1, half, half, half, half},
		{math.MinInt, math.MinInt},
		{math.MinInt, math.MinInt, 1},
		{math.MinInt, math.MaxInt, 1},
		{math.MinInt, math.MaxInt, 2},
		{math.MaxInt, 1, math.MaxInt, 1},
		{math.MaxInt, math.MinInt, 1},
		{1 << 31}, {1 << 32}, {1<<32 + 1}, {1 << 32, 1}, {1<<31 + 1, 1 << 31},
		{-1 << 32}, {1 - 1<<32}, {256}, {257},
	} {
		for _, s := range []string{"", "x"} {
			checkPart(t, rising(len(sizes)), sizes, s, nil, api.ErrArg)
		}
	}
}

func TestPartTellsTheFirstError(t *testing.T) {
	for _, c := range []struct {
		why   string
		names []string
		sizes []int
		s     string
		e     api.Errno
	}{
		{"more names than sizes, too many", rising(14), make([]int, 13), "", api.ErrArg},
		{"more sizes than names, names that fall", []string{"b", "a"}, make([]int, 3), "", api.ErrArg},
		{"a size below 0, an empty name", []string{""}, []int{-1}, "", api.ErrArg},
		{"a size below 0, names that fall", []string{"b", "a"}, []int{-1, 1}, "", api.ErrArg},
		{"a size below 0 behind data too long", []string{"a", "b"}, []int{301, -1}, long(300), api.ErrArg},
		{"more bytes, too many files", rising(13), make([]int, 13), "x", api.ErrArg},
		{"more bytes, data too long", []string{"a"}, []int{301}, long(302), api.ErrArg},
		{"fewer bytes, data too long", []string{"a"}, []int{302}, long(301), api.ErrArg},
		{"fewer bytes, names that fall", []string{"b", "a"}, []int{1, 1}, "x", api.ErrArg},
		{"more bytes, one name twice", []string{"a", "a"}, []int{1, 1}, "xyz", api.ErrArg},
		{"more bytes, no name", []string{""}, []int{1}, "xy", api.ErrArg},
		{"data too long, names that fall", []string{"b", "a"}, []int{1, 301}, long(302), api.ErrSize},
		{"names that fall, an empty name behind", []string{"b", "a", ""}, []int{1, 1, 1}, "xyz", api.ErrSize},
		{"too many of one name", make([]string, 13), make([]int, 13), "", api.ErrSize},
	} {
		if l, e := files.Part(c.names, c.sizes, c.s); len(l) != 0 || e != c.e {
			t.Errorf("Part of %s: %.40q, %d, want %d", c.why, l, e, c.e)
		}
	}
}

func TestPartOfRandomSizes(t *testing.T) {
	r := rand.New(rand.NewSource(5))
	seen := map[api.Errno]int{}
	for range 30000 {
		l := someFiles(r)
		names, sizes := files.Names(l)
		s := files.Solid(l)
		if n := len(l); n > 0 {
			switch r.Intn(8) {
			case 0:
				names[r.Intn(n)] = someText(r, r.Intn(mostName+2))
			case 1:
				sizes[r.Intn(n)] += r.Intn(5) - 2
			case 2:
				sizes[r.Intn(n)]++
				sizes[r.Intn(n)]--
			case 3:
				names = names[:r.Intn(n+1)]
			case 4:
				s = s[:r.Intn(len(s)+1)]
			case 5:
				s += someText(r, r.Intn(3))
			case 6:
				more := r.Intn(mostData)
				sizes[r.Intn(n)] += more
				s += someText(r, more)
			}
		}
		want, e := wantPart(names, sizes, s)
		checkPart(t, names, sizes, s, want, e)
		seen[e]++
	}
	for _, e := range []api.Errno{api.OK, api.ErrArg, api.ErrSize, api.ErrOrder} {
		if seen[e] < 500 {
			t.Errorf("%d texts alone came to %d", seen[e], e)
		}
	}
}

// P11.4

func checkParted(t *testing.T, l []api.File) {
	t.Helper()
	checkCheck(t, "files to be parted", l, api.OK)
	names, sizes := files.Names(l)
	cut := files.Cut(files.Solid(l))
	for i, p := range cut {
		if len(p) > piece || len(p) == 0 || len(p) < piece && i < len(cut)-1 {
			t.Errorf("piece %d of %d has %d bytes", i, len(cut), len(p))
		}
	}
	checkPart(t, names, sizes, strings.Join(cut, ""), l, api.OK)
}

func TestFilesArePartedOutOfWhatTheyAreCutTo(t *testing.T) {
	r := rand.New(rand.NewSource(6))
	checkParted(t, nil)
	checkParted(t, named("a"))
	checkParted(t, named(rising(mostFiles)...))
	all := make([]string, mostFiles)
	for i := range all {
		all[i] = someText(r, mostData)
	}
	checkParted(t, holding(all...))
	for a := range mostData + 1 {
		checkParted(t, holding(someText(r, a)))
		checkParted(t, holding("", someText(r, a), someText(r, mostData-a), ""))
		checkParted(t, holding(someText(r, a), someText(r, r.Intn(mostData+1)), someText(r, r.Intn(mostData+1))))
	}
	for range 5000 {
		checkParted(t, someFiles(r))
	}
}

// R3

// spared is l with room behind its length, in which fill stands; and the whole of it.
func spared[T any](l []T, fill T) ([]T, []T) {
	whole := append(slices.Clone(l), fill, fill, fill)
	return whole[:len(l)], whole
}

func TestArgumentsStay(t *testing.T) {
	l, wholeL := spared(holding("x", "", long(300)), api.File{Name: "!", Data: "!"})
	names, wholeNames := spared([]string{"0000", "0001", "0002"}, "!")
	sizes, wholeSizes := spared([]int{1, 0, 300}, -7)
	keptL, keptNames, keptSizes := slices.Clone(wholeL), slices.Clone(wholeNames), slices.Clone(wholeSizes)
	s := "x" + long(300)
	checkCheck(t, "some files", l, api.OK)
	if got := files.Solid(l); got != s {
		t.Errorf("Solid: %d bytes", len(got))
	}
	checkNames(t, l, names, sizes)
	checkPart(t, names, sizes, s, l, api.OK)
	checkPart(t, names, sizes, s[1:], nil, api.ErrArg)
	if !slices.Equal(wholeL, keptL) || !slices.Equal(wholeNames, keptNames) || !slices.Equal(wholeSizes, keptSizes) {
		t.Errorf("what was handed in is another one: %.60q, %q, %d", wholeL, wholeNames, wholeSizes)
	}
}

func TestAnswersAreNew(t *testing.T) {
	l := holding("x", "", long(300))
	s := "x" + long(300)
	names, sizes := files.Names(l)
	parted, _ := files.Part(names, sizes, s)
	cut := files.Cut(s)
	names[0], sizes[0], l[0] = "a", 7, api.File{Name: "b"}
	if !slices.Equal(parted, holding("x", "", long(300))) || l[1].Name != "0001" {
		t.Errorf("what was parted hangs on what was handed in: %.60q", parted)
	}
	parted[1] = api.File{Name: "c"}
	_ = append(parted[:0], api.File{Name: "d"})
	cut[0] = "e"
	_ = append(cut[:1], "f")
	checkCut(t, s, []string{s[:piece], s[piece:]})
	checkNames(t, l, []string{"b", "0001", "0002"}, []int{0, 0, 300})
	checkPart(t, []string{"0000", "0001", "0002"}, []int{1, 0, 300}, s, holding("x", "", long(300)), api.OK)
}

// R1

func TestLongLists(t *testing.T) {
	const n = 200000
	many := named(rising(n)...)
	checkCheck(t, "very many", many, api.ErrSize)
	names, sizes := files.Names(many)
	if len(names) != n || len(sizes) != n || files.Solid(many) != "" {
		t.Errorf("%d names, %d sizes", len(names), len(sizes))
	}
	checkPart(t, names, sizes, "", nil, api.ErrSize)
	checkPart(t, names, sizes, "x", nil, api.ErrArg)
	for i := range sizes {
		sizes[i] = 5
	}
	checkPart(t, names, sizes, long(5*n), nil, api.ErrSize)
	checkPart(t, names, sizes, long(5*n-1), nil, api.ErrArg)
}

// R5

func TestAnswersAreTheSame(t *testing.T) {
	r := rand.New(rand.NewSource(7))
	l := someFiles(r)
	for len(l) < 4 {
		l = someFiles(r)
	}
	names, sizes := files.Names(l)
	s := files.Solid(l)
	cut := files.Cut(s)
	var wait sync.WaitGroup
	for range 8 {
		wait.Go(func() {
			for range 50 {
				parted, e := files.Part(names, sizes, s)
				gotNames, gotSizes := files.Names(parted)
				if !slices.Equal(parted, l) || e != api.OK || files.Check(l) != api.OK || files.Solid(l) != s ||
					!slices.Equal(files.Cut(s), cut) || !slices.Equal(gotNames, names) || !slices.Equal(gotSizes, sizes) {
					t.Errorf("another answer: %d files, error %d", len(parted), e)
				}
			}
		})
	}
	wait.Wait()
}
