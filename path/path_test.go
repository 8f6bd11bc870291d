package path

import (
	"math/rand"
	"slices"
	"strings"
	"sync"
	"testing"
	"unsafe"

	"strongbox/api"
)

// dir is a directory, plain a file.
func dir(p string) api.File         { return api.File{Path: p, Dir: true} }
func plain(p, data string) api.File { return api.File{Path: p, Data: data} }

// row is a byte, n times.
func row(n int, b byte) string { return strings.Repeat(string([]byte{b}), n) }

// number is a step of three bytes; they rise as the numbers do.
func number(i int) string {
	return string([]byte{'0' + byte(i/100), '0' + byte(i/10%10), '0' + byte(i%10)})
}

// forest is a tree of many kinds.
func forest() []api.File {
	return []api.File{
		plain("!", ""), dir("a"), plain("a!", "x"), dir("a!b"), plain("a.b", "yz"), dir("a/b"), plain("a/b.c", "q"), dir("a/b/c"),
		plain("a/b/c/d", row(api.MaxFile, 0)), plain("a/b/e", ""), dir("a/c"), plain("a/f", row(77, 200)), plain("a0", "a0"), dir("b"), dir("b/b"), dir("b/b/b"), dir("b/c"), plain("~", "~"),
	}
}

// grown is a tree of n, the same one each time; seed says which.
func grown(n, seed int) []api.File {
	r := rand.New(rand.NewSource(int64(seed)))
	names := []string{"a", "b", "a!", "a.b", "...", "a0", "~", "!", "Zz", "q-1", ".x", "x."}
	dirs, l := []string{""}, []api.File{}
	for range 40 * n {
		if len(l) == n {
			break
		}
		p := dirs[r.Intn(len(dirs))] + names[r.Intn(len(names))] + row(r.Intn(3), 'n')
		if !mayAsTold(p) || slices.ContainsFunc(l, func(f api.File) bool { return f.Path == p }) {
			continue
		}
		if r.Intn(3) == 0 {
			l, dirs = append(l, dir(p)), append(dirs, p+"/")
		} else {
			l = append(l, plain(p, row(r.Intn(40), byte(r.Intn(256)))))
		}
	}
	slices.SortFunc(l, func(a, b api.File) int {
		if less(a.Path, b.Path) {
			return -1
		}
		return 1
	})
	return l
}

// The chapter's examples.
func TestExamples(t *testing.T) {
	may(t, "a/b.c")
	if steps := Steps("a/b.c"); !slices.Equal(steps, []string{"a", "b.c"}) {
		t.Errorf("Steps: %q", steps)
	}
	if above, has := Above("a/b.c"); above != "a" || !has {
		t.Errorf("Above: %q, %v", above, has)
	}
	for _, p := range []string{"", "/a", "a/", "a//b", "a/.", "a/..", "a b"} {
		mayNot(t, p)
	}
	tree(t, dir("a"), plain("a/b", ""))
	noTree(t, plain("a/b", ""))
	noTree(t, plain("a", ""), plain("a/b", ""))
}

// P18.1: no bytes; a / alone, first, last, and two beside one another; of Steps and Above such texts too.
func TestSlashes(t *testing.T) {
	for _, p := range []string{"", "/", "//", "///", "/a", "a/", "/a/", "//a", "a//", "a//b", "a///b", "a/b/", "/a/b", "a/b//", "//a/b", "a/b//c", "a//b/c"} {
		mayNot(t, p)
	}
	for _, p := range []string{"a", "a/b", "a/b/c", "a/b/c/d", "aa/bb", "a/bb/c"} {
		may(t, p)
	}
	for p, want := range map[string][]string{"": nil, "/": {"", ""}, "//": {"", "", ""}, "a/": {"a", ""}, "/a": {"", "a"}, "a": {"a"}, "a//b": {"a", "", "b"}, "/a/": {"", "a", ""}, " ": {" "}, "./..": {".", ".."}} {
		if got := Steps(p); !slices.Equal(got, want) {
			t.Errorf("Steps of %q: %q", p, got)
		}
	}
	for p, want := range map[string]string{"/": "", "//": "/", "a/": "a", "/a": "", "a/b": "a", "a//b": "a/", "/a/": "/a", "a/b/c": "a/b", "///": "//", "\x00/\xff/": "\x00/\xff"} {
		if above, has := Above(p); above != want || !has {
			t.Errorf("Above of %q: %q, %v", p, above, has)
		}
	}
	for _, p := range []string{"", "a", ".", "..", "a\\b", " ", "\x00", "\xaf", "\xc0\xaf", "∕", row(1<<16, 'a')} {
		if above, has := Above(p); above != "" || has {
			t.Errorf("Above of %s: %s, %v", brief(p), brief(above), has)
		}
	}
}

// P18.1: all short texts of some bytes.
func TestShortTexts(t *testing.T) {
	texts := []string{""}
	for range 6 {
		var longer []string
		for _, text := range texts {
			path(t, text)
			for _, b := range []string{"a", "/", ".", " ", "~"} {
				longer = append(longer, text+b)
			}
		}
		texts = longer
	}
}

// P18.1: each byte, alone, first, within and last, of a step alone, the first one, the middle one and the last one.
func TestEachByte(t *testing.T) {
	for b := range 256 {
		byte1 := string([]byte{byte(b)})
		for _, step := range []string{byte1, byte1 + "x", "x" + byte1 + "y", "xy" + byte1, byte1 + byte1 + byte1, row(31, 'x') + byte1, byte1 + row(31, 'x')} {
			for _, p := range []string{step, step + "/m/n", "m/" + step + "/n", "m/n/" + step} {
				path(t, p)
				if b < 33 || b > 126 {
					mayNot(t, p)
				} else if b != '/' && b != '.' {
					may(t, p)
				}
			}
		}
	}
	for _, step := range []string{"é", "\xc3", "日本", "\xed\xa0\x80", "a\u0300", "\u2024\u2024", "\uff0e", "€", "\U0001f511"} {
		mayNot(t, step)
		mayNot(t, "a/"+step)
		mayNot(t, step+"/a")
	}
}

// P18.1: steps of 32 bytes and of 33, and of others, alone, first, in the middle and last.
func TestStepSizes(t *testing.T) {
	for n := range 80 {
		for _, b := range []byte("a!~0-") {
			step := row(n, b)
			for _, p := range []string{step, step + "/m", "m/" + step, "m/" + step + "/n", "m/n/" + step, step + "/m/n"} {
				if 1 <= n && n <= 32 {
					may(t, p)
				} else {
					mayNot(t, p)
				}
			}
		}
	}
	may(t, row(32, 'a')+"/"+row(32, 'b'))
	mayNot(t, row(32, 'a')+"/"+row(33, 'b'))
	mayNot(t, row(33, 'a')+"/"+row(32, 'b'))
	mayNot(t, row(65, 'a'))
}

// P18.1: paths of MaxPath bytes and of one more, of long steps and of short ones.
func TestPathSizes(t *testing.T) {
	for size := 1; size <= 32; size++ {
		long := strings.Repeat(row(size, 'p')+"/", 100)
		for n := 1; n <= 130; n++ {
			p := long[:n]
			path(t, p)
			if n <= api.MaxPath && p[n-1] != '/' {
				may(t, p)
			} else {
				mayNot(t, p)
			}
		}
	}
	whole := row(32, 'a') + "/" + row(32, 'b') + "/"
	may(t, whole+row(29, 'c'))
	may(t, whole+row(30, 'c'))
	mayNot(t, whole+row(31, 'c'))
	mayNot(t, whole+row(28, 'c')+"/dd")
	may(t, strings.Repeat("a/", 47)+"ab")
	mayNot(t, strings.Repeat("a/", 48)+"a")
	mayNot(t, strings.Repeat("a/", 48))
	for _, n := range []int{1000, 1 << 16, 1 << 18} {
		for _, text := range []string{row(n, 'a'), row(n, '/'), row(n, '.'), row(n, 0), strings.Repeat("a/", n) + "a"} {
			path(t, strings.Clone(text[:min(len(text), 5000)]))
			if May(text) {
				t.Errorf("%s is no path", brief(text))
			}
		}
	}
	if steps := Steps(row(100000, '/')); len(steps) != 100001 || strings.Join(steps, "") != "" {
		t.Error("of 100000 / the steps are", len(steps))
	}
}

// P18.1: steps of dots, and such as begin or end by one, in each place.
func TestDots(t *testing.T) {
	for n := 1; n <= 32; n++ {
		for _, p := range []string{row(n, '.'), row(n, '.') + "/a", "a/" + row(n, '.'), "a/" + row(n, '.') + "/b", row(n, '.') + "/" + row(n, '.')} {
			if n <= 2 {
				mayNot(t, p)
			} else {
				may(t, p)
			}
		}
	}
	for _, step := range []string{".a", "a.", "..a", "a..", ".a.", "a.b", "a..b", ".-", "-.", "..!", "..."} {
		may(t, step)
		may(t, step+"/a")
		may(t, "a/"+step)
		may(t, "a/"+step+"/b")
	}
	for _, p := range []string{". ", " .", "./a", "../a", "a/./b", "a/../b", "./.", "../..", ".../..", "a/b/.", "a/b/.."} {
		mayNot(t, p)
	}
}

// P18.2, Tree: none, one, MaxFiles and one more: all at the root, all in one directory, in many, and one in the other.
func TestHowMany(t *testing.T) {
	tree(t)
	tree(t, []api.File{}...)
	tree(t, dir("a"))
	tree(t, plain("a", "x"))
	tree(t, forest()...)
	for _, n := range []int{254, 255, 256, 257, 258, 512, 900} {
		var flat, full, many []api.File
		full = append(full, dir("d"))
		for i := range n {
			flat = append(flat, plain(number(i), "x"))
			full = append(full, dir("d/"+number(i)))
			many = append(many, dir(number(i)))
			if i%2 == 1 {
				many[i] = plain(number(i-1)+"/x", "")
			}
		}
		for _, l := range [][]api.File{flat, full[:n], many} {
			if n <= api.MaxFiles {
				tree(t, l...)
			} else if Tree(l) || treeAsTold(l) {
				t.Errorf("%d are too many", len(l))
			}
		}
	}
	var deep []api.File
	for p := "a"; len(p) <= 97; p += "/a" {
		deep = append(deep, dir(p))
	}
	tree(t, deep[:48]...)
	noTree(t, deep...)
	deep[47] = plain(deep[47].Path, "x")
	tree(t, deep[:48]...)
}

// P18.2, Tree: paths that rise, that fall, and two that are alike, side by side and apart.
func TestRising(t *testing.T) {
	for _, l := range [][]api.File{forest(), grown(20, 1), {plain("a", ""), plain("b", ""), plain("c", ""), dir("d")}} {
		for i := range l {
			for j := range i {
				other := slices.Clone(l)
				other[i], other[j] = other[j], other[i]
				noTree(t, other...)
			}
			noTree(t, slices.Insert(slices.Clone(l), i, l[i])...)
			noTree(t, append(slices.Clone(l), l[i])...)
			noTree(t, append([]api.File{l[i]}, l...)...)
		}
		fall := slices.Clone(l)
		slices.Reverse(fall)
		noTree(t, fall...)
	}
	noTree(t, dir("a"), plain("a", ""))
	noTree(t, plain("a", ""), dir("a"))
	noTree(t, dir("a"), plain("a", ""), plain("a/b", ""))
	noTree(t, plain("a", ""), plain("a", "x"))
	noTree(t, plain("b", ""), plain("a", ""))
	tree(t, plain("B", ""), plain("a", ""))
	noTree(t, plain("a", ""), plain("B", ""))
	tree(t, plain("a10", ""), plain("a2", ""))
	tree(t, plain("a", ""), plain("aa", ""), plain("b", ""))
	noTree(t, plain("aa", ""), plain("a", ""))
}

// P18.2, Tree: paths of which one begins by the other: a byte below /, and one above, behind it.
func TestBeginnings(t *testing.T) {
	for b := byte(33); b <= 126; b++ {
		if b == '/' {
			continue
		}
		beside := plain("a"+string(b), "x")
		if b < '/' {
			tree(t, dir("a"), beside, plain("a/b", ""))
			noTree(t, dir("a"), plain("a/b", ""), beside)
		} else {
			tree(t, dir("a"), plain("a/b", ""), beside)
			noTree(t, dir("a"), beside, plain("a/b", ""))
		}
		tree(t, dir("a"), beside)
		noTree(t, beside, dir("a"))
		// What stands beside a directory is none in which what stands in that may stand.
		beside.Dir, beside.Data = true, ""
		noTree(t, beside, plain("a/b", ""))
		noTree(t, plain("a/b", ""), beside)
	}
	tree(t, dir("a"), plain("a!", ""), plain("a.", ""), plain("a/!", ""), plain("a/b", ""), plain("a0", ""), plain("a~", ""))
}

// P18.2, Tree: a path above that is not in the list, that is a file, that stands behind; at each depth.
func TestPathsAbove(t *testing.T) {
	noTree(t, dir("a/b"))
	noTree(t, dir("a"), plain("a/b/c", ""))
	noTree(t, dir("a/b"), plain("a/b/c", ""))
	noTree(t, dir("b"), plain("a/b", ""))
	noTree(t, dir("a"), plain("b/a", ""))
	noTree(t, dir("b"), plain("c/b", ""), plain("d", ""))
	noTree(t, plain("a/b", ""), dir("a"))
	noTree(t, plain("a", "x"), plain("a/b", ""))
	noTree(t, dir("a"), plain("a/b", ""), plain("a/b/c", ""))
	noTree(t, dir("a"), dir("a/bb"), plain("a/b/c", ""))
	tree(t, dir("a"), dir("a/b"), plain("a/b/c", ""))
	whole := forest()
	for i, f := range whole {
		inside := slices.ContainsFunc(whole, func(g api.File) bool { return strings.HasPrefix(g.Path, f.Path+"/") })
		without := slices.Delete(slices.Clone(whole), i, i+1)
		other := slices.Clone(whole)
		other[i].Dir, other[i].Data = false, ""
		behind := append(slices.Clone(without), f)
		if inside {
			noTree(t, without...)
			noTree(t, other...)
			noTree(t, behind...)
		} else {
			tree(t, without...)
			tree(t, other...)
		}
	}
}

// P18.2, Tree: a directory with Data and without; files of no bytes, of MaxFile and of one more; first, in the middle and last.
func TestData(t *testing.T) {
	for n, fits := range map[int]bool{0: true, 1: true, 1024: true, 16383: true, 16384: true, 16385: false, 16386: false, 1 << 17: false} {
		for i := range 3 {
			l := []api.File{dir("a"), dir("b"), dir("c")}
			l[i] = plain(l[i].Path, row(n, byte(n)))
			if fits {
				tree(t, l...)
			} else {
				noTree(t, l...)
			}
			l[i].Dir = true
			if n == 0 {
				tree(t, l...)
			} else {
				noTree(t, l...)
			}
		}
	}
	noTree(t, api.File{Path: "a", Dir: true, Data: "\x00"}, plain("a/b", ""))
	var most []api.File
	for i := range api.MaxFiles {
		most = append(most, plain(number(i), row(api.MaxFile, 'm')))
	}
	tree(t, most...)
}

// P18.2, Tree: what is no path, first, in the middle and last, where it rises.
func TestNoPaths(t *testing.T) {
	noTree(t, plain("", ""))
	noTree(t, dir(""))
	noTree(t, dir(""), plain("/a", ""))
	noTree(t, dir("/"), dir("/a"))
	noTree(t, dir("a"), plain("a/", ""))
	noTree(t, dir("a"), dir("a/"), plain("a//b", ""))
	noTree(t, dir("a"), plain("a/.", ""))
	noTree(t, dir("a"), plain("a/..", ""))
	noTree(t, dir("."), plain("./a", ""))
	noTree(t, dir(".."))
	noTree(t, dir("a"), plain("a b", ""))
	noTree(t, plain("\x1f", ""), dir("a"))
	noTree(t, dir("a"), dir("\x7f"))
	noTree(t, dir("a"), dir("é"))
	noTree(t, dir("a"), dir("a/\x00"), plain("b", ""))
	noTree(t, dir("a"), dir(row(33, 'b')), plain("c", ""))
	noTree(t, dir("a"), plain("a/"+row(33, 'b'), ""))
}

// P18.2: all lists of a few, out of some that may be in a tree and some that may not.
func TestShortLists(t *testing.T) {
	some := []api.File{
		dir("a"), plain("a", ""), plain("a", "x"), {Path: "a", Dir: true, Data: "x"}, dir("a/b"), plain("a/b", "y"), plain("a/b/c", ""), dir("a!"), plain("a!/b", ""),
		plain("a0", "z"), dir("b"), plain("b/a", ""), dir(""), plain("/a", ""), dir("a/"), plain(".", ""),
	}
	for _, f := range some {
		list(t, []api.File{f})
		for _, g := range some {
			list(t, []api.File{f, g})
			for _, h := range some {
				list(t, []api.File{f, g, h})
			}
		}
	}
}

// P18.2: trees of many shapes, and such with one thing changed.
func TestGrown(t *testing.T) {
	for seed := range 40 {
		l := grown(1+seed*seed/7, seed)
		tree(t, l...)
		r := rand.New(rand.NewSource(int64(seed)))
		for range 12 {
			other := slices.Clone(l)
			f := &other[r.Intn(len(other))]
			switch r.Intn(6) {
			case 0:
				f.Dir = !f.Dir
			case 1:
				f.Data += "d"
			case 2:
				f.Path += "/z"
			case 3:
				f.Path = other[r.Intn(len(other))].Path
			case 4:
				other = slices.Delete(other, 0, 1+r.Intn(min(3, len(other))))
			case 5:
				f.Path = f.Path[:len(f.Path)-1]
			}
			list(t, other)
			if got, want := Same(l, other), sameAsTold(l, other); got != want {
				t.Errorf("Same of %s and %s: %v", shown(l), shown(other), got)
			}
		}
	}
}

// same holds Same of two lists, either way round, against the chapter's words, and against what the test says of it.
func same(t *testing.T, a, b []api.File, want bool) {
	t.Helper()
	if Same(a, b) != want || Same(b, a) != want || sameAsTold(a, b) != want {
		t.Errorf("Same of %s and %s: %v, %v", shown(a), shown(b), Same(a, b), Same(b, a))
	}
}

// P18.2, Same: lists of unlike lengths; unlike in a path, in kind, in data, in the first, a middle and the last one; such as are no trees.
func TestSame(t *testing.T) {
	same(t, nil, nil, true)
	same(t, nil, []api.File{}, true)
	same(t, nil, []api.File{{}}, false)
	same(t, []api.File{{}}, []api.File{{}, {}}, false)
	noOne := []api.File{plain("b", ""), plain("a", ""), dir("/"), {Path: "a", Dir: true, Data: "x"}, {}}
	for _, l := range [][]api.File{forest(), noOne, grown(9, 3)} {
		again := slices.Clone(l)
		for i := range again {
			again[i].Path, again[i].Data = strings.Clone(l[i].Path), strings.Clone(l[i].Data)
		}
		same(t, l, again, true)
		for i, f := range l {
			same(t, l, l[:i], false)
			same(t, l, l[i+1:], false)
			same(t, l, slices.Delete(slices.Clone(l), i, i+1), false)
			same(t, l, slices.Insert(slices.Clone(l), i, f), false)
			for _, g := range []api.File{
				{Path: f.Path + "x", Dir: f.Dir, Data: f.Data}, {Path: "!" + f.Path, Dir: f.Dir, Data: f.Data}, {Path: "", Dir: !f.Dir, Data: "other"},
				{Path: f.Path, Dir: !f.Dir, Data: f.Data}, {Path: f.Path, Dir: f.Dir, Data: f.Data + "\x00"}, {Path: f.Path + f.Data + "!", Dir: f.Dir},
			} {
				other := slices.Clone(l)
				other[i] = g
				same(t, l, other, false)
			}
			if len(f.Data) > 0 {
				for _, at := range []int{0, len(f.Data) / 2, len(f.Data) - 1} {
					data := []byte(f.Data)
					data[at] ^= 1
					other := slices.Clone(l)
					other[i].Data = string(data)
					same(t, l, other, false)
				}
			}
		}
		reversed := slices.Clone(l)
		slices.Reverse(reversed)
		same(t, l, reversed, false)
	}
}

// P18.2, Size: of none, of no bytes, of some, of more than one tree may have, and of what is no tree.
func TestSize(t *testing.T) {
	for _, c := range []struct {
		want int
		l    []api.File
	}{
		{0, nil}, {0, []api.File{}}, {0, []api.File{dir("a"), plain("b", "")}}, {3, []api.File{plain("a", "xyz")}}, {5, []api.File{plain("a", "xy"), dir("b"), plain("b/c", "\x00é")}},
		{4, []api.File{plain("a", "xy"), plain("a", "xy")}}, {7, []api.File{{Path: "a", Dir: true, Data: "seven, "}}}, {2, []api.File{{Data: "é"}}},
		{16384, []api.File{plain("a", row(16384, 1))}}, {16385, []api.File{plain("a", row(16385, 1))}}, {1 << 20, []api.File{dir("a"), plain("b", row(1<<20, 1))}},
	} {
		if got := Size(c.l); got != c.want {
			t.Errorf("Size of %s: %d", shown(c.l), got)
		}
	}
	// Each one of these lists has more than a tree may have: too many, and too great ones.
	for _, n := range []int{256, 257, 1000, 5000} {
		for _, each := range []int{1, api.MaxFile, api.MaxFile + 1} {
			if got := Size(slices.Repeat([]api.File{plain("a", row(each, 9))}, n)); got != n*each {
				t.Errorf("Size of %d of %d: %d", n, each, got)
			}
		}
	}
}

// kids holds Kids against the chapter's words, and against what the test says of it.
func kids(t *testing.T, l []api.File, dir string, want ...int) {
	t.Helper()
	if got := Kids(l, dir); !slices.Equal(got, want) || !slices.Equal(kidsAsTold(l, dir), want) {
		t.Errorf("Kids of %s in %s: %v, not %v", brief(dir), shown(l), got, want)
	}
}

// P18.2, Kids: the root, a directory with none and with some, a path that is no directory's, one that is not in the list.
func TestKids(t *testing.T) {
	l := forest()
	kids(t, l, "", 0, 1, 2, 3, 4, 12, 13, 17)
	kids(t, l, "a", 5, 6, 10, 11)
	kids(t, l, "a/b", 7, 9)
	kids(t, l, "a/b/c", 8)
	kids(t, l, "b", 14, 16)
	kids(t, l, "b/b", 15)
	for _, none := range []string{"a/c", "a!b", "b/b/b", "b/c", "a0", "!", "a/f", "a/b/c/d", "c", "zz", "a/", "/", "/a", "a/bb", "b/", ".", "..", "A", "a/b/", " ", "\x00", row(1000, 'a')} {
		kids(t, l, none)
	}
	kids(t, nil, "")
	kids(t, []api.File{}, "a")
	kids(t, []api.File{dir("a")}, "a")
	kids(t, []api.File{dir("a")}, "", 0)
}

// P18.2, Kids: lists that are no trees: in no row, with some twice, with no directory there, with what is no path; by what is no path.
func TestKidsOfNoTree(t *testing.T) {
	l := []api.File{
		plain("b/x", ""), plain("a/y", ""), plain("", ""), dir("b"), plain("b/x", "again"), plain("a", ""), plain("/c", ""), dir("/"), dir("a//d"), plain("//e", ""), dir("a/b/"), plain("./f", ""), plain("a/", ""),
	}
	kids(t, l, "", 2, 3, 5)
	kids(t, l, "b", 0, 4)
	kids(t, l, "a", 1, 12)
	kids(t, l, "a/", 8)
	kids(t, l, "/", 9)
	kids(t, l, "a/b", 10)
	kids(t, l, ".", 11)
	kids(t, l, "//")
	many := slices.Repeat([]api.File{plain("d/x", ""), plain("x", "")}, 1000)
	if in, root := Kids(many, "d"), Kids(many, ""); len(in) != 1000 || len(root) != 1000 || in[999] != 1998 || root[999] != 1999 {
		t.Error("of 2000:", len(in), len(root))
	}
}

// P18.3: each one of a tree stands among the Kids of just one directory, or of the root; without the last one it is a tree; Steps, put together, are the path.
func TestWhatFollows(t *testing.T) {
	for seed := range 30 {
		l := grown(min(seed*9, api.MaxFiles), seed+100)
		if seed == 0 {
			l = forest()
		}
		met := make([]int, len(l))
		for _, i := range Kids(l, "") {
			met[i]++
		}
		for _, f := range l {
			in := Kids(l, f.Path)
			if !slices.IsSorted(in) || !f.Dir && len(in) > 0 {
				t.Errorf("Kids of %s: %v", f.Path, in)
			}
			for _, i := range in {
				met[i]++
			}
			if steps := Steps(f.Path); strings.Join(steps, "/") != f.Path || slices.ContainsFunc(steps, func(step string) bool { return !May(step) || strings.Contains(step, "/") }) {
				t.Errorf("Steps of %s: %q", f.Path, steps)
			}
		}
		if slices.ContainsFunc(met, func(n int) bool { return n != 1 }) {
			t.Errorf("%s are told so often: %v", shown(l), met)
		}
		for n := range len(l) {
			tree(t, l[:n]...)
		}
	}
	for _, p := range []string{"/", "//", "a/", "/a", "a//b", " ", "\x00/\xff", row(300, '/')} {
		if strings.Join(Steps(p), "/") != p {
			t.Errorf("Steps of %s: %q", brief(p), Steps(p))
		}
	}
}

// lent is a text over memory that is written to later.
func lent(text string) (string, []byte) {
	room := []byte("<" + text + ">")
	return unsafe.String(&room[1], len(text)), room
}

// R3: what is handed in is not changed, not kept and not read beyond its end.
func TestHandedIn(t *testing.T) {
	whole := append(forest(), plain("zz", "behind"), dir("zz/a"))
	was := slices.Clone(whole)
	l := whole[:len(whole)-2]
	alone := slices.Clone(l)
	if !Tree(l) || !Same(l, alone) || !Same(alone, l) || Size(l) != Size(alone) || !slices.Equal(Kids(l, ""), Kids(alone, "")) || len(Kids(l, "zz")) != 0 || !slices.Equal(Kids(l, "a"), Kids(alone, "a")) {
		t.Error("what stands behind the end is read")
	}
	if !slices.Equal(whole, was) {
		t.Error("the list is changed:", shown(whole))
	}
	for _, p := range []string{"a/b.c", "a", "/", "a/", "/a", "", " //x"} {
		text, room := lent(p)
		steps, wanted := Steps(text), stepsAsTold(p)
		above, has := Above(text)
		May(text)
		if string(room) != "<"+p+">" {
			t.Errorf("%q is changed: %q", p, room)
		}
		for i := range room {
			room[i] = '#'
		}
		if want, _ := aboveAsTold(p); !slices.Equal(steps, wanted) || above != want || has != (above != "" || strings.HasPrefix(p, "/")) {
			t.Errorf("what was told of %q is lent: %q, %q", p, steps, above)
		}
	}
	// A tree that is asked again, behind a write, is another one.
	again := forest()
	for i, f := range again {
		again[i].Path = " "
		if Tree(again) {
			t.Error("kept:", f.Path)
		}
		again[i] = f
	}
	if !Tree(again) {
		t.Error("what was no tree is kept")
	}
}

// R3: what is handed out is new memory, its spare room too.
func TestHandedOut(t *testing.T) {
	l := forest()
	first, steps := Kids(l, ""), Steps("a/b/c")
	for _, out := range [][]int{Kids(l, ""), Kids(l, "a"), Kids(l, "a/b"), Kids(l, "")} {
		for i := range out[:cap(out)] {
			out[:cap(out)][i] = -9
		}
	}
	if !slices.Equal(first, kidsAsTold(l, "")) || !slices.Equal(Kids(l, ""), first) || !slices.Equal(Kids(l, "a"), kidsAsTold(l, "a")) {
		t.Error("Kids share memory")
	}
	for _, p := range []string{"a/b/c", "a/b", "x/y/z/q/r", "a/b/c"} {
		out := Steps(p)
		for i := range out[:cap(out)] {
			out[:cap(out)][i] = "#"
		}
	}
	if !slices.Equal(steps, []string{"a", "b", "c"}) || !slices.Equal(Steps("a/b/c"), steps) {
		t.Error("Steps share memory")
	}
}

// R2: calls leave nothing behind, and may be made at once.
func TestAtOnce(t *testing.T) {
	l, no := forest(), []api.File{plain("a", ""), plain("a/b", "")}
	var all sync.WaitGroup
	for range 8 {
		all.Go(func() {
			for range 50 {
				if !Tree(l) || Tree(no) || !Same(l, l) || Same(l, no) || Size(l) != sizeAsTold(l) || !slices.Equal(Kids(l, "a"), []int{5, 6, 10, 11}) {
					t.Error("a list is told otherwise")
				}
				if above, has := Above("a/b"); !May("a/b") || May("a//b") || above != "a" || !has || len(Steps("a/b")) != 2 {
					t.Error("a path is told otherwise")
				}
			}
		})
	}
	all.Wait()
}
