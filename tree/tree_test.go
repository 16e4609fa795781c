package tree

import (
	"crypto/sha256"
	"encoding/binary"
	"errors"
	"fmt"
	"math"
	"slices"
	"strings"
	"testing"

	"coffer/api"
	"coffer/sum"
)

// counted is a list of that many marks of which no two are alike: 16 times 0, 16 times 1, and so on.
func counted(size int) []string {
	var l []string
	for i := range size {
		l = append(l, strings.Repeat(string([]byte{byte(i)}), api.MarkSize))
	}
	return l
}

// with is a copy of a list with another text at one place.
func with(l []string, at int, s string) []string {
	out := slices.Clone(l)
	out[at] = s
	return out
}

// both works u(a, b) out by the library, not by the program.
func both(a, b string) string {
	all := []byte{'u'}
	for _, p := range []string{a, b} {
		all = binary.BigEndian.AppendUint64(all, uint64(len(p)))
		all = append(all, p...)
	}
	h := sha256.Sum256(all)
	return string(h[:api.MarkSize])
}

// bound is the mark that binds a list whose length is a power of two: that of its two halves.
func bound(l []string) string {
	if len(l) == 1 {
		return l[0]
	}
	return both(bound(l[:len(l)/2]), bound(l[len(l)/2:]))
}

// beside is the path of number k: of each half that k is in, from the narrowest on, the other half's mark.
func beside(l []string, k int) []string {
	if len(l) == 1 {
		return nil
	}
	if half := len(l) / 2; k < half {
		return append(beside(l[:half], k), bound(l[half:]))
	} else {
		return append(beside(l[half:], k-half), bound(l[:half]))
	}
}

// climbed is the mark to which one comes from a mark, of whatever length, along a path, of whatever length.
func climbed(mark string, k int, path []string) string {
	for _, other := range path {
		if k&1 == 0 {
			mark = both(mark, other)
		} else {
			mark = both(other, mark)
		}
		k >>= 1
	}
	return mark
}

// wantError holds an error against the one that the document asks (api.OK: none).
func wantError(t *testing.T, what string, err error, want api.Errno) {
	t.Helper()
	if got := api.Tell(err); got != want {
		t.Errorf("%s: error %d, want %d", what, got, want)
	}
	var place *api.At
	if errors.As(err, &place) {
		t.Errorf("%s: the error has a place", what)
	}
}

// rootOf asks for a root, and that there is one.
func rootOf(t *testing.T, l []string) string {
	t.Helper()
	root, err := Root(l)
	wantError(t, "Root", err, api.OK)
	return root
}

// pathOf asks for a path, and that there is one.
func pathOf(t *testing.T, l []string, k int) []string {
	t.Helper()
	path, err := Path(l, k)
	wantError(t, fmt.Sprint("Path of ", k), err, api.OK)
	return path
}

// noRoot asks that Root tells ErrArg, and nothing beside it.
func noRoot(t *testing.T, what string, l []string) {
	t.Helper()
	root, err := Root(l)
	wantError(t, "Root, "+what, err, api.ErrArg)
	if root != "" {
		t.Errorf("Root, %s: %x beside an error", what, root)
	}
}

// noPath asks that Path tells an error, and nothing beside it.
func noPath(t *testing.T, what string, l []string, k int, want api.Errno) {
	t.Helper()
	path, err := Path(l, k)
	wantError(t, "Path, "+what, err, want)
	if path != nil {
		t.Errorf("Path, %s: %x beside an error", what, path)
	}
}

// wantVerified holds what Verify says against what the document asks.
func wantVerified(t *testing.T, what, root, mark string, k int, path []string, want bool) {
	t.Helper()
	if got := Verify(root, mark, k, path); got != want {
		t.Errorf("Verify, %s: %t, want %t", what, got, want)
	}
}

// Promise 5.1: roots and paths that another program, written by the document, told.
func TestKnownTrees(t *testing.T) {
	l := counted(api.Pages)
	if got := sum.Hex(rootOf(t, l)); got != "6dba25a6c6822db835bafef17cc89fc2" {
		t.Errorf("the root of counted marks is %s", got)
	}
	zeros := slices.Repeat([]string{strings.Repeat("\x00", api.MarkSize)}, api.Pages)
	if got := sum.Hex(rootOf(t, zeros)); got != "897b55c96b70b015388138dfa7853162" {
		t.Errorf("the root of zeros is %s", got)
	}
	for _, c := range []struct {
		k    int
		want string
	}{
		{0, "01010101010101010101010101010101 55ae7fe9018eac79a6e423b55d39f3be 06f4c1388bd374df0bf78d935a4e6484 b89e7f44e9f94578bc1437e7999ed7c1 8f47ee4d786f1720895ce62f29b15a51"},
		{13, "0c0c0c0c0c0c0c0c0c0c0c0c0c0c0c0c 227a0072a9bdeca2c2996ceb85689594 850ad8fc36af8c135dde77ddbbcacbda cf0e131877bd2569dd8a562ef67c267a 8f47ee4d786f1720895ce62f29b15a51"},
		{31, "1e1e1e1e1e1e1e1e1e1e1e1e1e1e1e1e 6ac99a4296d7d6e93db920ff855c18ca 6bac3de9b395094d475bfcba6ed87f3d 817f4a9303c0504c9e114f882465832f cd6d79a12c56ff6b3ba44e1ce832e5e0"},
	} {
		var got []string
		for _, m := range pathOf(t, l, c.k) {
			got = append(got, sum.Hex(m))
		}
		if strings.Join(got, " ") != c.want {
			t.Errorf("the path of %d is %s, want %s", c.k, got, c.want)
		}
	}
}

// Promise 5.1: every place's mark and order is in the root, and each path is as the document tells.
func TestRootsAndPaths(t *testing.T) {
	l := counted(api.Pages)
	seen := map[string]string{}
	for at := range api.Pages {
		for _, mark := range []string{l[at], strings.Repeat("x", 16), strings.Repeat("\xff", 15) + "x"} {
			changed := with(l, at, mark)
			root := rootOf(t, changed)
			if want := bound(changed); root != want {
				t.Errorf("%q at %d: the root is %x, want %x", mark, at, root, want)
			}
			what := fmt.Sprint(changed)
			if seen[root] != "" && seen[root] != what {
				t.Errorf("%q at %d: another list has that root", mark, at)
			}
			seen[root] = what
			for k := range api.Pages {
				if got, want := pathOf(t, changed, k), beside(changed, k); !slices.Equal(got, want) {
					t.Errorf("%q at %d: the path of %d is %x, want %x", mark, at, k, got, want)
				}
			}
		}
	}
	slices.Reverse(l)
	if root := rootOf(t, l); root != bound(l) || seen[root] != "" {
		t.Errorf("backwards the root is %x", root)
	}
}

// Promise 5.1: there are Pages marks, no fewer and no more.
func TestListsOfOtherLengths(t *testing.T) {
	noRoot(t, "nil", nil)
	noPath(t, "nil", nil, 0, api.ErrArg)
	for _, size := range []int{0, 1, 2, 16, 31, 33, 64} {
		what := fmt.Sprint(size, " marks")
		noRoot(t, what, counted(size)[:size:size])
		for _, k := range []int{0, size - 1, 31} {
			noPath(t, what, counted(size), k, api.ErrArg)
		}
	}
	// Where the list ends is told by its length, not by what stands behind it.
	noRoot(t, "31 marks of 32", counted(32)[:31])
	noPath(t, "31 marks of 32", counted(32)[:31], 0, api.ErrArg)
	if got, want := rootOf(t, counted(33)[:32]), bound(counted(32)); got != want {
		t.Errorf("32 marks of 33: the root is %x, want %x", got, want)
	}
}

// Promise 5.1: a mark has 16 bytes, at each place.
func TestTextsThatAreNoMarks(t *testing.T) {
	for at := range api.Pages {
		for _, size := range []int{0, 1, 15, 17, 32} {
			what := fmt.Sprint(size, " bytes at ", at)
			l := with(counted(api.Pages), at, strings.Repeat("m", size))
			noRoot(t, what, l)
			for _, k := range []int{0, at, at ^ 1, 31} {
				noPath(t, what, l, k, api.ErrArg)
			}
		}
	}
	// Two that have 16 bytes each on the average are none.
	l := with(with(counted(api.Pages), 3, strings.Repeat("m", 15)), 4, strings.Repeat("m", 17))
	noRoot(t, "15 and 17 bytes", l)
	noPath(t, "15 and 17 bytes", l, 0, api.ErrArg)
}

// Promise 5.1: places are from 0 to Pages - 1; a list that is none is told ahead of a place that is none.
func TestPlaces(t *testing.T) {
	l := counted(api.Pages)
	root := rootOf(t, l)
	for _, k := range []int{0, 31} {
		if got := pathOf(t, l, k); len(got) != 5 {
			t.Errorf("the path of %d has %d marks", k, len(got))
		}
	}
	for _, k := range []int{-1, -2, -32, 32, 33, 64, 1 << 32, math.MinInt, math.MaxInt} {
		what := fmt.Sprint("place ", k)
		noPath(t, what, l, k, api.ErrRange)
		noPath(t, what+", no list", nil, k, api.ErrArg)
		noPath(t, what+", a short list", l[:31], k, api.ErrArg)
		noPath(t, what+", a long list", counted(33), k, api.ErrArg)
		noPath(t, what+", a short mark", with(l, 9, strings.Repeat("m", 15)), k, api.ErrArg)
		noPath(t, what+", a long mark", with(l, 9, strings.Repeat("m", 17)), k, api.ErrArg)
		// The place's last five bits alone would lead to the root.
		own := k & 31
		wantVerified(t, fmt.Sprint(what, " as ", own), root, l[own], k, pathOf(t, l, own), false)
		for _, path := range [][]string{pathOf(t, l, 0), pathOf(t, l, 31)} {
			wantVerified(t, what, root, l[0], k, path, false)
			wantVerified(t, what+", its own root", climbed(l[0], k, path), l[0], k, path, false)
		}
	}
}

// Promise 5.1, what is to be true of the whole, 2: each is proved, at its place, and nothing else.
func TestEachIsProvedAndNothingElse(t *testing.T) {
	l := counted(api.Pages)
	root := rootOf(t, l)
	for k := range api.Pages {
		path := pathOf(t, l, k)
		for other := range api.Pages {
			wantVerified(t, fmt.Sprint(k, " as ", other), root, l[k], other, path, other == k)
			wantVerified(t, fmt.Sprint(other, "'s mark as ", k), root, l[other], k, path, other == k)
			wantVerified(t, fmt.Sprint(k, " along ", other, "'s path"), root, l[k], k, pathOf(t, l, other), other == k)
		}
	}
}

// Promise 5.1: of a mark that is at two places, one place's path does not prove the other one.
func TestOneMarkAtTwoPlaces(t *testing.T) {
	for _, c := range [][2]int{{0, 2}, {4, 7}, {0, 31}, {15, 16}, {30, 28}, {9, 25}} {
		l := counted(api.Pages)
		l[c[1]] = l[c[0]]
		root := rootOf(t, l)
		for _, k := range c {
			for _, as := range c {
				wantVerified(t, fmt.Sprint(k, " as ", as), root, l[k], as, pathOf(t, l, k), as == k)
			}
		}
	}
	// Where all are alike, so are all paths: each proves every place, as it is so.
	l := slices.Repeat([]string{strings.Repeat("m", 16)}, api.Pages)
	root := rootOf(t, l)
	for k := range api.Pages {
		wantVerified(t, fmt.Sprint("all alike, ", k), root, l[0], k, pathOf(t, l, 31-k), true)
	}
}

// Promise 5.1: a path has five marks, even if another one leads to the root.
func TestPathsOfOtherLengths(t *testing.T) {
	l := counted(api.Pages)
	root := rootOf(t, l)
	for _, k := range []int{0, 1, 15, 16, 30, 31} {
		path := pathOf(t, l, k)
		for size := range 5 {
			what := fmt.Sprint(size, " marks, place ", k)
			wantVerified(t, what, root, l[k], k, path[:size], false)
			wantVerified(t, what+", their own root", climbed(l[k], k, path[:size]), l[k], k, path[:size], false)
			inner := climbed(l[k], k, path[:5-size])
			wantVerified(t, what+", from within", root, inner, k>>(5-size), path[5-size:], false)
		}
		long := append(slices.Clone(path), l[7])
		wantVerified(t, fmt.Sprint("six marks, place ", k), root, l[k], k, long, false)
		wantVerified(t, fmt.Sprint("six marks, their own root, place ", k), climbed(l[k], k, long), l[k], k, long, false)
		wantVerified(t, fmt.Sprint("six marks, the first one twice, place ", k), root, l[k], k, append(path[:1:1], path...), false)
	}
	wantVerified(t, "the root itself", root, root, 0, nil, false)
	wantVerified(t, "the root itself, no marks", root, root, 0, []string{}, false)
	wantVerified(t, "nothing at all", "", "", 0, nil, false)
}

// Promise 5.1: what is no mark is not proved, even if it leads to the root.
func TestMarksOfOtherLengths(t *testing.T) {
	l := counted(api.Pages)
	root := rootOf(t, l)
	for _, k := range []int{0, 1, 18, 31} {
		path := pathOf(t, l, k)
		for _, size := range []int{0, 1, 15, 17, 32} {
			what := fmt.Sprint(size, " bytes, place ", k)
			odd := strings.Repeat("m", size)
			wantVerified(t, what, root, odd, k, path, false)
			wantVerified(t, what+", its own root", climbed(odd, k, path), odd, k, path, false)
			for at := range path {
				changed := with(path, at, odd)
				wantVerified(t, fmt.Sprint(what, ", in the path at ", at), root, l[k], k, changed, false)
				wantVerified(t, fmt.Sprint(what, ", in the path at ", at, ", its own root"), climbed(l[k], k, changed), l[k], k, changed, false)
			}
		}
		wantVerified(t, "a byte is missing", root, l[k][:15], k, path, false)
		wantVerified(t, "a byte behind it", root, l[k]+"\x00", k, path, false)
	}
}

// Promise 5.1: any other root, and any other mark or path, is not the one.
func TestOtherRoots(t *testing.T) {
	l := counted(api.Pages)
	root := rootOf(t, l)
	k := 21
	path := pathOf(t, l, k)
	for _, other := range []string{"", root[:15], root + "\x00", root + root, root[1:], sum.Hex(root), l[k], path[4], rootOf(t, with(l, 5, l[6]))} {
		wantVerified(t, fmt.Sprintf("root %x", other), other, l[k], k, path, false)
	}
	for bit := range 8 * api.MarkSize {
		wantVerified(t, fmt.Sprint("bit ", bit, " of the root"), turned(root, bit), l[k], k, path, false)
		wantVerified(t, fmt.Sprint("bit ", bit, " of the mark"), root, turned(l[k], bit), k, path, false)
		for at := range path {
			wantVerified(t, fmt.Sprint("bit ", bit, " of the path at ", at), root, l[k], k, with(path, at, turned(path[at], bit)), false)
		}
	}
	backwards := slices.Clone(path)
	slices.Reverse(backwards)
	wantVerified(t, "the path backwards", root, l[k], k, backwards, false)
	// Verify asks where one comes to, not whether a list has it: any five marks have a root.
	wantVerified(t, "marks of no list", climbed(l[3], k, l[:5]), l[3], k, l[:5], true)
}

// turned is a text with one bit turned.
func turned(s string, bit int) string {
	b := []byte(s)
	b[bit/8] ^= 1 << (bit % 8)
	return string(b)
}

// P4: lists that are handed in stay as they are, and what stands behind their length too.
func TestListsStayAsTheyAre(t *testing.T) {
	whole := counted(40)
	before := slices.Clone(whole)
	root := rootOf(t, whole[:32])
	for k := range api.Pages {
		path := append(pathOf(t, whole[:32], k), "behind", "it")
		held := slices.Clone(path)
		wantVerified(t, fmt.Sprint("place ", k), root, whole[k], k, path[:5], true)
		if !slices.Equal(path, held) {
			t.Errorf("the path of %d was %x, and is %x", k, held, path)
		}
	}
	if !slices.Equal(whole, before) {
		t.Errorf("the list was %x, and is %x", before, whole)
	}
}

// P4: a path is the caller's: who writes into it changes neither the list nor another path.
func TestPathsAreFresh(t *testing.T) {
	l := counted(api.Pages)
	before := slices.Clone(l)
	for k := range api.Pages {
		first, second := pathOf(t, l, k), pathOf(t, l, k)
		held := slices.Clone(second)
		clear(first[:cap(first)])
		if !slices.Equal(second, held) || !slices.Equal(l, before) || !slices.Equal(pathOf(t, l, k), held) {
			t.Errorf("the path of %d is not the caller's", k)
		}
	}
}

// A row that is gone through by two and two may be left.
func TestPairs(t *testing.T) {
	row := []string{"a", "b", "c", "d", "e", "f"}
	var got []string
	for a, b := range pairs(row) {
		got = append(got, a+b)
		if a == "c" {
			break
		}
	}
	if !slices.Equal(got, []string{"ab", "cd"}) {
		t.Errorf("two and two are %q", got)
	}
}
