package near

import (
	"errors"
	"fmt"
	"math"
	"slices"
	"strings"
	"testing"

	"coffer/api"
)

// called is an item without a tag.
func called(name string, at ...int) api.Item {
	return api.Item{Name: name, At: at}
}

// tagged is an item with a tag.
func tagged(name, tag string, at ...int) api.Item {
	return api.Item{Name: name, Tag: tag, At: at}
}

// same is one number, so many times.
func same(n, times int) []int {
	return slices.Repeat([]int{n}, times)
}

// copied is a list of which nothing is shared with the other one.
func copied(l []api.Item) []api.Item {
	var out []api.Item
	for _, x := range l {
		out = append(out, tagged(x.Name, x.Tag, slices.Clone(x.At)...))
	}
	return out
}

// die are numbers that look drawn, the same each time.
type die uint64

// n is a number below most.
func (d *die) n(most int) int {
	*d = *d*6364136223846793005 + 1442695040888963407
	return int(uint64(*d>>33) % uint64(most))
}

// point is one of so many numbers, often at a bound, or like others.
func (d *die) point(dim int) []int {
	var out []int
	for range dim {
		out = append(out, []int{-1000, 1000, 0, 3, -3, d.n(2001) - 1000}[d.n(6)])
	}
	return out
}

// items are so many, in no order, some of them with a tag.
func (d *die) items(dim, n int) []api.Item {
	var out []api.Item
	for i := range n {
		out = append(out, tagged(fmt.Sprint("n", i), []string{"", "t", "u"}[d.n(3)], d.point(dim)...))
	}
	for i := range out {
		k := d.n(n)
		out[i], out[k] = out[k], out[i]
	}
	return out
}

// wantError holds an error against the one that the document asks (api.OK: none).
func wantError(t *testing.T, what string, err error, want api.Errno) {
	t.Helper()
	if got := api.Tell(err); got != want {
		t.Errorf("%s: error %d, want %d", what, got, want)
	}
	var place *api.At
	if errors.As(err, &place) {
		t.Errorf("%s: the error has a place", what)
	}
}

// wantFar asks how far two points are, from either side.
func wantFar(t *testing.T, a, b []int, want int) {
	t.Helper()
	if got := Far(a, b); got != want {
		t.Errorf("Far(%v, %v) is %d, want %d", a, b, got, want)
	}
	if got := Far(b, a); got != want {
		t.Errorf("Far(%v, %v) is %d, want %d", b, a, got, want)
	}
}

// Promise 9.1, Far: the document's example, and others.
func TestFar(t *testing.T) {
	wantFar(t, []int{0, 0}, []int{3, 4}, 25)
	wantFar(t, []int{0}, []int{0}, 0)
	wantFar(t, []int{1}, []int{2}, 1)
	wantFar(t, []int{-1}, []int{1}, 4)
	wantFar(t, []int{-7}, []int{-10}, 9)
	wantFar(t, []int{1, 2, 3}, []int{3, 2, 1}, 8)
	wantFar(t, []int{1, 2, 3, 4, 5, 6, 7, 8}, []int{0, 0, 0, 0, 0, 0, 0, 0}, 204)
	wantFar(t, []int{5, -5, 9}, []int{5, -5, 9}, 0)
}

// Promise 9.1, Far: of nothing.
func TestFarOfNothing(t *testing.T) {
	for _, other := range [][]int{nil, {}, {0}, {1000}, {-1000, 3}, same(1000, 8)} {
		wantFar(t, nil, other, 0)
		wantFar(t, []int{}, other, 0)
	}
}

// Promise 9.1, Far: as far as both have a number; a longer row's rest is no matter.
func TestFarOfDifferentLength(t *testing.T) {
	wantFar(t, []int{1}, []int{4, 100}, 9)
	wantFar(t, []int{1, 2}, []int{4, 6, 1000, -1000}, 25)
	wantFar(t, []int{0, 0, 0}, []int{1, 2}, 5)
	long := []int{1, -2, 3, -4, 5, -6, 7, -8, 9, -10}
	sum := 0
	for size, n := range long {
		wantFar(t, long, make([]int, size), sum)
		sum += n * n
	}
	// What stands behind a row's length is none of its numbers.
	wantFar(t, long[:2], long[3:], 25+49)
	wantFar(t, long[:1], []int{0, 500}, 1)
}

// Promise 9.1, Far: at -MaxNum and MaxNum, of one number and of many.
func TestFarAtBounds(t *testing.T) {
	wantFar(t, []int{-1000}, []int{1000}, 4_000_000)
	wantFar(t, []int{-1000}, []int{-1000}, 0)
	wantFar(t, []int{1000}, []int{1000}, 0)
	wantFar(t, []int{0}, []int{1000}, 1_000_000)
	wantFar(t, []int{0}, []int{-1000}, 1_000_000)
	wantFar(t, []int{-1000}, []int{999}, 3_996_001)
	for dim := range 20 {
		wantFar(t, same(-1000, dim), same(1000, dim), 4_000_000*dim)
	}
}

// sign is below 0, 0 or above 0, told as -1, 0, 1.
func sign(n int) int {
	return min(max(n, -1), 1)
}

// Promise 9.1, Compare: each of these is ahead of all behind it, and alike to itself alone.
func TestCompare(t *testing.T) {
	rising := []api.Found{
		{Name: "", Far: 0}, {Name: "a", Far: 0}, {Name: "a0", Far: 0}, {Name: "a1", Far: 0}, {Name: "a10", Far: 0}, {Name: "a2", Far: 0}, {Name: "aa", Far: 0}, {Name: "ab", Far: 0}, {Name: "abc", Far: 0}, {Name: "b", Far: 0}, {Name: "z", Far: 0}, {Name: "z9", Far: 0},
		{Name: "", Far: 1}, {Name: "A", Far: 1}, {Name: "a", Far: 1}, {Name: "z", Far: 1}, {Name: "\x80", Far: 1}, {Name: "\xff", Far: 1},
		{Name: "a", Far: 2}, {Name: "a", Far: 9}, {Name: "a", Far: 10}, {Name: "a", Far: 99}, {Name: "a", Far: 256}, {Name: "z", Far: 31_999_999}, {Name: "a", Far: 32_000_000}, {Name: "a\x00", Far: 32_000_000},
	}
	for i, a := range rising {
		for j, b := range rising {
			if got := Compare(a, b); sign(got) != sign(i-j) {
				t.Errorf("Compare(%q, %q) is %d, want its sign %d", fmt.Sprint(a), fmt.Sprint(b), got, sign(i-j))
			}
		}
	}
}

// Promise 9.1, Compare: Far is compared, not what two of them differ by.
func TestCompareWideApart(t *testing.T) {
	least, most := api.Found{Name: "b", Far: math.MinInt}, api.Found{Name: "a", Far: math.MaxInt}
	if Compare(least, most) >= 0 || Compare(most, least) <= 0 {
		t.Errorf("the least is not ahead of the most")
	}
}

// wantRight asks whether something may be asked; and that Top says the same.
func wantRight(t *testing.T, dim int, at []int, k int, want bool) {
	t.Helper()
	what := fmt.Sprintf("%d, %v, %d", dim, at, k)
	if got := Right(dim, at, k); got != want {
		t.Errorf("Right(%s) is %v, want %v", what, got, want)
	}
	var l []api.Item
	if dim >= 1 && dim <= api.MaxDim {
		l = append(l, called("a", same(1, dim)...))
	}
	found, err := Top(dim, l, at, k, "")
	if want {
		wantError(t, "Top of "+what, err, api.OK)
		return
	}
	wantError(t, "Top of "+what, err, api.ErrArg)
	if len(found) != 0 {
		t.Errorf("Top of %s tells an error and %v", what, found)
	}
}

// Promise 9.1, Right: at has just dim numbers.
func TestRightDims(t *testing.T) {
	for dim := -2; dim <= api.MaxDim+2; dim++ {
		for size := range api.MaxDim + 4 {
			wantRight(t, dim, same(7, size), 1, size == dim)
		}
	}
	for _, dim := range []int{math.MinInt, -1 << 32, 1 << 32, 1<<32 + 1, math.MaxInt} {
		wantRight(t, dim, nil, 1, false)
		wantRight(t, dim, []int{1}, 1, false)
	}
}

// Promise 9.1, Right: dim of 0 has no numbers.
func TestRightOfNone(t *testing.T) {
	wantRight(t, 0, nil, 1, true)
	wantRight(t, 0, []int{}, api.MaxItems, true)
	wantRight(t, 0, []int{0}, 1, false)
	wantRight(t, 0, nil, 0, false)
	wantRight(t, 0, nil, api.MaxItems+1, false)
	wantRight(t, 1, nil, 1, false)
}

// Promise 9.1, Right: each number is from -MaxNum to MaxNum, wherever it stands.
func TestRightNumbers(t *testing.T) {
	for at := range api.MaxDim {
		l := same(5, api.MaxDim)
		for _, n := range []int{0, 1, -1, 999, -999, 1000, -1000} {
			l[at] = n
			wantRight(t, api.MaxDim, l, 1, true)
		}
		for _, n := range []int{1001, -1001, 10_000, 1 << 32, -1 << 32, math.MaxInt, math.MinInt} {
			l[at] = n
			wantRight(t, api.MaxDim, l, 1, false)
		}
	}
	// What stands behind at's length is none of its numbers.
	wantRight(t, 1, []int{1000, 1001}[:1], 1, true)
}

// Promise 9.1, Right: k is from 1 to MaxItems.
func TestRightHowMany(t *testing.T) {
	for k := -3; k <= api.MaxItems+3; k++ {
		wantRight(t, 2, []int{0, 0}, k, k >= 1 && k <= api.MaxItems)
	}
	for _, k := range []int{math.MinInt, -1 << 32, 1 << 32, 1<<32 + 1, math.MaxInt} {
		wantRight(t, 2, []int{0, 0}, k, false)
	}
}

// wantTop asks for what is found, and that nothing that was handed in is written into.
func wantTop(t *testing.T, dim int, l []api.Item, at []int, k int, tag string, want []api.Found) {
	t.Helper()
	what := fmt.Sprintf("Top(%d, %v, %v, %d, %q)", dim, l, at, k, tag)
	heldItems, heldAt := copied(l), slices.Clone(at)
	got, err := Top(dim, l, at, k, tag)
	wantError(t, what, err, api.OK)
	if !slices.Equal(got, want) {
		t.Errorf("%s is %v, want %v", what, got, want)
	}
	if fmt.Sprintf("%#v", copied(l)) != fmt.Sprintf("%#v", heldItems) || !slices.Equal(at, heldAt) {
		t.Errorf("%s changed what was handed in: %v, %v", what, l, at)
	}
}

// byHand are the nearest items, worked out otherwise than the program does: again and again the one ahead of all that are left.
func byHand(l []api.Item, at []int, k int, tag string) []api.Found {
	taken := map[int]bool{}
	var out []api.Found
	for len(out) < k {
		best, bestFar := -1, 0
		for i, x := range l {
			if taken[i] || tag != "" && tag != x.Tag {
				continue
			}
			far := 0
			for d := range at {
				far += (at[d] - x.At[d]) * (at[d] - x.At[d])
			}
			if best < 0 || far < bestFar || far == bestFar && x.Name < l[best].Name {
				best, bestFar = i, far
			}
		}
		if best < 0 {
			return out
		}
		taken[best] = true
		out = append(out, api.Found{Name: l[best].Name, Far: bestFar})
	}
	return out
}

// Promise 9.1, Top: of no items, and of one.
func TestTopOfFew(t *testing.T) {
	for _, k := range []int{1, 2, api.MaxItems} {
		for _, tag := range []string{"", "t", "no"} {
			wantTop(t, 2, nil, []int{0, 0}, k, tag, nil)
			wantTop(t, 2, []api.Item{}, []int{1000, -1000}, k, tag, nil)
			wantTop(t, 0, nil, nil, k, tag, nil)
		}
		one := []api.Item{tagged("a", "t", 3, 4)}
		wantTop(t, 2, one, []int{0, 0}, k, "", []api.Found{{Name: "a", Far: 25}})
		wantTop(t, 2, one, []int{3, 4}, k, "t", []api.Found{{Name: "a", Far: 0}})
		wantTop(t, 2, one, []int{0, 0}, k, "u", nil)
		wantTop(t, 1, []api.Item{called("a", -1000)}, []int{1000}, k, "", []api.Found{{Name: "a", Far: 4_000_000}})
	}
}

// Promise 9.1, Top: the first k, the nearest first; of fewer items than k all.
func TestTopFirst(t *testing.T) {
	l := []api.Item{called("a", 10), called("b", -2), called("c", 0), called("d", -1000), called("e", 3)}
	all := []api.Found{{Name: "c", Far: 0}, {Name: "b", Far: 4}, {Name: "e", Far: 9}, {Name: "a", Far: 100}, {Name: "d", Far: 1_000_000}}
	for _, k := range []int{1, 2, 3, 4, 5, 6, 7, api.MaxItems} {
		wantTop(t, 1, l, []int{0}, k, "", all[:min(k, len(all))])
	}
}

// Promise 9.1, Top: of items equally far the names tell, byte by byte, in whatever order they are handed in.
func TestTopEquallyFar(t *testing.T) {
	l := []api.Item{called("b", 3, 4), called("a10", 4, 3), called("a", -5, 0), called("a2", 0, 5), called("z9", 0, -5), called("z", 3, 4), called("m", -3, -4)}
	all := []api.Found{{Name: "a", Far: 25}, {Name: "a10", Far: 25}, {Name: "a2", Far: 25}, {Name: "b", Far: 25}, {Name: "m", Far: 25}, {Name: "z", Far: 25}, {Name: "z9", Far: 25}}
	for range l {
		l = append(l[1:len(l):len(l)], l[0])
		turned := copied(l)
		slices.Reverse(turned)
		for k := 1; k <= len(all)+1; k++ {
			wantTop(t, 2, l, []int{0, 0}, k, "", all[:min(k, len(all))])
			wantTop(t, 2, turned, []int{0, 0}, k, "", all[:min(k, len(all))])
		}
	}
}

// Promise 9.1, Top: a tag that some have, all, or none; the empty tag is any.
func TestTopOfTag(t *testing.T) {
	l := []api.Item{tagged("a", "t", 1), tagged("b", "", 2), tagged("c", "tt", 3), tagged("d", "t", 4), tagged("e", "u", 5)}
	wantTop(t, 1, l, []int{0}, 9, "", []api.Found{{Name: "a", Far: 1}, {Name: "b", Far: 4}, {Name: "c", Far: 9}, {Name: "d", Far: 16}, {Name: "e", Far: 25}})
	wantTop(t, 1, l, []int{0}, 2, "", []api.Found{{Name: "a", Far: 1}, {Name: "b", Far: 4}})
	wantTop(t, 1, l, []int{0}, 9, "t", []api.Found{{Name: "a", Far: 1}, {Name: "d", Far: 16}})
	wantTop(t, 1, l, []int{9}, 1, "t", []api.Found{{Name: "d", Far: 25}})
	wantTop(t, 1, l, []int{0}, 9, "tt", []api.Found{{Name: "c", Far: 9}})
	wantTop(t, 1, l, []int{0}, 1, "u", []api.Found{{Name: "e", Far: 25}})
	for _, tag := range []string{"a", "ttt", "T", " ", "t ", "-", "\x00", "t\x00", "no", strings.Repeat("t", 100_000)} {
		wantTop(t, 1, l, []int{0}, 9, tag, nil)
	}
	all := []api.Item{tagged("a", "t", 1), tagged("b", "t", 2)}
	wantTop(t, 1, all, []int{0}, 9, "t", []api.Found{{Name: "a", Far: 1}, {Name: "b", Far: 4}})
}

// Promise 9.1, Top: ErrArg, and nothing beside it, of what is not Right, whatever the items are.
func TestTopNotRight(t *testing.T) {
	d := die(1)
	for _, l := range [][]api.Item{nil, {called("a", 0, 0)}, d.items(2, api.MaxItems)} {
		for _, x := range []struct {
			dim int
			at  []int
			k   int
		}{
			{2, nil, 1}, {2, []int{0}, 1}, {2, []int{0, 0, 0}, 1}, {1, []int{0, 0}, 1}, {3, []int{0, 0}, 1}, {0, []int{0, 0}, 1}, {-2, []int{0, 0}, 1},
			{2, []int{1001, 0}, 1}, {2, []int{0, -1001}, 1}, {2, []int{0, 0}, 0}, {2, []int{0, 0}, -1}, {2, []int{0, 0}, 61}, {2, []int{1001}, 0},
		} {
			for _, tag := range []string{"", "t", "no"} {
				got, err := Top(x.dim, l, x.at, x.k, tag)
				wantError(t, fmt.Sprint(x), err, api.ErrArg)
				if len(got) != 0 {
					t.Errorf("%v: an error, and %v", x, got)
				}
			}
		}
	}
}

// Promise 9.1, Top: many points of every dim, held against what is worked out by hand.
func TestTopOfMany(t *testing.T) {
	d := die(7)
	for range 400 {
		dim := 1 + d.n(api.MaxDim)
		l := d.items(dim, d.n(api.MaxItems+1))
		at, k, tag := d.point(dim), 1+d.n(api.MaxItems), []string{"", "t", "u", "v"}[d.n(4)]
		wantTop(t, dim, l, at, k, tag, byHand(l, at, k, tag))
	}
	// There may be more items than MaxItems: it bounds k.
	l, at := d.items(3, 5000), d.point(3)
	for _, k := range []int{1, 59, 60} {
		wantTop(t, 3, l, at, k, "t", byHand(l, at, k, "t"))
	}
}

// P4: items behind the list's length are neither looked at nor written into.
func TestTopBehindTheLength(t *testing.T) {
	l := []api.Item{called("c", 3), called("b", 2), called("a", 1), called("z", 0)}
	wantTop(t, 1, l[:2], []int{0}, 9, "", []api.Found{{Name: "b", Far: 4}, {Name: "c", Far: 9}})
	for i, name := range []string{"c", "b", "a", "z"} {
		if l[i].Name != name || l[i].At[0] != 3-i {
			t.Errorf("item %d is %v now", i, l[i])
		}
	}
}

// P4: an answer is the caller's, and shares no memory with another one.
func TestTopIsFresh(t *testing.T) {
	l := []api.Item{called("a", 1), called("b", 2), called("c", 3)}
	want := []api.Found{{Name: "a", Far: 1}, {Name: "b", Far: 4}}
	first, _ := Top(1, l, []int{0}, 2, "")
	second, _ := Top(1, l, []int{0}, 2, "")
	clear(first[:cap(first)])
	if !slices.Equal(second, want) {
		t.Errorf("the second answer is %v, want %v", second, want)
	}
	wantTop(t, 1, l, []int{0}, 2, "", want)
}

// P1: also of items that are not Right, every call ends, and none panics.
func TestNothingPanics(t *testing.T) {
	wild := []api.Item{{}, called("a"), called("", 1, 2, 3), called("a", math.MinInt), called("b", math.MaxInt, math.MinInt), called("a", same(1, 1000)...), tagged("\xff", "\xff", 1)}
	for dim := range 12 {
		for _, tag := range []string{"", "\xff", "t"} {
			got, err := Top(dim, wild, same(1, dim), 60, tag)
			wantError(t, fmt.Sprint("dim ", dim), err, api.OK)
			if len(got) > len(wild) {
				t.Errorf("dim %d: more is found than there is: %v", dim, got)
			}
		}
	}
	Far([]int{math.MinInt, math.MaxInt}, []int{math.MaxInt, math.MinInt})
}
