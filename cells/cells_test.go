package cells

import (
	"errors"
	"fmt"
	"math"
	"slices"
	"testing"

	"coffer/api"
	"coffer/near"
)

// called is an item without a tag.
func called(name string, at ...int) api.Item {
	return api.Item{Name: name, At: at}
}

// tagged is an item with a tag.
func tagged(name, tag string, at ...int) api.Item {
	return api.Item{Name: name, Tag: tag, At: at}
}

// same is one number, so many times.
func same(n, times int) []int {
	return slices.Repeat([]int{n}, times)
}

// copied is a list of which nothing is shared with the other one.
func copied(l []api.Item) []api.Item {
	var out []api.Item
	for _, x := range l {
		out = append(out, tagged(x.Name, x.Tag, slices.Clone(x.At)...))
	}
	return out
}

// die are numbers that look drawn, the same each time.
type die uint64

// n is a number below most.
func (d *die) n(most int) int {
	*d = *d*6364136223846793005 + 1442695040888963407
	return int(uint64(*d>>33) % uint64(most))
}

// drawn is a number, often a bound, or one at a cell's edge.
func (d *die) drawn() int {
	return []int{-1000, 1000, -999, 999, 0, -1, 1, 249, 250, -250, -251, 500, -501, 750, -751, d.n(2001) - 1000}[d.n(16)]
}

// point is one of so many numbers.
func (d *die) point(dim int) []int {
	var out []int
	for range dim {
		out = append(out, d.drawn())
	}
	return out
}

// items are so many, in no order, some of them with a tag.
func (d *die) items(dim, n int) []api.Item {
	var out []api.Item
	for i := range n {
		out = append(out, tagged(fmt.Sprint("n", i), []string{"", "t", "u"}[d.n(3)], d.point(dim)...))
	}
	for i := range out {
		k := d.n(n)
		out[i], out[k] = out[k], out[i]
	}
	return out
}

// wantError holds an error against the one that the document asks (api.OK: none).
func wantError(t *testing.T, what string, err error, want api.Errno) {
	t.Helper()
	if got := api.Tell(err); got != want {
		t.Errorf("%s: error %d, want %d", what, got, want)
	}
	var place *api.At
	if errors.As(err, &place) {
		t.Errorf("%s: the error has a place", what)
	}
}

// wantTop asks that cells find just what near does, having looked at no less than what they tell, at no more than all; it tells at how many.
func wantTop(t *testing.T, c *Cells, dim int, l []api.Item, at []int, k int, tag string) int {
	t.Helper()
	what := fmt.Sprintf("Top of %d, %v: %v, %d, %q", dim, l[:min(len(l), api.MaxItems)], at, k, tag)
	want, wantErr := near.Top(dim, l, at, k, tag)
	heldAt := slices.Clone(at)
	got, looked, err := c.Top(at, k, tag)
	wantError(t, what, err, api.Tell(wantErr))
	if !slices.Equal(got, want) {
		t.Errorf("%s is %v, want %v", what, got, want)
	}
	if looked < len(got) || looked > len(l) || err != nil && looked != 0 {
		t.Errorf("%s looked at %d, found %d", what, looked, len(got))
	}
	if !slices.Equal(at, heldAt) {
		t.Errorf("%s: the point is %v now", what, at)
	}
	return looked
}

// wantAlike asks cells of items for many points, hows many and tags.
func wantAlike(t *testing.T, dim int, l []api.Item, points [][]int) {
	t.Helper()
	held := copied(l)
	c := New(dim, l)
	for _, at := range points {
		for _, k := range []int{1, 2, 3, len(l) - 1, len(l), len(l) + 1, api.MaxItems} {
			for _, tag := range []string{"", "t", "u", "no"} {
				wantTop(t, c, dim, l, at, k, tag)
			}
		}
	}
	if fmt.Sprintf("%#v", copied(l)) != fmt.Sprintf("%#v", held) {
		t.Errorf("the items were changed: %v, want %v", l, held)
	}
}

// Promise 10.1: dim of 0, and of no items.
func TestNoItems(t *testing.T) {
	for dim := range api.MaxDim + 1 {
		for _, l := range [][]api.Item{nil, {}} {
			wantAlike(t, dim, l, [][]int{same(0, dim), same(1000, dim), same(0, dim+1)})
			got, looked, err := New(dim, l).Top(same(0, dim), 1, "")
			wantError(t, fmt.Sprint("dim ", dim), err, api.OK)
			if len(got) != 0 || looked != 0 {
				t.Errorf("dim %d: found %v, looked at %d", dim, got, looked)
			}
		}
	}
}

// Promise 10.1 and P1: a zero value has no items, of dim 0; nor has what is nil.
func TestZeroValue(t *testing.T) {
	for what, c := range map[string]*Cells{"zero value": {}, "nil": nil, "New": New(0, nil)} {
		for _, k := range []int{1, api.MaxItems} {
			got, looked, err := c.Top(nil, k, "")
			wantError(t, what, err, api.OK)
			if len(got) != 0 || looked != 0 {
				t.Errorf("%s: found %v, looked at %d", what, got, looked)
			}
		}
		wantRefused(t, c, []int{0}, 1)
		wantRefused(t, c, nil, 0)
	}
}

// Promise 10.1: of one item, wherever it is.
func TestOneItem(t *testing.T) {
	numbers := []int{-1000, -999, -751, -750, -251, -250, -249, -1, 0, 1, 249, 250, 251, 749, 750, 999, 1000}
	for _, n := range numbers {
		for _, dim := range []int{1, 2, api.MaxDim} {
			l := []api.Item{tagged("a", "t", same(n, dim)...)}
			var points [][]int
			for _, m := range numbers {
				points = append(points, same(m, dim))
			}
			wantAlike(t, dim, l, points)
		}
	}
	got, looked, err := New(2, []api.Item{called("a", 3, 4)}).Top([]int{0, 0}, 1, "")
	wantError(t, "one", err, api.OK)
	if !slices.Equal(got, []api.Found{{Name: "a", Far: 25}}) || looked != 1 {
		t.Errorf("found %v, looked at %d", got, looked)
	}
}

// Promise 10.1: many in one place are told by name, and all of them are looked at.
func TestManyInOnePlace(t *testing.T) {
	for _, n := range []int{-1000, -250, 0, 249, 1000} {
		var l []api.Item
		for i := range api.MaxItems {
			l = append(l, tagged(fmt.Sprint("n", (i*7)%api.MaxItems), []string{"", "t"}[i%2], same(n, 3)...))
		}
		wantAlike(t, 3, l, [][]int{same(n, 3), same(0, 3), same(-1000, 3), same(1000, 3)})
		if looked := wantTop(t, New(3, l), 3, l, same(n, 3), 1, ""); looked != len(l) {
			t.Errorf("items at %d: looked at %d", n, looked)
		}
	}
}

// Promise 10.1: of many that are wide apart not all are looked at (truth 6 of the whole).
func TestManyWideApart(t *testing.T) {
	var l []api.Item
	var points [][]int
	for x := -1000; x <= 1000; x += 400 {
		for y := -1000; y <= 1000; y += 400 {
			l = append(l, tagged(fmt.Sprint("n", len(l)), []string{"", "t", "u"}[len(l)%3], x, y))
			points = append(points, []int{x, y}, []int{x / 2, y / 3})
		}
	}
	wantAlike(t, 2, l, points)
	c := New(2, l)
	for _, x := range l {
		if looked := wantTop(t, c, 2, l, x.At, 1, ""); looked != 1 {
			t.Errorf("at %v: looked at %d of %d", x.At, looked, len(l))
		}
	}
	// If as many are asked as there are, each must be looked at.
	if looked := wantTop(t, c, 2, l, []int{0, 0}, len(l), ""); looked != len(l) {
		t.Errorf("all: looked at %d of %d", looked, len(l))
	}
	for dim := 1; dim <= api.MaxDim; dim++ {
		l := []api.Item{called("a", same(-1000, dim)...), called("b", same(0, dim)...), called("c", same(1000, dim)...)}
		for _, x := range l {
			if looked := wantTop(t, New(dim, l), dim, l, x.At, 1, ""); looked != 1 {
				t.Errorf("dim %d, at %v: looked at %d", dim, x.At, looked)
			}
		}
	}
}

// Promise 10.1: items at the bounds, and all other corners of the whole.
func TestItemsAtBounds(t *testing.T) {
	for dim := 1; dim <= 4; dim++ {
		var l []api.Item
		var points [][]int
		for bits := range 1 << dim {
			var at []int
			for i := range dim {
				at = append(at, []int{-api.MaxNum, api.MaxNum}[bits>>i&1])
			}
			l = append(l, tagged(fmt.Sprint("n", bits), []string{"", "t"}[bits%2], at...))
			points = append(points, at)
		}
		wantAlike(t, dim, l, append(points, same(0, dim), same(1, dim), same(-1, dim)))
	}
}

// Promise 10.1: one that is just as far goes ahead by its name, also from a cell that is just as far.
func TestEquallyFarAcrossEdges(t *testing.T) {
	for _, edge := range []int{-750, -500, -250, 0, 250, 500, 750, 1000} {
		for _, names := range [][]string{{"a", "b"}, {"b", "a"}} {
			for apart := range 4 {
				// The point lies in one cell, an item as far from it in that cell, another one in the next one.
				for _, at := range []int{edge - 1, edge} {
					low, high := at-apart, at+apart
					if high > api.MaxNum {
						continue
					}
					l := []api.Item{called(names[0], low), called(names[1], high)}
					c := New(1, l)
					for _, k := range []int{1, 2} {
						wantTop(t, c, 1, l, []int{at}, k, "")
					}
				}
			}
		}
	}
}

// Promise 10.1: in one dim, each number and each point of a range over several cells.
func TestEachNumber(t *testing.T) {
	var l []api.Item
	for n := -api.MaxNum; n <= api.MaxNum; n += 7 {
		l = append(l, tagged(fmt.Sprint("n", n+api.MaxNum), []string{"", "t"}[n&1], n))
	}
	c := New(1, l)
	for n := -api.MaxNum; n <= api.MaxNum; n++ {
		if looked := wantTop(t, c, 1, l, []int{n}, 2, ""); looked == len(l) {
			t.Errorf("at %d: all were looked at", n)
		}
		wantTop(t, c, 1, l, []int{n}, 60, "t")
	}
}

// Promise 10.1: many points of every dim are found as near finds them.
func TestAsNearFinds(t *testing.T) {
	d := die(11)
	for range 300 {
		dim := 1 + d.n(api.MaxDim)
		wantAlike(t, dim, d.items(dim, d.n(api.MaxItems+1)), [][]int{d.point(dim), d.point(dim), same(0, dim)})
	}
	l := d.items(3, 5000)
	wantAlike(t, 3, l, [][]int{d.point(3), d.point(3), same(0, 3)})
}

// wantRefused asks that something may not be asked, and that nothing is told beside the error.
func wantRefused(t *testing.T, c *Cells, at []int, k int) {
	t.Helper()
	for _, tag := range []string{"", "t", "no"} {
		what := fmt.Sprintf("Top of %v, %d, %q", at, k, tag)
		got, looked, err := c.Top(at, k, tag)
		wantError(t, what, err, api.ErrArg)
		if len(got) != 0 || looked != 0 {
			t.Errorf("%s: an error, and %v, %d", what, got, looked)
		}
	}
}

// Promise 10.1: ErrArg, and nothing beside it, of what is not Right.
func TestNotRight(t *testing.T) {
	d := die(3)
	for _, n := range []int{0, 1, api.MaxItems} {
		l := d.items(2, n)
		c := New(2, l)
		for _, at := range [][]int{nil, {}, {0}, {0, 0, 0}, {1001, 0}, {0, -1001}, {math.MinInt, 0}, {0, math.MaxInt}} {
			for _, k := range []int{-1, 0, 1, api.MaxItems, api.MaxItems + 1} {
				wantRefused(t, c, at, k)
			}
		}
		for _, k := range []int{math.MinInt, -1, 0, api.MaxItems + 1, math.MaxInt} {
			wantRefused(t, c, []int{0, 0}, k)
		}
		for _, at := range [][]int{{0, 0}, {1000, -1000}, {-1000, 1000}} {
			wantTop(t, c, 2, l, at, 1, "")
			wantTop(t, c, 2, l, at, api.MaxItems, "")
		}
	}
	// Dim is New's, not the items'.
	wantRefused(t, New(3, nil), []int{0, 0}, 1)
	wantRefused(t, New(1, nil), []int{0, 0}, 1)
	wantRefused(t, New(-1, nil), nil, 1)
}

// P4: what is told, and of how many, hangs neither on the order in which the items stood, nor on what was asked ahead.
func TestOrderIsNoMatter(t *testing.T) {
	d := die(5)
	l := d.items(2, 40)
	turned := copied(l)
	slices.Reverse(turned)
	rising := copied(l)
	slices.SortFunc(rising, func(a, b api.Item) int { return slices.Compare(a.At, b.At) })
	c := New(2, l)
	for range 50 {
		at, k := d.point(2), 1+d.n(10)
		want := wantTop(t, c, 2, l, at, k, "")
		for what, other := range map[string]*Cells{"again": c, "turned": New(2, turned), "rising": New(2, rising)} {
			if looked := wantTop(t, other, 2, l, at, k, ""); looked != want {
				t.Errorf("%s, at %v, %d: looked at %d, want %d", what, at, k, looked, want)
			}
		}
	}
}

// P4: the list that was handed in is not kept, nor what stands behind its length asked.
func TestListIsTheCallers(t *testing.T) {
	d := die(9)
	l := d.items(2, 20)
	l[12].At = l[0].At // two may have the same numbers
	held := copied(l[:15])
	c := New(2, l[:15])
	clear(l)
	for range 20 {
		wantTop(t, c, 2, held, d.point(2), 1+d.n(20), "")
	}
}

// P4: an answer is the caller's, and shares no memory with another one, nor with the cells.
func TestAnswersAreFresh(t *testing.T) {
	d := die(13)
	l := d.items(2, 30)
	c := New(2, l)
	at := d.point(2)
	first, _, _ := c.Top(at, 9, "")
	second, _, _ := c.Top(at, 9, "")
	want := slices.Clone(second)
	clear(first[:cap(first)])
	if !slices.Equal(second, want) {
		t.Errorf("the second answer is %v, want %v", second, want)
	}
	wantTop(t, c, 2, l, at, 9, "")
}

// P1: also of items that may not be, every call ends, and none panics.
func TestNothingPanics(t *testing.T) {
	wild := []api.Item{{}, called("a"), called("", 1, 2, 3), called("a", math.MinInt), called("b", math.MaxInt, math.MinInt), called("a", same(1, 1000)...), tagged("\xff", "\xff", -1), called("a", 1), called("a", 1)}
	for dim := -1; dim < 12; dim++ {
		c := New(dim, wild)
		for _, at := range [][]int{nil, same(1, max(dim, 0)), same(-1000, max(dim, 0)), same(1, 100)} {
			for _, k := range []int{0, 1, 60, 61} {
				got, looked, _ := c.Top(at, k, "")
				if looked > len(wild) || len(got) > looked {
					t.Errorf("dim %d, at %v, %d: found %v, looked at %d", dim, at, k, got, looked)
				}
			}
		}
	}
}
