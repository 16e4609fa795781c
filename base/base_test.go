package base

import (
	"errors"
	"fmt"
	"maps"
	"math"
	"slices"
	"strconv"
	"strings"
	"testing"

	"coffer/api"
	"coffer/device"
	"coffer/near"
	"coffer/vault"
)

const secret = "0123456789abcdef"

// called is an item without a tag.
func called(name string, at ...int) api.Item {
	return api.Item{Name: name, At: at}
}

// tagged is an item with a tag.
func tagged(name, tag string, at ...int) api.Item {
	return api.Item{Name: name, Tag: tag, At: at}
}

// same is one number, so many times.
func same(n, times int) []int {
	return slices.Repeat([]int{n}, times)
}

// many are so many items, rising by name, of one number each.
func many(n int) []api.Item {
	var out []api.Item
	for i := range n {
		out = append(out, called(fmt.Sprintf("n%02d", i), i))
	}
	return out
}

// longest are so many items, rising by name, as long as items may be.
func longest(n int) []api.Item {
	var out []api.Item
	for i := range n {
		out = append(out, tagged(fmt.Sprintf("abcdefgh%02d", i), "zzzzzzzzz9", same(-1000, api.MaxDim)...))
	}
	return out
}

// textOf is what the document asks to be told of items, written without the program.
func textOf(dim int, l []api.Item) string {
	out := fmt.Sprintf("dim %d\n", dim)
	for _, x := range l {
		out += x.Name + " " + x.Tag
		for _, n := range x.At {
			out += " " + strconv.Itoa(n)
		}
		out += "\n"
	}
	return out
}

// pagesOf is a text by pages, as the document asks: Plain bytes each, the rest nothing.
func pagesOf(text string) map[int]string {
	out := map[int]string{}
	for id := range api.Pages {
		from, to := id*api.Plain, (id+1)*api.Plain
		out[id] = text[min(from, len(text)):min(to, len(text))]
	}
	return out
}

// die are numbers that look drawn, the same each time.
type die uint64

// n is a number below most.
func (d *die) n(most int) int {
	*d = *d*6364136223846793005 + 1442695040888963407
	return int(uint64(*d>>33) % uint64(most))
}

// point is one of so many numbers.
func (d *die) point(dim int) []int {
	var out []int
	for range dim {
		out = append(out, []int{-1000, 1000, 0, -1, 249, 250, -250, -251, d.n(2001) - 1000}[d.n(9)])
	}
	return out
}

// item is one of few names, so that it is often there, mostly one that is right.
func (d *die) item(dim int) api.Item {
	x := tagged(fmt.Sprint("n", d.n(12)), []string{"", "t", "u"}[d.n(3)], d.point(dim)...)
	switch d.n(30) {
	case 0:
		x.Name = "N"
	case 1:
		x.Tag = "T"
	case 2:
		x.At = append(x.At, 0)
	}
	return x
}

// wantError holds an error against the one that the document asks (api.OK: none).
func wantError(t *testing.T, what string, err error, want api.Errno) {
	t.Helper()
	if got := api.Tell(err); got != want {
		t.Errorf("%s: error %d, want %d", what, got, want)
	}
	var place *api.At
	if errors.As(err, &place) {
		t.Errorf("%s: the error has a place", what)
	}
}

// state is what a base tells.
type state struct {
	dim, count, epoch int
	items             []api.Item
}

// wantState holds all that a base tells against what the document asks.
func wantState(t *testing.T, what string, b *Base, want state) {
	t.Helper()
	if b == nil {
		t.Fatalf("%s: there is no base", what)
	}
	if b.Dim() != want.dim || b.Count() != want.count || b.Epoch() != want.epoch {
		t.Errorf("%s: Dim %d, Count %d, Epoch %d; want %d, %d, %d", what, b.Dim(), b.Count(), b.Epoch(), want.dim, want.count, want.epoch)
	}
	if got := b.Items(); textOf(0, got) != textOf(0, want.items) {
		t.Errorf("%s: items %v, want %v", what, got, want.items)
	}
}

// wantFind asks that a base finds just what near finds of items; the first call tells what any other one does.
func wantFind(t *testing.T, what string, b *Base, dim int, l []api.Item) {
	t.Helper()
	for _, at := range [][]int{same(0, dim), same(1000, dim), same(-1000, dim), same(7, dim)} {
		for _, k := range []int{1, 2, api.MaxItems} {
			for _, tag := range []string{"", "t", "no"} {
				want, err := near.Top(dim, l, at, k, tag)
				wantError(t, "near.Top", err, api.OK)
				got, looked, err := b.Find(at, k, tag)
				wantError(t, what+": Find", err, api.OK)
				if !slices.Equal(got, want) {
					t.Errorf("%s: Find of %v, %d, %q is %v, want %v", what, at, k, tag, got, want)
				}
				if looked < len(got) || looked > len(l) {
					t.Errorf("%s: Find looked at %d of %d, found %d", what, looked, len(l), len(got))
				}
			}
		}
	}
}

// wantPages asks that a vault of that device says just these pages.
func wantPages(t *testing.T, what string, d *device.Device, c *device.Counter, want map[int]string) {
	t.Helper()
	v, err := vault.Open(d, c, secret)
	wantError(t, what+": vault.Open", err, api.OK)
	for id := range api.Pages {
		got, err := v.Get(id)
		if err != nil || got != want[id] {
			t.Errorf("%s: page %d: %q, %v; want %q", what, id, got, err, want[id])
		}
	}
}

// opened opens, and asks that it is done.
func opened(t *testing.T, d *device.Device, c *device.Counter) *Base {
	t.Helper()
	b, err := Open(d, c, secret)
	wantError(t, "Open", err, api.OK)
	if b == nil {
		t.Fatal("Open: no base")
	}
	return b
}

// made is a new base, in which points have so many numbers, with its device and counter.
func made(t *testing.T, dim int) (*Base, *device.Device, *device.Counter) {
	t.Helper()
	d, c := device.New(), &device.Counter{}
	b := opened(t, d, c)
	wantError(t, "Make", b.Make(dim), api.OK)
	return b, d, c
}

// put puts items, and asks that it is done.
func put(t *testing.T, b *Base, l ...api.Item) {
	t.Helper()
	for _, x := range l {
		wantError(t, "Put "+x.Name, b.Put(x), api.OK)
	}
}

// del deletes items, and asks that it is done.
func del(t *testing.T, b *Base, names ...string) {
	t.Helper()
	for _, s := range names {
		wantError(t, "Del "+s, b.Del(s), api.OK)
	}
}

// commit commits, and asks that it is done.
func commit(t *testing.T, b *Base) {
	t.Helper()
	wantError(t, "Commit", b.Commit(), api.OK)
}

// kept is a new base that has items.
func kept(t *testing.T, dim int, l []api.Item) (*Base, *device.Device, *device.Counter) {
	t.Helper()
	b, d, c := made(t, dim)
	put(t, b, l...)
	commit(t, b)
	return b, d, c
}

// wantRefused asks that Open tells an error, and nothing beside it.
func wantRefused(t *testing.T, what string, d *device.Device, c *device.Counter, secret string, want api.Errno) {
	t.Helper()
	b, err := Open(d, c, secret)
	wantError(t, what, err, want)
	if b != nil {
		t.Errorf("%s: a base beside an error", what)
	}
}

// Promise 11.1: of an empty device: Dim 0, no items, the vault's Count and Epoch.
func TestOpenEmptyDevice(t *testing.T) {
	d, c := device.New(), &device.Counter{}
	wantState(t, "new", opened(t, d, c), state{epoch: 1})
	wantState(t, "zero device", opened(t, &device.Device{}, c), state{epoch: 1})
	// Pages that were told nothing say nothing, too.
	v, err := vault.Open(d, c, secret)
	wantError(t, "vault.Open", err, api.OK)
	wantError(t, "Tell", v.Tell(map[int]string{0: "x", 31: ""}), api.OK)
	wantError(t, "Tell", v.Tell(map[int]string{0: ""}), api.OK)
	b := opened(t, d, c)
	wantState(t, "told nothing", b, state{count: 2, epoch: 1})
	wantError(t, "Make", b.Make(3), api.OK)
	put(t, b, called("a", 1, 2, 3))
	commit(t, b)
	wantState(t, "told nothing, and then items", opened(t, d, c), state{3, 3, 1, []api.Item{called("a", 1, 2, 3)}})
}

// Promise 11.1: Open's errors of the vault.
func TestOpenRefuses(t *testing.T) {
	_, d, c := kept(t, 2, []api.Item{called("a", 1, 2)})
	wantRefused(t, "no device", nil, c, secret, api.ErrArg)
	wantRefused(t, "no counter", d, nil, secret, api.ErrArg)
	wantRefused(t, "short secret", d, c, secret[1:], api.ErrArg)
	wantRefused(t, "no secret", d, c, "", api.ErrArg)
	wantRefused(t, "another secret", d, c, "0123456789abcdeg", api.ErrSpoilt)
	wantRefused(t, "another device", device.New(), c, secret, api.ErrSpoilt)
	wantState(t, "Open", opened(t, d, c), state{2, 1, 1, []api.Item{called("a", 1, 2)}})
}

// Promise 11.1: ErrSpoilt, if what all pages say is neither nothing nor items.
func TestOpenNoItems(t *testing.T) {
	right := textOf(2, []api.Item{called("a", 1, -2), tagged("b", "t", 0, 3)})
	tooMany := textOf(1, append(many(60), called("o", 1)))
	for i, m := range []map[int]string{
		{0: "x"},
		{31: "x"},
		{0: "\n"},
		{0: "\x00"},
		{0: "dim 2"},
		{0: "dim 0\n"},
		{0: "dim 9\n"},
		{0: "dim 02\n"},
		{0: "dim 2\na  1\n"},
		{0: "dim 1\na  1 2\n"},
		{0: "dim 1\na  1001\n"},
		{0: "dim 1\nA  1\n"},
		{0: "dim 1\nb  1\na  1\n"},
		{0: "dim 1\na  1\na  1\n"},
		{0: "dim 1\na 1\n"},
		{0: right, 1: "x"},
		{0: right, 31: "\n"},
		{0: right[:5], 1: right[6:]},
		{0: right[9:], 1: right[:9]},
		pagesOf(tooMany),
	} {
		what := fmt.Sprint("pages ", i)
		d, c := device.New(), &device.Counter{}
		v, err := vault.Open(d, c, secret)
		wantError(t, what, err, api.OK)
		wantError(t, what, v.Tell(m), api.OK)
		image := d.Image()
		wantRefused(t, what, d, c, secret, api.ErrSpoilt)
		if c.Get() != 1 || !slices.Equal(d.Image(), image) {
			t.Errorf("%s: the counter is at %d, or blocks were written", what, c.Get())
		}
		wantPages(t, what, d, c, m)
	}
}

// Promise 11.1: all pages, one behind the other, wherever they are cut.
func TestOpenPagesOneBehindTheOther(t *testing.T) {
	items := []api.Item{called("a", 1, -2), tagged("b", "t", 0, 3)}
	text := textOf(2, items)
	for _, ids := range [][]int{{0, 1, 2}, {3, 9, 31}, {0, 30, 31}} {
		for first := range len(text) {
			second := first + (len(text)-first)/2
			what := fmt.Sprint("pages ", ids, " cut at ", first, ", ", second)
			d, c := device.New(), &device.Counter{}
			v, err := vault.Open(d, c, secret)
			wantError(t, what, err, api.OK)
			wantError(t, what, v.Tell(map[int]string{ids[0]: text[:first], ids[1]: text[first:second], ids[2]: text[second:]}), api.OK)
			b := opened(t, d, c)
			wantState(t, what, b, state{2, 1, 1, items})
			wantFind(t, what, b, 2, items)
			if first%10 == 0 {
				commit(t, b)
				wantPages(t, what, d, c, pagesOf(text))
			}
		}
	}
}

// Promise 11.1: Dim, Count, Epoch and Items of a new base, behind Commit, behind Turn, and opened again.
func TestWhatIsTold(t *testing.T) {
	d, c := device.New(), &device.Counter{}
	b := opened(t, d, c)
	wantState(t, "new", b, state{epoch: 1})
	wantError(t, "Make", b.Make(2), api.OK)
	wantState(t, "made", b, state{dim: 2, epoch: 1})
	put(t, b, tagged("b", "t", 0, 3), called("a", 1, -2), called("a1", 5, 5), called("b0", 0, 0), called("abcdefghij", 9, 9))
	wantState(t, "put", b, state{dim: 2, epoch: 1})
	commit(t, b)
	want := state{2, 1, 1, []api.Item{called("a", 1, -2), called("a1", 5, 5), called("abcdefghij", 9, 9), tagged("b", "t", 0, 3), called("b0", 0, 0)}}
	wantState(t, "committed", b, want)
	wantState(t, "committed, opened", opened(t, d, c), want)
	wantError(t, "Turn", b.Turn(), api.OK)
	want.count, want.epoch = 2, 2
	wantState(t, "turned", b, want)
	b = opened(t, d, c)
	wantState(t, "turned, opened", b, want)
	del(t, b, "a")
	put(t, b, tagged("b", "", 7, 7))
	wantState(t, "deleted", b, want)
	commit(t, b)
	want = state{2, 3, 2, []api.Item{called("a1", 5, 5), called("abcdefghij", 9, 9), called("b", 7, 7), called("b0", 0, 0)}}
	wantState(t, "committed twice", b, want)
	wantState(t, "committed twice, opened", opened(t, d, c), want)
	if c.Get() != 3 {
		t.Errorf("the counter is at %d", c.Get())
	}
}

// Promise 11.1: Make at its edges, and a second time.
func TestMake(t *testing.T) {
	for _, dim := range []int{1, 2, api.MaxDim} {
		b, _, _ := made(t, dim)
		for _, again := range []int{dim, 1, api.MaxDim, 0, -1, api.MaxDim + 1} {
			wantError(t, fmt.Sprint("Make ", dim, ", then ", again), b.Make(again), api.ErrState)
		}
		wantState(t, "made", b, state{dim: dim, epoch: 1})
		put(t, b, called("a", same(1, dim)...))
	}
	b := opened(t, device.New(), &device.Counter{})
	for _, dim := range []int{0, -1, api.MaxDim + 1, math.MinInt, math.MaxInt} {
		wantError(t, fmt.Sprint("Make ", dim), b.Make(dim), api.ErrArg)
		wantState(t, "not made", b, state{epoch: 1})
		wantError(t, "Put", b.Put(called("a", 1)), api.ErrState)
	}
	wantError(t, "Make", b.Make(1), api.OK)
}

// Promise 11.1: what was made is there again only behind a Commit; a base that was opened again with it is made.
func TestMakeOpened(t *testing.T) {
	b, d, c := made(t, 3)
	b.Undo()
	wantState(t, "undone", b, state{dim: 3, epoch: 1})
	wantState(t, "opened ahead of Commit", opened(t, d, c), state{epoch: 1})
	commit(t, b)
	wantState(t, "committed", b, state{dim: 3, count: 1, epoch: 1})
	again := opened(t, d, c)
	wantState(t, "opened", again, state{dim: 3, count: 1, epoch: 1})
	wantError(t, "Make", again.Make(3), api.ErrState)
	wantPages(t, "made", d, c, map[int]string{0: "dim 3\n"})
}

// Promise 11.2: ErrState ahead of Make, whatever is put; and nothing waits then.
func TestPutBeforeMake(t *testing.T) {
	b := opened(t, device.New(), &device.Counter{})
	for _, x := range []api.Item{called("a", 1), called("a"), {}, called("A", 1)} {
		wantError(t, "Put", b.Put(x), api.ErrState)
	}
	wantError(t, "Del", b.Del("a"), api.ErrMissing)
	wantError(t, "Make", b.Make(1), api.OK)
	wantError(t, "Del", b.Del("a"), api.ErrMissing)
	commit(t, b)
	wantState(t, "committed", b, state{dim: 1, count: 1, epoch: 1})
}

// Promise 11.2: ErrArg of what is not Right; and nothing waits then, nor is what waits another one.
func TestPutNotRight(t *testing.T) {
	b, _, _ := kept(t, 2, []api.Item{called("a", 1, 2)})
	put(t, b, called("b", 3, 4))
	for i, x := range []api.Item{
		{},
		called("", 1, 2),
		called("A", 1, 2),
		called("1a", 1, 2),
		called("abcdefghijk", 1, 2),
		called("c d", 1, 2),
		tagged("a", "T", 1, 2),
		tagged("b", "abcdefghijk", 1, 2),
		called("a"),
		called("a", 1),
		called("b", 1, 2, 3),
		called("b", 1001, 2),
		called("a", 1, -1001),
		called("a", math.MinInt, math.MaxInt),
	} {
		wantError(t, fmt.Sprint("Put ", i), b.Put(x), api.ErrArg)
	}
	commit(t, b)
	wantState(t, "committed", b, state{2, 2, 1, []api.Item{called("a", 1, 2), called("b", 3, 4)}})
}

// Promise 11.2: Put of a new name, of one that is there, of one that waits, of one that waits to be gone; Del of one that is there, that waits, that is gone, of none.
func TestPutAndDel(t *testing.T) {
	there := []api.Item{called("a", 1), tagged("b", "t", 2), called("c", 3)}
	b, d, c := kept(t, 1, there)
	put(t, b, called("new", 4), tagged("a", "u", 5))
	put(t, b, tagged("new", "v", 6))
	del(t, b, "b", "c")
	put(t, b, called("c", 7))
	put(t, b, called("gone", 8))
	del(t, b, "gone")
	for _, s := range []string{"b", "gone", "none", "", "A", "n", "news", strings.Repeat("a", 1000)} {
		wantError(t, "Del "+s, b.Del(s), api.ErrMissing)
	}
	wantState(t, "ahead of Commit", b, state{1, 1, 1, there})
	commit(t, b)
	want := state{1, 2, 1, []api.Item{tagged("a", "u", 5), called("c", 7), tagged("new", "v", 6)}}
	wantState(t, "committed", b, want)
	wantState(t, "committed, opened", opened(t, d, c), want)
	wantError(t, "Del b", b.Del("b"), api.ErrMissing)
	del(t, b, "a", "new", "c")
	wantError(t, "Del a", b.Del("a"), api.ErrMissing)
	put(t, b, called("a", 9))
	del(t, b, "a")
	wantState(t, "all deleted, ahead of Commit", b, want)
}

// Promise 11.2: ErrFull at MaxItems, of those that are there and those that wait, but not of a name that is among them.
func TestPutFull(t *testing.T) {
	for _, there := range []int{0, 1, 30, 59, 60} {
		what := fmt.Sprint(there, " there")
		all := many(api.MaxItems)
		b, d, c := kept(t, 1, all[:there])
		put(t, b, all[there:]...)
		wantError(t, what+": Put", b.Put(called("o", 1)), api.ErrFull)
		wantError(t, what+": Put of what is not Right", b.Put(called("O", 1)), api.ErrArg)
		put(t, b, called("n00", 100), called("n59", 101)) // in the stead of others
		del(t, b, "n30")
		put(t, b, called("o", 1))
		wantError(t, what+": Put of one that waits to be gone", b.Put(called("n30", 30)), api.ErrFull)
		del(t, b, "o")
		put(t, b, called("n30", 30))
		wantError(t, what+": Put", b.Put(called("o", 1)), api.ErrFull)
		commit(t, b)
		want := many(api.MaxItems)
		want[0].At[0], want[59].At[0] = 100, 101
		wantState(t, what, b, state{1, 2, 1, want})
		wantError(t, what+": Put, committed", b.Put(called("o", 1)), api.ErrFull)
		b = opened(t, d, c)
		wantState(t, what+", opened", b, state{1, 2, 1, want})
		wantError(t, what+": Put, opened", b.Put(called("o", 1)), api.ErrFull)
		put(t, b, want...)
	}
}

// Promise 11.2: Undo with nothing waiting, and with something.
func TestUndo(t *testing.T) {
	there := []api.Item{called("a", 1), tagged("b", "t", 2)}
	b, d, c := kept(t, 1, there)
	b.Undo()
	wantState(t, "nothing waited", b, state{1, 1, 1, there})
	put(t, b, called("a", 5), called("c", 6))
	del(t, b, "b")
	b.Undo()
	wantState(t, "undone", b, state{1, 1, 1, there})
	wantFind(t, "undone", b, 1, there)
	wantError(t, "Del c", b.Del("c"), api.ErrMissing)
	del(t, b, "b")
	b.Undo()
	commit(t, b)
	wantState(t, "committed", b, state{1, 2, 1, there})
	wantState(t, "committed, opened", opened(t, d, c), state{1, 2, 1, there})
	// What waits no more doesn't fill.
	put(t, b, many(58)...)
	wantError(t, "Put", b.Put(called("o", 1)), api.ErrFull)
	b.Undo()
	put(t, b, called("o", 1))
	b.Undo()
	b.Undo()
	commit(t, b)
	wantState(t, "committed again", b, state{1, 3, 1, there})
	empty := opened(t, device.New(), &device.Counter{})
	empty.Undo()
	wantState(t, "ahead of Make", empty, state{epoch: 1})
	wantError(t, "Make", empty.Make(1), api.OK)
}

// Promise 11.2: Commit before Make: ErrState, and nothing is told.
func TestCommitBeforeMake(t *testing.T) {
	d, c := device.New(), &device.Counter{}
	b := opened(t, d, c)
	d.Fuse(0)
	wantError(t, "Commit", b.Commit(), api.ErrState)
	d.Fuse(-1)
	wantState(t, "not committed", b, state{epoch: 1})
	wantError(t, "Make", b.Make(1), api.OK)
	commit(t, b)
	wantState(t, "committed", b, state{dim: 1, count: 1, epoch: 1})
	// The vault goes on, too, where nothing was made.
	b = opened(t, device.New(), &device.Counter{})
	wantError(t, "Turn", b.Turn(), api.OK)
	wantError(t, "Commit", b.Commit(), api.ErrState)
	wantState(t, "turned", b, state{count: 1, epoch: 2})
}

// Promise 11.2: with nothing waiting all is told once more: no page, but one Count.
func TestCommitOfNothing(t *testing.T) {
	there := longest(10)
	b, d, c := kept(t, api.MaxDim, there)
	for count := 2; count < 5; count++ {
		d.Fuse(3) // a Sync, the Super, a Sync
		commit(t, b)
		wantState(t, "committed", b, state{api.MaxDim, count, 1, there})
		wantState(t, "committed, opened", opened(t, d, c), state{api.MaxDim, count, 1, there})
	}
	put(t, b, there...)
	d.Fuse(3)
	commit(t, b)
	wantState(t, "the same put", b, state{api.MaxDim, 5, 1, there})
}

// Promise 11.2: items as Print tells, Plain bytes a page, from page 0 on; none left; fewer pages than were told ahead; all as one Tell of the vault.
func TestCommitPages(t *testing.T) {
	b, d, c := made(t, api.MaxDim)
	other, otherCounter := device.New(), &device.Counter{}
	v, err := vault.Open(other, otherCounter, secret)
	wantError(t, "vault.Open", err, api.OK)
	for i, n := range []int{0, 1, 2, 3, 60, 59, 4, 60, 0, 0, 3, 1, 30, 29, 5, 0, 60} {
		what := fmt.Sprint(n, " items")
		for _, x := range b.Items() {
			del(t, b, x.Name)
		}
		want := longest(n)
		put(t, b, want...)
		commit(t, b)
		text := textOf(api.MaxDim, want)
		wantState(t, what, b, state{api.MaxDim, i + 1, 1, want})
		wantPages(t, what, d, c, pagesOf(text))
		wantError(t, what+": Tell", v.Tell(pagesOf(text)), api.OK)
		if !slices.Equal(d.Image(), other.Image()) {
			t.Errorf("%s: other blocks than those of one Tell", what)
		}
		b = opened(t, d, c)
		wantState(t, what+", opened", b, state{api.MaxDim, i + 1, 1, want})
		wantFind(t, what+", opened", b, api.MaxDim, want)
	}
}

// Promise 11.2: a text that ends just at a page's end, and one byte to each side.
func TestCommitAtPageEnds(t *testing.T) {
	seen := map[int]bool{}
	for n := 10; n < 30; n++ {
		for last := range 10 {
			// Each line is as long as the others, but for the last one's name.
			items := many(n)
			for i := range items {
				items[i].At[0] = i % 10
			}
			items[n-1].Name = "o" + strings.Repeat("p", last)
			b, d, c := kept(t, 1, items)
			text := textOf(1, items)
			seen[len(text)%api.Plain] = true
			what := fmt.Sprint(len(text), " bytes")
			wantPages(t, what, d, c, pagesOf(text))
			wantState(t, what, b, state{1, 1, 1, items})
			wantState(t, what+", opened", opened(t, d, c), state{1, 1, 1, items})
		}
	}
	for _, size := range []int{0, 1, api.Plain - 1} {
		if !seen[size] {
			t.Errorf("no text ended %d bytes behind a page's end", size)
		}
	}
}

// cut is a Commit: of these items, with these put and deleted.
type cut struct {
	there []api.Item
	put   []api.Item
	del   []string
}

// pages is how many of them say something else behind the Commit.
func (x cut) pages() int {
	n, ahead, behind := 0, pagesOf(textOf(8, x.there)), pagesOf(textOf(8, x.behind()))
	for id := range api.Pages {
		if ahead[id] != behind[id] {
			n++
		}
	}
	return n
}

// behind are the items behind the Commit.
func (x cut) behind() []api.Item {
	all := map[string]api.Item{}
	for _, y := range slices.Concat(x.there, x.put) {
		all[y.Name] = y
	}
	for _, s := range x.del {
		delete(all, s)
	}
	var out []api.Item
	for _, s := range slices.Sorted(maps.Keys(all)) {
		out = append(out, all[s])
	}
	return out
}

// cuts are Commits over one page and over several, of more and of fewer pages than ahead, and of none left.
func cuts() []cut {
	l := longest(12)
	var names []string
	for _, x := range l {
		names = append(names, x.Name)
	}
	return []cut{
		{nil, l[:1], nil},
		{l[:1], []api.Item{tagged("abcdefgh00", "", same(0, 8)...)}, nil},
		{l[:3], l[3:12], nil},
		{l, nil, names[3:]},
		{l[:9], []api.Item{called("z", same(5, 8)...)}, names[1:9]},
		{l, nil, names},
	}
}

// waiting is a base with all of a Commit waiting, on a device that has its own fuse.
func (x cut) waiting(t *testing.T, image []string, fuse int) (*Base, *device.Device, *device.Counter) {
	t.Helper()
	d, c := device.New(), &device.Counter{}
	d.Lay(image)
	wantError(t, "Raise", c.Raise(1), api.OK)
	b := opened(t, d, c)
	put(t, b, x.put...)
	del(t, b, x.del...)
	d.Fuse(fuse)
	return b, d, c
}

// wantCut asks that a Commit that was cut off fails, all waits still, and all is as it was.
func (x cut) wantCut(t *testing.T, what string, b *Base) {
	t.Helper()
	wantError(t, what, b.Commit(), api.ErrDevice)
	ahead := state{8, 1, 1, x.there}
	wantState(t, what, b, ahead)
	wantFind(t, what, b, 8, x.there)
	wantError(t, what+": Commit again", b.Commit(), api.ErrState)
	wantError(t, what+": Turn", b.Turn(), api.ErrState)
	wantState(t, what, b, ahead)
	for _, s := range x.del {
		wantError(t, what+": Del of "+s, b.Del(s), api.ErrMissing)
	}
	for _, y := range x.behind() {
		wantError(t, what+": Del of "+y.Name, b.Del(y.Name), api.OK)
	}
	b.Undo()
	for _, y := range x.there {
		wantError(t, what+": Del of "+y.Name+", undone", b.Del(y.Name), api.OK)
	}
	wantState(t, what, b, ahead)
}

// Promise 11.2: cut off at each write and sync, with whatever is lost then: what was there ahead, or all of what waited.
func TestCommitCutOff(t *testing.T) {
	for i, x := range cuts() {
		_, start, _ := kept(t, 8, x.there)
		image := start.Image()
		pages, ahead, behind := x.pages(), state{8, 1, 1, x.there}, state{8, 2, 1, x.behind()}
		for fuse := range pages + 3 {
			whole := fuse == pages+2 // the Super was written, and is not sure
			for bits := range 1 << pages {
				what := fmt.Sprintf("Commit %d, cut off at %d, kept %b", i, fuse, bits)
				b, d, c := x.waiting(t, image, fuse)
				if bits == 0 {
					x.wantCut(t, what, b)
				} else {
					wantError(t, what, b.Commit(), api.ErrDevice)
				}
				keeps := make([]bool, pages)
				for k := range keeps {
					keeps[k] = bits>>k&1 == 1
				}
				d.Crash(keeps)
				want := ahead
				if whole && keeps[0] {
					want = behind
				}
				again := opened(t, d, c)
				wantState(t, what, again, want)
				wantError(t, what+": Commit", again.Commit(), api.OK)
				want.count++
				wantState(t, what+", committed", again, want)
			}
			// Without a crash nothing is lost.
			what := fmt.Sprintf("Commit %d, cut off at %d, no crash", i, fuse)
			b, d, c := x.waiting(t, image, fuse)
			wantError(t, what, b.Commit(), api.ErrDevice)
			d.Fuse(-1)
			want := ahead
			if whole {
				want = behind
			}
			wantState(t, what, opened(t, d, c), want)
		}
		b, d, c := x.waiting(t, image, pages+3)
		commit(t, b)
		wantState(t, "committed", b, behind)
		d.Crash(nil)
		wantState(t, "committed, crashed", opened(t, d, c), behind)
		d.Lay(image)
		wantRefused(t, "laid down as it was", d, c, secret, api.ErrSpoilt)
	}
}

// Promise 11.2: where Tell tells an error that is not the device's, all waits still, too: here the counter is that far already.
func TestCommitRefusedByCounter(t *testing.T) {
	b, _, c := kept(t, 1, []api.Item{called("a", 1)})
	put(t, b, called("b", 2))
	wantError(t, "Raise", c.Raise(5), api.OK)
	wantError(t, "Commit", b.Commit(), api.ErrOrder)
	wantState(t, "not committed", b, state{1, 1, 1, []api.Item{called("a", 1)}})
	wantError(t, "Commit", b.Commit(), api.ErrState)
	del(t, b, "b", "a")
}

// Promise 11.2: what waits waits still behind Turn.
func TestTurnWithSomethingWaiting(t *testing.T) {
	there := []api.Item{called("a", 1), called("b", 2)}
	b, d, c := kept(t, 1, there)
	put(t, b, called("c", 3))
	del(t, b, "a")
	for epoch := 2; epoch < 4; epoch++ {
		wantError(t, "Turn", b.Turn(), api.OK)
		wantState(t, "turned", b, state{1, epoch, epoch, there})
		wantState(t, "turned, opened", opened(t, d, c), state{1, epoch, epoch, there})
		wantFind(t, "turned", b, 1, there)
	}
	commit(t, b)
	want := state{1, 4, 3, []api.Item{called("b", 2), called("c", 3)}}
	wantState(t, "committed", b, want)
	wantState(t, "committed, opened", opened(t, d, c), want)
	put(t, b, called("d", 4))
	d.Fuse(10)
	wantError(t, "Turn, cut off", b.Turn(), api.ErrDevice)
	wantState(t, "cut off", b, want)
	wantError(t, "Commit", b.Commit(), api.ErrState)
	del(t, b, "d")
}

// Promise 11.2: Find before Make: ErrState, whatever is asked; of what is not Right: ErrArg.
func TestFindRefuses(t *testing.T) {
	b := opened(t, device.New(), &device.Counter{})
	refused := func(at []int, k int, want api.Errno) {
		t.Helper()
		what := fmt.Sprint("Find of ", at, ", ", k)
		got, looked, err := b.Find(at, k, "")
		wantError(t, what, err, want)
		if len(got) != 0 || looked != 0 {
			t.Errorf("%s: an error, and %v, %d", what, got, looked)
		}
	}
	refused(nil, 1, api.ErrState)
	refused([]int{0}, 1, api.ErrState)
	refused([]int{1001}, 0, api.ErrState)
	wantError(t, "Make", b.Make(2), api.OK)
	for range 2 {
		for _, at := range [][]int{nil, {}, {0}, {0, 0, 0}, {1001, 0}, {0, -1001}, {math.MinInt, math.MaxInt}} {
			refused(at, 1, api.ErrArg)
		}
		for _, k := range []int{0, -1, api.MaxItems + 1, math.MinInt, math.MaxInt} {
			refused([]int{0, 0}, k, api.ErrArg)
		}
		put(t, b, called("a", 1, 2))
		commit(t, b)
	}
}

// Promise 11.2: Find looks at items, not at what waits: behind Make, Put, Del, Commit, Undo, and opened again.
func TestFind(t *testing.T) {
	b, d, c := made(t, 2)
	wantFind(t, "made", b, 2, nil)
	first := []api.Item{called("a", 3, 4), tagged("b", "t", 0, 1), tagged("c", "t", 1000, 1000)}
	put(t, b, first...)
	wantFind(t, "put", b, 2, nil)
	commit(t, b)
	wantFind(t, "committed", b, 2, first)
	put(t, b, tagged("a", "t", 0, 0), called("d", 0, 0))
	del(t, b, "b")
	wantFind(t, "put and deleted", b, 2, first)
	b.Undo()
	wantFind(t, "undone", b, 2, first)
	wantFind(t, "opened", opened(t, d, c), 2, first)
	put(t, b, tagged("a", "t", 0, 0), called("d", 0, 0))
	del(t, b, "b")
	commit(t, b)
	second := []api.Item{tagged("a", "t", 0, 0), first[2], called("d", 0, 0)}
	wantFind(t, "committed again", b, 2, second)
	b = opened(t, d, c)
	wantFind(t, "opened again", b, 2, second)
	got, looked, err := b.Find([]int{0, 0}, 1, "")
	wantError(t, "Find", err, api.OK)
	if !slices.Equal(got, []api.Found{{Name: "a", Far: 0}}) || looked < 1 || looked >= 3 {
		t.Errorf("Find: %v, looked at %d of 3", got, looked)
	}
}

// P4: items that were handed in may be changed by the caller, ahead of Commit and behind it.
func TestPutIsTheCallers(t *testing.T) {
	b, d, c := made(t, 2)
	at := []int{1, 2, 77}
	first, second := called("a", at[:2]...), tagged("b", "t", at[:2]...)
	put(t, b, first, second)
	if !slices.Equal(at, []int{1, 2, 77}) {
		t.Errorf("Put changed the numbers: %v", at)
	}
	at[0] = 500
	commit(t, b)
	want := []api.Item{called("a", 1, 2), tagged("b", "t", 1, 2)}
	for _, n := range []int{600, 5000} {
		wantState(t, "changed", b, state{2, 1, 1, want})
		wantFind(t, "changed", b, 2, want)
		wantState(t, "changed, opened", opened(t, d, c), state{2, 1, 1, want})
		at[0], at[1] = n, n
	}
	commit(t, b)
	wantPages(t, "committed again", d, c, map[int]string{0: textOf(2, want)})
}

// P4: what was told may be changed by the caller, and no two lists of it have the same memory.
func TestAnswersAreTheCallers(t *testing.T) {
	want := []api.Item{called("a", 1, 2), tagged("b", "t", 3, 4)}
	first, d, c := kept(t, 2, want)
	for what, b := range map[string]*Base{"committed": first, "opened": opened(t, d, c)} {
		put(t, b, called("c", 5, 6))
		items, again := b.Items(), b.Items()
		for i := range items {
			all := items[i].At[:cap(items[i].At)]
			for k := range all {
				all[k] = 900
			}
		}
		clear(items[:cap(items)])
		if textOf(2, again) != textOf(2, want) {
			t.Errorf("%s: the second answer is %v", what, again)
		}
		wantState(t, what, b, state{2, 1, 1, want})
		wantFind(t, what, b, 2, want)
		b.Undo()
		wantFind(t, what+", undone", b, 2, want)
		at := []int{0, 0}
		found, _, err := b.Find(at, 2, "")
		wantError(t, what, err, api.OK)
		at[0] = 999
		clear(found[:cap(found)])
		wantFind(t, what, b, 2, want)
	}
	commit(t, first)
	wantPages(t, "committed", d, c, map[int]string{0: textOf(2, want)})
}

// P1: a zero value, and nil, have nothing, do nothing, and don't panic.
func TestZeroValue(t *testing.T) {
	for what, b := range map[string]*Base{"zero value": {}, "nil": nil} {
		b.Undo()
		wantNothing := func() {
			t.Helper()
			if b.Count() != 0 || b.Epoch() != 0 || len(b.Items()) != 0 {
				t.Errorf("%s: Count %d, Epoch %d, items %v", what, b.Count(), b.Epoch(), b.Items())
			}
			wantError(t, what+": Turn", b.Turn(), api.ErrState)
			wantError(t, what+": Commit", b.Commit(), api.ErrState)
			wantError(t, what+": Del", b.Del("a"), api.ErrMissing)
		}
		wantNothing()
		if b.Dim() != 0 {
			t.Errorf("%s: Dim %d", what, b.Dim())
		}
		wantError(t, what+": Put", b.Put(called("a", 1)), api.ErrState)
		_, _, err := b.Find([]int{1}, 1, "")
		wantError(t, what+": Find", err, api.ErrState)
		if b.Make(1) == nil {
			put(t, b, called("a", 1))
			del(t, b, "a")
			wantFind(t, what, b, 1, nil)
			b.Undo()
		}
		wantNothing()
	}
}

// model is what the document asks of a base, step by step.
type model struct {
	dim, count, epoch int
	kept              int // what is told of dim behind a Commit
	there, next       map[string]api.Item
}

// rising are items by name.
func rising(m map[string]api.Item) []api.Item {
	var out []api.Item
	for _, s := range slices.Sorted(maps.Keys(m)) {
		out = append(out, m[s])
	}
	return out
}

// step does what was drawn to a base and to its model.
func (m *model) step(t *testing.T, what string, b *Base, d *die) {
	t.Helper()
	switch x := d.item(max(m.dim, 1)); d.n(9) {
	case 0, 1, 2, 3:
		want := api.OK
		switch _, ok := m.next[x.Name]; {
		case m.dim == 0:
			want = api.ErrState
		case x.Name == "N" || x.Tag == "T" || len(x.At) != m.dim:
			want = api.ErrArg
		case !ok && len(m.next) == api.MaxItems:
			want = api.ErrFull
		default:
			m.next[x.Name] = x
		}
		wantError(t, what+": Put", b.Put(x), want)
	case 4:
		want := api.OK
		if _, ok := m.next[x.Name]; !ok {
			want = api.ErrMissing
		}
		delete(m.next, x.Name)
		wantError(t, what+": Del", b.Del(x.Name), want)
	case 5:
		m.next = maps.Clone(m.there)
		b.Undo()
	case 6, 7:
		want := api.OK
		if m.dim == 0 {
			want = api.ErrState
		} else {
			m.there, m.kept, m.count = maps.Clone(m.next), m.dim, m.count+1
		}
		wantError(t, what+": Commit", b.Commit(), want)
	default:
		m.count, m.epoch = m.count+1, m.epoch+1
		wantError(t, what+": Turn", b.Turn(), api.OK)
	}
}

// Promises 11.1 and 11.2: many steps, in whichever order, tell what the document asks.
func TestManySteps(t *testing.T) {
	d := die(17)
	for run := range 60 {
		disk, c := device.New(), &device.Counter{}
		b := opened(t, disk, c)
		m := &model{epoch: 1, there: map[string]api.Item{}, next: map[string]api.Item{}}
		for step := range 60 {
			what := fmt.Sprint("run ", run, ", step ", step)
			if m.dim == 0 && d.n(4) == 0 {
				m.dim = 1 + d.n(api.MaxDim)
				wantError(t, what+": Make", b.Make(m.dim), api.OK)
			}
			m.step(t, what, b, &d)
			if d.n(15) == 0 {
				b = opened(t, disk, c)
				m.dim, m.next = m.kept, maps.Clone(m.there)
			}
			wantState(t, what, b, state{m.dim, m.count, m.epoch, rising(m.there)})
			if m.dim != 0 {
				wantFind(t, what, b, m.dim, rising(m.there))
			}
		}
	}
}
