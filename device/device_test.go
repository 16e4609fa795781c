package device

import (
	"errors"
	"fmt"
	"math"
	"slices"
	"strings"
	"testing"

	"coffer/api"
)

const last = api.Blocks - 1

// padded is a text as a block tells it: 0 behind it.
func padded(s string) string {
	return s + strings.Repeat("\x00", api.Block-len(s))
}

// text is one of that many bytes, in which every byte comes.
func text(size, seed int) string {
	b := make([]byte, size)
	for i := range b {
		b[i] = byte(i*167 + seed*31 + 1)
	}
	return string(b)
}

// wantError holds an error against the one that the document asks (api.OK: none).
func wantError(t *testing.T, what string, err error, want api.Errno) {
	t.Helper()
	if got := api.Tell(err); got != want {
		t.Errorf("%s: error %d, want %d", what, got, want)
	}
	var place *api.At
	if errors.As(err, &place) {
		t.Errorf("%s: the error has a place", what)
	}
}

// wantRead holds a block, as it was written last, against a text and 0 behind it.
func wantRead(t *testing.T, d *Device, at int, want string) {
	t.Helper()
	got, err := d.Read(at)
	wantError(t, fmt.Sprint("Read ", at), err, api.OK)
	if got != padded(want) {
		t.Errorf("block %d: %.20q.., %d bytes; want %.20q..", at, got, len(got), want)
	}
}

// wantImage holds all that is sure against texts by their blocks; all others are 0.
func wantImage(t *testing.T, d *Device, want map[int]string) {
	t.Helper()
	got := d.Image()
	if len(got) != api.Blocks {
		t.Fatalf("Image has %d blocks, want %d", len(got), api.Blocks)
	}
	for at, s := range got {
		if s != padded(want[at]) {
			t.Errorf("sure in block %d: %.20q.., %d bytes; want %.20q..", at, s, len(s), want[at])
		}
	}
}

// written writes, and asks that it is done.
func written(t *testing.T, d *Device, at int, s string) {
	t.Helper()
	wantError(t, fmt.Sprint("Write ", at), d.Write(at, s), api.OK)
}

// synced syncs, and asks that it is done.
func synced(t *testing.T, d *Device) {
	t.Helper()
	wantError(t, "Sync", d.Sync(), api.OK)
}

// Promise 3.1: a new device, and the zero value, have blocks of 0 and no fuse.
func TestNewIsAllZero(t *testing.T) {
	for what, d := range map[string]*Device{"New": New(), "zero value": {}} {
		t.Run(what, func(t *testing.T) {
			for at := range api.Blocks {
				wantRead(t, d, at, "")
			}
			wantImage(t, d, nil)
			for i := range 300 {
				written(t, d, i%api.Blocks, "a")
				synced(t, d)
			}
			wantRead(t, d, last, "a")
		})
	}
}

// Promise 3.1: a new device is not another one.
func TestDevicesAreApart(t *testing.T) {
	d, e := New(), New()
	written(t, d, 0, "a")
	synced(t, d)
	d.Fuse(0)
	wantRead(t, e, 0, "")
	wantImage(t, e, nil)
	written(t, e, 0, "b")
	wantRead(t, d, 0, "a")
}

// Promise 3.1: two that have one device see what is done to it.
func TestOneDeviceSeenByTwo(t *testing.T) {
	d := New()
	other := d
	written(t, d, 3, "a")
	wantRead(t, other, 3, "a")
	other.Fuse(0)
	wantError(t, "Sync", d.Sync(), api.ErrDevice)
}

// Promise 3.1: blocks at both edges are there, those beyond them are not.
func TestBlocksAtTheEdges(t *testing.T) {
	d := New()
	written(t, d, 0, "first")
	written(t, d, last, "last")
	wantRead(t, d, 0, "first")
	wantRead(t, d, last, "last")
	wantRead(t, d, 1, "")
	wantRead(t, d, last-1, "")
	for _, at := range []int{-1, -2, api.Blocks, api.Blocks + 1, math.MinInt, math.MaxInt} {
		got, err := d.Read(at)
		wantError(t, fmt.Sprint("Read ", at), err, api.ErrRange)
		if got != "" {
			t.Errorf("Read %d tells %q beside an error", at, got)
		}
		wantError(t, fmt.Sprint("Write ", at), d.Write(at, "x"), api.ErrRange)
	}
	synced(t, d)
	wantImage(t, d, map[int]string{0: "first", last: "last"})
}

// Promise 3.1: texts of every length up to Block, and 0 behind them; none that is longer.
func TestTextsOfAllLengths(t *testing.T) {
	d := New()
	for size := range api.Block + 1 {
		written(t, d, 7, text(api.Block, 1))
		written(t, d, 7, text(size, 2))
		wantRead(t, d, 7, text(size, 2))
	}
	synced(t, d)
	wantImage(t, d, map[int]string{7: text(api.Block, 2)})
	for _, size := range []int{api.Block + 1, api.Block + 2, 2 * api.Block, api.MaxText} {
		wantError(t, fmt.Sprint(size, " bytes"), d.Write(7, text(size, 3)), api.ErrLimit)
		wantRead(t, d, 7, text(api.Block, 2))
	}
	written(t, d, 7, "")
	wantRead(t, d, 7, "")
	wantImage(t, d, map[int]string{7: text(api.Block, 2)})
}

// Promise 3.1: what was written last is read; it is not sure ahead of Sync, and all of it is behind it.
func TestLastWriteHolds(t *testing.T) {
	d := New()
	written(t, d, 5, "one")
	written(t, d, 6, "other")
	written(t, d, 5, "two")
	wantRead(t, d, 5, "two")
	wantRead(t, d, 6, "other")
	wantImage(t, d, nil)
	synced(t, d)
	sure := map[int]string{5: "two", 6: "other"}
	wantImage(t, d, sure)
	wantRead(t, d, 5, "two")
	written(t, d, 5, "three")
	wantRead(t, d, 5, "three")
	wantImage(t, d, sure)
}

// Promise 3.1: what is sure stays so, and a second Sync makes nothing old of it.
func TestSyncTakesEachWriteOnce(t *testing.T) {
	d := New()
	written(t, d, 5, "old")
	synced(t, d)
	d.Lay([]string{5: "new"})
	synced(t, d)
	wantImage(t, d, map[int]string{5: "new"})
	written(t, d, 5, "lost")
	d.Crash(nil)
	synced(t, d)
	wantImage(t, d, map[int]string{5: "new"})
}

// Promise 3.1: ErrRange ahead of ErrLimit, ErrLimit ahead of ErrDevice.
func TestWriteTellsTheFirstError(t *testing.T) {
	long := text(api.Block+1, 0)
	d := New()
	wantError(t, "no block, too long", d.Write(api.Blocks, long), api.ErrRange)
	d.Fuse(0)
	wantError(t, "no block, too long, spent", d.Write(-1, long), api.ErrRange)
	wantError(t, "no block, spent", d.Write(api.Blocks, "x"), api.ErrRange)
	wantError(t, "too long, spent", d.Write(0, long), api.ErrLimit)
	wantError(t, "spent", d.Write(0, "x"), api.ErrDevice)
	wantRead(t, d, 0, "")
}

// Promise 3.1: a fuse of 0 lets nothing be done, and nothing is changed then; reading goes on.
func TestFuseOfNought(t *testing.T) {
	d := New()
	written(t, d, 0, "sure")
	synced(t, d)
	written(t, d, 0, "not sure")
	d.Fuse(0)
	for range 3 {
		wantError(t, "Write", d.Write(0, "x"), api.ErrDevice)
		wantError(t, "Sync", d.Sync(), api.ErrDevice)
		wantRead(t, d, 0, "not sure")
		wantImage(t, d, map[int]string{0: "sure"})
	}
	d.Fuse(-1)
	synced(t, d)
	wantImage(t, d, map[int]string{0: "not sure"})
}

// Promise 3.1: a fuse of 1 lets one be done, a write or a sync.
func TestFuseOfOne(t *testing.T) {
	d := New()
	d.Fuse(1)
	written(t, d, 0, "a")
	wantError(t, "Sync", d.Sync(), api.ErrDevice)
	wantError(t, "Write", d.Write(0, "b"), api.ErrDevice)
	wantRead(t, d, 0, "a")
	wantImage(t, d, nil)
	d.Fuse(1)
	synced(t, d)
	wantError(t, "Sync", d.Sync(), api.ErrDevice)
	wantError(t, "Write", d.Write(0, "b"), api.ErrDevice)
	wantImage(t, d, map[int]string{0: "a"})
}

// Promise 3.1: a fuse of n lets n be done, writes and syncs together; what is told anew holds.
func TestFuseOfMore(t *testing.T) {
	for n := range 8 {
		d := New()
		d.Fuse(100)
		d.Fuse(n)
		done := 0
		for i := range 20 {
			if i%3 == 0 && d.Sync() == nil || i%3 > 0 && d.Write(i, "a") == nil {
				done++
			}
		}
		if done != n {
			t.Errorf("a fuse of %d lets %d be done", n, done)
		}
	}
}

// Promise 3.1: below 0 there is no fuse.
func TestFuseBelowNought(t *testing.T) {
	for _, n := range []int{-1, -2, math.MinInt} {
		d := New()
		d.Fuse(0)
		d.Fuse(n)
		for range 5 {
			written(t, d, 0, "a")
			synced(t, d)
		}
	}
}

// Promise 3.1: what tells ErrRange or ErrLimit, and what is no Write and no Sync, takes nothing off the fuse.
func TestWhatTakesNothingOff(t *testing.T) {
	d := New()
	d.Fuse(2)
	for range 3 {
		wantError(t, "no block", d.Write(api.Blocks, "a"), api.ErrRange)
		wantError(t, "too long", d.Write(0, text(api.Block+1, 0)), api.ErrLimit)
		wantRead(t, d, 0, "")
		wantImage(t, d, nil)
		d.Lay(nil)
	}
	written(t, d, 0, "a")
	wantRead(t, d, 0, "a")
	synced(t, d)
	wantError(t, "Write", d.Write(0, "b"), api.ErrDevice)
	d.Lay(nil)
	wantError(t, "Write behind Lay", d.Write(0, "b"), api.ErrDevice)
}

// Promise 3.1: a fuse is of its device alone, and gone behind a crash.
func TestNoFuseBehindACrash(t *testing.T) {
	for n := range 3 {
		d := New()
		d.Fuse(n)
		d.Crash(nil)
		for range 5 {
			written(t, d, 0, "a")
			synced(t, d)
		}
	}
}

// Promise 3.1: a crash keeps each write, or loses it, as it is told, in their order.
func TestCrashKeepsOneByOne(t *testing.T) {
	for _, c := range []struct {
		what  string
		keeps []bool
		want  map[int]string
	}{
		{"none told", nil, map[int]string{1: "sure", 2: "sure too"}},
		{"none told, a list", []bool{}, map[int]string{1: "sure", 2: "sure too"}},
		{"fewer told", []bool{true}, map[int]string{1: "a", 2: "sure too"}},
		{"fewer told, lost", []bool{false, true}, map[int]string{1: "sure", 2: "b"}},
		{"the earlier alone", []bool{true, false, false, false}, map[int]string{1: "a", 2: "sure too"}},
		{"the later alone", []bool{false, false, true, false}, map[int]string{1: "c", 2: "sure too"}},
		{"both: the later", []bool{true, false, true, false}, map[int]string{1: "c", 2: "sure too"}},
		{"the last", []bool{false, false, false, true}, map[int]string{1: "sure", 2: "sure too", last: "d"}},
		{"all", []bool{true, true, true, true}, map[int]string{1: "c", 2: "b", last: "d"}},
		{"more told", []bool{true, true, true, true, true, false, true}, map[int]string{1: "c", 2: "b", last: "d"}},
		{"more told, lost", []bool{false, false, false, false, true, true}, map[int]string{1: "sure", 2: "sure too"}},
	} {
		t.Run(c.what, func(t *testing.T) {
			d := New()
			written(t, d, 1, "sure")
			written(t, d, 2, "sure too")
			synced(t, d)
			written(t, d, 1, "a")
			written(t, d, 2, "b")
			written(t, d, 1, "c")
			written(t, d, last, "d")
			d.Crash(c.keeps)
			wantImage(t, d, c.want)
			for at := range api.Blocks {
				wantRead(t, d, at, c.want[at])
			}
			d.Crash([]bool{true, true, true, true})
			synced(t, d)
			wantImage(t, d, c.want)
		})
	}
}

// Promise 3.1: writes that were not done are none that a crash is asked about.
func TestCrashCountsWhatWasWritten(t *testing.T) {
	d := New()
	wantError(t, "no block", d.Write(-1, "x"), api.ErrRange)
	wantError(t, "too long", d.Write(0, text(api.Block+1, 0)), api.ErrLimit)
	d.Fuse(0)
	wantError(t, "spent", d.Write(0, "x"), api.ErrDevice)
	d.Fuse(1)
	written(t, d, 4, "a")
	wantError(t, "Sync", d.Sync(), api.ErrDevice)
	d.Crash([]bool{true})
	wantImage(t, d, map[int]string{4: "a"})
}

// Promise 3.1: Lay of as many blocks, fewer, more, none; of those too long and too short.
func TestLay(t *testing.T) {
	whole := make([]string, api.Blocks)
	want := map[int]string{}
	for at := range whole {
		whole[at] = text(api.Block, at)
		want[at] = whole[at]
	}
	for _, c := range []struct {
		what string
		l    []string
		want map[int]string
	}{
		{"none", nil, nil},
		{"none, a list", []string{}, nil},
		{"as many", whole, want},
		{"more", append(slices.Clone(whole), "x", "y"), want},
		{"fewer", []string{"a", "", "c"}, map[int]string{0: "a", 2: "c"}},
		{"one too long", []string{text(api.Block+1, 1), "b"}, map[int]string{0: text(api.Block, 1), 1: "b"}},
		{"much too long", []string{"", text(api.MaxText, 1)}, map[int]string{1: text(api.Block, 1)}},
		{"one byte short", []string{text(api.Block-1, 1)}, map[int]string{0: text(api.Block-1, 1)}},
	} {
		t.Run(c.what, func(t *testing.T) {
			d := New()
			for at := range api.Blocks {
				written(t, d, at, text(api.Block, 100))
			}
			synced(t, d)
			written(t, d, 0, "not sure")
			written(t, d, last, "not sure")
			d.Lay(c.l)
			wantImage(t, d, c.want)
			for at := range api.Blocks {
				wantRead(t, d, at, c.want[at])
			}
			d.Crash([]bool{true, true})
			synced(t, d)
			wantImage(t, d, c.want)
		})
	}
}

// Promise 3.1: an image that is laid down is the image again, on whatever device.
func TestImageIsLaidDownAgain(t *testing.T) {
	d, e := New(), New()
	written(t, d, 0, "a")
	written(t, d, last, text(api.Block, 9))
	synced(t, d)
	old := d.Image()
	written(t, d, 0, "b")
	synced(t, d)
	for _, x := range []*Device{d, e} {
		x.Lay(old)
		if !slices.Equal(x.Image(), old) {
			t.Error("another image than the one that was laid down")
		}
	}
	wantRead(t, d, 0, "a")
}

// P4: lists that are handed in are not written into and not kept; those that come out are the caller's.
func TestListsAreNotShared(t *testing.T) {
	d := New()
	room := []string{"a", "b", "behind"}
	d.Lay(room[:2])
	wantImage(t, d, map[int]string{0: "a", 1: "b"})
	room[0] = "x"
	wantImage(t, d, map[int]string{0: "a", 1: "b"})
	if !slices.Equal(room, []string{"x", "b", "behind"}) {
		t.Errorf("Lay wrote into its list: %q", room)
	}
	out := d.Image()
	out[0] = "y"
	wantImage(t, d, map[int]string{0: "a", 1: "b"})

	written(t, d, 0, "c")
	written(t, d, 1, "d")
	keeps := []bool{true, false, true}
	d.Crash(keeps[:1])
	if !slices.Equal(keeps, []bool{true, false, true}) {
		t.Errorf("Crash wrote into its list: %v", keeps)
	}
	wantImage(t, d, map[int]string{0: "c", 1: "b"})
	written(t, d, 1, "e")
	written(t, d, 2, "f")
	d.Crash(keeps[:1])
	wantImage(t, d, map[int]string{0: "c", 1: "e"})
}

// slow is a device told another way: each block's last text beside its sure one, and a list of writes.
type slow struct {
	sure, last map[int]string
	at         []int
	what       []string
	fuse       int
}

func (s *slow) settle() {
	s.at, s.what, s.last = nil, nil, map[int]string{}
	for at, x := range s.sure {
		s.last[at] = x
	}
}

func (s *slow) done() bool {
	if s.fuse == 0 {
		return false
	}
	s.fuse = max(s.fuse-1, -1)
	return true
}

// Promise 3.1: many calls, one behind another, tell what a device told another way does.
func TestManyCalls(t *testing.T) {
	seed := uint64(1)
	die := func(most int) int {
		seed = seed*6364136223846793005 + 1442695040888963407
		return int(seed >> 33 % uint64(most))
	}
	for range 200 {
		d, s := New(), &slow{fuse: -1}
		s.sure = map[int]string{}
		s.settle()
		for range 40 {
			at, x := die(4), text(die(api.Block+1), die(100))
			switch k := die(12); {
			case k < 7:
				err := d.Write(at, x)
				if done := s.done(); done != (err == nil) {
					t.Fatalf("Write tells %v, want it done: %t", err, done)
				} else if done {
					s.last[at] = x
					s.at, s.what = append(s.at, at), append(s.what, x)
				}
			case k == 7:
				err := d.Sync()
				if done := s.done(); done != (err == nil) {
					t.Fatalf("Sync tells %v, want it done: %t", err, done)
				} else if done {
					s.sure = s.last
					s.settle()
				}
			case k == 8:
				s.fuse = die(9) - 1
				d.Fuse(s.fuse)
			case k == 9:
				keeps := make([]bool, die(6))
				for i := range keeps {
					if keeps[i] = die(2) > 0; keeps[i] && i < len(s.at) {
						s.sure[s.at[i]] = s.what[i]
					}
				}
				d.Crash(keeps)
				s.fuse = -1
				s.settle()
			case k == 10:
				d.Lay(append(make([]string, at), x))
				s.sure = map[int]string{at: x}
				s.settle()
			}
			for at := range api.Blocks {
				wantRead(t, d, at, s.last[at])
			}
			wantImage(t, d, s.sure)
		}
	}
}

// P1: no call panics, not of a device or a counter that is not there either; nothing is done then.
func TestNothingThere(t *testing.T) {
	var d *Device
	_, err := d.Read(0)
	wantError(t, "Read", err, api.ErrRange)
	wantError(t, "Write", d.Write(0, "a"), api.ErrRange)
	wantError(t, "Sync", d.Sync(), api.ErrDevice)
	d.Fuse(1)
	d.Crash([]bool{true})
	d.Lay([]string{"a"})
	if got := d.Image(); len(got) != 0 {
		t.Errorf("an image of %d blocks", len(got))
	}
	var c *Counter
	wantError(t, "Raise", c.Raise(1), api.ErrOrder)
	if got := c.Get(); got != 0 {
		t.Errorf("it is at %d", got)
	}
}

// Promise 3.2: a counter is at 0, goes up, and never goes back or stays.
func TestCounter(t *testing.T) {
	var c Counter
	at := 0
	for _, n := range []int{0, -1, math.MinInt, 1, 1, 0, 2, 7, 7, 6, -7, 1 << 40, 1<<40 - 1, math.MaxInt - 1, math.MaxInt, math.MaxInt, 0} {
		want := api.ErrOrder
		if n > at {
			want, at = api.OK, n
		}
		wantError(t, fmt.Sprint("Raise ", n), c.Raise(n), want)
		if got := c.Get(); got != at {
			t.Errorf("behind Raise %d: it is at %d, want %d", n, got, at)
		}
	}
}

// Promise 3.2: counters are apart; two that have one counter see what is done to it.
func TestCountersAreApart(t *testing.T) {
	var c, e Counter
	other := &c
	wantError(t, "Raise", c.Raise(3), api.OK)
	if c.Get() != 3 || other.Get() != 3 || e.Get() != 0 {
		t.Errorf("they are at %d, %d, %d; want 3, 3, 0", c.Get(), other.Get(), e.Get())
	}
	wantError(t, "Raise the other one", e.Raise(1), api.OK)
	wantError(t, "Raise by the other", other.Raise(3), api.ErrOrder)
}
