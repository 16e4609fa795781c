package vault

import (
	"crypto/sha256"
	"encoding/binary"
	"encoding/hex"
	"errors"
	"fmt"
	"maps"
	"math"
	"slices"
	"strings"
	"testing"

	"coffer/api"
	"coffer/device"
	"coffer/page"
	"coffer/super"
	"coffer/tree"
)

const (
	secret     = "0123456789abcdef"
	sealedSize = 8 + 12 + 1 + api.Plain + 16 // bytes of a page's block that are told
)

// bytesOf is a number's eight bytes, by the library.
func bytesOf(n int) string {
	return string(binary.BigEndian.AppendUint64(nil, uint64(n)))
}

// keyOf is the sum of a mark, worked out by the library, not by the program.
func keyOf(kind byte, parts ...string) string {
	all := []byte{kind}
	for _, p := range parts {
		all = append(all, bytesOf(len(p))+p...)
	}
	mark := sha256.Sum256(all)
	key := sha256.Sum256(mark[:16])
	return string(key[:])
}

// padded is a text as a block tells it: 0 behind it.
func padded(s string) string {
	return s + strings.Repeat("\x00", api.Block-len(s))
}

// text is one of that many bytes, in which every byte comes.
func text(size, seed int) string {
	b := make([]byte, size)
	for i := range b {
		b[i] = byte(i*167 + seed*31 + 1)
	}
	return string(b)
}

// shadow is what the document asks of a vault: what it tells, and all blocks, one write a step.
type shadow struct {
	count, epoch int
	pages        [api.Pages]entry
	sides        [api.Pages]bool
	blocks       []string
	steps        []string // of the last change: "at:text" a write, "" a sync
}

// newShadow is that of a vault on an empty device.
func newShadow() *shadow {
	s := &shadow{epoch: 1, blocks: make([]string, api.Blocks)}
	for i := range s.blocks {
		s.blocks[i] = padded("")
	}
	return s
}

// put writes a block.
func (s *shadow) put(at int, what string) {
	s.blocks[at] = padded(what)
	s.steps = append(s.steps, fmt.Sprint(at, ":", padded(what)))
}

// sync is a step that changes nothing here.
func (s *shadow) sync() { s.steps = append(s.steps, "") }

// change tells pages, by an Epoch's key.
func (s *shadow) change(t *testing.T, told map[int]string, epoch int) {
	t.Helper()
	s.count, s.epoch, s.steps = s.count+1, epoch, nil
	for _, id := range slices.Sorted(maps.Keys(told)) {
		s.pages[id] = entry{s.count, told[id]}
		s.sides[id] = !s.sides[id]
		sealed, err := page.Seal(keyOf('k', secret, bytesOf(epoch)), id, s.count, told[id])
		wantError(t, "Seal", err, api.OK)
		s.put(s.at(id), sealed)
	}
	s.sync()
	var marks []string
	for id, e := range s.pages {
		marks = append(marks, page.Mark(id, e.count, e.text))
	}
	root, err := tree.Root(marks)
	wantError(t, "Root", err, api.OK)
	top, err := super.Write(keyOf('s', secret), api.Super{Count: s.count, Epoch: epoch, Sides: s.sides, Root: root})
	wantError(t, "super.Write", err, api.OK)
	s.put(s.count%2, top)
	s.sync()
}

// at is the block in which a page stands.
func (s *shadow) at(id int) int {
	if s.sides[id] {
		return 3 + 2*id
	}
	return 2 + 2*id
}

// tell is Tell.
func (s *shadow) tell(t *testing.T, m map[int]string) {
	t.Helper()
	told := maps.Clone(m)
	maps.DeleteFunc(told, func(id int, text string) bool { return text == s.pages[id].text })
	s.change(t, told, s.epoch)
}

// turn is Turn.
func (s *shadow) turn(t *testing.T) {
	t.Helper()
	told := map[int]string{}
	for id, e := range s.pages {
		told[id] = e.text
	}
	s.change(t, told, s.epoch+1)
}

// clone is a shadow that goes its own way.
func (s *shadow) clone() *shadow {
	c := *s
	c.blocks, c.steps = slices.Clone(s.blocks), slices.Clone(s.steps)
	return &c
}

// wantError holds an error against the one that the document asks (api.OK: none).
func wantError(t *testing.T, what string, err error, want api.Errno) {
	t.Helper()
	if got := api.Tell(err); got != want {
		t.Errorf("%s: error %d, want %d", what, got, want)
	}
	var place *api.At
	if errors.As(err, &place) {
		t.Errorf("%s: the error has a place", what)
	}
}

// wantVault holds all that a vault tells against its shadow.
func wantVault(t *testing.T, what string, v *Vault, want *shadow) {
	t.Helper()
	if v == nil {
		t.Fatalf("%s: there is no vault", what)
	}
	if v.Count() != want.count || v.Epoch() != want.epoch {
		t.Errorf("%s: Count %d, Epoch %d; want %d, %d", what, v.Count(), v.Epoch(), want.count, want.epoch)
	}
	for id, e := range want.pages {
		got, err := v.Get(id)
		if err != nil || got != e.text {
			t.Errorf("%s: page %d: %.20q, %v; want %.20q", what, id, got, err, e.text)
		}
	}
}

// wantBlocks holds all blocks that are sure against those that are asked.
func wantBlocks(t *testing.T, what string, d *device.Device, want []string) {
	t.Helper()
	for at, s := range d.Image() {
		if s != want[at] {
			t.Errorf("%s: block %d: %.20q.., want %.20q..", what, at, s, want[at])
		}
	}
}

// opened opens, and asks that it is done.
func opened(t *testing.T, d *device.Device, c *device.Counter) *Vault {
	t.Helper()
	v, err := Open(d, c, secret)
	wantError(t, "Open", err, api.OK)
	if v == nil {
		t.Fatal("Open: no vault")
	}
	return v
}

// wantRefused asks that Open tells an error, and nothing beside it, and leaves the counter.
func wantRefused(t *testing.T, what string, d *device.Device, c *device.Counter, secret string, want api.Errno) {
	t.Helper()
	ahead := c.Get()
	v, err := Open(d, c, secret)
	wantError(t, what, err, want)
	if v != nil {
		t.Errorf("%s: a vault beside an error", what)
	}
	if c.Get() != ahead {
		t.Errorf("%s: the counter is at %d, want %d", what, c.Get(), ahead)
	}
}

// at is a counter that is so far.
func at(t *testing.T, n int) *device.Counter {
	t.Helper()
	c := &device.Counter{}
	if n > 0 {
		wantError(t, "Raise", c.Raise(n), api.OK)
	}
	return c
}

// laid is a device with blocks that are sure.
func laid(blocks []string) *device.Device {
	d := device.New()
	d.Lay(blocks)
	return d
}

// turned is blocks with one bit of a byte turned.
func turned(blocks []string, at, place int) []string {
	out := slices.Clone(blocks)
	b := []byte(out[at])
	b[place] ^= 1 << (place % 8)
	out[at] = string(b)
	return out
}

// history is what a vault went through: the last ones in it have pages of both sides, and some that were never told.
func history(t *testing.T) []*shadow {
	t.Helper()
	s := newShadow()
	all := []*shadow{s.clone()}
	for _, m := range []map[int]string{
		{0: "a", 1: "b", 31: text(api.Plain, 1)},
		{0: "aa", 5: ""},
		nil,
		{1: "", 7: "seven", 31: text(api.Plain, 1)},
		{0: "a", 7: "7"},
	} {
		s.tell(t, m)
		all = append(all, s.clone())
	}
	return all
}

// Promise 7.2: ErrArg, and the secret's length.
func TestOpenRefusesArguments(t *testing.T) {
	for _, size := range []int{0, 1, 15, 17, 32} {
		wantRefused(t, fmt.Sprint("secret of ", size), device.New(), at(t, 0), text(size, 1), api.ErrArg)
		wantRefused(t, fmt.Sprint("secret of ", size, ", counter above 0"), device.New(), at(t, 1), text(size, 1), api.ErrArg)
	}
	wantRefused(t, "no device", nil, at(t, 0), secret, api.ErrArg)
	wantRefused(t, "no counter", device.New(), nil, secret, api.ErrArg)
	wantRefused(t, "nothing", nil, nil, "", api.ErrArg)
	v, err := Open(device.New(), at(t, 0), strings.Repeat("\x00", 16))
	wantError(t, "a secret of 0", err, api.OK)
	wantVault(t, "a secret of 0", v, newShadow())
}

// Promise 7.2: an empty device, and the counter at 0: no page was told.
func TestOpenEmptyDevice(t *testing.T) {
	for what, d := range map[string]*device.Device{"New": device.New(), "zero value": {}} {
		c := at(t, 0)
		d.Fuse(0)
		v := opened(t, d, c)
		wantVault(t, what, v, newShadow())
		wantBlocks(t, what, d, newShadow().blocks)
		if c.Get() != 0 {
			t.Errorf("%s: the counter is at %d", what, c.Get())
		}
	}
}

// Promise 7.2: an empty device, and the counter above 0: ErrSpoilt.
func TestOpenEmptyDeviceWithCounter(t *testing.T) {
	for _, n := range []int{1, 2, 3, 1 << 40, 1<<40 + 1, math.MaxInt - 1, math.MaxInt} {
		wantRefused(t, fmt.Sprint("counter at ", n), device.New(), at(t, n), secret, api.ErrSpoilt)
	}
}

// Promise 7.2: with the counter at 0 it is no matter what stands there.
func TestOpenFilledDeviceWithoutCounter(t *testing.T) {
	blocks := make([]string, api.Blocks)
	for i := range blocks {
		blocks[i] = text(api.Block, i)
	}
	wantVault(t, "filled", opened(t, laid(blocks), at(t, 0)), newShadow())
	// A state that is too far above the counter is none.
	wantVault(t, "Count 3", opened(t, laid(history(t)[3].blocks), at(t, 0)), newShadow())
}

// Promise 7.2: pages that are there, and those that are not.
func TestGetBounds(t *testing.T) {
	d, c := device.New(), at(t, 0)
	v := opened(t, d, c)
	wantError(t, "Tell", v.Tell(map[int]string{0: "first", 31: "last"}), api.OK)
	for _, v := range []*Vault{v, opened(t, d, c)} {
		for id, want := range map[int]string{0: "first", 1: "", 30: "", 31: "last"} {
			got, err := v.Get(id)
			wantError(t, fmt.Sprint("Get ", id), err, api.OK)
			if got != want {
				t.Errorf("Get %d: %q, want %q", id, got, want)
			}
		}
		for _, id := range []int{-1, 32, 33, math.MinInt, math.MaxInt} {
			got, err := v.Get(id)
			wantError(t, fmt.Sprint("Get ", id), err, api.ErrRange)
			if got != "" {
				t.Errorf("Get %d: %q beside an error", id, got)
			}
		}
	}
}

// Promise 7.1: where each page and each Super stand, over several Tells and Turns, each of them read again too.
func TestWhereAllStands(t *testing.T) {
	d, c, s := device.New(), at(t, 0), newShadow()
	v := opened(t, d, c)
	all := map[int]string{}
	for id := range api.Pages {
		all[id] = text(id*api.Plain/31, id)
	}
	for i, m := range []map[int]string{
		{0: "a"},
		{0: "b", 31: text(api.Plain, 1)},
		{0: "b", 31: "", 5: ""},
		nil,
		{},
		all,
		{31: "x", 0: "y", 17: text(1, 1), 5: ""},
		all,
		all,
		{12: "\x00", 13: "\x00\x00"},
	} {
		what := fmt.Sprint("Tell ", i)
		wantError(t, what, v.Tell(m), api.OK)
		s.tell(t, m)
		wantVault(t, what, v, s)
		wantBlocks(t, what, d, s.blocks)
		if i%3 == 2 {
			wantError(t, what+", Turn", v.Turn(), api.OK)
			s.turn(t)
			wantVault(t, what+", Turn", v, s)
			wantBlocks(t, what+", Turn", d, s.blocks)
		}
		if c.Get() != s.count {
			t.Errorf("%s: the counter is at %d, want %d", what, c.Get(), s.count)
		}
		again := opened(t, d, c)
		wantVault(t, what+", opened", again, s)
		if i%2 == 1 {
			v = again
		}
	}
}

// Promise 7.1: the sums of all blocks, worked out by another program from the document's words alone.
func TestKnownImages(t *testing.T) {
	d, c := device.New(), at(t, 0)
	v := opened(t, d, c)
	tell := func(m map[int]string) func() error { return func() error { return v.Tell(m) } }
	for i, x := range []struct {
		do   func() error
		want string
	}{
		{tell(map[int]string{0: "zero", 31: strings.Repeat("y", 200), 7: ""}), "a3520dd1406ab531"},
		{v.Turn, "45aea8364cc65764"},
		{tell(map[int]string{0: "", 5: "five"}), "d023a3a86251b9f1"},
		{tell(nil), "5254351b5fa18a31"},
		{tell(map[int]string{5: "five", 31: "\x00"}), "fef284dd6ca73f80"},
	} {
		wantError(t, fmt.Sprint("step ", i), x.do(), api.OK)
		h := sha256.Sum256([]byte(strings.Join(d.Image(), "")))
		if got := hex.EncodeToString(h[:8]); got != x.want {
			t.Errorf("step %d: %s, want %s", i, got, x.want)
		}
	}
}

// Promise 7.3: what may not be told, and nothing is changed then: also no step of the fuse is taken, and the vault goes on.
func TestTellRefuses(t *testing.T) {
	d, c, s := device.New(), at(t, 0), newShadow()
	v := opened(t, d, c)
	wantError(t, "Tell", v.Tell(map[int]string{0: "a"}), api.OK)
	s.tell(t, map[int]string{0: "a"})
	long := text(api.Plain+1, 1)
	for i, x := range []struct {
		m    map[int]string
		want api.Errno
	}{
		{map[int]string{-1: ""}, api.ErrRange},
		{map[int]string{32: ""}, api.ErrRange},
		{map[int]string{0: "b", 32: "x"}, api.ErrRange},
		{map[int]string{math.MinInt: "", 0: "b"}, api.ErrRange},
		{map[int]string{math.MaxInt: ""}, api.ErrRange},
		{map[int]string{0: long}, api.ErrLimit},
		{map[int]string{31: long, 0: "b"}, api.ErrLimit},
		{map[int]string{31: text(20000, 1)}, api.ErrLimit},
		{map[int]string{0: long, 32: ""}, api.ErrRange},
		{map[int]string{-1: "", 31: long}, api.ErrRange},
		{map[int]string{-1: long}, api.ErrRange},
		{map[int]string{32: long, 1: "b"}, api.ErrRange},
	} {
		what := fmt.Sprint("Tell ", i)
		d.Fuse(0)
		for range 8 { // a map is gone through in whichever order
			wantError(t, what, v.Tell(x.m), x.want)
		}
		d.Fuse(-1)
		wantVault(t, what, v, s)
		wantBlocks(t, what, d, s.blocks)
		if c.Get() != s.count {
			t.Errorf("%s: the counter is at %d", what, c.Get())
		}
	}
	m := map[int]string{0: text(api.Plain, 1), 31: ""}
	wantError(t, "Tell of Plain bytes", v.Tell(m), api.OK)
	s.tell(t, m)
	wantVault(t, "Tell of Plain bytes", v, s)
	wantBlocks(t, "Tell of Plain bytes", d, s.blocks)
}

// Promise 7.3: what a page says already is not written; nor is a page that was never told nothing. The Count is one more all the same.
func TestTellOfNothingNew(t *testing.T) {
	for what, m := range map[string]map[int]string{
		"nil":             nil,
		"nothing":         {},
		"the same":        {0: "a", 31: text(api.Plain, 1)},
		"never told":      {3: ""},
		"told nothing":    {1: ""},
		"all of these":    {0: "a", 1: "", 3: "", 31: text(api.Plain, 1)},
		"only some of it": {31: text(api.Plain, 1)},
	} {
		d, c, s := device.New(), at(t, 0), newShadow()
		v := opened(t, d, c)
		for _, m := range []map[int]string{{0: "a", 1: "b", 31: text(api.Plain, 1)}, {1: ""}} {
			wantError(t, what, v.Tell(m), api.OK)
			s.tell(t, m)
		}
		d.Fuse(3) // a Sync, the Super, a Sync
		wantError(t, what, v.Tell(m), api.OK)
		s.tell(t, m)
		if len(s.steps) != 3 {
			t.Errorf("%s: %d steps", what, len(s.steps))
		}
		wantVault(t, what, v, s)
		wantBlocks(t, what, d, s.blocks)
		wantVault(t, what, opened(t, d, c), s)
	}
}

// Promise 7.3: all pages are sealed by the next Epoch's key, also those that were never told.
func TestTurn(t *testing.T) {
	d, c, s := device.New(), at(t, 0), newShadow()
	v := opened(t, d, c)
	m := map[int]string{0: "a", 31: text(api.Plain, 1)}
	wantError(t, "Tell", v.Tell(m), api.OK)
	s.tell(t, m)
	for epoch := 2; epoch < 6; epoch++ {
		what := fmt.Sprint("Turn to ", epoch)
		d.Fuse(api.Pages + 3)
		wantError(t, what, v.Turn(), api.OK)
		d.Fuse(-1)
		s.turn(t)
		if v.Epoch() != epoch || v.Count() != epoch || c.Get() != epoch {
			t.Errorf("%s: Epoch %d, Count %d, counter %d", what, v.Epoch(), v.Count(), c.Get())
		}
		wantVault(t, what, v, s)
		wantBlocks(t, what, d, s.blocks)
		image := d.Image()
		for id := range api.Pages {
			_, _, err := page.Open(keyOf('k', secret, bytesOf(epoch-1)), id, image[s.at(id)])
			wantError(t, what+": by the elder key", err, api.ErrSpoilt)
			count, got, err := page.Open(keyOf('k', secret, bytesOf(epoch)), id, image[s.at(id)])
			if err != nil || count != s.count || got != m[id] {
				t.Errorf("%s: page %d: %d, %.20q, %v", what, id, count, got, err)
			}
		}
		v = opened(t, d, c)
		wantVault(t, what+", opened", v, s)
	}
}

// behindSteps is the blocks behind the first n steps of a change, where of writes that were not sure yet those are kept that keep tells.
func behindSteps(blocks, steps []string, n int, keep func(int) bool) []string {
	out := slices.Clone(blocks)
	var waiting []string
	lay := func(keep func(int) bool) {
		for i, w := range waiting {
			if keep(i) {
				var at int
				place, what, _ := strings.Cut(w, ":")
				fmt.Sscan(place, &at)
				out[at] = what
			}
		}
		waiting = nil
	}
	for _, s := range steps[:n] {
		if s == "" {
			lay(func(int) bool { return true })
			continue
		}
		waiting = append(waiting, s)
	}
	lay(keep)
	return out
}

// crashed is a change that was cut off: its device, its counter, and what it was ahead, and was to be.
type crashed struct {
	d           *device.Device
	c           *device.Counter
	ahead, next *shadow
	change      func(*Vault) error
	fuse        int
	keeps       []bool
}

// cut lays a state down, cuts a change at a step, and lets the power be lost.
func (x *crashed) cut(t *testing.T, what string) {
	t.Helper()
	x.d, x.c = laid(x.ahead.blocks), at(t, x.ahead.count)
	v := opened(t, x.d, x.c)
	wantVault(t, what+", ahead", v, x.ahead)
	x.d.Fuse(x.fuse)
	wantError(t, what, x.change(v), api.ErrDevice)
	wantVault(t, what+", behind the error", v, x.ahead)
	x.d.Fuse(-1)
	wantError(t, what+", Tell behind the error", v.Tell(nil), api.ErrState)
	wantError(t, what+", Turn behind the error", v.Turn(), api.ErrState)
	if x.c.Get() != x.ahead.count {
		t.Errorf("%s: the counter is at %d, want %d", what, x.c.Get(), x.ahead.count)
	}
	x.d.Crash(x.keeps)
	keep := func(i int) bool { return i < len(x.keeps) && x.keeps[i] }
	wantBlocks(t, what, x.d, behindSteps(x.ahead.blocks, x.next.steps, x.fuse, keep))
}

// check opens what is there behind it, and goes on from there.
func (x *crashed) check(t *testing.T, what string) {
	t.Helper()
	want := x.ahead.clone()
	// The Super is the last write but the Sync: if it is there, all is told.
	if x.fuse == len(x.next.steps)-1 && len(x.keeps) > 0 && x.keeps[0] {
		want = x.next.clone()
	}
	v := opened(t, x.d, x.c)
	wantVault(t, what+", opened", v, want)
	if x.c.Get() != want.count {
		t.Errorf("%s: the counter is at %d, want %d", what, x.c.Get(), want.count)
	}
	m := map[int]string{0: "behind", 2: "it", 30: ""}
	wantError(t, what+", Tell", v.Tell(m), api.OK)
	want.tell(t, m)
	wantVault(t, what+", told", v, want)
	wantVault(t, what+", told and opened", opened(t, x.d, x.c), want)
}

// subsets are all ways to keep n writes, or, of many, some that are unlike one another.
func subsets(n int) [][]bool {
	var out [][]bool
	if n <= 4 {
		for bits := range 1 << n {
			keeps := make([]bool, n)
			for i := range keeps {
				keeps[i] = bits>>i&1 == 1
			}
			out = append(out, keeps)
		}
		return out
	}
	for _, keep := range []func(int) bool{
		func(int) bool { return false },
		func(int) bool { return true },
		func(i int) bool { return i%2 == 0 },
		func(i int) bool { return i != 0 },
		func(i int) bool { return i == n-1 },
		func(i int) bool { return i*i%7 < 3 },
	} {
		keeps := make([]bool, n)
		for i := range keeps {
			keeps[i] = keep(i)
		}
		out = append(out, keeps)
	}
	return out
}

// waiting is how many writes are not sure behind the first n steps.
func waiting(steps []string, n int) int {
	count := 0
	for _, s := range steps[:n] {
		count++
		if s == "" {
			count = 0
		}
	}
	return count
}

// Promises 7.3 and 7.4: a fuse at each write of a Tell and of a Turn, a crash that keeps any of the blocks, and Open behind it: all, or nothing. (What is kept shows the writes' order, too.)
func TestCrashAtEachStep(t *testing.T) {
	all := history(t)
	behind := all[5].clone()
	behind.turn(t)
	m := map[int]string{31: "z", 0: "y", 1: "", 2: "x"}
	for _, ahead := range []*shadow{all[0], all[1], all[4], all[5], behind} {
		told, turn := ahead.clone(), ahead.clone()
		told.tell(t, m)
		turn.turn(t)
		for name, x := range map[string]crashed{
			"Tell": {ahead: ahead, next: told, change: func(v *Vault) error { return v.Tell(m) }},
			"Turn": {ahead: ahead, next: turn, change: func(v *Vault) error { return v.Turn() }},
		} {
			for fuse := range len(x.next.steps) {
				x.fuse = fuse
				for _, keeps := range subsets(waiting(x.next.steps, fuse)) {
					x.keeps = keeps
					what := fmt.Sprint(name, " at ", ahead.count, ", fuse ", fuse, ", keeps ", keeps)
					x.cut(t, what)
					x.check(t, what)
				}
			}
		}
	}
}

// Promise 7.4: a crash behind the last Sync, ahead of the counter: what was being told is there, and the counter is Raised.
func TestCrashAheadOfCounter(t *testing.T) {
	for _, s := range history(t)[1:] {
		what := fmt.Sprint("Count ", s.count)
		d, c := laid(s.blocks), at(t, s.count-1)
		d.Fuse(0) // nothing is written for it
		v := opened(t, d, c)
		wantVault(t, what, v, s)
		wantBlocks(t, what, d, s.blocks)
		if c.Get() != s.count {
			t.Errorf("%s: the counter is at %d", what, c.Get())
		}
		wantVault(t, what+", again", opened(t, d, c), s)
	}
}

// Promise 7.2: if the state one above the counter is not WHOLE, it is that of the counter.
func TestOneAboveIsNotWhole(t *testing.T) {
	all := history(t)
	for i, s := range all[1:] {
		ahead := all[i]
		for _, at := range changedBlocks(ahead.blocks, s.blocks) {
			what := fmt.Sprint("Count ", s.count, ", block ", at)
			c := &device.Counter{}
			if ahead.count > 0 {
				wantError(t, what, c.Raise(ahead.count), api.OK)
			}
			wantVault(t, what, opened(t, laid(turned(s.blocks, at, 30)), c), ahead)
			if c.Get() != ahead.count {
				t.Errorf("%s: the counter is at %d, want %d", what, c.Get(), ahead.count)
			}
		}
	}
}

// changedBlocks are those that are not alike.
func changedBlocks(a, b []string) []int {
	var out []int
	for i := range a {
		if a[i] != b[i] {
			out = append(out, i)
		}
	}
	return out
}

// Promise 7.3: a device's error is told, and behind it nothing but ErrState, whatever is asked.
func TestTellBehindError(t *testing.T) {
	for what, fail := range map[string]func(*Vault) error{
		"Tell": func(v *Vault) error { return v.Tell(map[int]string{0: "b"}) },
		"Turn": func(v *Vault) error { return v.Turn() },
	} {
		d, c, s := device.New(), at(t, 0), newShadow()
		v := opened(t, d, c)
		wantError(t, what, v.Tell(map[int]string{0: "a"}), api.OK)
		s.tell(t, map[int]string{0: "a"})
		d.Fuse(0)
		wantError(t, what, fail(v), api.ErrDevice)
		for range 2 {
			for _, m := range []map[int]string{nil, {0: "c"}, {-1: ""}, {0: text(api.Plain+1, 1)}} {
				wantError(t, what+", Tell", v.Tell(m), api.ErrState)
			}
			wantError(t, what+", Turn", v.Turn(), api.ErrState)
			wantVault(t, what, v, s)
			d.Fuse(-1)
		}
		wantBlocks(t, what, d, s.blocks)
		v = opened(t, d, c)
		wantError(t, what+", opened", v.Tell(map[int]string{0: "c"}), api.OK)
		s.tell(t, map[int]string{0: "c"})
		wantVault(t, what+", opened", v, s)
	}
}

// Promise 7.3 and P1: a counter that was raised by another one tells its own error.
func TestCounterRaisedBesides(t *testing.T) {
	d, c, s := device.New(), at(t, 0), newShadow()
	v := opened(t, d, c)
	wantError(t, "Tell", v.Tell(map[int]string{0: "a"}), api.OK)
	s.tell(t, map[int]string{0: "a"})
	wantError(t, "Raise", c.Raise(2), api.OK)
	wantError(t, "Tell, counter raised", v.Tell(map[int]string{0: "b"}), api.ErrOrder)
	wantVault(t, "behind it", v, s)
	wantError(t, "Tell behind it", v.Tell(nil), api.ErrState)
	wantError(t, "Turn behind it", v.Turn(), api.ErrState)
}

// Promise 7.4: an image of an elder time that is laid down again is told of, also where nothing was told since but a Tell of nothing; one of the same time is as it was.
func TestElderImages(t *testing.T) {
	all := history(t)
	turn := all[5].clone()
	turn.turn(t)
	all = append(all, turn)
	for i, elder := range all {
		for j, now := range all {
			what := fmt.Sprint("image of ", i, ", counter at ", j)
			d, c := laid(elder.blocks), at(t, now.count)
			if i == j {
				wantVault(t, what, opened(t, d, c), elder)
			}
			if i < j {
				wantRefused(t, what, d, c, secret, api.ErrSpoilt)
			}
			// The state ahead of the last one is there yet, but no elder one.
			if i == j+2 {
				wantVault(t, what, opened(t, d, c), all[j+1])
			}
			if i > j+2 && j > 0 {
				wantRefused(t, what, d, c, secret, api.ErrSpoilt)
			}
		}
	}
}

// Promise 7.4: a byte turned in each block: in those that are told of it is noticed, in those that are not it is no matter.
func TestTurnedBytes(t *testing.T) {
	all := history(t)
	s := all[len(all)-1]
	places := []int{0, 1, 7, 8, 9, 17, 18, 19, 20, 49, 50, 65, 66, 81, 82, 100, 220, 221, 235, 236, 237, 254, 255}
	for at := range api.Blocks {
		for _, place := range places {
			what := fmt.Sprint("block ", at, ", byte ", place)
			c := &device.Counter{}
			wantError(t, what, c.Raise(s.count), api.OK)
			d := laid(turned(s.blocks, at, place))
			if isTold(s, at, place) {
				wantRefused(t, what, d, c, secret, api.ErrSpoilt)
			} else {
				wantVault(t, what, opened(t, d, c), s)
			}
		}
	}
}

// isTold says whether a byte of a block is part of what was told.
func isTold(s *shadow, at, place int) bool {
	if at < 2 {
		return at == s.count%2
	}
	id := (at - 2) / 2
	if s.at(id) != at {
		return false
	}
	if s.pages[id].count == 0 {
		return place < 8
	}
	return place < sealedSize
}

// Promise 7.4: not of this and of that: blocks of two times, or of two places, are told of, or are just what was told last.
func TestMixedBlocks(t *testing.T) {
	all := history(t)
	s := all[len(all)-1]
	for i, elder := range all[:len(all)-1] {
		for _, at := range changedBlocks(elder.blocks, s.blocks) {
			mixed := slices.Clone(s.blocks)
			mixed[at] = elder.blocks[at]
			wantMixed(t, fmt.Sprint("block ", at, " of ", i), mixed, s, isTold(s, at, 0))
			mixed = slices.Clone(elder.blocks)
			mixed[at] = s.blocks[at]
			wantMixed(t, fmt.Sprint("block ", at, " in ", i), mixed, s, true)
		}
		for seed := range 20 {
			mixed := slices.Clone(s.blocks)
			for at := range mixed {
				if (at*at+seed*at*7+seed)%5 < 2 {
					mixed[at] = elder.blocks[at]
				}
			}
			wantMixed(t, fmt.Sprint("blocks of ", i, ", ", seed), mixed, s, false)
		}
	}
	for a := range api.Blocks {
		mixed := slices.Clone(s.blocks)
		b := (a*5 + 3) % api.Blocks
		mixed[a], mixed[b] = mixed[b], mixed[a]
		wantMixed(t, fmt.Sprint("blocks ", a, " and ", b), mixed, s, false)
	}
}

// wantMixed opens blocks at a state's Count: they are told of, or, unless they must be, just that state.
func wantMixed(t *testing.T, what string, mixed []string, s *shadow, spoilt bool) {
	t.Helper()
	c := &device.Counter{}
	wantError(t, what, c.Raise(s.count), api.OK)
	d := laid(mixed)
	v, err := Open(d, c, secret)
	if err == nil && !spoilt {
		wantVault(t, what, v, s)
		return
	}
	wantRefused(t, what, d, c, secret, api.ErrSpoilt)
}

// Promise 7.4: the one told page that all hangs on is laid back, cleared, or moved to its other side.
func TestPageTakenBack(t *testing.T) {
	s := newShadow()
	s.tell(t, map[int]string{4: "first"})
	first := s.blocks[s.at(4)]
	s.tell(t, map[int]string{4: "second"})
	if s.at(4) != 10 {
		t.Fatal("page 4 is not where it should be")
	}
	for what, block := range map[string]string{"elder": first, "cleared": padded(""), "cleared ahead": padded("")[:8] + s.blocks[10][8:], "version": bytesOf(1) + s.blocks[10][8:]} {
		mixed := slices.Clone(s.blocks)
		mixed[10] = block
		wantMixed(t, what, mixed, s, true)
	}
	// A page that says the same at another Count is another one.
	other := newShadow()
	other.tell(t, map[int]string{4: "second"})
	mixed := slices.Clone(s.blocks)
	mixed[10] = other.blocks[11]
	wantMixed(t, "same text", mixed, s, true)
}

// Promise 7.1: a page that was never told, changed: its first eight bytes tell of it, and nothing else of it.
func TestNeverToldPageChanged(t *testing.T) {
	s := newShadow()
	s.tell(t, map[int]string{0: "a"})
	for place := range api.Block {
		what := fmt.Sprint("byte ", place)
		wantMixed(t, what, turned(s.blocks, s.at(9), place), s, place < 8)
		if place >= 8 {
			v := opened(t, laid(turned(s.blocks, s.at(9), place)), at(t, 1))
			wantVault(t, what, v, s)
		}
	}
	// Sealed by the right key, it was not told all the same.
	sealed, err := page.Seal(keyOf('k', secret, bytesOf(1)), 9, 1, "")
	wantError(t, "Seal", err, api.OK)
	mixed := slices.Clone(s.blocks)
	mixed[s.at(9)] = padded(sealed)
	wantMixed(t, "sealed", mixed, s, true)
}

// Promise 7.2: by another secret nothing is there.
func TestAnotherSecret(t *testing.T) {
	for _, s := range history(t)[1:] {
		for i := range secret {
			other := []byte(secret)
			other[i] ^= 1
			wantRefused(t, "another secret", laid(s.blocks), at(t, s.count), string(other), api.ErrSpoilt)
		}
	}
	v, err := Open(laid(history(t)[1].blocks), at(t, 0), "fedcba9876543210")
	wantError(t, "another secret, counter at 0", err, api.OK)
	wantVault(t, "another secret, counter at 0", v, newShadow())
}

// Promise 7.1: a Super that is sealed rightly is of no use in the wrong place, of another Count, or with another Root.
func TestSuperOfAnotherCount(t *testing.T) {
	s := history(t)[5]
	x, err := super.Parse(keyOf('s', secret), s.blocks[1])
	wantError(t, "Parse", err, api.OK)
	for what, change := range map[string]func(*api.Super){
		"Count":       func(x *api.Super) { x.Count += 2 },
		"elder Count": func(x *api.Super) { x.Count -= 2 },
		"Epoch":       func(x *api.Super) { x.Epoch++ },
		"Side":        func(x *api.Super) { x.Sides[0] = !x.Sides[0] },
		"Root":        func(x *api.Super) { x.Root = text(api.MarkSize, 1) },
	} {
		y := x
		change(&y)
		top, err := super.Write(keyOf('s', secret), y)
		wantError(t, what, err, api.OK)
		mixed := slices.Clone(s.blocks)
		mixed[1] = padded(top)
		wantMixed(t, what, mixed, s, true)
	}
	mixed := slices.Clone(s.blocks)
	mixed[0], mixed[1] = mixed[1], mixed[0]
	wantMixed(t, "wrong place", mixed, s, true)
	// A side of a page that was never told is as good as the other one, if the Super says so.
	y := x
	y.Sides[20] = true
	top, err := super.Write(keyOf('s', secret), y)
	wantError(t, "never told side", err, api.OK)
	mixed = slices.Clone(s.blocks)
	mixed[1] = padded(top)
	wantVault(t, "never told side", opened(t, laid(mixed), at(t, s.count)), s)
}

// P2: at the last Count, and the last Epoch, nothing is told any more, and nothing is changed.
func TestLastCount(t *testing.T) {
	for _, x := range []struct {
		count, epoch int
		tell, turn   api.Errno
	}{{1 << 40, 1, api.ErrArg, api.ErrArg}, {1, 1 << 40, api.OK, api.ErrArg}} {
		s := newShadow()
		s.count = x.count - 1
		s.change(t, map[int]string{0: "a"}, x.epoch)
		d, c := laid(s.blocks), at(t, s.count)
		v := opened(t, d, c)
		what := fmt.Sprint("Count ", x.count, ", Epoch ", x.epoch)
		wantError(t, what+", Turn", v.Turn(), x.turn)
		wantVault(t, what, v, s)
		wantBlocks(t, what, d, s.blocks)
		wantError(t, what+", Tell", v.Tell(map[int]string{0: "b"}), x.tell)
		if x.tell == api.OK {
			s.tell(t, map[int]string{0: "b"})
		}
		wantVault(t, what, v, s)
		wantBlocks(t, what, d, s.blocks)
	}
}

// P1: nothing that was not opened panics, or tells anything.
func TestNotOpened(t *testing.T) {
	for what, v := range map[string]*Vault{"zero value": {}, "nil": nil} {
		if v.Count() != 0 || v.Epoch() != 0 {
			t.Errorf("%s: Count %d, Epoch %d", what, v.Count(), v.Epoch())
		}
		for _, id := range []int{-1, 0, 31, 32} {
			if s, _ := v.Get(id); s != "" {
				t.Errorf("%s: page %d: %q", what, id, s)
			}
		}
		wantError(t, what+", Tell", v.Tell(map[int]string{0: "a"}), api.ErrState)
		wantError(t, what+", Turn", v.Turn(), api.ErrState)
	}
}

// P4: a map that is handed in is neither written into nor kept; what is answered hangs on what was asked alone.
func TestMapIsTheCallers(t *testing.T) {
	m := map[int]string{0: "a", 1: "", 31: text(api.Plain, 1)}
	ahead := maps.Clone(m)
	var images [][]string
	for range 4 {
		d, c, s := device.New(), at(t, 0), newShadow()
		v := opened(t, d, c)
		wantError(t, "Tell", v.Tell(m), api.OK)
		if !maps.Equal(m, ahead) {
			t.Errorf("the map was changed")
		}
		s.tell(t, m)
		m[0], m[9] = "other", "more"
		wantVault(t, "map changed", v, s)
		maps.DeleteFunc(m, func(id int, _ string) bool { return id == 9 })
		m[0] = "a"
		wantError(t, "Turn", v.Turn(), api.OK)
		images = append(images, d.Image())
	}
	for _, image := range images {
		if !slices.Equal(image, images[0]) {
			t.Errorf("the same calls told other blocks")
		}
	}
}
