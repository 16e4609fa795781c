package super

import (
	"crypto/sha256"
	"encoding/binary"
	"encoding/hex"
	"errors"
	"fmt"
	"math"
	"strings"
	"testing"

	"coffer/api"
)

// whole is how many bytes are told: head, two numbers, sides, root, seal.
const whole = 2 + 8 + 8 + 32 + 16 + 16

// text is one of that many bytes, in which every byte comes.
func text(size, seed int) string {
	b := make([]byte, size)
	for i := range b {
		b[i] = byte(i*167 + seed*31 + 1)
	}
	return string(b)
}

// counted is bytes that go up by one from the first on.
func counted(first byte, size int) string {
	b := make([]byte, size)
	for i := range b {
		b[i] = first + byte(i)
	}
	return string(b)
}

// turned is a text with one bit turned.
func turned(s string, bit int) string {
	b := []byte(s)
	b[bit/8] ^= 1 << (bit % 8)
	return string(b)
}

// with is a text with another one laid over it at a place.
func with(s string, at int, over string) string {
	return s[:at] + over + s[at+len(over):]
}

// ordinary is a Super that may be, with sides of both kinds.
func ordinary() api.Super {
	x := api.Super{Count: 258, Epoch: 3, Root: text(api.MarkSize, 1)}
	for i := range x.Sides {
		x.Sides[i] = i%3 == 0
	}
	return x
}

// bytesOf is a number's eight bytes, by the library.
func bytesOf(n uint64) string {
	return string(binary.BigEndian.AppendUint64(nil, n))
}

// sealed lays behind a text the mark that is its own, worked out by the library, not by the program.
func sealed(key, ahead string) string {
	all := []byte{'z'}
	for _, p := range []string{key, ahead} {
		all = append(all, bytesOf(uint64(len(p)))...)
		all = append(all, p...)
	}
	h := sha256.Sum256(all)
	return ahead + string(h[:api.MarkSize])
}

// asked is what the document asks of Write, worked out by the library.
func asked(key string, x api.Super) string {
	ahead := "cf" + bytesOf(uint64(x.Count)) + bytesOf(uint64(x.Epoch))
	for _, side := range x.Sides {
		ahead += map[bool]string{false: "0", true: "1"}[side]
	}
	return sealed(key, ahead+x.Root)
}

// wantError holds an error against the one that the document asks (api.OK: none).
func wantError(t *testing.T, what string, err error, want api.Errno) {
	t.Helper()
	if got := api.Tell(err); got != want {
		t.Errorf("%s: error %d, want %d", what, got, want)
	}
	var place *api.At
	if errors.As(err, &place) {
		t.Errorf("%s: the error has a place", what)
	}
}

// unwritten asks that Write tells ErrArg, and nothing beside it.
func unwritten(t *testing.T, what, key string, x api.Super) {
	t.Helper()
	got, err := Write(key, x)
	wantError(t, "Write, "+what, err, api.ErrArg)
	if got != "" {
		t.Errorf("Write, %s: %d bytes beside an error", what, len(got))
	}
}

// unread asks that Parse tells an error, and nothing beside it.
func unread(t *testing.T, what, key, s string, want api.Errno) {
	t.Helper()
	got, err := Parse(key, s)
	wantError(t, "Parse, "+what, err, want)
	if got != (api.Super{}) {
		t.Errorf("Parse, %s: %v beside an error", what, got)
	}
}

// read asks that Parse tells that Super.
func read(t *testing.T, what, key, s string, want api.Super) {
	t.Helper()
	got, err := Parse(key, s)
	wantError(t, "Parse, "+what, err, api.OK)
	if got != want {
		t.Errorf("Parse, %s: %v, want %v", what, got, want)
	}
}

// writtenAndRead asks that Write tells what the document asks, and Parse the Super again.
func writtenAndRead(t *testing.T, what, key string, x api.Super) string {
	t.Helper()
	got, err := Write(key, x)
	wantError(t, "Write, "+what, err, api.OK)
	if want := asked(key, x); got != want {
		t.Fatalf("Write, %s: %x, want %x", what, got, want)
	}
	read(t, what, key, got, x)
	return got
}

// Promise 6.1: the bytes that another program, written by the document, told.
func TestKnownSuper(t *testing.T) {
	key := counted(0, api.KeySize)
	x := api.Super{Count: 258, Epoch: 1 << 40, Root: counted(0xf0, api.MarkSize)}
	x.Sides[0], x.Sides[5], x.Sides[31] = true, true, true
	want := "6366" + "0000000000000102" + "0000010000000000" +
		hex.EncodeToString([]byte("10000100000000000000000000000001")) +
		"f0f1f2f3f4f5f6f7f8f9fafbfcfdfeff" + "b0179975831e4ae8ebe71ada520eeba2"
	got, err := Write(key, x)
	wantError(t, "Write", err, api.OK)
	if hex.EncodeToString([]byte(got)) != want {
		t.Errorf("Write: %x, want %s", got, want)
	}
	read(t, "known", key, got, x)
}

// Promise 6.1: a key has 32 bytes, whichever they are.
func TestKeys(t *testing.T) {
	x := ordinary()
	s := asked(text(api.KeySize, 2), x)
	for _, size := range []int{0, 1, 16, 31, 33, 64, api.MaxText} {
		key := text(size, 2)
		unwritten(t, fmt.Sprint("a key of ", size), key, x)
		unread(t, fmt.Sprint("a key of ", size), key, s, api.ErrArg)
		unread(t, fmt.Sprint("a key of ", size, ", its mark"), key, asked(key, x), api.ErrArg)
	}
	for _, key := range []string{text(32, 2), strings.Repeat("\x00", 32), strings.Repeat("\xff", 32)} {
		writtenAndRead(t, fmt.Sprintf("key %x", key), key, x)
	}
}

// Promise 6.1: Count and Epoch are from 1 to 2^40, each by itself.
func TestNumbers(t *testing.T) {
	key := text(api.KeySize, 3)
	for _, n := range []int{1, 2, 255, 256, 1<<32 - 1, 1 << 32, 1<<40 - 1, 1 << 40} {
		x := ordinary()
		x.Count = n
		writtenAndRead(t, fmt.Sprint("Count ", n), key, x)
		x = ordinary()
		x.Epoch = n
		writtenAndRead(t, fmt.Sprint("Epoch ", n), key, x)
	}
	for _, n := range []int{0, -1, -2, -1 << 40, 1<<40 + 1, 1 << 41, 1<<48 + 1, math.MinInt, math.MinInt + 1, math.MaxInt} {
		x := ordinary()
		x.Count = n
		unwritten(t, fmt.Sprint("Count ", n), key, x)
		unread(t, fmt.Sprint("Count ", n, ", its mark"), key, asked(key, x), api.ErrSpoilt)
		x = ordinary()
		x.Epoch = n
		unwritten(t, fmt.Sprint("Epoch ", n), key, x)
		unread(t, fmt.Sprint("Epoch ", n, ", its mark"), key, asked(key, x), api.ErrSpoilt)
	}
	unwritten(t, "the zero value", key, api.Super{})
}

// Promise 6.1: with every bit of a number turned by itself, it is read where it is within its bounds, and nowhere else.
func TestEachBitOfTheNumbers(t *testing.T) {
	key := text(api.KeySize, 4)
	s := asked(key, ordinary())
	for bit := range 64 {
		n := uint64(1) << bit
		x := ordinary()
		x.Count = int(n)
		count := sealed(key, with(s[:whole-16], 2, bytesOf(n)))
		y := ordinary()
		y.Epoch = int(n)
		epoch := sealed(key, with(s[:whole-16], 10, bytesOf(n)))
		if bit <= 40 {
			read(t, fmt.Sprint("Count of bit ", bit), key, count, x)
			read(t, fmt.Sprint("Epoch of bit ", bit), key, epoch, y)
			continue
		}
		unread(t, fmt.Sprint("Count of bit ", bit), key, count, api.ErrSpoilt)
		unread(t, fmt.Sprint("Epoch of bit ", bit), key, epoch, api.ErrSpoilt)
	}
}

// Promise 6.1: Root is a mark: 16 bytes, whichever they are.
func TestRoots(t *testing.T) {
	key := text(api.KeySize, 5)
	for _, size := range []int{0, 1, 15, 17, 32, api.Block} {
		x := ordinary()
		x.Root = text(size, 5)
		unwritten(t, fmt.Sprint("a Root of ", size), key, x)
		unread(t, fmt.Sprint("a Root of ", size, ", its mark"), key, asked(key, x), api.ErrSpoilt)
	}
	for _, root := range []string{text(16, 5), strings.Repeat("\x00", 16), strings.Repeat("\xff", 16), "cf00000000000000"} {
		x := ordinary()
		x.Root = root
		writtenAndRead(t, fmt.Sprintf("Root %x", root), key, x)
	}
}

// Promise 6.1: a digit a side, each at its own place.
func TestEachSide(t *testing.T) {
	key := text(api.KeySize, 6)
	one := api.Super{Count: 1, Epoch: 1, Root: text(api.MarkSize, 6)}
	zeros := writtenAndRead(t, "no side", key, one)
	if got := zeros[18:50]; got != strings.Repeat("0", api.Pages) {
		t.Errorf("no side is told as %q", got)
	}
	all := one
	for i := range all.Sides {
		all.Sides[i] = true
	}
	if got := writtenAndRead(t, "all sides", key, all)[18:50]; got != strings.Repeat("1", api.Pages) {
		t.Errorf("all sides are told as %q", got)
	}
	for i := range api.Pages {
		x := one
		x.Sides[i] = true
		if got := writtenAndRead(t, fmt.Sprint("side ", i), key, x)[18:50]; got != with(strings.Repeat("0", api.Pages), i, "1") {
			t.Errorf("side %d is told as %q", i, got)
		}
		y := all
		y.Sides[i] = false
		writtenAndRead(t, fmt.Sprint("all sides but ", i), key, y)
	}
}

// Promise 6.1: what is neither 0 nor 1 is no side, not even by the right mark.
func TestNoDigits(t *testing.T) {
	key := text(api.KeySize, 7)
	x := ordinary()
	s := asked(key, x)
	for i := range api.Pages {
		for b := range 256 {
			digit := string([]byte{byte(b)})
			other := with(s, 18+i, digit)
			what := fmt.Sprintf("digit %q at %d", digit, i)
			if other != s {
				unread(t, what, key, other, api.ErrSpoilt)
			}
			marked := sealed(key, other[:whole-16])
			if digit != "0" && digit != "1" {
				unread(t, what+", its mark", key, marked, api.ErrSpoilt)
				continue
			}
			y := x
			y.Sides[i] = digit == "1"
			read(t, what+", its mark", key, marked, y)
		}
	}
}

// Promise 6.1: it begins with cf, by the right mark too.
func TestOtherHeads(t *testing.T) {
	key := text(api.KeySize, 8)
	s := asked(key, ordinary())
	for _, other := range []string{"CF", "cF", "fc", "cg", "\x00\x00", "  ", "cd"} {
		unread(t, "head "+other, key, with(s, 0, other), api.ErrSpoilt)
		unread(t, "head "+other+", its mark", key, sealed(key, with(s[:whole-16], 0, other)), api.ErrSpoilt)
	}
	for _, other := range []string{"", "c", "cff"} {
		unread(t, "head "+other+", its mark", key, sealed(key, other+s[2:whole-16]), api.ErrSpoilt)
	}
}

// Promise 6.1: behind it there are bytes of 0 alone, however many.
func TestWhatStandsBehind(t *testing.T) {
	key := text(api.KeySize, 9)
	x := ordinary()
	s := writtenAndRead(t, "nothing behind it", key, x)
	for _, size := range []int{1, 2, 7, api.MarkSize, api.Block - whole, api.MaxText} {
		zeros := strings.Repeat("\x00", size)
		read(t, fmt.Sprint(size, " zeros behind it"), key, s+zeros, x)
		for _, at := range []int{0, size / 2, size - 1} {
			for _, b := range []string{"\x01", "\x80", "\xff", "0", " ", "x"} {
				unread(t, fmt.Sprintf("%q behind it at %d of %d", b, at, size), key, s+with(zeros, at, b), api.ErrSpoilt)
			}
		}
	}
	for b := 1; b < 256; b++ {
		unread(t, fmt.Sprint("byte ", b, " behind it"), key, s+string([]byte{byte(b)}), api.ErrSpoilt)
	}
	unread(t, "itself behind it", key, s+s, api.ErrSpoilt)
	unread(t, "a zero ahead", key, "\x00"+s, api.ErrSpoilt)
	unread(t, "sealed twice", key, sealed(key, s), api.ErrSpoilt)
	unread(t, "a zero ahead of its mark", key, sealed(key, s[:whole-16]+"\x00"), api.ErrSpoilt)
}

// Promise 6.1: what is too short is spoilt, with zeros for what is missing and by the right mark too.
func TestTooShort(t *testing.T) {
	key := text(api.KeySize, 10)
	s := asked(key, ordinary())
	for size := range whole {
		what := fmt.Sprint("the first ", size, " bytes")
		unread(t, what, key, s[:size], api.ErrSpoilt)
		unread(t, what+", zeros", key, s[:size]+strings.Repeat("\x00", api.Block-size), api.ErrSpoilt)
		if size < whole-16 {
			unread(t, what+", their mark", key, sealed(key, s[:size]), api.ErrSpoilt)
			unread(t, what+", their mark, zeros", key, sealed(key, s[:size])+strings.Repeat("\x00", whole), api.ErrSpoilt)
		}
	}
	unread(t, "zeros", key, strings.Repeat("\x00", api.Block), api.ErrSpoilt)
	unread(t, "zeros, their mark", key, sealed(key, strings.Repeat("\x00", whole-16)), api.ErrSpoilt)
}

// A seal may end with zeros: they are its own, and are not taken for what stands behind it.
func TestSealThatEndsWithZero(t *testing.T) {
	key := text(api.KeySize, 11)
	x := ordinary()
	for x.Count = 1; ; x.Count++ {
		if s := asked(key, x); s[whole-1] == 0 {
			read(t, "a seal with 0 behind", key, writtenAndRead(t, "a seal with 0", key, x)+"\x00", x)
			unread(t, "a seal without its 0", key, s[:whole-1], api.ErrSpoilt)
			return
		}
	}
}

// Promise 6.1: with any bit turned, of the text or of the key, it is spoilt.
func TestTurnedBits(t *testing.T) {
	key := text(api.KeySize, 12)
	s := writtenAndRead(t, "ordinary", key, ordinary())
	for bit := range 8 * whole {
		unread(t, fmt.Sprint("bit ", bit), key, turned(s, bit), api.ErrSpoilt)
	}
	block := s + strings.Repeat("\x00", api.Block-whole)
	for bit := range 8 * api.Block {
		unread(t, fmt.Sprint("bit ", bit, " of a block"), key, turned(block, bit), api.ErrSpoilt)
	}
	for bit := range 8 * api.KeySize {
		unread(t, fmt.Sprint("bit ", bit, " of the key"), turned(key, bit), s, api.ErrSpoilt)
	}
}

// Promise 6.1: one key's Super is spoilt by another one, and so is one of two halves.
func TestOtherKeysAndHalves(t *testing.T) {
	x, y := ordinary(), ordinary()
	y.Count++
	a, b := text(api.KeySize, 13), text(api.KeySize, 14)
	unread(t, "another key", b, asked(a, x), api.ErrSpoilt)
	unread(t, "another key", a, asked(b, x), api.ErrSpoilt)
	unread(t, "another key's mark", a, asked(a, x)[:whole-16]+asked(b, x)[whole-16:], api.ErrSpoilt)
	unread(t, "another one's mark", a, asked(a, x)[:whole-16]+asked(a, y)[whole-16:], api.ErrSpoilt)
}

// Promise 6.1, P3: of a wrong key ErrArg is told, whatever else is wrong.
func TestTheFirstErrorIsTold(t *testing.T) {
	key := text(api.KeySize, 15)
	unread(t, "key, spoilt", key[:31], "spoilt", api.ErrArg)
	unread(t, "key, nothing", "", "", api.ErrArg)
	unread(t, "nothing", key, "", api.ErrSpoilt)
	unwritten(t, "all of it", "", api.Super{Count: -1, Epoch: -1, Root: "x"})
}

// P4: what is answered hangs on the arguments alone.
func TestAnswersDoNotHangOnCallsAhead(t *testing.T) {
	key, x := text(api.KeySize, 16), ordinary()
	first := writtenAndRead(t, "first", key, x)
	unwritten(t, "between", "", x)
	unread(t, "between", key, turned(first, 3), api.ErrSpoilt)
	writtenAndRead(t, "between", text(api.KeySize, 17), api.Super{Count: 9, Epoch: 9, Root: text(api.MarkSize, 17)})
	if again := writtenAndRead(t, "again", key, x); again != first {
		t.Errorf("first %x, then %x", first, again)
	}
}
