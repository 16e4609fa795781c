package page

import (
	"errors"
	"fmt"
	"math"
	"strings"
	"testing"

	"coffer/api"
	"coffer/stream"
	"coffer/sum"
)

// sealed is how many bytes a sealed text has: version, nonce, length and text, seal.
const sealed = 8 + 12 + 1 + 200 + 16

// text is one of that many bytes, in which every byte comes.
func text(size, seed int) string {
	b := make([]byte, size)
	for i := range b {
		b[i] = byte(i*167 + seed*31 + 1)
	}
	return string(b)
}

// counted is the bytes from 0 on.
func counted(size int) string {
	b := make([]byte, size)
	for i := range b {
		b[i] = byte(i)
	}
	return string(b)
}

// turned is a text with one bit turned.
func turned(s string, bit int) string {
	b := []byte(s)
	b[bit/8] ^= 1 << (bit % 8)
	return string(b)
}

// wantError holds an error against the one that the document asks (api.OK: none).
func wantError(t *testing.T, what string, err error, want api.Errno) {
	t.Helper()
	if got := api.Tell(err); got != want {
		t.Errorf("%s: error %d, want %d", what, got, want)
	}
	var place *api.At
	if errors.As(err, &place) {
		t.Errorf("%s: the error has a place", what)
	}
}

// refused asks that Seal tells an error, and nothing beside it.
func refused(t *testing.T, what, key string, id, version int, text string, want api.Errno) {
	t.Helper()
	got, err := Seal(key, id, version, text)
	wantError(t, "Seal, "+what, err, want)
	if got != "" {
		t.Errorf("Seal, %s: %d bytes beside an error", what, len(got))
	}
}

// unopened asks that Open tells an error, and nothing beside it.
func unopened(t *testing.T, what, key string, id int, s string, want api.Errno) {
	t.Helper()
	version, text, err := Open(key, id, s)
	wantError(t, "Open, "+what, err, want)
	if version != 0 || text != "" {
		t.Errorf("Open, %s: version %d, %q beside an error", what, version, text)
	}
}

// opened asks that Open tells a version and a text.
func opened(t *testing.T, what, key string, id int, s string, wantVersion int, wantText string) {
	t.Helper()
	version, text, err := Open(key, id, s)
	wantError(t, "Open, "+what, err, api.OK)
	if version != wantVersion || text != wantText {
		t.Errorf("Open, %s: version %d, %q; want %d, %q", what, version, text, wantVersion, wantText)
	}
}

// closed seals, and asks that it is done.
func closed(t *testing.T, key string, id, version int, text string) string {
	t.Helper()
	s, err := Seal(key, id, version, text)
	wantError(t, fmt.Sprintf("Seal %d %d, %d bytes", id, version, len(text)), err, api.OK)
	if len(s) != sealed {
		t.Fatalf("Seal tells %d bytes, want %d", len(s), sealed)
	}
	return s
}

// forged is what somebody who has the key may make: bytes that Seal never tells, with the seal that is theirs.
func forged(t *testing.T, key string, id int, version, nonce, hidden string) string {
	t.Helper()
	x, err := stream.Xor(key, nonce, hidden)
	if err != nil {
		t.Fatal(err)
	}
	ahead := version + nonce + x
	return ahead + sum.Mark('g', key, sum.Num(id), ahead)
}

// Promise 4.1: Seal and Mark tell the bytes that another program, written by the document, told.
func TestKnownPages(t *testing.T) {
	for _, c := range []struct {
		id, version              int
		text, digest, head, mark string
	}{
		{0, 1, "",
			"b7e1c7f47ae511f16bbe49fbdc80b00559cdf9babf09fa0149abdc057d8b2270",
			"00000000000000010347a9f771c31ec0dbdfdce23a5f4304a9ff97bc746c7d997679c898",
			"80eb6f3d991cc819bfb6e1fae0dfacd2"},
		{31, 1 << 40, "a text",
			"f889772752707f18f71835985c0588392778b6c37350f2a46550b82e87c630fe",
			"000001000000000073358e1ffaef800621ef94bb85f0765086b7e7ae6a8cb07c98ae4362",
			"195655bd37257fe7ebcd51f320ecd138"},
		{7, 258, counted(api.Plain),
			"7bdf12d14e39776d5c2fb58c7e2f1e2354a84d1261abdeb21f348a45815086a8",
			"000000000000010213a303580f51f5d64ed2c0d80f756b437f26b2eb00e7f37839a52868",
			"1f6df47f991121520c1a525b6916e14f"},
	} {
		key := counted(api.KeySize)
		s := closed(t, key, c.id, c.version, c.text)
		if got := sum.Hex(s[:36]); got != c.head {
			t.Errorf("page %d begins with %s, want %s", c.id, got, c.head)
		}
		if got := sum.Hex(sum.Sum(s)); got != c.digest {
			t.Errorf("page %d: sum %s, want %s", c.id, got, c.digest)
		}
		opened(t, "a known page", key, c.id, s, c.version, c.text)
		if got := sum.Hex(Mark(c.id, c.version, c.text)); got != c.mark {
			t.Errorf("page %d: mark %s, want %s", c.id, got, c.mark)
		}
	}
}

// Promise 4.1: what stands where in a sealed text.
func TestParts(t *testing.T) {
	key, id, version := text(32, 1), 5, 1<<33+77
	for _, size := range []int{0, 1, 62, 63, 64, 127, 199, 200} {
		plain := text(size, 2)
		s := closed(t, key, id, version, plain)
		nonce := sum.Mark('n', key, sum.Num(id), sum.Num(version), plain)[:12]
		if s[:8] != sum.Num(version) || s[8:20] != nonce {
			t.Errorf("%d bytes: it begins with %x, want %x%x", size, s[:20], sum.Num(version), nonce)
		}
		shown, err := stream.Xor(key, nonce, s[20:221])
		if want := string([]byte{byte(size)}) + plain + strings.Repeat("\x00", 200-size); err != nil || shown != want {
			t.Errorf("%d bytes: sealed is %q, want %q", size, shown, want)
		}
		if want := sum.Mark('g', key, sum.Num(id), s[:221]); s[221:] != want {
			t.Errorf("%d bytes: the seal is %x, want %x", size, s[221:], want)
		}
	}
}

// Promise 4.1: texts of all lengths are sealed and opened; one byte more than Plain is not.
func TestTextsOfAllLengths(t *testing.T) {
	key := text(32, 3)
	for size := range api.Plain + 1 {
		for _, plain := range []string{text(size, 4), strings.Repeat("\x00", size), strings.Repeat("\xff", size)} {
			s := closed(t, key, 9, 12, plain)
			opened(t, fmt.Sprint(size, " bytes"), key, 9, s, 12, plain)
		}
	}
	for _, size := range []int{api.Plain + 1, 255, 256, 257, 456, api.MaxText} {
		refused(t, fmt.Sprint(size, " bytes"), key, 9, 12, text(size, 4), api.ErrLimit)
	}
}

// Promise 4.1: keys have 32 bytes.
func TestKeys(t *testing.T) {
	whole := text(64, 5)
	s := closed(t, whole[:32], 0, 1, "a")
	opened(t, "a key of 32 bytes", whole[:32], 0, s, 1, "a")
	for _, size := range []int{0, 1, 31, 33, 64} {
		what := fmt.Sprintf("a key of %d bytes", size)
		refused(t, what, whole[:size], 0, 1, "a", api.ErrArg)
		unopened(t, what, whole[:size], 0, s, api.ErrArg)
		unopened(t, what+", nothing", whole[:size], 0, "", api.ErrArg)
		ahead := s[:221]
		unopened(t, what+", sealed by it", whole[:size], 0, ahead+sum.Mark('g', whole[:size], sum.Num(0), ahead), api.ErrArg)
	}
}

// Promise 4.1: pages are from 0 to Pages - 1, and each is opened as itself alone.
func TestPages(t *testing.T) {
	key := text(32, 6)
	for id := range api.Pages {
		s := closed(t, key, id, 3, "a text")
		for other := -2; other < api.Pages+2; other++ {
			if other == id {
				opened(t, fmt.Sprint("page ", id), key, id, s, 3, "a text")
			} else {
				unopened(t, fmt.Sprint("page ", id, " as ", other), key, other, s, api.ErrSpoilt)
			}
		}
	}
	for _, id := range []int{-1, -2, api.Pages, api.Pages + 1, 256, 1 << 32, math.MinInt, math.MaxInt} {
		refused(t, fmt.Sprint("page ", id), key, id, 3, "a text", api.ErrArg)
	}
}

// Promise 4.1: versions are from 1 to 2^40.
func TestVersions(t *testing.T) {
	key := text(32, 7)
	for _, version := range []int{1, 2, 255, 256, 1 << 16, 1<<24 - 1, 1 << 31, 1 << 32, 0x0102030405, 1<<40 - 1, 1 << 40} {
		s := closed(t, key, 3, version, "a")
		opened(t, fmt.Sprint("version ", version), key, 3, s, version, "a")
	}
	for _, version := range []int{0, -1, 1<<40 + 1, 1 << 41, 1<<41 + 1, math.MinInt, math.MaxInt} {
		refused(t, fmt.Sprint("version ", version), key, 3, version, "a", api.ErrArg)
	}
}

// Promise 4.1: ErrArg ahead of ErrLimit, ErrArg ahead of ErrSpoilt.
func TestTheFirstErrorIsTold(t *testing.T) {
	key, long := text(32, 8), text(api.Plain+1, 8)
	refused(t, "key, long", key[:31], 0, 1, long, api.ErrArg)
	refused(t, "page, long", key, api.Pages, 1, long, api.ErrArg)
	refused(t, "version, long", key, 0, 0, long, api.ErrArg)
	refused(t, "long", key, 0, 1, long, api.ErrLimit)
	unopened(t, "key, spoilt", key[:31], 0, "spoilt", api.ErrArg)
	unopened(t, "spoilt", key, 0, "spoilt", api.ErrSpoilt)
}

// Promise 4.1: what stands behind a sealed text is not seen; what is shorter is spoilt.
func TestBytesBehindAndMissing(t *testing.T) {
	key, plain := text(32, 9), text(120, 9)
	s := closed(t, key, 30, 8, plain)
	for _, behind := range []string{"x", "\x00", strings.Repeat("\x00", api.Block-sealed), s, text(api.MaxText, 1)} {
		opened(t, fmt.Sprint(len(behind), " bytes behind"), key, 30, s+behind, 8, plain)
	}
	unopened(t, "a byte ahead", key, 30, "\x00"+s, api.ErrSpoilt)
	for size := range sealed {
		unopened(t, fmt.Sprint("the first ", size, " bytes"), key, 30, s[:size], api.ErrSpoilt)
		ahead := s[:max(size-16, 0)]
		unopened(t, fmt.Sprint(size, " bytes, sealed"), key, 30, ahead+sum.Mark('g', key, sum.Num(30), ahead), api.ErrSpoilt)
	}
	unopened(t, "zeros", key, 30, strings.Repeat("\x00", api.Block), api.ErrSpoilt)
}

// Promise 4.1: with any bit turned, of the page or of the key, it is spoilt.
func TestTurnedBits(t *testing.T) {
	key, plain := text(32, 10), text(77, 10)
	s := closed(t, key, 2, 5, plain)
	for bit := range 8 * sealed {
		unopened(t, fmt.Sprint("bit ", bit), key, 2, turned(s, bit), api.ErrSpoilt)
	}
	for bit := range 8 * len(key) {
		unopened(t, fmt.Sprint("bit ", bit, " of the key"), turned(key, bit), 2, s, api.ErrSpoilt)
	}
	for bit := range 80 {
		opened(t, fmt.Sprint("bit ", bit, " behind it"), key, 2, s+turned("0123456789", bit), 5, plain)
	}
}

// Promise 4.1: a length above Plain is Plain.
func TestLengthAbovePlain(t *testing.T) {
	key, nonce, plain := text(32, 11), text(12, 11), text(api.Plain, 11)
	for length := range 256 {
		s := forged(t, key, 4, sum.Num(6), nonce, string([]byte{byte(length)})+plain)
		opened(t, fmt.Sprint("a length of ", length), key, 4, s, 6, plain[:min(length, api.Plain)])
	}
}

// Promise 4.1: Open asks for the seal alone; version and text are told as they stand there.
func TestOpenTellsWhatStandsThere(t *testing.T) {
	key, nonce := text(32, 12), text(12, 12)
	hidden := "\x03abc" + strings.Repeat("\xff", api.Plain-3)
	for _, version := range []int{0, -1, 1<<40 + 1, 0x0102030405060708, math.MinInt, math.MaxInt} {
		s := forged(t, key, 4, sum.Num(version), nonce, hidden)
		opened(t, fmt.Sprint("version ", version), key, 4, s, version, "abc")
	}
	for _, id := range []int{-1, api.Pages, math.MinInt, math.MaxInt} {
		s := forged(t, key, id, sum.Num(1), nonce, hidden)
		opened(t, fmt.Sprint("page ", id), key, id, s, 1, "abc")
	}
}

// What is to be true of the whole, 2: no two sealed texts are alike, nor their nonces, nor what they hide.
func TestNoTwoAreAlike(t *testing.T) {
	seen := map[string]string{}
	for k := range 3 {
		for id := range 3 {
			for version := 1; version < 4; version++ {
				for _, plain := range []string{"", "\x00", "a", "aa", text(api.Plain, 1)} {
					what := fmt.Sprintf("%d %d %d %q", k, id, version, plain)
					s := closed(t, text(32, k), id, version, plain)
					for _, part := range []string{s[8:20], s[20:221], s[221:]} {
						if seen[part] != "" {
							t.Fatalf("%s is like %s", what, seen[part])
						}
						seen[part] = what
					}
					if again := closed(t, text(32, k), id, version, plain); again != s {
						t.Errorf("%s is not the same again", what)
					}
				}
			}
		}
	}
}

// Promise 4.1: Mark tells pages, versions and texts apart, and knows no bounds.
func TestMark(t *testing.T) {
	if got := sum.Hex(Mark(-1, -2, strings.Repeat("x", 201))); got != "1734b14d29fc6cfaa1f33fd4f2218cbb" {
		t.Errorf("the mark is %s", got)
	}
	seen := map[string]string{}
	for _, id := range []int{0, 1, 31, 32, -1, math.MaxInt} {
		for _, version := range []int{0, 1, 31, 32, 1 << 40, 1<<40 + 1, -1} {
			for _, plain := range []string{"", "\x00", "a", text(api.Plain, 2), text(api.Plain+1, 2)} {
				what := fmt.Sprintf("%d %d %q", id, version, plain)
				got := Mark(id, version, plain)
				if len(got) != api.MarkSize || got != sum.Mark('p', sum.Num(id), sum.Num(version), plain) {
					t.Errorf("%s: the mark is %x", what, got)
				}
				if seen[got] != "" {
					t.Errorf("%s is known as %s", what, seen[got])
				}
				seen[got] = what
			}
		}
	}
}
