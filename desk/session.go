package desk

import (
	"strconv"
	"strings"

	"coffer/api"
	"coffer/base"
	"coffer/device"
	"coffer/stream"
	"coffer/sum"
)

const (
	secretKind = 'd'
	kept       = '1'            // the letter of a write that a crash keeps
	nonce      = "000000000000" // of each block that is asked for
	leastBit   = 1
	help       = "block commit count crash del epoch find fuse help image items lay make new open put spoil sum turn undo"
)

// session is what lines ask, and change.
type session struct {
	device  *device.Device
	counter *device.Counter
	secret  string
	image   []string
	base    *base.Base // nil: there is none, as its Open told an error
}

// deed is what a line does, and is answered. It reads all words ahead of anything else, so that a line of another form does nothing.
type deed func(*words) string

// deeds are what lines do, by their first words.
func (s *session) deeds() map[string]deed {
	return map[string]deed{
		"block":  s.block,
		"commit": s.commit,
		"count":  s.count,
		"crash":  s.crash,
		"del":    s.del,
		"epoch":  s.epoch,
		"find":   s.find,
		"fuse":   s.fuse,
		"help":   s.help,
		"image":  s.keepImage,
		"items":  s.items,
		"lay":    s.lay,
		"make":   s.make,
		"new":    s.anew,
		"open":   s.open,
		"put":    s.put,
		"spoil":  s.spoil,
		"sum":    s.sum,
		"turn":   s.turn,
		"undo":   s.undo,
	}
}

// first is a session as it is ahead of its first line: as behind new of the empty word.
func first() *session {
	s := &session{}
	s.begin("")
	return s
}

// begin lets all be anew, of a word's secret. A new device is never spoilt, so that there is a base.
func (s *session) begin(word string) {
	*s = session{device: device.New(), counter: &device.Counter{}, secret: sum.Mark(secretKind, word)}
	s.base, _ = base.Open(s.device, s.counter, s.secret)
}

// reopened is a word, and the Count of the base that the device tells. Behind an error there is no base, not the one that was there ahead.
func (s *session) reopened(word string) string {
	var err error
	s.base, err = base.Open(s.device, s.counter, s.secret)
	check(err)
	return numbered(word, s.base.Count())
}

// there is the base. ErrNone is thrown, if there is none.
func (s *session) there() *base.Base {
	if s.base == nil {
		panic(api.ErrNone)
	}
	return s.base
}

func (s *session) anew(w *words) string {
	word := w.word()
	w.end()
	s.begin(word)
	return "new"
}

func (s *session) make(w *words) string {
	dim := w.number()
	w.end()
	check(s.there().Make(dim))
	return "make"
}

func (s *session) put(w *words) string {
	name, tag, at := w.word(), w.tag(), w.numbers()
	check(s.there().Put(api.Item{Name: name, Tag: tag, At: at}))
	return "put"
}

func (s *session) del(w *words) string {
	name := w.word()
	w.end()
	check(s.there().Del(name))
	return "del"
}

func (s *session) undo(w *words) string {
	w.end()
	s.there().Undo()
	return "undo"
}

func (s *session) commit(w *words) string {
	w.end()
	b := s.there()
	check(b.Commit())
	return numbered("commit", b.Count())
}

func (s *session) turn(w *words) string {
	w.end()
	b := s.there()
	check(b.Turn())
	return numbered("turn", b.Epoch())
}

func (s *session) count(w *words) string {
	w.end()
	return numbered("count", s.there().Count())
}

func (s *session) epoch(w *words) string {
	w.end()
	return numbered("epoch", s.there().Epoch())
}

func (s *session) items(w *words) string {
	w.end()
	var out strings.Builder
	out.WriteString("items")
	for _, x := range s.there().Items() {
		out.WriteString(" " + x.Name + ":" + x.Tag)
		for _, n := range x.At {
			out.WriteString("," + strconv.Itoa(n))
		}
	}
	return out.String()
}

func (s *session) find(w *words) string {
	k, tag, at := w.number(), w.tag(), w.numbers()
	found, _, err := s.there().Find(at, k, tag)
	check(err)
	var out strings.Builder
	out.WriteString("find")
	for _, f := range found {
		out.WriteString(" " + f.Name + ":" + strconv.Itoa(f.Far))
	}
	return out.String()
}

func (s *session) open(w *words) string {
	w.end()
	return s.reopened("open")
}

func (s *session) fuse(w *words) string {
	n := w.number()
	w.end()
	s.device.Fuse(n)
	return "fuse"
}

func (s *session) crash(w *words) string {
	letters := w.word()
	w.end()
	var keeps []bool
	for _, r := range letters {
		keeps = append(keeps, r == kept)
	}
	s.device.Crash(keeps)
	return s.reopened("crash")
}

func (s *session) keepImage(w *words) string {
	w.end()
	s.image = s.device.Image()
	return "image"
}

func (s *session) lay(w *words) string {
	w.end()
	s.device.Lay(s.image)
	return "lay"
}

func (s *session) spoil(w *words) string {
	at, place := w.number(), w.number()
	w.end()
	if at < 0 || at >= api.Blocks || place < 0 || place >= api.Block {
		panic(api.ErrRange)
	}
	image := s.device.Image()
	block := []byte(image[at])
	block[place] ^= leastBit
	image[at] = string(block)
	s.device.Lay(image)
	return "spoil"
}

func (s *session) block(w *words) string {
	word, n := w.word(), w.number()
	w.end()
	block, err := stream.Block(sum.Sum(word), n, nonce)
	check(err)
	return "block " + sum.Hex(block)
}

func (s *session) sum(w *words) string {
	return "sum " + sum.Hex(sum.Sum(strings.Join(w.rest(), " ")))
}

func (s *session) help(w *words) string {
	w.end()
	return help
}

// numbered is a word, and a number.
func numbered(word string, n int) string {
	return word + " " + strconv.Itoa(n)
}
