package desk

import (
	"strconv"
	"strings"

	"coffer/api"
)

// words are those behind a line's first one that were not read yet. They are read from the left, and ErrForm is thrown as soon as one is not there, or is of another form.
type words struct {
	left []string
}

// word is the next one, whatever it is.
func (w *words) word() string {
	if len(w.left) == 0 {
		panic(api.ErrForm)
	}
	first := w.left[0]
	w.left = w.left[1:]
	return first
}

// tag is the next one, without a sign at its beginning: so also no tag can be told by a word.
func (w *words) tag() string {
	return strings.TrimPrefix(w.word(), "-")
}

// number is the next one, if it is a number as numbers are written.
func (w *words) number() int {
	word := w.word()
	n, err := strconv.Atoi(word)
	// What is written again tells noughts ahead, -0 and + apart, which Atoi reads, too.
	if err != nil || strconv.Itoa(n) != word {
		panic(api.ErrForm)
	}
	return n
}

// numbers are all that are left, one at least.
func (w *words) numbers() []int {
	out := []int{w.number()}
	for len(w.left) > 0 {
		out = append(out, w.number())
	}
	return out
}

// rest are all that are left, whatever they are.
func (w *words) rest() []string {
	out := w.left
	w.left = nil
	return out
}

// end asks that none is left.
func (w *words) end() {
	if len(w.left) > 0 {
		panic(api.ErrForm)
	}
}
