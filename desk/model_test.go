package desk

import (
	"fmt"
	"maps"
	"slices"
	"sort"
	"strings"
	"testing"
)

// die are numbers that look drawn, the same each time.
type die uint64

// n is a number below most.
func (d *die) n(most int) int {
	*d = *d*6364136223846793005 + 1442695040888963407
	return int(uint64(*d>>33) % uint64(most))
}

// point is what a model knows of an item, of two numbers.
type point struct {
	tag  string
	x, y int
}

// model tells what lines are to be answered, without the program: points by their names, in a base of two numbers.
type model struct {
	made, told   bool // make was told; a commit was done behind it
	count, epoch int
	there, next  map[string]point
}

// put is a line, and its answer.
func (m *model) put(d *die) (string, string) {
	name, tag := fmt.Sprint("n", d.n(9)), []string{"", "t", "u"}[d.n(3)]
	x, y := d.n(2001)-1000, d.n(7)-3
	line := fmt.Sprintf("put %s -%s %d %d", name, tag, x, y)
	if !m.made {
		return line, "error 6"
	}
	m.next[name] = point{tag, x, y}
	return line, "put"
}

// del is a line, and its answer.
func (m *model) del(d *die) (string, string) {
	name := fmt.Sprint("n", d.n(9))
	if _, ok := m.next[name]; !ok {
		return "del " + name, "error 7"
	}
	delete(m.next, name)
	return "del " + name, "del"
}

// find is a line, and its answer.
func (m *model) find(d *die) (string, string) {
	k, tag, x, y := 1+d.n(10), []string{"", "t", "u", "v"}[d.n(4)], d.n(2001)-1000, d.n(7)-3
	line := fmt.Sprintf("find %d -%s %d %d", k, tag, x, y)
	if !m.made {
		return line, "error 6"
	}
	far := func(p point) int { return (p.x-x)*(p.x-x) + (p.y-y)*(p.y-y) }
	names := slices.Sorted(maps.Keys(m.there))
	sort.SliceStable(names, func(i, j int) bool { return far(m.there[names[i]]) < far(m.there[names[j]]) })
	out := "find"
	for _, n := range names {
		if p := m.there[n]; k > 0 && (tag == "" || p.tag == tag) {
			out += fmt.Sprintf(" %s:%d", n, far(p))
			k--
		}
	}
	return line, out
}

// items is what that line is answered.
func (m *model) items() string {
	out := "items"
	for _, n := range slices.Sorted(maps.Keys(m.there)) {
		p := m.there[n]
		out += fmt.Sprintf(" %s:%s,%d,%d", n, p.tag, p.x, p.y)
	}
	return out
}

// commit is what that line is answered.
func (m *model) commit() string {
	if !m.made {
		return "error 6"
	}
	m.count, m.told, m.there = m.count+1, true, maps.Clone(m.next)
	return fmt.Sprint("commit ", m.count)
}

// turn is what that line is answered.
func (m *model) turn() string {
	m.count, m.epoch = m.count+1, m.epoch+1
	return fmt.Sprint("turn ", m.epoch)
}

// open is what that line is answered.
func (m *model) open() string {
	m.made, m.next = m.told, maps.Clone(m.there)
	return fmt.Sprint("open ", m.count)
}

// anew lets all be as it is at first.
func (m *model) anew() {
	*m = model{epoch: 1, there: map[string]point{}, next: map[string]point{}}
}

// make is what that line is answered.
func (m *model) make() string {
	if m.made {
		return "error 6"
	}
	m.made = true
	return "make"
}

// line is one that is drawn, and its answer.
func (m *model) line(d *die) (string, string) {
	switch n := d.n(64); {
	case n < 24:
		return m.put(d)
	case n < 32:
		return m.del(d)
	case n < 42:
		return m.find(d)
	case n < 48:
		return "items", m.items()
	case n < 53:
		return "commit", m.commit()
	case n < 55:
		return "turn", m.turn()
	case n < 57:
		return "open", m.open()
	case n < 58:
		return "count", fmt.Sprint("count ", m.count)
	case n < 59:
		return "epoch", fmt.Sprint("epoch ", m.epoch)
	case n < 61:
		m.next = maps.Clone(m.there)
		return "undo", "undo"
	case n < 63:
		return "make 2", m.make()
	}
	if d.n(5) > 0 {
		return "", "ok"
	}
	m.anew()
	return fmt.Sprint("new w", d.n(3)), "new"
}

// Promise 12.1: put, del, undo, commit, turn, count, epoch, items, find, open and new behind one another.
func TestBehindOneAnother(t *testing.T) {
	d := die(12)
	for range 60 {
		m := &model{}
		m.anew()
		var said, want []string
		for range 30 + d.n(300) {
			line, answer := m.line(&d)
			said, want = append(said, line), append(want, answer)
		}
		wantSession(t, "drawn", strings.Join(said, "\n")+"\n", want...)
	}
}
