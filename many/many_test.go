package many

import (
	"errors"
	"fmt"
	"math"
	"slices"
	"testing"

	"coffer/api"
	"coffer/desk"
)

// texts are so many sessions, each of another answer; some take far longer than others.
func texts(n int) []string {
	var out []string
	for i := range n {
		s := fmt.Sprintf("new w%d\nmake 1\nput a%d - %d\n", i, i, i)
		for range 1 + 3*i%5 {
			s += "commit\nturn\n"
		}
		out = append(out, s+"items\nfind 1 - 0\nopen\nlay\nopen\ncount\n")
	}
	return out
}

// wantError holds an error against the one that the document asks (api.OK: none).
func wantError(t *testing.T, what string, err error, want api.Errno) {
	t.Helper()
	if got := api.Tell(err); got != want {
		t.Errorf("%s: error %d, want %d", what, got, want)
	}
	var place *api.At
	if errors.As(err, &place) {
		t.Errorf("%s: the error has a place", what)
	}
}

// sessions are what desk answers, one by one.
func sessions(l []string) []string {
	var out []string
	for _, s := range l {
		out = append(out, desk.Session(s))
	}
	return out
}

// Promise 13.1: Session of each, in the texts' order, the same with each number of workers; of none, one, and 50.
func TestAll(t *testing.T) {
	for _, n := range []int{0, 1, 2, 16, 17, 50} {
		l := texts(n)
		want := sessions(l)
		for workers := 1; workers <= 16; workers++ {
			what := fmt.Sprint(n, " texts, ", workers, " workers")
			got, err := All(l, workers)
			wantError(t, what, err, api.OK)
			if !slices.Equal(got, want) {
				t.Errorf("%s: the answers are other ones", what)
			}
		}
	}
	got, err := All(nil, 1)
	wantError(t, "no list", err, api.OK)
	if len(got) != 0 {
		t.Errorf("no list: %q", got)
	}
}

// Promise 13.1: texts that are alike are answered alike, each as if it were alone; and those that are too long.
func TestAlike(t *testing.T) {
	s := "make 2\nput a t 1 -2\ncommit\nimage\ncommit\nlay\nopen\nnew x\ncount"
	long := string(make([]byte, api.MaxText+1))
	l := slices.Repeat([]string{s, "", long}, 16)
	want := slices.Repeat([]string{"make\nput\ncommit 1\nimage\ncommit 2\nlay\nerror 15\nnew\ncount 0\n", "ok\n", "error 4\n"}, 16)
	for _, workers := range []int{1, 2, 7, 16} {
		got, err := All(l, workers)
		wantError(t, "alike", err, api.OK)
		if !slices.Equal(got, want) {
			t.Errorf("%d workers: %.1000q", workers, got)
		}
	}
}

// Promise 13.1: ErrLimit, and no answers: more than 50 texts, or workers not from 1 to 16.
func TestLimits(t *testing.T) {
	for _, c := range []struct{ texts, workers int }{
		{51, 1}, {51, 16}, {100, 4}, {51, 0}, {51, 17},
		{0, 0}, {0, 17}, {1, 0}, {1, 17}, {50, 0}, {50, 17}, {3, -1}, {3, math.MinInt}, {3, math.MaxInt},
	} {
		got, err := All(make([]string, c.texts), c.workers)
		wantError(t, fmt.Sprint(c), err, api.ErrLimit)
		if got != nil {
			t.Errorf("%v: answers beside an error", c)
		}
	}
}

// P4: the list is not written into, and not kept.
func TestListIsTheCallers(t *testing.T) {
	l := texts(9)
	was := slices.Clone(l)
	got, err := All(l[:5], 3)
	wantError(t, "All", err, api.OK)
	if !slices.Equal(l, was) {
		t.Error("the list was written into")
	}
	clear(got)
	again, err := All(l[:5], 3)
	wantError(t, "All", err, api.OK)
	if !slices.Equal(again, sessions(was[:5])) || !slices.Equal(l, was) {
		t.Error("the answers hang on what became of earlier ones")
	}
}
