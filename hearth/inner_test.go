package hearth

import (
	"errors"
	"slices"
	"strconv"
	"strings"
	"testing"

	"hearth/api"
)

// What a trap fails with is an error value with words of its own around the reason.
func TestRefusal(t *testing.T) {
	k, _ := New(api.Config{Slices: [3]int{1, 1, 1}, Boost: 1}, make([]byte, 4))
	p := k.find(1)
	for _, c := range []struct {
		number int
		reason error
		answer uint16
	}{{77, errBadCall, api.BadCall}, {api.Wait, errNoChild, api.NoChild}, {api.Kill, errNoProc, api.NoProc}, {api.Fork, errFull, api.Full}} {
		err := k.trap(p, byte(c.number), nil)
		for err == nil && len(k.procs) <= api.MaxProcs {
			err = k.trap(p, byte(c.number), nil)
		}
		var r *refusal
		if !errors.As(err, &r) || !errors.Is(err, c.reason) || r.answer() != c.answer {
			t.Errorf("trap %d fails with %v", c.number, err)
			continue
		}
		if !strings.Contains(err.Error(), strconv.Itoa(c.number)) || !strings.HasSuffix(err.Error(), c.reason.Error()) {
			t.Errorf("the words: %q", err)
		}
	}
}

// P8: the rows: first in, first out, the lowest level first; the lower ones are raised one behind the other.
func TestRows(t *testing.T) {
	var r rows
	var l []*process
	for id, level := range []int{2, 1, 0, 1, 2, 0} {
		p := &process{Proc: api.Proc{ID: id, Level: level}}
		l = append(l, p)
		r.join(p)
	}
	if r.first() != l[2] {
		t.Errorf("first: %+v", r.first())
	}
	r.leave(l[2])
	if r.first() != l[5] {
		t.Errorf("first, one having left: %+v", r.first())
	}
	r.leave(l[2])
	r.raise()
	var got []int
	for _, p := range l {
		p.Level = 0
	}
	for p := r.first(); p != nil; p = r.first() {
		got = append(got, p.ID)
		r.leave(p)
	}
	if !slices.Equal(got, []int{5, 1, 3, 0, 4}) {
		t.Errorf("the rows raised: %v", got)
	}
}
