package hearth

import (
	"errors"
	"slices"
	"strings"
	"testing"

	"hearth/api"
)

// What a trap fails with is an error value with words of its own around the reason.
func TestRefusal(t *testing.T) {
	k, _ := New(api.Config{Slices: [3]int{1, 1, 1}, Boost: 1}, make([]byte, 4))
	err := k.trap(k.find(1), 77, nil)
	var r *refusal
	if !errors.As(err, &r) || !errors.Is(err, errBadCall) || r.answer() != api.BadCall {
		t.Fatalf("trap 77 fails with %v", err)
	}
	if !strings.Contains(err.Error(), "77") || !strings.HasSuffix(err.Error(), errBadCall.Error()) {
		t.Errorf("the words: %q", err)
	}
}

// P4: nobody is ready: Idle, of process 0; the ticks are counted on.
func TestIdle(t *testing.T) {
	k, _ := New(api.Config{Slices: [3]int{1, 1, 1}, Boost: 2}, []byte{api.Jump, 0, 0, 0})
	p := k.find(1)
	k.ready.leave(p)
	p.State = api.Asleep
	l, e := k.Run(3)
	want := []api.Event{{Tick: 0, Kind: 2}, {Tick: 1, Kind: 2}, {Tick: 2, Kind: 2}}
	if e != api.OK || !slices.Equal(l, want) {
		t.Errorf("Run(3): %v, error %d, want %v", l, e, want)
	}
	if p.Used != 0 || p.At != 0 {
		t.Errorf("a process that is not ready: %+v", p.Proc)
	}
}

// P8: the rows: first in, first out, the lowest level first; the lower ones are raised one behind the other.
func TestRows(t *testing.T) {
	var r rows
	var l []*process
	for id, level := range []int{2, 1, 0, 1, 2, 0} {
		p := &process{Proc: api.Proc{ID: id, Level: level}}
		l = append(l, p)
		r.join(p)
	}
	if r.first() != l[2] {
		t.Errorf("first: %+v", r.first())
	}
	r.leave(l[2])
	if r.first() != l[5] {
		t.Errorf("first, one having left: %+v", r.first())
	}
	r.leave(l[2])
	r.raise()
	var got []int
	for _, p := range l {
		p.Level = 0
	}
	for p := r.first(); p != nil; p = r.first() {
		got = append(got, p.ID)
		r.leave(p)
	}
	if !slices.Equal(got, []int{5, 1, 3, 0, 4}) {
		t.Errorf("the rows raised: %v", got)
	}
}
