package hearth

import (
	"errors"
	"slices"
	"strconv"
	"strings"
	"testing"

	"hearth/api"
)

// isRefusal: an error value with words of its own around the reason.
func isRefusal(t *testing.T, err error, number int, reason error, answer uint16) {
	t.Helper()
	var r *refusal
	if !errors.As(err, &r) || !errors.Is(err, reason) || r.answer() != answer {
		t.Errorf("trap %d fails with %v", number, err)
		return
	}
	if !strings.Contains(err.Error(), strconv.Itoa(number)) || !strings.HasSuffix(err.Error(), reason.Error()) || err.Error() == reason.Error() {
		t.Errorf("the words: %q", err)
	}
}

// What a trap fails with, sooner or later, if it is asked for again and again.
func TestRefusal(t *testing.T) {
	k, _ := New(api.Config{Slices: [3]int{1, 1, 1}, Boost: 1}, make([]byte, 4))
	p := k.find(1)
	for _, c := range []struct {
		number int
		regs   [8]uint16
		reason error
		answer uint16
	}{
		{77, [8]uint16{}, errBadCall, api.BadCall},
		{api.Wait, [8]uint16{}, errNoChild, api.NoChild},
		{api.Kill, [8]uint16{}, errNoProc, api.NoProc},
		{api.Fork, [8]uint16{}, errFull, api.Full},
		{api.Close, [8]uint16{}, errBadFile, api.BadFile},
		{api.Pipe, [8]uint16{}, errFull, api.Full},
		{api.Read, [8]uint16{1, 0, 1}, errBadFile, api.BadFile},
		{api.Read, [8]uint16{0, 0, 65}, errBadCall, api.BadCall},
		{api.Write, [8]uint16{1, 57, 8}, errBadAddr, api.BadAddr},
	} {
		var err error
		for i := 0; i < 9 && err == nil; i++ {
			p.Regs = c.regs
			err = k.trap(p, byte(c.number), nil)
		}
		isRefusal(t, err, c.number, c.reason, c.answer)
	}
	k.shut(p, 0)
	p.Regs = [8]uint16{1, 0, 1}
	isRefusal(t, k.carry(p, p.file(1)), api.Write, errNoReader, api.NoReader)
}

// P8: the rows: first in, first out, the lowest level first; the lower ones are raised one behind the other.
func TestRows(t *testing.T) {
	var r rows
	var l []*process
	for id, level := range []int{2, 1, 0, 1, 2, 0} {
		p := &process{Proc: api.Proc{ID: id, Level: level}}
		l = append(l, p)
		r.join(p)
	}
	if r.first() != l[2] {
		t.Errorf("first: %+v", r.first())
	}
	r.leave(l[2])
	if r.first() != l[5] {
		t.Errorf("first, one having left: %+v", r.first())
	}
	r.leave(l[2])
	r.raise()
	var got []int
	for _, p := range l {
		p.Level = 0
	}
	for p := r.first(); p != nil; p = r.first() {
		got = append(got, p.ID)
		r.leave(p)
	}
	if !slices.Equal(got, []int{5, 1, 3, 0, 4}) {
		t.Errorf("the rows raised: %v", got)
	}
}
