package hearth_test

import (
	"slices"
	"testing"

	"hearth/api"
	"hearth/hearth"
)

// plain: a configuration in which a short program stays at level 0.
var plain = api.Config{Slices: [3]int{10, 10, 10}, Boost: 1000}

// insn: an instruction by its operator, a and k.
func insn(op, a, k int) []byte { return []byte{byte(op), byte(a), byte(k), byte(k >> 8)} }

func trap(number int) []byte { return insn(api.Trap, number, 0) }

func image(insns ...[]byte) []byte { return slices.Concat(insns...) }

func start(t *testing.T, c api.Config, insns ...[]byte) *hearth.Kernel {
	t.Helper()
	k, e := hearth.New(c, image(insns...))
	if k == nil || e != api.OK {
		t.Fatalf("New: a kernel: %v, error %d", k != nil, e)
	}
	return k
}

func run(t *testing.T, k *hearth.Kernel, ticks int) []api.Event {
	t.Helper()
	l, e := k.Run(ticks)
	if e != api.OK {
		t.Fatalf("Run(%d): error %d", ticks, e)
	}
	return l
}

// tells runs so many ticks and holds what they tell against what is wanted.
func tells(t *testing.T, k *hearth.Kernel, ticks int, want ...api.Event) {
	t.Helper()
	if got := run(t, k, ticks); !slices.Equal(got, want) {
		t.Errorf("Run(%d) tells\n%v, want\n%v", ticks, got, want)
	}
}

func ran(tick, at int) api.Event { return api.Event{Tick: tick, Kind: api.Ran, Proc: 1, A: at} }

func printed(tick, c int) api.Event { return api.Event{Tick: tick, Kind: api.Printed, Proc: 1, A: c} }

func gone(tick, status int) api.Event {
	return api.Event{Tick: tick, Kind: api.Gone, Proc: 1, A: status}
}

// only: process 1, which must be the only one.
func only(t *testing.T, k *hearth.Kernel) api.Proc {
	t.Helper()
	l := k.Procs()
	if len(l) != 1 || l[0].ID != 1 || l[0].Parent != 0 {
		t.Fatalf("Procs: %+v, want process 1 alone", l)
	}
	return l[0]
}

func memory(t *testing.T, k *hearth.Kernel) []byte {
	t.Helper()
	b, e := k.Memory(1)
	if e != api.OK || len(b) != 64 {
		t.Fatalf("Memory(1): %d bytes, error %d", len(b), e)
	}
	return b
}
