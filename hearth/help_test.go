package hearth_test

import (
	"slices"
	"testing"

	"hearth/api"
	"hearth/hearth"
)

// plain: a configuration in which a short program stays at level 0.
var plain = api.Config{Slices: [3]int{10, 10, 10}, Boost: 1000}

// insn: an instruction by its operator, a and k.
func insn(op, a, k int) []byte { return []byte{byte(op), byte(a), byte(k), byte(k >> 8)} }

func set(r, k int) []byte { return insn(api.Set, r, k) }

func jump(k int) []byte { return insn(api.Jump, 0, k) }

// child: where one whose register 0 is 0 goes on, as a child does behind a fork.
func child(k int) []byte { return insn(api.Jumpz, 0, k) }

func trap(number int) []byte { return insn(api.Trap, number, 0) }

// call: a trap of one argument, which is set ahead: two instructions.
func call(number, arg int) []byte { return slices.Concat(set(0, arg), trap(number)) }

func image(insns ...[]byte) []byte { return slices.Concat(insns...) }

func start(t *testing.T, c api.Config, insns ...[]byte) *hearth.Kernel {
	t.Helper()
	k, e := hearth.New(c, image(insns...))
	if k == nil || e != api.OK {
		t.Fatalf("New: a kernel: %v, error %d", k != nil, e)
	}
	return k
}

func run(t *testing.T, k *hearth.Kernel, ticks int) []api.Event {
	t.Helper()
	l, e := k.Run(ticks)
	if e != api.OK {
		t.Fatalf("Run(%d): error %d", ticks, e)
	}
	return l
}

// tells runs so many ticks and holds what they tell against what is wanted.
func tells(t *testing.T, k *hearth.Kernel, ticks int, want ...api.Event) {
	t.Helper()
	if got := run(t, k, ticks); !slices.Equal(got, want) {
		t.Errorf("Run(%d) tells\n%v, want\n%v", ticks, got, want)
	}
}

// What is told of process 1.
func ran(tick, at int) api.Event      { return event(tick, api.Ran, 1, at) }
func printed(tick, c int) api.Event   { return event(tick, api.Printed, 1, c) }
func gone(tick, status int) api.Event { return event(tick, api.Gone, 1, status) }

func idle(tick int) api.Event { return event(tick, api.Idle, 0, 0) }

func event(tick, kind, id, a int) api.Event {
	return api.Event{Tick: tick, Kind: kind, Proc: id, A: a}
}

// step is a run of an instruction, by a process, as seen without its tick.
type step struct{ id, at int }

// steps runs so many ticks, and tells who ran what; Idle is the step of process 0.
func steps(t *testing.T, k *hearth.Kernel, ticks int) []step {
	t.Helper()
	var l []step
	for _, e := range run(t, k, ticks) {
		if e.Kind == api.Ran || e.Kind == api.Idle {
			l = append(l, step{e.Proc, e.A})
		}
	}
	return l
}

// goes runs as many ticks as steps are wanted, and holds them against these.
func goes(t *testing.T, k *hearth.Kernel, want ...step) {
	t.Helper()
	if got := steps(t, k, len(want)); !slices.Equal(got, want) {
		t.Errorf("goes %v, want %v", got, want)
	}
}

// shows holds all processes against what is wanted.
func shows(t *testing.T, k *hearth.Kernel, want ...api.Proc) {
	t.Helper()
	if got := k.Procs(); !slices.Equal(got, want) {
		t.Errorf("Procs\n%+v, want\n%+v", got, want)
	}
}

// proc: a process, which must be there.
func proc(t *testing.T, k *hearth.Kernel, id int) api.Proc {
	t.Helper()
	for _, p := range k.Procs() {
		if p.ID == id {
			return p
		}
	}
	t.Fatalf("there is no process %d", id)
	return api.Proc{}
}

// only: process 1, which must be the only one.
func only(t *testing.T, k *hearth.Kernel) api.Proc {
	t.Helper()
	l := k.Procs()
	if len(l) != 1 || l[0].ID != 1 || l[0].Parent != 0 {
		t.Fatalf("Procs: %+v, want process 1 alone", l)
	}
	return l[0]
}

func memory(t *testing.T, k *hearth.Kernel) []byte {
	t.Helper()
	return memoryOf(t, k, 1)
}

func memoryOf(t *testing.T, k *hearth.Kernel, id int) []byte {
	t.Helper()
	b, e := k.Memory(id)
	if e != api.OK || len(b) != 64 {
		t.Fatalf("Memory(%d): %d bytes, error %d", id, len(b), e)
	}
	return b
}
