package hearth_test

import (
	"math"
	"slices"
	"testing"

	"hearth/api"
	"hearth/hearth"
)

// P3: what is no configuration, with a good image and with a bad one (P1: the error named first).
func TestNewRefusesConfigs(t *testing.T) {
	bad := []api.Config{{}}
	for level := range 3 {
		for _, s := range []int{0, -1, 11, math.MinInt, math.MaxInt} {
			c := plain
			c.Slices[level] = s
			bad = append(bad, c)
		}
	}
	for _, boost := range []int{0, -1, 1001, math.MinInt, math.MaxInt} {
		bad = append(bad, api.Config{Slices: plain.Slices, Boost: boost})
	}
	for _, c := range bad {
		for _, program := range [][]byte{nil, trap(api.Exit)} {
			if k, e := hearth.New(c, program); k != nil || e != api.ErrConfig {
				t.Errorf("New(%+v, %d bytes): a kernel: %v, error %d", c, len(program), k != nil, e)
			}
		}
	}
}

// P3: what is no image: none, not whole, or too long.
func TestNewRefusesImages(t *testing.T) {
	for _, n := range []int{0, 1, 2, 3, 5, 6, 7, 1023, 1025, 1028, 1 << 20} {
		if k, e := hearth.New(plain, make([]byte, n)); k != nil || e != api.ErrImage {
			t.Errorf("New of %d bytes: a kernel: %v, error %d", n, k != nil, e)
		}
	}
}

// P3: the edges of what is taken; whatever the instructions are.
func TestNewTakes(t *testing.T) {
	for _, c := range []api.Config{{Slices: [3]int{1, 1, 1}, Boost: 1}, {Slices: [3]int{10, 10, 10}, Boost: 1000}, {Slices: [3]int{1, 10, 5}, Boost: 7}} {
		for _, program := range [][]byte{make([]byte, 4), make([]byte, 1024), {255, 255, 255, 255}} {
			k := start(t, c, program)
			if p := only(t, k); p != (api.Proc{ID: 1, State: 1}) {
				t.Errorf("New(%+v): process %+v", c, p)
			}
			if slices.Max(memory(t, k)) != 0 {
				t.Errorf("New(%+v): the memory is not all 0", c)
			}
		}
	}
}

// P4, P1: ticks that are refused leave all as it was.
func TestRunRefuses(t *testing.T) {
	k := start(t, plain, insn(api.Set, 0, 7), trap(api.Exit))
	tells(t, k, 1, ran(0, 0))
	ahead := only(t, k)
	for _, n := range []int{-1, 2001, math.MinInt, math.MaxInt} {
		if l, e := k.Run(n); len(l) != 0 || e != api.ErrTicks {
			t.Errorf("Run(%d): %v, error %d", n, l, e)
		}
	}
	if p := only(t, k); p != ahead {
		t.Errorf("behind refused ticks: %+v, want %+v", p, ahead)
	}
	tells(t, k, 0)
	tells(t, k, 1, ran(1, 1), gone(1, 7))
	if l, e := k.Run(2001); len(l) != 0 || e != api.ErrTicks {
		t.Errorf("Run(2001), all being over: %v, error %d", l, e)
	}
}

// P4: the most ticks at a time, numbered on from call to call.
func TestRunCounts(t *testing.T) {
	k := start(t, plain, insn(api.Jump, 0, 0))
	for call := range 3 {
		l := run(t, k, 2000)
		if len(l) != 2000 {
			t.Fatalf("2000 ticks tell %d events", len(l))
		}
		for i, e := range l {
			if e != ran(2000*call+i, 0) {
				t.Fatalf("call %d, event %d: %+v", call, i, e)
			}
		}
	}
}

// P4: the document's first example; when all is over nothing is told, and nothing changes (P9).
func TestOver(t *testing.T) {
	k := start(t, plain, insn(api.Set, 0, 7), trap(api.Exit), insn(api.Store, 0, 0))
	tells(t, k, 2, ran(0, 0), ran(1, 1), gone(1, 7))
	want := api.Proc{ID: 1, State: 6, Status: 7, At: 2, Used: 2, Regs: [8]uint16{7}}
	for range 2 {
		if p := only(t, k); p != want {
			t.Errorf("all is over: %+v, want %+v", p, want)
		}
		tells(t, k, 2000)
	}
	if memory(t, k)[0] != 0 {
		t.Error("all is over, and the memory changes")
	}
}

// P9: numbers that no process has.
func TestMemoryRefuses(t *testing.T) {
	k := start(t, plain, insn(api.Jump, 0, 0))
	for _, id := range []int{0, -1, 2, 8, 65537, math.MinInt, math.MaxInt} {
		if b, e := k.Memory(id); len(b) != 0 || e != api.ErrProc {
			t.Errorf("Memory(%d): %x, error %d", id, b, e)
		}
	}
}

// P9: of a process that has ended there is still the memory.
func TestMemoryOfEnded(t *testing.T) {
	k := start(t, plain, insn(api.Set, 1, 0x1299), insn(api.Store, 1, 2|9<<8), trap(api.Exit))
	run(t, k, 3)
	want := make([]byte, 64)
	want[9] = 0x99
	if b := memory(t, k); !slices.Equal(b, want) {
		t.Errorf("memory %x, want %x", b, want)
	}
}

// P1: what New gives beside an error is no kernel; no call on it panics.
func TestNoKernel(t *testing.T) {
	k, _ := hearth.New(api.Config{}, nil)
	if l, e := k.Run(3); len(l) != 0 || e != api.OK {
		t.Errorf("Run(3): %v, error %d", l, e)
	}
	if _, e := k.Run(-1); e != api.ErrTicks {
		t.Errorf("Run(-1): error %d", e)
	}
	if l := k.Procs(); len(l) != 0 {
		t.Errorf("Procs: %+v", l)
	}
	if b, e := k.Memory(1); len(b) != 0 || e != api.ErrProc {
		t.Errorf("Memory(1): %x, error %d", b, e)
	}
}

// P2: what is handed in is neither written into nor kept.
func TestImageStaysTheCallers(t *testing.T) {
	room := slices.Repeat([]byte{0xee}, 64)
	own := room[:copy(room, image(insn(api.Set, 0, 7), trap(api.Print), insn(api.Jump, 0, 0)))]
	ahead := slices.Clone(room)
	k, _ := hearth.New(plain, own)
	run(t, k, 5)
	if !slices.Equal(room, ahead) {
		t.Errorf("the image became %x, was %x", room, ahead)
	}
	clear(room)
	tells(t, k, 2, ran(5, 2), ran(6, 0))
}

// spoil writes into all that a slice reaches.
func spoil[T any](l []T, with T) {
	l = l[:cap(l)]
	for i := range l {
		l[i] = with
	}
}

// P2: what comes out is its owner's, with its spare room.
func TestAnswersAreTheCallers(t *testing.T) {
	k := start(t, plain, insn(api.Set, 0, 5), insn(api.Store, 0, 1), insn(api.Jump, 0, 0))
	kept := run(t, k, 3)
	keptProcs, keptMemory := all(t, k)
	procs, bytes := all(t, k)
	spoil(run(t, k, 3), api.Event{Tick: -1})
	spoil(procs, api.Proc{ID: -1})
	spoil(bytes, 0xee)
	if !slices.Equal(kept, []api.Event{ran(0, 0), ran(1, 1), ran(2, 2)}) {
		t.Errorf("what was told ahead became %v", kept)
	}
	want := api.Proc{ID: 1, State: 1, Used: 3, Regs: [8]uint16{5}}
	if keptProcs[0] != want || keptMemory[0] != 5 || keptMemory[1] != 0 {
		t.Errorf("what came out ahead became %+v, %x", keptProcs, keptMemory)
	}
	want.Used = 6
	if p, b := only(t, k), memory(t, k); p != want || b[0] != 5 || b[1] != 0 {
		t.Errorf("what came out later is %+v, %x", p, b)
	}
	tells(t, k, 1, ran(6, 0))
}

// P2: two kernels have nothing in common.
func TestKernelsApart(t *testing.T) {
	program := image(insn(api.Add, 0, 1), insn(api.Set, 1, 3), insn(api.Store, 1, 0), insn(api.Jump, 0, 0))
	k, other := start(t, plain, program), start(t, plain, program)
	run(t, k, 9)
	if p, b := only(t, other), memory(t, other); p != (api.Proc{ID: 1, State: 1}) || slices.Max(b) != 0 {
		t.Errorf("a kernel that has not run: %+v, %x", p, b)
	}
	tells(t, other, 1, ran(0, 0))
}
