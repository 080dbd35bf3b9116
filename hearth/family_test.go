package hearth_test

import (
	"bytes"
	"slices"
	"testing"

	"hearth/api"
	"hearth/hearth"
)

// P6: the document's second example.
func TestForkAndWait(t *testing.T) {
	k := start(t, api.Config{Slices: [3]int{5, 5, 5}, Boost: 50}, trap(1), child(3), trap(2), trap(0))
	young := api.Proc{ID: 2, Parent: 1, State: 1, At: 1}
	tells(t, k, 1, ran(0, 0))
	shows(t, k, api.Proc{ID: 1, State: 1, At: 1, Used: 1, Regs: [8]uint16{2}}, young)
	tells(t, k, 2, ran(1, 1), ran(2, 2))
	shows(t, k, api.Proc{ID: 1, State: 2, At: 3, Used: 3, Regs: [8]uint16{2}}, young)
	tells(t, k, 2, event(3, 1, 2, 1), event(4, 1, 2, 3), event(4, 4, 2, 0))
	shows(t, k, api.Proc{ID: 1, State: 1, At: 3, Regs: [8]uint16{2}})
	tells(t, k, 9, ran(5, 3), gone(5, 2))
	shows(t, k, api.Proc{ID: 1, State: 6, Status: 2, At: 4, Used: 1, Regs: [8]uint16{2}})
}

// P6: Fork: the same but for the answer, and at level 0 with nothing used; from then on each has its own.
func TestForkCopies(t *testing.T) {
	k := start(t, api.Config{Slices: [3]int{2, 1, 9}, Boost: 50},
		set(3, 0xabcd), set(1, 9), insn(api.Store, 3, 2|5<<8), trap(api.Fork), child(7),
		insn(api.Store, 3, 2|6<<8), jump(6),
		set(4, 77), insn(api.Store, 4, 2|7<<8), jump(9))
	run(t, k, 4)
	shows(t, k,
		api.Proc{ID: 1, State: 1, At: 4, Level: 2, Used: 1, Regs: [8]uint16{2, 9, 0, 0xabcd}},
		api.Proc{ID: 2, Parent: 1, State: 1, At: 4, Regs: [8]uint16{0, 9, 0, 0xabcd}})
	if b := memoryOf(t, k, 2); b[5] != 0xcd || !bytes.Equal(b, memory(t, k)) {
		t.Errorf("behind a fork the memories are %x, %x", memory(t, k), b)
	}
	goes(t, k, step{2, 4}, step{2, 7}, step{2, 8}, step{1, 4}, step{1, 5}, step{1, 6})
	if p, q := proc(t, k, 1), proc(t, k, 2); p.Regs != [8]uint16{2, 9, 0, 0xabcd} || q.Regs != [8]uint16{0, 9, 0, 0xabcd, 77} {
		t.Errorf("the registers are %v, %v", p.Regs, q.Regs)
	}
	p, q := memory(t, k), memoryOf(t, k, 2)
	if !bytes.Equal(p[5:8], []byte{0xcd, 0xcd, 0}) || !bytes.Equal(q[5:8], []byte{0xcd, 0, 77}) {
		t.Errorf("the memories are %x, %x", p, q)
	}
}

// P6: the parent is who forks; whoever is new stands behind the others.
func TestForkByChild(t *testing.T) {
	k := start(t, plain, trap(api.Fork), trap(api.Fork), trap(api.Yield), jump(3))
	goes(t, k, step{1, 0}, step{1, 1}, step{1, 2}, step{2, 1})
	shows(t, k,
		api.Proc{ID: 1, State: 1, At: 3, Used: 3},
		api.Proc{ID: 2, Parent: 1, State: 1, At: 2, Used: 1, Regs: [8]uint16{4}},
		api.Proc{ID: 3, Parent: 1, State: 1, At: 2},
		api.Proc{ID: 4, Parent: 2, State: 1, At: 2})
	goes(t, k, step{2, 2}, step{3, 2}, step{1, 3}, step{1, 3})
}

// P6: Full: eight processes, those that have ended among them; one of these being told there is room for one more, of a new number.
func TestForkFull(t *testing.T) {
	k := start(t, plain,
		set(2, 65534), set(7, 3), trap(api.Fork), child(8),
		insn(api.Move, 3, 0), insn(api.Sub, 3, 2), insn(api.Jumpz, 3, 9), jump(2),
		trap(api.Exit),
		call(api.Sleep, 200), trap(api.Wait), trap(api.Fork), child(8), trap(api.Fork), jump(15))
	until(t, k, 9)
	family(t, k, 1, 2, 3, 4, 5, 6, 7, 8)
	if p := proc(t, k, 1); p.State != api.Ready || p.Regs != [8]uint16{65534, 0, 65534, 0, 0, 0, 0, 3} {
		t.Errorf("refused: %+v", p)
	}
	until(t, k, 15)
	family(t, k, 1, 3, 4, 5, 6, 7, 8, 9)
	if p := proc(t, k, 1); p.State != api.Ready || p.Regs[0] != 65534 {
		t.Errorf("refused anew: %+v", p)
	}
	if p := proc(t, k, 8); p.State != api.Ended {
		t.Errorf("of those that have ended: %+v", p)
	}
}

// until runs until that instruction of process 1 is next.
func until(t *testing.T, k *hearth.Kernel, at int) {
	t.Helper()
	for range 2000 {
		if proc(t, k, 1).At == at {
			return
		}
		run(t, k, 1)
	}
	t.Fatalf("process 1 does not come to %d: %+v", at, k.Procs())
}

// family: these are the processes, all of process 1.
func family(t *testing.T, k *hearth.Kernel, want ...int) {
	t.Helper()
	var got []int
	for _, p := range k.Procs() {
		got = append(got, p.ID)
		if p.Parent != min(p.ID-1, 1) {
			t.Errorf("process %+v", p)
		}
	}
	if !slices.Equal(got, want) {
		t.Errorf("processes %v, want %v", got, want)
	}
}

// P6: eight that live: whoever forks is refused.
func TestForkFullOfLiving(t *testing.T) {
	k := start(t, plain, trap(api.Fork), jump(0))
	run(t, k, 2000)
	l := k.Procs()
	if len(l) != 8 {
		t.Fatalf("%d processes", len(l))
	}
	for i, p := range l {
		if p.ID != i+1 || p.State != api.Ready || p.Regs[0] != 65534 {
			t.Errorf("process %+v", p)
		}
	}
}

// P6, P10: a number is given once, and told to one wait.
func TestNumbersGoOn(t *testing.T) {
	k := start(t, plain, trap(api.Fork), child(5), trap(api.Wait), trap(api.Print), jump(0), trap(api.Exit))
	var ended, told []int
	for _, e := range run(t, k, 1500) {
		switch e.Kind {
		case api.Gone:
			ended = append(ended, e.Proc)
		case api.Printed:
			told = append(told, e.A)
		}
	}
	if len(told) < 150 || len(ended) < len(told) {
		t.Fatalf("%d ended, %d told", len(ended), len(told))
	}
	for i, id := range ended {
		if id != i+2 {
			t.Fatalf("ended: %v", ended)
		}
	}
	for i, id := range told {
		if id != int(byte(i+2)) {
			t.Fatalf("told: %v", told)
		}
	}
}

// P6: Wait without a child, ahead of a fork and behind the last child's being told: only the answer changes.
func TestWaitNoChild(t *testing.T) {
	k := start(t, plain, set(0, 5), set(1, 7), trap(api.Wait), trap(api.Fork), child(8), trap(api.Wait), trap(api.Wait), jump(7), trap(api.Exit))
	run(t, k, 3)
	shows(t, k, api.Proc{ID: 1, State: 1, At: 3, Used: 3, Regs: [8]uint16{65533, 7}})
	until(t, k, 7)
	if p := only(t, k); p.Regs != [8]uint16{65533, 0} || p.State != api.Ready {
		t.Errorf("Wait behind the last child: %+v", p)
	}
	if b, e := k.Memory(2); len(b) != 0 || e != api.ErrProc {
		t.Errorf("Memory of one that is no more: %x, error %d", b, e)
	}
}

// P6, P9: a child that has ended and was not asked for stays; who asks for it then goes on without waiting.
func TestWaitAtOnce(t *testing.T) {
	k := start(t, plain, trap(api.Fork), child(5), trap(api.Yield), trap(api.Wait), jump(4), set(0, 44), insn(api.Store, 0, 1), trap(api.Exit))
	tells(t, k, 7, ran(0, 0), ran(1, 1), ran(2, 2), event(3, 1, 2, 1), event(4, 1, 2, 5), event(5, 1, 2, 6), event(6, 1, 2, 7), event(6, 4, 2, 44))
	for range 2 {
		shows(t, k,
			api.Proc{ID: 1, State: 1, At: 3, Used: 3},
			api.Proc{ID: 2, Parent: 1, State: 6, Status: 44, At: 8, Used: 4, Regs: [8]uint16{44}})
		run(t, k, 0)
	}
	if b := memoryOf(t, k, 2); b[0] != 44 {
		t.Errorf("the memory of one that has ended: %x", b)
	}
	tells(t, k, 1, ran(7, 3))
	shows(t, k, api.Proc{ID: 1, State: 1, At: 4, Used: 4, Regs: [8]uint16{2, 44}})
	tells(t, k, 1, ran(8, 4))
}

// P6: of several that have ended the one with the least number is told, not the one that ended first.
func TestWaitLeast(t *testing.T) {
	k := start(t, plain,
		trap(api.Fork), child(13), trap(api.Fork), child(17), trap(api.Fork), child(21),
		call(api.Sleep, 100), trap(api.Wait), trap(api.Wait), trap(api.Wait), trap(api.Wait), jump(12),
		call(api.Sleep, 60), call(api.Exit, 22),
		call(api.Sleep, 40), call(api.Exit, 33),
		call(api.Sleep, 20), call(api.Exit, 44))
	var ended []int
	for _, e := range run(t, k, 107) {
		if e.Kind == api.Gone {
			ended = append(ended, e.Proc)
		}
	}
	if len(ended) != 3 || ended[0] != 4 || ended[2] != 2 {
		t.Fatalf("ended: %v", ended)
	}
	for i, want := range [][8]uint16{{2, 22}, {3, 33}, {4, 44}, {65533, 44}} {
		goes(t, k, step{1, 8 + i})
		l := k.Procs()
		if l[0].Regs != want || l[0].State != api.Ready || len(l) != max(3-i, 1) {
			t.Errorf("wait %d: %+v, want %v", i, l, want)
		}
	}
}

// P6: the end of another's child is not told; who waits stays as it was.
func TestWaitForOwn(t *testing.T) {
	k := start(t, plain,
		trap(api.Fork), child(4), trap(api.Wait), jump(3),
		trap(api.Fork), child(9), trap(api.Wait), call(api.Exit, 22),
		call(api.Exit, 33))
	goes(t, k, step{1, 0}, step{1, 1}, step{1, 2}, step{2, 1}, step{2, 4}, step{2, 5}, step{2, 6}, step{3, 5}, step{3, 9}, step{3, 10})
	shows(t, k,
		api.Proc{ID: 1, State: 2, At: 3, Used: 3, Regs: [8]uint16{2}},
		api.Proc{ID: 2, Parent: 1, State: 1, At: 7, Regs: [8]uint16{3, 33}})
	goes(t, k, step{2, 7}, step{2, 8})
	shows(t, k, api.Proc{ID: 1, State: 1, At: 3, Regs: [8]uint16{2, 22}})
}

// P6, P4: a child that faults, and one that has all 16 bits of a status.
func TestWaitTellsStatus(t *testing.T) {
	for status, last := range map[uint16][]byte{65281: {0, 0, 0, 0}, 65535: call(api.Exit, 65535), 65280: call(api.Exit, 65280), 0: trap(api.Exit)} {
		k := start(t, plain, trap(api.Fork), child(5), set(1, 9), trap(api.Wait), jump(4), last)
		run(t, k, 30)
		if p := only(t, k); p.Regs != [8]uint16{2, status} {
			t.Errorf("status %d: %+v", status, p)
		}
	}
}

// P6: one end tells two waits: the parent its child, process 1 that child's child, which had ended ahead. They are ready by their numbers.
func TestEndTellsTwo(t *testing.T) {
	k := start(t, plain,
		trap(api.Fork), child(4), trap(api.Wait), jump(3),
		trap(api.Fork), child(8), trap(api.Wait), jump(7),
		trap(api.Fork), child(13), trap(api.Yield), call(api.Exit, 33),
		call(api.Exit, 44))
	run(t, k, 14)
	shows(t, k,
		api.Proc{ID: 1, State: 2, At: 3, Used: 3, Regs: [8]uint16{2}},
		api.Proc{ID: 2, Parent: 1, State: 2, At: 7, Used: 4, Regs: [8]uint16{3}},
		api.Proc{ID: 3, Parent: 2, State: 1, At: 11, Used: 4},
		api.Proc{ID: 4, Parent: 3, State: 6, Status: 44, At: 15, Used: 3, Regs: [8]uint16{44}})
	tells(t, k, 2, event(14, 1, 3, 11), event(15, 1, 3, 12), event(15, 4, 3, 33))
	shows(t, k,
		api.Proc{ID: 1, State: 1, At: 3, Regs: [8]uint16{4, 44}},
		api.Proc{ID: 2, Parent: 1, State: 1, At: 7, Regs: [8]uint16{3, 33}})
	l := steps(t, k, 11)
	if l[0] != (step{1, 3}) || l[9] != (step{1, 3}) || l[10] != (step{2, 7}) {
		t.Errorf("ready in the order %v", l)
	}
}

// P6: process 1, waiting, is told the least of a child and that child's child; the other one stays for the next wait.
func TestEndLeavesOne(t *testing.T) {
	k := start(t, plain,
		trap(api.Fork), child(5), trap(api.Wait), trap(api.Wait), jump(4),
		trap(api.Fork), child(10), trap(api.Yield), call(api.Exit, 22),
		call(api.Exit, 33))
	run(t, k, 12)
	shows(t, k,
		api.Proc{ID: 1, State: 1, At: 3, Regs: [8]uint16{2, 22}},
		api.Proc{ID: 3, Parent: 1, State: 6, Status: 33, At: 12, Used: 3, Regs: [8]uint16{33}})
	goes(t, k, step{1, 3})
	shows(t, k, api.Proc{ID: 1, State: 1, At: 4, Used: 1, Regs: [8]uint16{3, 33}})
}

// P6: a child that lives on has process 1 as parent when its own has ended.
func TestOrphan(t *testing.T) {
	k := start(t, plain,
		trap(api.Fork), child(8), call(api.Sleep, 50), trap(api.Wait), trap(api.Wait), trap(api.Wait), jump(7),
		trap(api.Fork), child(13), trap(api.Self), call(api.Exit, 22),
		call(api.Sleep, 10), call(api.Exit, 33))
	run(t, k, 6)
	if p := proc(t, k, 3); p.Parent != 2 {
		t.Errorf("ahead of its parent's end: %+v", p)
	}
	tells(t, k, 4, event(6, 1, 2, 9), event(7, 1, 2, 10), event(8, 1, 2, 11), event(9, 1, 2, 12), event(9, 4, 2, 22))
	if p := proc(t, k, 3); p.Parent != 1 || p.State != api.Ready {
		t.Errorf("behind its parent's end: %+v", p)
	}
	for i, want := range [][8]uint16{{2, 22}, {3, 33}, {65533, 33}} {
		until(t, k, 5+i)
		if p := proc(t, k, 1); p.Regs != want {
			t.Errorf("wait %d: %+v, want %v", i, p, want)
		}
	}
}

// P6: Kill of a number that no process has: only the answer changes.
func TestKillNoProc(t *testing.T) {
	for _, id := range []int{0, 2, 8, 256, 257, 65535} {
		k := start(t, plain, set(1, 7), call(api.Kill, id))
		tells(t, k, 3, ran(0, 0), ran(1, 1), ran(2, 2))
		shows(t, k, api.Proc{ID: 1, State: 1, At: 3, Used: 3, Regs: [8]uint16{65532, 7}})
	}
}

// P6: Kill of one that has ended, asked for or not: its status stays.
func TestKillOfEnded(t *testing.T) {
	k := start(t, plain, trap(api.Fork), child(9), trap(api.Yield), call(api.Kill, 2), trap(api.Wait), call(api.Kill, 2), jump(8), call(api.Exit, 22))
	run(t, k, 6)
	tells(t, k, 2, ran(6, 3), ran(7, 4))
	shows(t, k,
		api.Proc{ID: 1, State: 1, At: 5, Used: 5, Regs: [8]uint16{65532}},
		api.Proc{ID: 2, Parent: 1, State: 6, Status: 22, At: 11, Used: 3, Regs: [8]uint16{22}})
	run(t, k, 1)
	shows(t, k, api.Proc{ID: 1, State: 1, At: 6, Used: 6, Regs: [8]uint16{2, 22}})
	run(t, k, 2)
	shows(t, k, api.Proc{ID: 1, State: 1, At: 8, Used: 8, Regs: [8]uint16{65532, 22}})
}

// P6: who kills itself ends with that status, also if its parent is told.
func TestKillItself(t *testing.T) {
	k := start(t, plain, set(1, 7), call(api.Kill, 1))
	tells(t, k, 9, ran(0, 0), ran(1, 1), ran(2, 2), gone(2, 65280))
	shows(t, k, api.Proc{ID: 1, State: 6, Status: 65280, At: 3, Used: 3, Regs: [8]uint16{0, 7}})

	k = start(t, plain, trap(api.Fork), child(4), trap(api.Wait), jump(3), trap(api.Self), trap(api.Kill), jump(6))
	tells(t, k, 7, ran(0, 0), ran(1, 1), ran(2, 2), event(3, 1, 2, 1), event(4, 1, 2, 4), event(5, 1, 2, 5), event(5, 4, 2, 65280), ran(6, 3))
	shows(t, k, api.Proc{ID: 1, State: 1, At: 3, Used: 1, Regs: [8]uint16{2, 65280}})
}

// P6: who kills its parent, which waits for it, goes on first, as a child of process 1.
func TestKillParent(t *testing.T) {
	k := start(t, plain,
		trap(api.Fork), child(4), trap(api.Wait), jump(3),
		trap(api.Fork), child(8), trap(api.Wait), jump(7),
		call(api.Kill, 2), jump(10))
	run(t, k, 9)
	tells(t, k, 1, event(9, 1, 3, 9), event(9, 4, 2, 65280))
	shows(t, k,
		api.Proc{ID: 1, State: 1, At: 3, Regs: [8]uint16{2, 65280}},
		api.Proc{ID: 3, Parent: 1, State: 1, At: 10, Used: 3})
	l := steps(t, k, 8)
	if l[0] != (step{3, 10}) || l[6] != (step{3, 10}) || l[7] != (step{1, 3}) {
		t.Errorf("goes on: %v", l)
	}
}

// P6: one that is ready is killed out of the middle of its row; all of it but state and status stays.
func TestKillReady(t *testing.T) {
	k := start(t, plain, trap(api.Fork), child(8), trap(api.Fork), child(8), trap(api.Fork), child(8), call(api.Kill, 3), trap(api.Yield), jump(8))
	run(t, k, 7)
	tells(t, k, 1, ran(7, 7), event(7, 4, 3, 65280))
	if p := proc(t, k, 3); p != (api.Proc{ID: 3, Parent: 1, State: 6, Status: 65280, At: 3}) {
		t.Errorf("killed: %+v", p)
	}
	goes(t, k, step{1, 8}, step{2, 1}, step{2, 8}, step{4, 5}, step{4, 8}, step{1, 9}, step{2, 9}, step{2, 8})
}

// P6: one of a lower level is killed.
func TestKillOfLowerLevel(t *testing.T) {
	k := start(t, api.Config{Slices: [3]int{9, 2, 2}, Boost: 1000}, trap(api.Fork), child(8), call(api.Sleep, 20), call(api.Kill, 2), call(api.Sleep, 9), jump(8))
	run(t, k, 25)
	if p := proc(t, k, 2); p.State != api.Ended || p.Status != 65280 || p.Level != 2 || p.At != 8 {
		t.Errorf("killed: %+v", p)
	}
	tells(t, k, 4, ran(25, 6), ran(26, 7), idle(27), idle(28))
}

// P6: one that sleeps is killed, and does not wake.
func TestKillAsleep(t *testing.T) {
	k := start(t, plain, trap(api.Fork), child(6), trap(api.Yield), call(api.Kill, 2), jump(5), call(api.Sleep, 5), jump(8))
	goes(t, k, step{1, 0}, step{1, 1}, step{1, 2}, step{2, 1}, step{2, 6}, step{2, 7}, step{1, 3})
	tells(t, k, 1, ran(7, 4), event(7, 4, 2, 65280))
	for range 20 {
		goes(t, k, step{1, 5})
	}
	if p := proc(t, k, 2); p != (api.Proc{ID: 2, Parent: 1, State: 6, Status: 65280, At: 8, Used: 3}) {
		t.Errorf("killed: %+v", p)
	}
}

// P6: one that waits is killed: its child is told to process 1, not to it.
func TestKillWaiting(t *testing.T) {
	k := start(t, plain,
		trap(api.Fork), child(8), call(api.Sleep, 20), call(api.Kill, 2), call(api.Sleep, 40),
		trap(api.Fork), child(12), trap(api.Wait), jump(11),
		call(api.Sleep, 25), call(api.Exit, 33))
	run(t, k, 25)
	shows(t, k,
		api.Proc{ID: 1, State: 1, At: 6, Used: 2},
		api.Proc{ID: 2, Parent: 1, State: 6, Status: 65280, At: 11, Used: 4, Regs: [8]uint16{3}},
		api.Proc{ID: 3, Parent: 1, State: 3, At: 14, Used: 3})
	run(t, k, 20)
	if p, q := proc(t, k, 2), proc(t, k, 3); p.State != api.Ended || p.Regs != [8]uint16{3} || q.State != api.Ended || q.Status != 33 {
		t.Errorf("the killed one %+v, its child %+v", p, q)
	}
}

// overAt: the last thing told is process 1's end, and from then on all stays.
func overAt(t *testing.T, k *hearth.Kernel, ticks, tick, status int, want ...api.Proc) {
	t.Helper()
	l := run(t, k, ticks)
	if len(l) == 0 || l[len(l)-1] != gone(tick, status) {
		t.Fatalf("told %v, and not the end of process 1 at last", l)
	}
	for range 2 {
		shows(t, k, want...)
		tells(t, k, 2000)
	}
	for _, p := range want {
		memoryOf(t, k, p.ID)
	}
}

// P6, P9: process 1 ends while others are ready, wait and sleep: nothing happens any more.
func TestOverAmongOthers(t *testing.T) {
	k := start(t, plain,
		trap(api.Fork), child(7), trap(api.Fork), child(10), trap(api.Yield), call(api.Exit, 8),
		trap(api.Fork), trap(api.Wait), jump(9),
		call(api.Sleep, 5), jump(12))
	overAt(t, k, 30, 12, 8,
		api.Proc{ID: 1, State: 6, Status: 8, At: 7, Used: 7, Regs: [8]uint16{8}},
		api.Proc{ID: 2, Parent: 1, State: 2, At: 9, Used: 3, Regs: [8]uint16{4}},
		api.Proc{ID: 3, Parent: 1, State: 3, At: 12, Used: 3},
		api.Proc{ID: 4, Parent: 2, State: 1, At: 8})
}

// P6, P9: process 1 is killed by its child, or faults: the tick comes to its end, that of who killed too.
func TestOverByOthers(t *testing.T) {
	k := start(t, api.Config{Slices: [3]int{4, 2, 2}, Boost: 1000},
		trap(api.Fork), child(4), trap(api.Yield), jump(2),
		set(1, 3), call(api.Kill, 1), jump(7))
	overAt(t, k, 30, 6, 65280,
		api.Proc{ID: 1, State: 6, Status: 65280, At: 3, Used: 3},
		api.Proc{ID: 2, Parent: 1, State: 1, At: 7, Level: 1, Regs: [8]uint16{0, 3}})

	k = start(t, plain, trap(api.Fork), child(3), []byte{0, 0, 0, 0}, jump(3))
	overAt(t, k, 30, 2, 65281,
		api.Proc{ID: 1, State: 6, Status: 65281, At: 2, Used: 3, Regs: [8]uint16{2}},
		api.Proc{ID: 2, Parent: 1, State: 1, At: 1})
}

// P6, P9: process 1 ends with a child that has ended, and that nobody asks for any more.
func TestOverWithEnded(t *testing.T) {
	k := start(t, plain, trap(api.Fork), child(5), trap(api.Yield), call(api.Exit, 1), call(api.Exit, 22))
	overAt(t, k, 50, 7, 1,
		api.Proc{ID: 1, State: 6, Status: 1, At: 5, Used: 5, Regs: [8]uint16{1}},
		api.Proc{ID: 2, Parent: 1, State: 6, Status: 22, At: 7, Used: 3, Regs: [8]uint16{22}})
}
