package hearth_test

import (
	"testing"

	"hearth/api"
)

// P5: what each instruction does with the registers, and which one is next. The operators stand as numbers here, as in the document.
func TestInsns(t *testing.T) {
	for _, c := range []struct {
		name  string
		insns [][]byte
		regs  [8]uint16
		at    int
	}{
		{"Set", [][]byte{{1, 2, 0x34, 0x12}}, [8]uint16{2: 0x1234}, 1},
		{"Set, a modulo 8", [][]byte{{1, 255, 0xff, 0xff}}, [8]uint16{7: 0xffff}, 1},
		{"Set to 0", [][]byte{{1, 2, 1, 0}, {1, 2, 0, 0}}, [8]uint16{}, 2},
		{"Move", [][]byte{{1, 1, 9, 1}, {2, 0, 1, 255}}, [8]uint16{265, 265}, 2},
		{"Move, modulo 8", [][]byte{{1, 7, 9, 0}, {2, 11, 15, 0}}, [8]uint16{3: 9, 7: 9}, 2},
		{"Add", [][]byte{{1, 1, 9, 0}, {1, 2, 1, 1}, {3, 2, 1, 77}}, [8]uint16{1: 9, 2: 266}, 3},
		{"Add, going round", [][]byte{{1, 1, 0xff, 0xff}, {1, 2, 3, 0}, {3, 10, 9, 0}}, [8]uint16{1: 0xffff, 2: 2}, 3},
		{"Add to itself", [][]byte{{1, 4, 1, 0x80}, {3, 4, 4, 0}}, [8]uint16{4: 2}, 2},
		{"Sub", [][]byte{{1, 1, 9, 0}, {1, 2, 1, 1}, {4, 2, 1, 77}}, [8]uint16{1: 9, 2: 248}, 3},
		{"Sub, going round", [][]byte{{1, 1, 9, 0}, {4, 10, 17, 0}}, [8]uint16{1: 9, 2: 0xfff7}, 2},
		{"Sub from itself", [][]byte{{1, 1, 9, 0}, {4, 1, 1, 0}}, [8]uint16{}, 2},
		{"Jumpz of 0", [][]byte{{5, 3, 0x34, 0x12}}, [8]uint16{}, 0x1234},
		{"Jumpz of 0, modulo 8", [][]byte{{1, 1, 1, 0}, {5, 8, 9, 0}}, [8]uint16{1: 1}, 9},
		{"Jumpz of another number", [][]byte{{1, 3, 0, 1}, {5, 11, 9, 0}}, [8]uint16{3: 256}, 2},
		{"Jumpz to itself", [][]byte{{5, 0, 0, 0}}, [8]uint16{}, 0},
		{"Jump", [][]byte{{1, 0, 1, 0}, {6, 0, 0xff, 0xff}}, [8]uint16{1}, 0xffff},
		{"Jump behind the last one", [][]byte{{6, 9, 1, 0}}, [8]uint16{}, 1},
		{"Load of a byte that is 0", [][]byte{{1, 1, 9, 9}, {7, 1, 0, 63}}, [8]uint16{}, 2},
		{"Store, Load", [][]byte{{1, 1, 0xcd, 0xab}, {1, 2, 40, 0}, {8, 1, 2, 3}, {1, 2, 43, 0}, {7, 11, 10, 0}}, [8]uint16{1: 0xabcd, 2: 43, 3: 0xcd}, 5},
		{"Load over its own place", [][]byte{{1, 1, 63, 0}, {8, 1, 1, 0}, {7, 1, 1, 0}}, [8]uint16{1: 63}, 3},
	} {
		k := start(t, plain, c.insns...)
		run(t, k, len(c.insns))
		want := api.Proc{ID: 1, State: 1, At: c.at, Used: len(c.insns), Regs: c.regs}
		if p := only(t, k); p != want {
			t.Errorf("%s: %+v, want %+v", c.name, p, want)
		}
	}
}

// P5: Store writes one byte, the lower half, and no other.
func TestStore(t *testing.T) {
	for _, c := range []struct{ base, offset, m int }{{0, 0, 0}, {0, 63, 63}, {63, 0, 63}, {20, 1, 21}, {1, 62, 63}} {
		k := start(t, plain, insn(api.Set, 1, 0xabcd), insn(api.Set, 2, c.base), insn(api.Store, 9, 10|c.offset<<8))
		tells(t, k, 3, ran(0, 0), ran(1, 1), ran(2, 2))
		for m, b := range memory(t, k) {
			if (m == c.m) != (b == 0xcd) || m != c.m && b != 0 {
				t.Errorf("Store at %d + %d: byte %d is %x", c.base, c.offset, m, b)
			}
		}
	}
}

// P5: faults: told as a run of that instruction; the process stays there (P9), and its registers and memory as they were.
func TestFaults(t *testing.T) {
	for _, c := range []struct {
		name  string
		insns [][]byte
		at    int
		regs  [8]uint16
	}{
		{"operator 0", [][]byte{{0, 0, 0, 0}}, 0, [8]uint16{}},
		{"operator 10", [][]byte{{1, 0, 5, 0}, {10, 0, 1, 1}}, 1, [8]uint16{5}},
		{"operator 17, not modulo 8", [][]byte{{1, 0, 5, 0}, {17, 0, 1, 1}}, 1, [8]uint16{5}},
		{"operator 255", [][]byte{{255, 255, 255, 255}}, 0, [8]uint16{}},
		{"Load of byte 64", [][]byte{{1, 1, 1, 0}, {7, 1, 1, 63}}, 1, [8]uint16{1: 1}},
		{"Load of byte 255", [][]byte{{1, 1, 1, 0}, {7, 1, 0, 255}}, 1, [8]uint16{1: 1}},
		{"Load, not going round", [][]byte{{1, 1, 0xff, 0xff}, {7, 1, 1, 1}}, 1, [8]uint16{1: 0xffff}},
		{"Load, not modulo 64", [][]byte{{1, 1, 0, 1}, {7, 1, 1, 0}}, 1, [8]uint16{1: 256}},
		{"Store to byte 64", [][]byte{{1, 1, 64, 0}, {8, 1, 1, 0}}, 1, [8]uint16{1: 64}},
		{"Store, not going round", [][]byte{{1, 1, 0xff, 0xff}, {8, 1, 1, 255}}, 1, [8]uint16{1: 0xffff}},
		{"behind the last one", [][]byte{{1, 1, 1, 0}}, 1, [8]uint16{1: 1}},
		{"behind a trap", [][]byte{{9, 6, 0, 0}}, 1, [8]uint16{1}},
		{"a jump too far", [][]byte{{6, 0, 0xff, 0xff}}, 65535, [8]uint16{}},
		{"a jump, 256 too far", [][]byte{{6, 0, 0, 1}}, 256, [8]uint16{}},
	} {
		k := start(t, plain, c.insns...)
		l := run(t, k, 9)
		last := len(l) - 2
		if last < 0 || l[last] != ran(last, c.at) || l[last+1] != gone(last, 65281) {
			t.Errorf("%s: told %v", c.name, l)
			continue
		}
		want := api.Proc{ID: 1, State: 6, Status: 65281, At: c.at, Used: last + 1, Regs: c.regs}
		if p := only(t, k); p != want {
			t.Errorf("%s: %+v, want %+v", c.name, p, want)
		}
		for m, b := range memory(t, k) {
			if b != 0 {
				t.Errorf("%s: byte %d is %x", c.name, m, b)
			}
		}
	}
}

// P5: a next instruction that there is not: no fault ahead of the tick at which it would run.
func TestFaultComesLate(t *testing.T) {
	k := start(t, plain, insn(api.Jump, 0, 500))
	tells(t, k, 1, ran(0, 0))
	if p := only(t, k); p.State != api.Ready || p.Status != 0 || p.At != 500 {
		t.Errorf("ahead of the fault: %+v", p)
	}
	tells(t, k, 1, ran(1, 500), gone(1, 65281))
}

// P5: the last of 256 instructions is there, the one behind it is not.
func TestLongestImage(t *testing.T) {
	program := make([]byte, 1024)
	copy(program, insn(api.Jump, 0, 255))
	copy(program[1020:], insn(api.Set, 3, 3))
	k := start(t, plain, program)
	tells(t, k, 4, ran(0, 0), ran(1, 255), ran(2, 256), gone(2, 65281))
	if p := only(t, k); p.Regs != [8]uint16{3: 3} || p.At != 256 {
		t.Errorf("%+v", p)
	}
}

// P5: Exit: the status is register 0, all 16 bits; a status like that of a fault is none.
func TestExit(t *testing.T) {
	for _, status := range []int{0, 1, 255, 256, 0x7fff, 0xffff, api.Faulted, api.Killed} {
		k := start(t, plain, insn(api.Set, 0, status), insn(api.Set, 1, 3), []byte{9, 0, 99, 99})
		tells(t, k, 9, ran(0, 0), ran(1, 1), ran(2, 2), gone(2, status))
		want := api.Proc{ID: 1, State: 6, Status: status, At: 3, Used: 3, Regs: [8]uint16{uint16(status), 3}}
		if p := only(t, k); p != want {
			t.Errorf("Exit: %+v, want %+v", p, want)
		}
	}
}

// P5: Self: the process's number, and no other register.
func TestSelf(t *testing.T) {
	k := start(t, plain, insn(api.Set, 0, 500), insn(api.Set, 1, 3), trap(api.Self))
	tells(t, k, 3, ran(0, 0), ran(1, 1), ran(2, 2))
	if p := only(t, k); p.Regs != [8]uint16{1, 3} || p.At != 3 {
		t.Errorf("Self: %+v", p)
	}
}

// P4, P5: Print: the lower half is told behind the run; the answer is 0.
func TestPrint(t *testing.T) {
	k := start(t, plain, insn(api.Set, 0, 0xab41), insn(api.Set, 1, 3), trap(api.Print), trap(api.Print), insn(api.Set, 0, 0xff), trap(api.Print))
	tells(t, k, 3, ran(0, 0), ran(1, 1), ran(2, 2), printed(2, 0x41))
	if p := only(t, k); p.Regs != [8]uint16{0, 3} || p.At != 3 {
		t.Errorf("Print: %+v", p)
	}
	tells(t, k, 4, ran(3, 3), printed(3, 0), ran(4, 4), ran(5, 5), printed(5, 0xff), ran(6, 6), gone(6, 65281))
}

// P5: traps that there are not, by the whole of a: the answer is BadCall, the process goes on.
func TestNoSuchTrap(t *testing.T) {
	for number := 12; number < 256; number++ {
		k := start(t, plain, insn(api.Set, 0, 3), insn(api.Set, 1, 4), insn(9, number, 0xffff))
		tells(t, k, 3, ran(0, 0), ran(1, 1), ran(2, 2))
		want := api.Proc{ID: 1, State: 1, At: 3, Used: 3, Regs: [8]uint16{65529, 4}}
		if p := only(t, k); p != want {
			t.Errorf("trap %d: %+v, want %+v", number, p, want)
		}
	}
}
