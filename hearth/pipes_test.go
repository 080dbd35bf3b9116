package hearth_test

import (
	"slices"
	"testing"

	"hearth/api"
	"hearth/hearth"
)

// three: a trap of three arguments, which are set ahead: four instructions.
func three(number, a, b, c int) []byte {
	return image(set(0, a), set(1, b), set(2, c), trap(number))
}

func read(file, at, count int) []byte { return three(api.Read, file, at, count) }

func write(file, at, count int) []byte { return three(api.Write, file, at, count) }

func shut(file int) []byte { return call(api.Close, file) }

// keep puts an answer by, into register 5.
func keep() []byte { return insn(api.Move, 5, 0) }

// hold puts bytes into the memory: two instructions each, by the registers 6 and 7 (which is 0).
func hold(at int, text string) []byte {
	var l []byte
	for i, c := range []byte(text) {
		l = append(l, image(set(6, int(c)), insn(api.Store, 6, 7|(at+i)<<8))...)
	}
	return l
}

// holds: the memory of a process, from a place on.
func holds(t *testing.T, k *hearth.Kernel, id, at int, want string) {
	t.Helper()
	if b := memoryOf(t, k, id); string(b[at:at+len(want)]) != want {
		t.Errorf("process %d has at %d %q, want %q", id, at, b[at:at+len(want)], want)
	}
}

// alone runs a program of one process, one tick an instruction.
func alone(t *testing.T, insns ...[]byte) (*hearth.Kernel, api.Proc) {
	t.Helper()
	k := start(t, plain, insns...)
	run(t, k, len(image(insns...))/4)
	return k, only(t, k)
}

// P7: Pipe: the least file that is none, and the next one; with six files open it is Full, and only the answer changes.
func TestPipe(t *testing.T) {
	k := start(t, plain, set(2, 7), trap(7), trap(7), trap(7), trap(7))
	goes(t, k, step{1, 0})
	for i, want := range [][8]uint16{{0, 1, 7}, {2, 3, 7}, {4, 5, 7}, {65534, 5, 7}} {
		goes(t, k, step{1, 1 + i})
		shows(t, k, api.Proc{ID: 1, State: 1, At: 2 + i, Used: 2 + i, Regs: want})
	}
	if slices.Max(memory(t, k)) != 0 {
		t.Errorf("the memory is %x", memory(t, k))
	}
}

// P7: what Pipe answers, whatever was opened and closed ahead: files that are none are looked for, and pipes are counted by what is open.
func TestPipeAnswers(t *testing.T) {
	pipe := trap(api.Pipe)
	full := [2]uint16{65534, 9}
	for _, c := range []struct {
		name  string
		ahead []byte
		want  [2]uint16
	}{
		{"over gaps", image(pipe, pipe, shut(1), shut(3)), [2]uint16{1, 3}},
		{"a gap and what is behind", image(pipe, pipe, shut(0)), [2]uint16{0, 4}},
		{"files 0 and 5", image(pipe, pipe, pipe, shut(5), shut(0)), [2]uint16{0, 5}},
		{"five files open", image(pipe, pipe, pipe, shut(4)), full},
		{"five files open, a file closed twice", image(pipe, pipe, pipe, shut(2), shut(2)), full},
		{"one pipe closed", image(pipe, pipe, pipe, shut(2), shut(3)), [2]uint16{2, 3}},
		{"three ends for writing", image(pipe, shut(0), pipe, shut(0), pipe, shut(0)), [2]uint16{0, 4}},
		{"four ends for writing", image(pipe, shut(0), pipe, shut(0), pipe, shut(0), pipe, shut(0)), full},
		{"four ends for reading", image(pipe, shut(1), pipe, shut(2), pipe, shut(3), pipe, shut(4)), full},
		{"one of four closed", image(pipe, shut(0), pipe, shut(0), pipe, shut(0), pipe, shut(0), shut(3)), [2]uint16{0, 3}},
	} {
		_, p := alone(t, c.ahead, set(1, 9), pipe)
		if got := [2]uint16{p.Regs[0], p.Regs[1]}; got != c.want || p.State != api.Ready {
			t.Errorf("%s: %+v, want %v", c.name, p, c.want)
		}
	}
}

// P7: Close: the file is none from then on; only the answer changes.
func TestClose(t *testing.T) {
	for _, c := range []struct {
		ahead []byte
		file  int
		want  uint16
	}{
		{trap(api.Pipe), 0, 0}, {trap(api.Pipe), 1, 0},
		{trap(api.Pipe), 2, 65535}, {trap(api.Pipe), 5, 65535}, {trap(api.Pipe), 6, 65535}, {trap(api.Pipe), 7, 65535}, {trap(api.Pipe), 256, 65535}, {trap(api.Pipe), 65535, 65535},
		{set(0, 0), 0, 65535},
		{image(trap(api.Pipe), shut(0)), 0, 65535}, {image(trap(api.Pipe), shut(0)), 1, 0}, {image(trap(api.Pipe), shut(1), shut(0)), 1, 65535},
	} {
		_, p := alone(t, c.ahead, set(1, 9), set(2, 8), shut(c.file))
		if p.Regs != [8]uint16{c.want, 9, 8} || p.State != api.Ready {
			t.Errorf("Close of %d: %+v, want %d", c.file, p, c.want)
		}
	}
}

// P7: what is wrong with a read or a write, by which answer comes first. Nothing else changes: what was in the pipe comes out behind it.
func TestReadWriteRefused(t *testing.T) {
	const badFile, badCall, badAddr = 65535, 65529, 65530
	for _, c := range []struct {
		number, file, at, count int
		want                    uint16
	}{
		// Not a file, or the wrong end, whatever else is wrong.
		{api.Read, 1, 0, 1, badFile}, {api.Read, 2, 0, 1, badFile}, {api.Read, 5, 0, 1, badFile}, {api.Read, 6, 0, 1, badFile}, {api.Read, 256, 0, 1, badFile}, {api.Read, 65535, 0, 1, badFile},
		{api.Read, 1, 0, 0, badFile}, {api.Read, 1, 0, 65, badFile}, {api.Read, 1, 64, 1, badFile}, {api.Read, 2, 64, 65, badFile},
		{api.Write, 0, 0, 1, badFile}, {api.Write, 2, 0, 1, badFile}, {api.Write, 5, 0, 1, badFile}, {api.Write, 6, 0, 1, badFile}, {api.Write, 257, 0, 1, badFile}, {api.Write, 65535, 0, 1, badFile},
		{api.Write, 0, 0, 0, badFile}, {api.Write, 0, 0, 9, badFile}, {api.Write, 0, 64, 1, badFile}, {api.Write, 2, 64, 9, badFile},
		// None, or too many, wherever they are.
		{api.Read, 0, 0, 0, badCall}, {api.Read, 0, 0, 65, badCall}, {api.Read, 0, 0, 256, badCall}, {api.Read, 0, 0, 65535, badCall}, {api.Read, 0, 64, 0, badCall}, {api.Read, 0, 65535, 65, badCall}, {api.Read, 0, 1, 65, badCall},
		{api.Write, 1, 0, 0, badCall}, {api.Write, 1, 0, 9, badCall}, {api.Write, 1, 0, 64, badCall}, {api.Write, 1, 0, 257, badCall}, {api.Write, 1, 0, 65535, badCall}, {api.Write, 1, 64, 0, badCall}, {api.Write, 1, 65535, 9, badCall},
		// Not all in the memory, however many there are to read; the sum does not go round.
		{api.Read, 0, 64, 1, badAddr}, {api.Read, 0, 63, 2, badAddr}, {api.Read, 0, 1, 64, badAddr}, {api.Read, 0, 65535, 1, badAddr}, {api.Read, 0, 65535, 64, badAddr}, {api.Read, 0, 61, 4, badAddr},
		{api.Write, 1, 64, 1, badAddr}, {api.Write, 1, 63, 2, badAddr}, {api.Write, 1, 57, 8, badAddr}, {api.Write, 1, 65535, 1, badAddr}, {api.Write, 1, 65535, 8, badAddr},
	} {
		k, p := alone(t, trap(api.Pipe), hold(0, "abc"), write(1, 0, 3), three(c.number, c.file, c.at, c.count))
		want := [8]uint16{c.want, uint16(c.at), uint16(c.count), 6: 'c'}
		if p.State != api.Ready || p.Regs != want {
			t.Errorf("%+v: %+v", c, p)
		}
		holds(t, k, 1, 0, "abc"+string(make([]byte, 61)))
		k, p = alone(t, trap(api.Pipe), hold(0, "abc"), write(1, 0, 3), three(c.number, c.file, c.at, c.count), read(0, 20, 40))
		if p.State != api.Ready || p.Regs[0] != 3 {
			t.Errorf("%+v, and a read: %+v", c, p)
		}
		holds(t, k, 1, 20, "abc\x00")
	}
}

// P7: with no pipe at all, and with one that has nobody at its other end.
func TestReadWriteWithoutOthers(t *testing.T) {
	for _, c := range []struct {
		name  string
		insns []byte
		want  uint16
	}{
		{"read, no pipe", read(0, 0, 1), 65535},
		{"write, no pipe", write(0, 0, 1), 65535},
		{"read, a file that was closed", image(trap(api.Pipe), shut(0), read(0, 0, 1)), 65535},
		{"write, a file that was closed", image(trap(api.Pipe), shut(1), write(1, 0, 1)), 65535},
		{"read, nobody writes", image(trap(api.Pipe), shut(1), read(0, 0, 1)), 0},
		{"read at the memory's end, nobody writes", image(trap(api.Pipe), shut(1), read(0, 63, 1)), 0},
		{"read of too many, nobody writes", image(trap(api.Pipe), shut(1), read(0, 0, 65)), 65529},
		{"read outside, nobody writes", image(trap(api.Pipe), shut(1), read(0, 63, 2)), 65530},
		{"write, nobody reads", image(trap(api.Pipe), shut(0), write(1, 0, 1)), 65531},
		{"write of all 8, nobody reads", image(trap(api.Pipe), shut(0), write(1, 56, 8)), 65531},
		{"write to a full pipe, nobody reads", image(trap(api.Pipe), write(1, 0, 8), shut(0), write(1, 0, 1)), 65531},
		{"write of too many, nobody reads", image(trap(api.Pipe), shut(0), write(1, 0, 9)), 65529},
		{"write from outside, nobody reads", image(trap(api.Pipe), shut(0), write(1, 57, 8)), 65530},
		{"another pipe's ends are open", image(trap(api.Pipe), trap(api.Pipe), shut(0), write(1, 0, 1)), 65531},
		{"another pipe's ends are open, to read", image(trap(api.Pipe), trap(api.Pipe), shut(3), read(2, 0, 1)), 0},
	} {
		k, p := alone(t, c.insns)
		if p.State != api.Ready || p.Regs[0] != c.want {
			t.Errorf("%s: %+v, want %d", c.name, p, c.want)
		}
		if slices.Max(memory(t, k)) != 0 {
			t.Errorf("%s: the memory is %x", c.name, memory(t, k))
		}
	}
}

// P7: one that writes and reads what it wrote, the oldest first, as many as there are or as it asks for. It goes on without waiting.
func TestWriteAndRead(t *testing.T) {
	k := start(t, plain, trap(api.Pipe), hold(0, "hearth"),
		write(1, 0, 4), write(1, 4, 2), read(0, 20, 3), read(0, 30, 64-30), jump(29))
	run(t, k, 17)
	shows(t, k, api.Proc{ID: 1, State: 1, At: 17, Level: 1, Used: 7, Regs: [8]uint16{4, 0, 4, 6: 'h'}})
	run(t, k, 4)
	shows(t, k, api.Proc{ID: 1, State: 1, At: 21, Level: 2, Used: 1, Regs: [8]uint16{2, 4, 2, 6: 'h'}})
	holds(t, k, 1, 0, "hearth"+string(make([]byte, 58)))
	tells(t, k, 4, ran(21, 21), ran(22, 22), ran(23, 23), ran(24, 24))
	shows(t, k, api.Proc{ID: 1, State: 1, At: 25, Level: 2, Used: 5, Regs: [8]uint16{3, 20, 3, 6: 'h'}})
	holds(t, k, 1, 6, string(make([]byte, 14))+"hea\x00")
	tells(t, k, 4, ran(25, 25), ran(26, 26), ran(27, 27), ran(28, 28))
	shows(t, k, api.Proc{ID: 1, State: 1, At: 29, Level: 2, Used: 9, Regs: [8]uint16{3, 30, 34, 6: 'h'}})
	holds(t, k, 1, 20, "hea"+string(make([]byte, 7))+"rth"+string(make([]byte, 31)))
}

// P7: all 8 bytes at once, from the memory's end, and over all of the memory.
func TestWriteAll(t *testing.T) {
	k, p := alone(t, trap(api.Pipe), hold(56, "12345678"), write(1, 56, 8), read(0, 0, 64))
	if p.State != api.Ready || p.Regs[0] != 8 || p.Regs[2] != 64 {
		t.Errorf("read of all: %+v", p)
	}
	holds(t, k, 1, 0, "12345678"+string(make([]byte, 48))+"12345678")
}

// P7, P10: round and round a pipe: what is left in it stays ahead of what comes.
func TestRoundAndRound(t *testing.T) {
	k := start(t, plain, trap(api.Pipe), hold(0, "abcdexyz"), write(1, 5, 3), write(1, 0, 5), read(0, 20, 2), read(0, 22, 3), jump(21))
	run(t, k, 21)
	come := "xyz"
	for range 40 {
		run(t, k, 13)
		come += "abcde"
		if p := only(t, k); p.State != api.Ready || p.At != 21 || p.Regs[0] != 3 {
			t.Fatalf("behind a round: %+v", p)
		}
		holds(t, k, 1, 20, come[:5]+"\x00")
		come = come[5:]
	}
}

// P7: a new pipe has nothing of one that was there ahead.
func TestNewPipeIsEmpty(t *testing.T) {
	k, p := alone(t, trap(api.Pipe), hold(0, "abc"), write(1, 0, 3), shut(0), shut(1), trap(api.Pipe), hold(0, "x"), write(1, 0, 1), read(0, 20, 9))
	if p.State != api.Ready || p.Regs[0] != 1 {
		t.Errorf("read: %+v", p)
	}
	holds(t, k, 1, 20, "x\x00\x00")
}

// P7: three pipes of one process have nothing in common.
func TestPipesApart(t *testing.T) {
	k, p := alone(t, trap(api.Pipe), trap(api.Pipe), trap(api.Pipe), hold(0, "abcdef"),
		write(5, 0, 1), write(1, 1, 2), write(3, 3, 3), read(2, 20, 9), read(4, 30, 9), read(0, 40, 9))
	if p.State != api.Ready || p.Regs[0] != 2 {
		t.Errorf("the last read: %+v", p)
	}
	holds(t, k, 1, 20, "def"+string(make([]byte, 7))+"a"+string(make([]byte, 9))+"bc"+string(make([]byte, 22)))
}

// P7: bytes that are left when the last file for writing is closed come out; then it is told that there will be none.
func TestReadToTheEnd(t *testing.T) {
	k := start(t, plain, trap(api.Pipe), hold(0, "abcd"), write(1, 0, 4), shut(1), read(0, 20, 3), read(0, 30, 3), read(0, 40, 3), read(0, 50, 3))
	run(t, k, 15)
	for i, want := range []uint16{3, 1, 0, 0} {
		run(t, k, 4)
		if p := only(t, k); p.State != api.Ready || p.Regs[0] != want || p.At != 19+4*i {
			t.Errorf("read %d: %+v, want %d", i, p, want)
		}
	}
	holds(t, k, 1, 20, "abc"+string(make([]byte, 7))+"d"+string(make([]byte, 33)))
}

// P7, P9: who waits at a pipe is Reading or Writing, its registers as it asked; nobody else being there, that is for ever.
func TestWaitsForItself(t *testing.T) {
	for _, c := range []struct {
		insns []byte
		want  api.Proc
	}{
		{read(0, 3, 5), api.Proc{ID: 1, State: 4, At: 5, Used: 5, Regs: [8]uint16{0, 3, 5}}},
		{image(write(1, 0, 8), write(1, 2, 1)), api.Proc{ID: 1, State: 5, At: 9, Used: 9, Regs: [8]uint16{1, 2, 1}}},
		{image(write(1, 0, 1), write(1, 2, 8)), api.Proc{ID: 1, State: 5, At: 9, Used: 9, Regs: [8]uint16{1, 2, 8}}},
	} {
		k := start(t, plain, trap(api.Pipe), c.insns, jump(5))
		n := c.want.At
		l := run(t, k, n+20)
		if l[n-1] != ran(n-1, n-1) || l[n] != idle(n) || l[len(l)-1] != idle(n+19) {
			t.Errorf("told %v", l)
		}
		shows(t, k, c.want)
		run(t, k, 2000)
		shows(t, k, c.want)
	}
}
