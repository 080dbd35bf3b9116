package hearth_test

import (
	"math/rand"
	"slices"
	"testing"

	"hearth/api"
	"hearth/hearth"
)

// wildPipe: something about pipes, mostly with files that there are and of the right end.
func wildPipe(r *rand.Rand) []byte {
	pipe := r.Intn(r.Intn(3) + 1)
	switch r.Intn(9) {
	case 0:
		return trap(api.Pipe)
	case 1:
		return shut(r.Intn(7))
	case 2, 3, 4:
		return read(2*pipe, r.Intn(60), 1+r.Intn(5))
	case 5, 6, 7:
		return write(2*pipe+1, r.Intn(58), 1+r.Intn(8))
	default:
		return three(api.Read+r.Intn(2), r.Intn(7), r.Intn(70), r.Intn(70))
	}
}

// wild makes a program in which processes come, go and wait; its first instructions fork, most often with a pipe open.
func wild(r *rand.Rand) []byte {
	n := 10 + r.Intn(40)
	program := image(trap(api.Fork), trap(api.Fork))
	if r.Intn(4) > 0 {
		program = image(trap(api.Pipe), program)
	}
	pipes := r.Intn(40)
	for len(program) < 4*n {
		var next []byte
		switch r.Intn(16 + pipes) {
		case 0, 1:
			next = trap(api.Fork)
		case 2, 3:
			next = trap(api.Wait)
		case 4:
			next = call(api.Kill, 2+r.Intn(20))
		case 5, 6:
			next = call(api.Sleep, r.Intn(6))
		case 7, 8:
			next = trap(api.Yield)
		case 9, 10:
			next = child(r.Intn(n))
		case 11:
			next = jump(r.Intn(n))
		case 12:
			next = image(trap(api.Self), trap(api.Print), insn(api.Store, r.Intn(8), r.Intn(64)<<8|7))
		case 13:
			next = image(trap(api.Self), insn(api.Add, 1+r.Intn(6), 0))
		case 14:
			// All but process 1 end here.
			next = image(trap(api.Self), set(6, 1), insn(api.Sub, 0, 6), child(len(program)/4+5), trap(api.Exit))
		case 15:
			next = set(r.Intn(3), r.Intn(12))
		case 16:
			// One goes another way than the others.
			next = image(trap(api.Self), set(6, 1+r.Intn(6)), insn(api.Sub, 0, 6), child(r.Intn(n)))
		default:
			next = wildPipe(r)
		}
		program = append(program, next...)
	}
	return append(program, jump(0)...)
}

// talk makes a program in which two write to a pipe and two read from it, most of the time.
func talk(r *rand.Rand) []byte {
	const half = 120
	program := image(trap(api.Pipe), trap(api.Fork), trap(api.Fork), child(half))
	for _, ask := range []func(int) []byte{
		func(n int) []byte { return write(1, r.Intn(57), 1+n%8) },
		func(n int) []byte { return read(0, r.Intn(20), 1+n%44) },
	} {
		from := len(program) / 4
		for len(program)/4 < from+80 {
			program = append(program, chatter(r, ask)...)
		}
		program = append(program, jump(from)...)
		program = append(program, make([]byte, max(4*half-len(program), 0))...)
	}
	return program
}

// chatter: a piece of what one does who talks.
func chatter(r *rand.Rand, ask func(int) []byte) []byte {
	switch r.Intn(20) {
	case 0:
		return shut(r.Intn(2))
	case 1:
		return call(api.Kill, 2+r.Intn(6))
	case 2:
		return trap(api.Fork)
	case 3:
		return trap(api.Wait)
	case 4, 5:
		return call(api.Sleep, r.Intn(12))
	case 6:
		return trap(api.Yield)
	case 7, 8, 9:
		return image(set(6, r.Intn(65536)), insn(api.Store, 6, 7|r.Intn(64)<<8))
	default:
		return ask(r.Intn(64))
	}
}

// anyProgram is one of these.
func anyProgram(r *rand.Rand) []byte {
	if r.Intn(2) == 0 {
		return talk(r)
	}
	return wild(r)
}

func wildConfig(r *rand.Rand) api.Config {
	return api.Config{Slices: [3]int{1 + r.Intn(10), 1 + r.Intn(10), 1 + r.Intn(10)}, Boost: 1 + r.Intn(60)}
}

// watch holds what a tick tells against how things stood ahead of it and stand behind it.
type watch struct {
	kernel *hearth.Kernel
	config api.Config
	tick   int
	last   int // the greatest number so far
	ahead  []api.Proc
	behind []api.Proc
	hungry map[int]int // for how many ticks a process has been ready and has not run
}

func find(l []api.Proc, id int) (api.Proc, bool) {
	i := slices.IndexFunc(l, func(p api.Proc) bool { return p.ID == id })
	if i < 0 {
		return api.Proc{}, false
	}
	return l[i], true
}

// goesOn: somebody can still do something.
func (w *watch) goesOn() bool {
	return w.behind[0].State != api.Ended && slices.ContainsFunc(w.behind, func(p api.Proc) bool {
		return p.State == api.Ready || p.State == api.Asleep
	})
}

// wrong answers what is wrong with a tick, or nothing.
func (w *watch) wrong(l []api.Event) string {
	if len(l) == 0 || l[0].Tick != w.tick || l[0].Kind != api.Ran && l[0].Kind != api.Idle {
		return "a tick tells neither who ran nor that nobody did"
	}
	for _, complaint := range []string{w.wrongNumbers(l[0]), w.wrongTurn(l[0]), w.wrongEnds(l[1:]), w.wrongHunger(l[0]), w.kernel.Untidy()} {
		if complaint != "" {
			return complaint
		}
	}
	return ""
}

func (w *watch) wrongNumbers(first api.Event) string {
	if len(w.behind) > 8 {
		return "more than eight processes"
	}
	for i, p := range w.behind {
		if i > 0 && p.ID <= w.behind[i-1].ID {
			return "not by numbers"
		}
		if parent, ok := find(w.behind, p.Parent); p.ID > 1 && p.Parent > 1 && (!ok || parent.State == api.Ended) {
			return "a parent that has ended"
		}
		if _, ok := find(w.ahead, p.ID); ok {
			continue
		}
		if p.ID != w.last+1 || p.Parent != first.Proc || p.Level != 0 || p.Used != 0 || p.State != api.Ready {
			return "a new process that is not as new ones are"
		}
		w.last = p.ID
	}
	return ""
}

func (w *watch) wrongTurn(first api.Event) string {
	raised := w.tick > 0 && w.tick%w.config.Boost == 0
	level := 3
	if p, ok := find(w.ahead, first.Proc); ok {
		level = p.Level
		if raised {
			level = 0
		}
		if p.At != first.A || p.State != api.Ready && p.State != api.Asleep {
			return "one runs that is not ready, or not there"
		}
	}
	for _, p := range w.ahead {
		if p.State == api.Ready && (p.Level < level && !raised || first.Proc == 0) {
			return "one that is ready was passed over"
		}
	}
	return ""
}

func (w *watch) wrongEnds(l []api.Event) string {
	for _, p := range w.ahead {
		now, there := find(w.behind, p.ID)
		told := slices.ContainsFunc(l, func(e api.Event) bool { return e.Kind == api.Gone && e.Proc == p.ID })
		if told != (p.State != api.Ended && (!there || now.State == api.Ended)) {
			return "an end that was not told, or one that was not"
		}
		asked := slices.ContainsFunc(w.behind, func(q api.Proc) bool {
			return int(q.Regs[0]) == p.ID && (p.State != api.Ended || q.Regs[1] == uint16(p.Status))
		})
		if !there && !asked {
			return "one is no more, and nobody was told"
		}
	}
	return ""
}

// wrongHunger: nobody starves.
func (w *watch) wrongHunger(first api.Event) string {
	for _, p := range w.behind {
		before, there := find(w.ahead, p.ID)
		if p.ID == first.Proc || p.State != api.Ready || there && before.State != api.Ready {
			w.hungry[p.ID] = 0
			continue
		}
		if w.hungry[p.ID]++; w.hungry[p.ID] >= w.config.Boost+8*w.config.Slices[0] {
			return "one starves"
		}
	}
	return ""
}

// P4, P6 to P10: whatever the program, what holds at each tick.
func TestEveryTick(t *testing.T) {
	r := rand.New(rand.NewSource(2))
	crowd, reaped := 0, 0
	var done [7]int
	for range 1000 {
		c, program := wildConfig(r), anyProgram(r)
		k := start(t, c, program)
		w := &watch{kernel: k, config: c, last: 1, behind: k.Procs(), hungry: map[int]int{}}
		for w.tick = 0; w.tick < 400 && w.goesOn(); w.tick++ {
			l := run(t, k, 1)
			w.ahead, w.behind = w.behind, k.Procs()
			if complaint := w.wrong(l); complaint != "" {
				t.Fatalf("%s: %+v, image %x, tick %d: %v\n%+v\n%+v", complaint, c, program, w.tick, l, w.ahead, w.behind)
			}
			for _, p := range w.behind {
				if before, _ := find(w.ahead, p.ID); p.State == api.Ready && before.State != p.State {
					done[before.State]++
				}
			}
		}
		crowd = max(crowd, len(w.behind))
		reaped += w.last - len(w.behind)
	}
	if crowd < 8 || reaped < 300 || slices.Min(done[api.Waiting:api.Ended]) < 200 {
		t.Errorf("these programs show little: %d processes at most, %d told, those that waited %v", crowd, reaped, done)
	}
}

// sender writes all numbers from base on, so many in all and so many at a time.
func sender(at, base, total, each int) []byte {
	l := image(set(3, base), set(4, 1))
	loop := at + len(l)/4
	for i := range each {
		l = append(l, image(insn(api.Store, 3, 7|i<<8), insn(api.Add, 3, 4))...)
	}
	l = append(l, image(write(1, 0, each), insn(api.Move, 5, 3), set(6, base+total), insn(api.Sub, 5, 6))...)
	return append(l, image(insn(api.Jumpz, 5, at+len(l)/4+2), jump(loop), trap(api.Exit))...)
}

// receiver prints all that it reads, until there will be none.
func receiver(at, most int) []byte {
	return image(shut(1), read(0, 20, most), child(at+16),
		insn(api.Move, 5, 0), set(6, 20), set(4, 1),
		insn(api.Load, 0, 6), trap(api.Print), insn(api.Add, 6, 4), insn(api.Sub, 5, 4), insn(api.Jumpz, 5, at+2), jump(at+10),
		trap(api.Exit))
}

// stream runs some that send and some that receive to their ends; what was printed, by who did.
func stream(t *testing.T, c api.Config, total, each int, most ...int) map[int][]int {
	t.Helper()
	senders := 4 - len(most)
	first := trap(api.Pipe)
	var l [][]byte
	for i := range 4 {
		first = append(first, begin(i+1)...)
		if i < senders {
			l = append(l, sender(part*(i+1), 64*i, total, each))
		} else {
			l = append(l, receiver(part*(i+1), most[i-senders]))
		}
	}
	first = append(first, image(shut(0), shut(1), trap(api.Wait), trap(api.Wait), trap(api.Wait), trap(api.Wait), trap(api.Exit))...)
	k := start(t, c, parts(t, slices.Insert(l, 0, first)...))
	printed := map[int][]int{}
	gone := 0
	for range 10 {
		for _, e := range run(t, k, 2000) {
			switch e.Kind {
			case api.Printed:
				printed[e.Proc] = append(printed[e.Proc], e.A)
			case api.Gone:
				gone++
			}
		}
	}
	if gone != 5 {
		t.Errorf("%d have ended: %+v", gone, k.Procs())
	}
	return printed
}

// P10: all that was written is read, by somebody, once; of each that writes in its order, as far as one reads it.
func TestBytes(t *testing.T) {
	const total = 48
	configs := []api.Config{plain, {Slices: [3]int{1, 1, 1}, Boost: 1}, {Slices: [3]int{3, 2, 1}, Boost: 7}, {Slices: [3]int{1, 5, 9}, Boost: 60}}
	for _, most := range [][]int{{1}, {5}, {44}, {1, 2}, {8, 3}, {44, 44}, {1, 5, 44}, {8, 8, 8}} {
		for _, each := range []int{1, 2, 3, 4, 6, 8} {
			c := configs[(each+most[0])%len(configs)]
			var all []int
			for id, l := range stream(t, c, total, each, most...) {
				var last [4]int
				for _, b := range l {
					if b < last[b/64] {
						t.Errorf("%v, %d at a time: process %d read %d behind %d", most, each, id, b, last[b/64])
					}
					last[b/64] = b
				}
				all = append(all, l...)
			}
			if len(most) == 1 {
				wholeWrites(t, all, each)
			}
			slices.Sort(all)
			if n := total * (4 - len(most)); len(all) != n || len(slices.Compact(all)) != n {
				t.Errorf("%v, %d at a time: %d bytes were read, not %d, or some twice", most, each, len(all), n)
			}
		}
	}
}

// wholeWrites: what was written at once comes out together.
func wholeWrites(t *testing.T, l []int, each int) {
	t.Helper()
	for i := 0; i+each <= len(l); i += each {
		for j := range each {
			if l[i]%64%each != 0 || l[i+j] != l[i]+j {
				t.Fatalf("%d at a time: torn at %d: %v", each, i, l)
			}
		}
	}
}

// P10: two that sleep ahead of their slices' ends keep level 0 to themselves; the third one comes to run by being raised.
func TestNobodyStarves(t *testing.T) {
	k := start(t, api.Config{Slices: [3]int{4, 4, 4}, Boost: 60},
		trap(api.Fork), child(5), trap(api.Fork), child(5), jump(4),
		call(api.Sleep, 1), jump(5))
	run(t, k, 60)
	for range 15 {
		own := 0
		for _, s := range steps(t, k, 60) {
			if s.id == 1 {
				own++
			}
		}
		if own != 4 {
			t.Fatalf("%d ticks of 60 for the one that does not sleep", own)
		}
	}
}

// all is all that can be asked of a kernel.
func all(t *testing.T, k *hearth.Kernel) ([]api.Proc, []byte) {
	t.Helper()
	l := k.Procs()
	var memories []byte
	for _, p := range l {
		memories = append(memories, memoryOf(t, k, p.ID)...)
	}
	return l, memories
}

// anyBytes makes a program of whatever bytes, with operators that there mostly are.
func anyBytes(r *rand.Rand) []byte {
	program := make([]byte, 4*(1+r.Intn(40)))
	r.Read(program)
	for i := 0; i < len(program); i += 4 {
		program[i] = byte(r.Intn(11))
		program[i+3] = byte(r.Intn(2))
		if program[i] == api.Trap {
			program[i+1] %= 14
		}
	}
	return program
}

// P1, P2: whatever the bytes, at once or in pieces, asked between or not.
func TestPieces(t *testing.T) {
	r := rand.New(rand.NewSource(1))
	for i := range 900 {
		c, program := wildConfig(r), anyProgram(r)
		if i%3 == 0 {
			program = anyBytes(r)
		}
		whole, pieces := start(t, c, program), start(t, c, program)
		const ticks = 300
		want := run(t, whole, ticks)
		var got []api.Event
		for left := ticks; left > 0; {
			n := r.Intn(min(left, 20) + 1)
			got = append(got, run(t, pieces, n)...)
			left -= n
			all(t, pieces)
			pieces.Memory(99)
			pieces.Run(-1)
		}
		wantProcs, wantMemories := all(t, whole)
		procs, memories := all(t, pieces)
		if !slices.Equal(got, want) || !slices.Equal(procs, wantProcs) || !slices.Equal(memories, wantMemories) {
			t.Fatalf("%+v, image %x: in pieces %v, at once %v", c, program, got, want)
		}
	}
}
