package hearth_test

import (
	"math/rand"
	"slices"
	"testing"

	"hearth/api"
	"hearth/hearth"
)

// wild makes a program in which processes come, go and wait; its first instructions fork.
func wild(r *rand.Rand) []byte {
	n := 10 + r.Intn(40)
	program := image(trap(api.Fork), trap(api.Fork))
	for len(program) < 4*n {
		var next []byte
		switch r.Intn(16) {
		case 0, 1:
			next = trap(api.Fork)
		case 2, 3:
			next = trap(api.Wait)
		case 4:
			next = call(api.Kill, 2+r.Intn(20))
		case 5, 6:
			next = call(api.Sleep, r.Intn(6))
		case 7, 8:
			next = trap(api.Yield)
		case 9, 10:
			next = child(r.Intn(n))
		case 11:
			next = jump(r.Intn(n))
		case 12:
			next = image(trap(api.Self), trap(api.Print), insn(api.Store, r.Intn(8), r.Intn(64)<<8|7))
		case 13:
			next = image(trap(api.Self), insn(api.Add, 1+r.Intn(6), 0))
		case 14:
			// All but process 1 end here.
			next = image(trap(api.Self), set(6, 1), insn(api.Sub, 0, 6), child(len(program)/4+5), trap(api.Exit))
		default:
			next = set(r.Intn(3), r.Intn(12))
		}
		program = append(program, next...)
	}
	return append(program, jump(0)...)
}

func wildConfig(r *rand.Rand) api.Config {
	return api.Config{Slices: [3]int{1 + r.Intn(10), 1 + r.Intn(10), 1 + r.Intn(10)}, Boost: 1 + r.Intn(60)}
}

// watch holds what a tick tells against how things stood ahead of it and stand behind it.
type watch struct {
	config api.Config
	tick   int
	last   int // the greatest number so far
	ahead  []api.Proc
	behind []api.Proc
	hungry map[int]int // for how many ticks a process has been ready and has not run
}

func find(l []api.Proc, id int) (api.Proc, bool) {
	i := slices.IndexFunc(l, func(p api.Proc) bool { return p.ID == id })
	if i < 0 {
		return api.Proc{}, false
	}
	return l[i], true
}

// wrong answers what is wrong with a tick, or nothing.
func (w *watch) wrong(l []api.Event) string {
	if len(l) == 0 || l[0].Tick != w.tick || l[0].Kind != api.Ran && l[0].Kind != api.Idle {
		return "a tick tells neither who ran nor that nobody did"
	}
	for _, complaint := range []string{w.wrongNumbers(l[0]), w.wrongTurn(l[0]), w.wrongEnds(l[1:]), w.wrongHunger(l[0])} {
		if complaint != "" {
			return complaint
		}
	}
	return ""
}

func (w *watch) wrongNumbers(first api.Event) string {
	if len(w.behind) > 8 {
		return "more than eight processes"
	}
	for i, p := range w.behind {
		if i > 0 && p.ID <= w.behind[i-1].ID {
			return "not by numbers"
		}
		if parent, ok := find(w.behind, p.Parent); p.ID > 1 && p.Parent > 1 && (!ok || parent.State == api.Ended) {
			return "a parent that has ended"
		}
		if _, ok := find(w.ahead, p.ID); ok {
			continue
		}
		if p.ID != w.last+1 || p.Parent != first.Proc || p.Level != 0 || p.Used != 0 || p.State != api.Ready {
			return "a new process that is not as new ones are"
		}
		w.last = p.ID
	}
	return ""
}

func (w *watch) wrongTurn(first api.Event) string {
	raised := w.tick > 0 && w.tick%w.config.Boost == 0
	level := 3
	if p, ok := find(w.ahead, first.Proc); ok {
		level = p.Level
		if raised {
			level = 0
		}
		if p.At != first.A || p.State != api.Ready && p.State != api.Asleep {
			return "one runs that is not ready, or not there"
		}
	}
	for _, p := range w.ahead {
		if p.State == api.Ready && (p.Level < level && !raised || first.Proc == 0) {
			return "one that is ready was passed over"
		}
	}
	return ""
}

func (w *watch) wrongEnds(l []api.Event) string {
	for _, p := range w.ahead {
		now, there := find(w.behind, p.ID)
		told := slices.ContainsFunc(l, func(e api.Event) bool { return e.Kind == api.Gone && e.Proc == p.ID })
		if told != (p.State != api.Ended && (!there || now.State == api.Ended)) {
			return "an end that was not told, or one that was not"
		}
		asked := slices.ContainsFunc(w.behind, func(q api.Proc) bool {
			return int(q.Regs[0]) == p.ID && (p.State != api.Ended || q.Regs[1] == uint16(p.Status))
		})
		if !there && !asked {
			return "one is no more, and nobody was told"
		}
	}
	return ""
}

// wrongHunger: nobody starves.
func (w *watch) wrongHunger(first api.Event) string {
	for _, p := range w.behind {
		before, there := find(w.ahead, p.ID)
		if p.ID == first.Proc || p.State != api.Ready || there && before.State != api.Ready {
			w.hungry[p.ID] = 0
			continue
		}
		if w.hungry[p.ID]++; w.hungry[p.ID] >= w.config.Boost+8*w.config.Slices[0] {
			return "one starves"
		}
	}
	return ""
}

// P4, P6, P8, P9, P10: whatever the program, what holds at each tick.
func TestEveryTick(t *testing.T) {
	r := rand.New(rand.NewSource(2))
	crowd, reaped := 0, 0
	for range 300 {
		c, program := wildConfig(r), wild(r)
		k := start(t, c, program)
		w := &watch{config: c, last: 1, behind: k.Procs(), hungry: map[int]int{}}
		for w.tick = 0; w.tick < 400 && w.behind[0].State != api.Ended; w.tick++ {
			l := run(t, k, 1)
			w.ahead, w.behind = w.behind, k.Procs()
			if complaint := w.wrong(l); complaint != "" {
				t.Fatalf("%s: %+v, image %x, tick %d: %v\n%+v\n%+v", complaint, c, program, w.tick, l, w.ahead, w.behind)
			}
		}
		crowd = max(crowd, len(w.behind))
		reaped += w.last - len(w.behind)
	}
	if crowd < 8 || reaped < 300 {
		t.Errorf("these programs show little: %d processes at most, %d told", crowd, reaped)
	}
}

// P10: two that sleep ahead of their slices' ends keep level 0 to themselves; the third one comes to run by being raised.
func TestNobodyStarves(t *testing.T) {
	k := start(t, api.Config{Slices: [3]int{4, 4, 4}, Boost: 60},
		trap(api.Fork), child(5), trap(api.Fork), child(5), jump(4),
		call(api.Sleep, 1), jump(5))
	run(t, k, 60)
	for range 15 {
		own := 0
		for _, s := range steps(t, k, 60) {
			if s.id == 1 {
				own++
			}
		}
		if own != 4 {
			t.Fatalf("%d ticks of 60 for the one that does not sleep", own)
		}
	}
}

// all is all that can be asked of a kernel.
func all(t *testing.T, k *hearth.Kernel) ([]api.Proc, []byte) {
	t.Helper()
	l := k.Procs()
	var memories []byte
	for _, p := range l {
		memories = append(memories, memoryOf(t, k, p.ID)...)
	}
	return l, memories
}

// anyBytes makes a program of whatever bytes, with operators that there mostly are.
func anyBytes(r *rand.Rand) []byte {
	program := make([]byte, 4*(1+r.Intn(40)))
	r.Read(program)
	for i := 0; i < len(program); i += 4 {
		program[i] = byte(r.Intn(11))
		program[i+3] = byte(r.Intn(2))
		if program[i] == api.Trap {
			program[i+1] %= 14
		}
	}
	return program
}

// P1, P2: whatever the bytes, at once or in pieces, asked between or not.
func TestPieces(t *testing.T) {
	r := rand.New(rand.NewSource(1))
	for i := range 600 {
		c, program := wildConfig(r), wild(r)
		if i%2 == 0 {
			program = anyBytes(r)
		}
		whole, pieces := start(t, c, program), start(t, c, program)
		const ticks = 300
		want := run(t, whole, ticks)
		var got []api.Event
		for left := ticks; left > 0; {
			n := r.Intn(min(left, 20) + 1)
			got = append(got, run(t, pieces, n)...)
			left -= n
			all(t, pieces)
			pieces.Memory(99)
			pieces.Run(-1)
		}
		wantProcs, wantMemories := all(t, whole)
		procs, memories := all(t, pieces)
		if !slices.Equal(got, want) || !slices.Equal(procs, wantProcs) || !slices.Equal(memories, wantMemories) {
			t.Fatalf("%+v, image %x: in pieces %v, at once %v", c, program, got, want)
		}
	}
}
