package hearth_test

import (
	"slices"
	"testing"

	"hearth/api"
)

// levels lets a process run for ever, and tells its level and what it has used behind each tick.
func levels(t *testing.T, c api.Config, ticks int) [][2]int {
	t.Helper()
	k := start(t, c, insn(api.Jump, 0, 0))
	var l [][2]int
	for tick := range ticks {
		tells(t, k, 1, ran(tick, 0))
		p := only(t, k)
		if p.State != api.Ready {
			t.Fatalf("tick %d: state %d", tick, p.State)
		}
		l = append(l, [2]int{p.Level, p.Used})
	}
	return l
}

// P8: one process: down by its slices, raised at multiples of Boost, but not at tick 0.
func TestLevels(t *testing.T) {
	for _, c := range []struct {
		config api.Config
		want   [][2]int
	}{
		{api.Config{Slices: [3]int{2, 3, 4}, Boost: 1000}, [][2]int{{0, 1}, {1, 0}, {1, 1}, {1, 2}, {2, 0}, {2, 1}, {2, 2}, {2, 3}, {2, 0}, {2, 1}}},
		{api.Config{Slices: [3]int{1, 1, 1}, Boost: 1000}, [][2]int{{1, 0}, {2, 0}, {2, 0}, {2, 0}}},
		// Raised from level 2 ahead of the tick's instruction; what was used is 0.
		{api.Config{Slices: [3]int{2, 1, 9}, Boost: 5}, [][2]int{{0, 1}, {1, 0}, {2, 0}, {2, 1}, {2, 2}, {0, 1}, {1, 0}, {2, 0}, {2, 1}, {2, 2}, {0, 1}}},
		// Raised from level 1.
		{api.Config{Slices: [3]int{2, 9, 9}, Boost: 4}, [][2]int{{0, 1}, {1, 0}, {1, 1}, {1, 2}, {0, 1}, {1, 0}, {1, 1}, {1, 2}, {0, 1}}},
		// At level 0 what was used stays, whatever is raised.
		{api.Config{Slices: [3]int{3, 2, 2}, Boost: 1}, [][2]int{{0, 1}, {0, 2}, {1, 0}, {0, 1}, {0, 2}, {1, 0}}},
		{api.Config{Slices: [3]int{1, 2, 2}, Boost: 1}, [][2]int{{1, 0}, {1, 0}, {1, 0}}},
	} {
		got := levels(t, c.config, len(c.want))
		for tick, want := range c.want {
			if got[tick] != want {
				t.Errorf("%+v: behind tick %d: level and used %v, want %v", c.config, tick, got[tick], want)
			}
		}
	}
}

// P8: the greatest slices and Boost.
func TestGreatestSlices(t *testing.T) {
	l := levels(t, plain, 1012)
	for tick, want := range map[int][2]int{8: {0, 9}, 9: {1, 0}, 18: {1, 9}, 19: {2, 0}, 29: {2, 0}, 998: {2, 9}, 999: {2, 0}, 1000: {0, 1}, 1009: {1, 0}} {
		if l[tick] != want {
			t.Errorf("behind tick %d: level and used %v, want %v", tick, l[tick], want)
		}
	}
}

// P8: any instruction uses a tick, a trap that fails too.
func TestTrapsUseTicks(t *testing.T) {
	k := start(t, api.Config{Slices: [3]int{2, 2, 2}, Boost: 9}, trap(77), trap(api.Self), trap(api.Print))
	for _, want := range [][2]int{{0, 1}, {1, 0}, {1, 1}} {
		run(t, k, 1)
		if p := only(t, k); p.Level != want[0] || p.Used != want[1] {
			t.Errorf("behind a trap: %+v, want %v", p, want)
		}
	}
}

// P8, P9: who ends has used that tick too, and stays at its level, however long all is over.
func TestEndedStays(t *testing.T) {
	for name, last := range map[string][]byte{"Exit": trap(api.Exit), "a fault": {0, 0, 0, 0}} {
		k := start(t, api.Config{Slices: [3]int{1, 2, 1}, Boost: 3}, trap(api.Self), trap(api.Self), last)
		run(t, k, 3)
		for range 2 {
			if p := only(t, k); p.State != api.Ended || p.Level != 1 || p.Used != 2 {
				t.Errorf("%s: %+v, want level 1, 2 used", name, p)
			}
			run(t, k, 50)
		}
	}
}

// times: the same step, so many times.
func times(n, id, at int) []step { return slices.Repeat([]step{{id, at}}, n) }

// P8: three that go on and on: each level's row in turn, the lowest level first; raised, one row behind the other.
func TestRounds(t *testing.T) {
	k := start(t, api.Config{Slices: [3]int{1, 2, 3}, Boost: 20}, trap(api.Fork), child(4), trap(api.Fork), jump(4), jump(4))
	goes(t, k, step{1, 0}, step{2, 1}, step{1, 1}, step{1, 2}, step{3, 3})
	goes(t, k, step{2, 4}, step{2, 4}, step{3, 4}, step{3, 4})
	goes(t, k, step{1, 3}, step{1, 4}, step{1, 4})
	goes(t, k, slices.Concat(times(3, 2, 4), times(3, 3, 4), times(2, 1, 4))...)
	shows(t, k,
		api.Proc{ID: 1, State: 1, At: 4, Level: 2, Used: 2, Regs: [8]uint16{3}},
		api.Proc{ID: 2, Parent: 1, State: 1, At: 4, Level: 2},
		api.Proc{ID: 3, Parent: 1, State: 1, At: 4, Level: 2})
	goes(t, k, step{1, 4}, step{2, 4}, step{3, 4}, step{1, 4}, step{1, 4}, step{2, 4})
	shows(t, k,
		api.Proc{ID: 1, State: 1, At: 4, Level: 2, Regs: [8]uint16{3}},
		api.Proc{ID: 2, Parent: 1, State: 1, At: 4, Level: 1, Used: 1},
		api.Proc{ID: 3, Parent: 1, State: 1, At: 4, Level: 1})
}

// P8: raised from three rows: who is at level 0 stays ahead, with what it has used; level 1 comes ahead of level 2.
func TestRaisedFromAllRows(t *testing.T) {
	k := start(t, api.Config{Slices: [3]int{3, 9, 9}, Boost: 20},
		trap(api.Fork), child(4), jump(2), jump(2),
		trap(api.Fork), child(8), jump(6), jump(6),
		call(api.Sleep, 10), jump(10))
	goes(t, k, step{1, 0}, step{1, 1}, step{1, 2}, step{2, 1}, step{2, 4}, step{2, 5}, step{3, 5}, step{3, 8}, step{3, 9})
	goes(t, k, slices.Concat(times(9, 1, 2), times(2, 3, 10))...)
	shows(t, k,
		api.Proc{ID: 1, State: 1, At: 2, Level: 2, Regs: [8]uint16{2}},
		api.Proc{ID: 2, Parent: 1, State: 1, At: 6, Level: 1, Regs: [8]uint16{3}},
		api.Proc{ID: 3, Parent: 2, State: 1, At: 10, Used: 2})
	goes(t, k, slices.Concat(times(1, 3, 10), times(3, 2, 6), times(3, 1, 2), times(9, 3, 10))...)
}

// P8: who forks at a lower level stays the first there; the new one, at level 0, comes ahead of it.
func TestForkFromBelow(t *testing.T) {
	k := start(t, api.Config{Slices: [3]int{2, 5, 5}, Boost: 1000}, trap(api.Self), trap(api.Self), trap(api.Fork), trap(api.Self), jump(4))
	goes(t, k, step{1, 0}, step{1, 1}, step{1, 2}, step{2, 3}, step{2, 4}, step{1, 3}, step{1, 4}, step{1, 4}, step{1, 4}, step{2, 4})
	shows(t, k,
		api.Proc{ID: 1, State: 1, At: 4, Level: 2, Regs: [8]uint16{1}},
		api.Proc{ID: 2, Parent: 1, State: 1, At: 4, Level: 1, Used: 1, Regs: [8]uint16{2}})
}

// P8: Yield: behind the others of its row, with what it has used; the answer is 0.
func TestYield(t *testing.T) {
	k := start(t, plain, trap(api.Fork), set(1, 7), trap(api.Yield), jump(1))
	goes(t, k, step{1, 0}, step{1, 1}, step{1, 2})
	shows(t, k,
		api.Proc{ID: 1, State: 1, At: 3, Used: 3, Regs: [8]uint16{0, 7}},
		api.Proc{ID: 2, Parent: 1, State: 1, At: 1})
	goes(t, k, step{2, 1}, step{2, 2}, step{1, 3}, step{1, 1}, step{1, 2}, step{2, 3}, step{2, 1}, step{2, 2}, step{1, 3})
}

// P8: who yields alone goes on; who yields with the last tick of its slice moves down.
func TestYieldMovesDown(t *testing.T) {
	k := start(t, api.Config{Slices: [3]int{2, 1, 2}, Boost: 1000}, trap(api.Yield), jump(0))
	for i, want := range [][2]int{{0, 1}, {1, 0}, {2, 0}, {2, 1}, {2, 0}} {
		goes(t, k, step{1, i % 2})
		if p := only(t, k); p.Level != want[0] || p.Used != want[1] {
			t.Errorf("behind tick %d: %+v, want %v", i, p, want)
		}
	}

	k = start(t, api.Config{Slices: [3]int{3, 9, 9}, Boost: 1000}, trap(api.Fork), trap(api.Self), trap(api.Yield), jump(1))
	goes(t, k, step{1, 0}, step{1, 1}, step{1, 2})
	if p := proc(t, k, 1); p.Level != 1 || p.Used != 0 || p.State != api.Ready {
		t.Errorf("yielded with the last tick: %+v", p)
	}
	goes(t, k, step{2, 1}, step{2, 2}, step{2, 3}, step{1, 3}, step{1, 1}, step{1, 2}, step{2, 1})
}

// P8: a lower row is not come to by a yield, as long as one of level 0 is there.
func TestYieldInItsRow(t *testing.T) {
	k := start(t, api.Config{Slices: [3]int{4, 4, 4}, Boost: 1000}, trap(api.Fork), child(4), jump(2), jump(2), trap(api.Yield), trap(api.Yield), jump(6))
	goes(t, k, step{1, 0}, step{1, 1}, step{1, 2}, step{1, 2}, step{2, 1}, step{2, 4}, step{2, 5}, step{2, 6}, step{1, 2})
}

// P6: Sleep: ready again so many ticks behind; nobody runs between. The answer is there at once.
func TestSleep(t *testing.T) {
	for _, n := range []int{1, 2, 3, 300, 1999} {
		k := start(t, plain, set(1, 7), call(api.Sleep, n), jump(3))
		goes(t, k, step{1, 0}, step{1, 1}, step{1, 2})
		shows(t, k, api.Proc{ID: 1, State: 3, At: 3, Used: 3, Regs: [8]uint16{0, 7}})
		l := run(t, k, n)
		for i, e := range l[:n-1] {
			if e != idle(3+i) {
				t.Fatalf("Sleep %d: told %+v", n, e)
			}
		}
		if len(l) != n || l[n-1] != ran(2+n, 3) {
			t.Errorf("Sleep %d: %d events, the last one %+v", n, len(l), l[len(l)-1])
		}
		shows(t, k, api.Proc{ID: 1, State: 1, At: 3, Used: 1, Regs: [8]uint16{0, 7}})
	}
}

// P6: the longest sleep.
func TestSleepLong(t *testing.T) {
	k := start(t, api.Config{Slices: [3]int{1, 1, 1}, Boost: 1000}, call(api.Sleep, 65535), jump(2))
	run(t, k, 2)
	for range 32 {
		run(t, k, 2000)
	}
	tells(t, k, 1534, slices.Collect(func(yield func(api.Event) bool) {
		for i := range 1534 {
			if !yield(idle(64002 + i)) {
				return
			}
		}
	})...)
	shows(t, k, api.Proc{ID: 1, State: 3, At: 2, Level: 0})
	tells(t, k, 1, ran(65536, 2))
}

// P6: Sleep of 0: it goes on, ahead of the others, its slice being used on.
func TestSleepOfNone(t *testing.T) {
	k := start(t, plain, trap(api.Fork), set(0, 0), trap(api.Sleep), jump(3))
	goes(t, k, step{1, 0}, step{1, 1}, step{1, 2}, step{1, 3})
	if p := proc(t, k, 1); p != (api.Proc{ID: 1, State: 1, At: 3, Used: 4}) {
		t.Errorf("behind a sleep of 0: %+v", p)
	}
}

// P8: who wakes at the same tick is ready by number, in whatever order they fell asleep.
func TestWakeByNumber(t *testing.T) {
	k := start(t, plain,
		trap(api.Fork), child(6), trap(api.Fork), child(8), trap(api.Yield), jump(10),
		set(0, 22), jump(12),
		set(0, 18), jump(12),
		set(0, 14), jump(12),
		trap(api.Sleep), jump(13))
	run(t, k, 17)
	for _, p := range k.Procs() {
		if p.State != api.Asleep || p.At != 13 {
			t.Fatalf("not asleep: %+v", p)
		}
	}
	goes(t, k, times(13, 0, 0)...)
	goes(t, k, slices.Concat(times(10, 1, 13), times(10, 2, 13), times(10, 3, 13))...)
}

// P8: who wakes is ready at its own level, with a whole slice: ahead of who runs further down, which stays the first there.
func TestWakeAhead(t *testing.T) {
	k := start(t, api.Config{Slices: [3]int{4, 9, 9}, Boost: 1000}, trap(api.Fork), child(3), jump(2), call(api.Sleep, 5), jump(5))
	goes(t, k, step{1, 0}, step{1, 1}, step{1, 2}, step{1, 2}, step{2, 1}, step{2, 3}, step{2, 4})
	goes(t, k, slices.Concat(times(4, 1, 2), times(4, 2, 5), times(5, 1, 2), times(1, 2, 5))...)
}

// P8: who wakes at level 0 stands behind who runs there.
func TestWakeBehind(t *testing.T) {
	k := start(t, plain, trap(api.Fork), child(4), trap(api.Yield), jump(3), call(api.Sleep, 3), jump(6))
	goes(t, k, step{1, 0}, step{1, 1}, step{1, 2}, step{2, 1}, step{2, 4}, step{2, 5})
	goes(t, k, slices.Concat(times(7, 1, 3), times(10, 2, 6))...)
}

// P8: who wakes is ready ahead of the raising, so that it stands ahead of who comes from further down.
func TestWakeAheadOfRaising(t *testing.T) {
	k := start(t, api.Config{Slices: [3]int{2, 3, 9}, Boost: 30}, trap(api.Fork), child(3), jump(2), call(api.Sleep, 23), jump(5))
	goes(t, k, step{1, 0}, step{1, 1}, step{2, 1}, step{2, 3}, step{1, 2}, step{1, 2}, step{1, 2}, step{2, 4})
	if p := proc(t, k, 2); p.State != api.Asleep || p.Level != 1 || p.Used != 1 {
		t.Errorf("asleep: %+v", p)
	}
	goes(t, k, times(22, 1, 2)...)
	goes(t, k, step{2, 5}, step{2, 5}, step{1, 2}, step{1, 2}, step{2, 5})
}

// P8: who waits or sleeps is raised too, but from level 0 not, and who has ended not at all.
func TestRaisedUnready(t *testing.T) {
	k := start(t, api.Config{Slices: [3]int{4, 4, 4}, Boost: 40},
		trap(api.Fork), child(7), trap(api.Fork), child(9), trap(api.Self), trap(api.Wait), jump(6),
		call(api.Sleep, 900),
		trap(api.Fork), child(17), trap(api.Self), trap(api.Self), trap(api.Self), call(api.Sleep, 900), jump(16),
		jump(18), jump(19), trap(api.Self), trap(api.Exit))
	run(t, k, 40)
	ahead := []api.Proc{
		{ID: 1, State: 2, At: 6, Level: 1, Used: 2, Regs: [8]uint16{1}},
		{ID: 2, Parent: 1, State: 3, At: 9, Used: 3},
		{ID: 3, Parent: 1, State: 3, At: 16, Level: 1, Used: 4},
		{ID: 4, Parent: 3, State: 6, Status: 4, At: 21, Level: 1, Used: 1, Regs: [8]uint16{4}},
	}
	shows(t, k, ahead...)
	tells(t, k, 1, idle(40))
	ahead[0].Level, ahead[0].Used = 0, 0
	ahead[2].Level, ahead[2].Used = 0, 0
	shows(t, k, ahead...)
}

// P8: all wait: Idle, until one sleep is over.
func TestIdle(t *testing.T) {
	k := start(t, plain, trap(api.Fork), child(4), trap(api.Wait), jump(3), call(api.Sleep, 4), trap(api.Exit))
	tells(t, k, 11, ran(0, 0), ran(1, 1), ran(2, 2), event(3, 1, 2, 1), event(4, 1, 2, 4), event(5, 1, 2, 5), idle(6), idle(7), idle(8), event(9, 1, 2, 6), event(9, 4, 2, 0), ran(10, 3))
}

// P8: who has waited goes behind those of its level, with a whole slice.
func TestWaitedGoesBehind(t *testing.T) {
	k := start(t, plain, trap(api.Fork), child(6), trap(api.Fork), child(8), trap(api.Wait), jump(5), trap(api.Self), trap(api.Exit), jump(8))
	goes(t, k, step{1, 0}, step{1, 1}, step{1, 2}, step{1, 3}, step{1, 4}, step{2, 1}, step{2, 6}, step{2, 7})
	goes(t, k, slices.Concat([]step{{3, 3}}, times(9, 3, 8), times(10, 1, 5), times(1, 3, 8))...)
}
