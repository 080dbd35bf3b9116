package hearth_test

import (
	"testing"

	"hearth/api"
)

// levels lets a process run for ever, and tells its level and what it has used behind each tick.
func levels(t *testing.T, c api.Config, ticks int) [][2]int {
	t.Helper()
	k := start(t, c, insn(api.Jump, 0, 0))
	var l [][2]int
	for tick := range ticks {
		tells(t, k, 1, ran(tick, 0))
		p := only(t, k)
		if p.State != api.Ready {
			t.Fatalf("tick %d: state %d", tick, p.State)
		}
		l = append(l, [2]int{p.Level, p.Used})
	}
	return l
}

// P8: one process: down by its slices, raised at multiples of Boost, but not at tick 0.
func TestLevels(t *testing.T) {
	for _, c := range []struct {
		config api.Config
		want   [][2]int
	}{
		{api.Config{Slices: [3]int{2, 3, 4}, Boost: 1000}, [][2]int{{0, 1}, {1, 0}, {1, 1}, {1, 2}, {2, 0}, {2, 1}, {2, 2}, {2, 3}, {2, 0}, {2, 1}}},
		{api.Config{Slices: [3]int{1, 1, 1}, Boost: 1000}, [][2]int{{1, 0}, {2, 0}, {2, 0}, {2, 0}}},
		// Raised from level 2 ahead of the tick's instruction; what was used is 0.
		{api.Config{Slices: [3]int{2, 1, 9}, Boost: 5}, [][2]int{{0, 1}, {1, 0}, {2, 0}, {2, 1}, {2, 2}, {0, 1}, {1, 0}, {2, 0}, {2, 1}, {2, 2}, {0, 1}}},
		// Raised from level 1.
		{api.Config{Slices: [3]int{2, 9, 9}, Boost: 4}, [][2]int{{0, 1}, {1, 0}, {1, 1}, {1, 2}, {0, 1}, {1, 0}, {1, 1}, {1, 2}, {0, 1}}},
		// At level 0 what was used stays, whatever is raised.
		{api.Config{Slices: [3]int{3, 2, 2}, Boost: 1}, [][2]int{{0, 1}, {0, 2}, {1, 0}, {0, 1}, {0, 2}, {1, 0}}},
		{api.Config{Slices: [3]int{1, 2, 2}, Boost: 1}, [][2]int{{1, 0}, {1, 0}, {1, 0}}},
	} {
		got := levels(t, c.config, len(c.want))
		for tick, want := range c.want {
			if got[tick] != want {
				t.Errorf("%+v: behind tick %d: level and used %v, want %v", c.config, tick, got[tick], want)
			}
		}
	}
}

// P8: the greatest slices and Boost.
func TestGreatestSlices(t *testing.T) {
	l := levels(t, plain, 1012)
	for tick, want := range map[int][2]int{8: {0, 9}, 9: {1, 0}, 18: {1, 9}, 19: {2, 0}, 29: {2, 0}, 998: {2, 9}, 999: {2, 0}, 1000: {0, 1}, 1009: {1, 0}} {
		if l[tick] != want {
			t.Errorf("behind tick %d: level and used %v, want %v", tick, l[tick], want)
		}
	}
}

// P8: any instruction uses a tick, a trap that fails too.
func TestTrapsUseTicks(t *testing.T) {
	k := start(t, api.Config{Slices: [3]int{2, 2, 2}, Boost: 9}, trap(77), trap(api.Self), trap(api.Print))
	for _, want := range [][2]int{{0, 1}, {1, 0}, {1, 1}} {
		run(t, k, 1)
		if p := only(t, k); p.Level != want[0] || p.Used != want[1] {
			t.Errorf("behind a trap: %+v, want %v", p, want)
		}
	}
}

// P8, P9: who ends has used that tick too, and stays at its level, however long all is over.
func TestEndedStays(t *testing.T) {
	for name, last := range map[string][]byte{"Exit": trap(api.Exit), "a fault": {0, 0, 0, 0}} {
		k := start(t, api.Config{Slices: [3]int{1, 2, 1}, Boost: 3}, trap(api.Self), trap(api.Self), last)
		run(t, k, 3)
		for range 2 {
			if p := only(t, k); p.State != api.Ended || p.Level != 1 || p.Used != 2 {
				t.Errorf("%s: %+v, want level 1, 2 used", name, p)
			}
			run(t, k, 50)
		}
	}
}
