package hearth_test

import (
	"slices"
	"testing"

	"hearth/api"
	"hearth/hearth"
)

// part: so many instructions lie between the beginnings of two parts of a program.
const part = 50

// parts lays programs out, each at a multiple of part. Who comes to the end of one sleeps from then on.
func parts(t *testing.T, l ...[]byte) []byte {
	t.Helper()
	var program []byte
	for i, p := range l {
		program = append(program, p...)
		program = append(program, image(call(api.Sleep, 60000), jump(len(program)/4))...)
		if len(program) > 4*part*(i+1) {
			t.Fatalf("part %d is too long", i)
		}
		program = append(program, make([]byte, 4*part*(i+1)-len(program))...)
	}
	return program
}

// begin: a fork; the child begins with that part. Process 1 begins the parts by their numbers, so that part n is process n + 1.
func begin(n int) []byte { return image(trap(api.Fork), child(part*n)) }

// hour: so many ticks that whoever does something in one has long done it in the next.
const hour = 100

func hours(n int) []byte { return call(api.Sleep, hour*n) }

// quiet: a configuration in which all are at level 0 at the beginning of an hour.
var quiet = api.Config{Slices: [3]int{10, 10, 10}, Boost: hour / 2}

// order runs an hour, and tells who ran, without those that are left out.
func order(t *testing.T, k *hearth.Kernel, but ...int) []int {
	t.Helper()
	var l []int
	for _, s := range steps(t, k, hour) {
		if s.id != 0 && !slices.Contains(but, s.id) {
			l = append(l, s.id)
		}
	}
	return slices.Compact(l)
}

// inState: these are the states of all processes, by their numbers.
func inState(t *testing.T, k *hearth.Kernel, want ...int) {
	t.Helper()
	var got []int
	for _, p := range k.Procs() {
		got = append(got, p.State)
	}
	if !slices.Equal(got, want) {
		t.Errorf("the states are %v, want %v", got, want)
	}
}

// kept: the answer that a process has put by.
func kept(t *testing.T, k *hearth.Kernel, id int, want uint16) {
	t.Helper()
	if p := proc(t, k, id); p.Regs[5] != want {
		t.Errorf("process %d was answered %d, want %d", id, p.Regs[5], want)
	}
}

// ordered runs an hour in which these become ready, in that order.
func ordered(t *testing.T, k *hearth.Kernel, but []int, want ...int) {
	t.Helper()
	if got := order(t, k, but...); !slices.Equal(got, want) {
		t.Errorf("ran in the order %v, want %v", got, want)
	}
}

const asleep, reading, writing, ended = api.Asleep, api.Reading, api.Writing, api.Ended

// P7, P8, P9: a read of an empty pipe waits; who is done while it asks goes on; who waited is ready behind, with a whole slice.
func TestReadWaits(t *testing.T) {
	k := start(t, plain, trap(api.Pipe), trap(api.Fork), child(8), read(0, 20, 9), jump(7), hold(0, "hi"), write(1, 0, 2), jump(16))
	goes(t, k, step{1, 0}, step{1, 1}, step{1, 2}, step{1, 3}, step{1, 4}, step{1, 5}, step{1, 6})
	shows(t, k,
		api.Proc{ID: 1, State: 4, At: 7, Used: 7, Regs: [8]uint16{0, 20, 9}},
		api.Proc{ID: 2, Parent: 1, State: 1, At: 2, Regs: [8]uint16{0, 1}})
	goes(t, k, step{2, 2}, step{2, 8}, step{2, 9}, step{2, 10}, step{2, 11}, step{2, 12}, step{2, 13}, step{2, 14})
	if p := proc(t, k, 1); p.State != api.Reading {
		t.Errorf("ahead of the write: %+v", p)
	}
	tells(t, k, 1, event(15, 1, 2, 15))
	shows(t, k,
		api.Proc{ID: 1, State: 1, At: 7, Regs: [8]uint16{2, 20, 9}},
		api.Proc{ID: 2, Parent: 1, State: 1, At: 16, Used: 9, Regs: [8]uint16{2, 0, 2, 6: 'i'}})
	holds(t, k, 1, 20, "hi\x00")
	goes(t, k, slices.Concat(times(1, 2, 16), times(10, 1, 7), times(1, 2, 16))...)
}

// P7, P8, P9: a write that there is no room for waits, until there is room for all of it.
func TestWriteWaits(t *testing.T) {
	k := start(t, plain, trap(api.Pipe), trap(api.Fork), child(10), write(1, 0, 6), call(api.Write, 1), jump(9), read(0, 20, 3), call(api.Read, 0), jump(16))
	goes(t, k, step{1, 0}, step{1, 1}, step{1, 2}, step{1, 3}, step{1, 4}, step{1, 5}, step{1, 6}, step{1, 7}, step{1, 8})
	waits := api.Proc{ID: 1, State: 5, At: 9, Used: 9, Regs: [8]uint16{1, 0, 6}}
	shows(t, k, waits, api.Proc{ID: 2, Parent: 1, State: 1, At: 2, Regs: [8]uint16{0, 1}})
	goes(t, k, step{2, 2}, step{2, 10}, step{2, 11}, step{2, 12}, step{2, 13})
	shows(t, k, waits, api.Proc{ID: 2, Parent: 1, State: 1, At: 14, Used: 5, Regs: [8]uint16{3, 20, 3}})
	goes(t, k, step{2, 14}, step{2, 15})
	shows(t, k,
		api.Proc{ID: 1, State: 1, At: 9, Regs: [8]uint16{6, 0, 6}},
		api.Proc{ID: 2, Parent: 1, State: 1, At: 16, Used: 7, Regs: [8]uint16{3, 20, 3}})
	goes(t, k, slices.Concat(times(3, 2, 16), times(10, 1, 9), times(1, 2, 16))...)
}

// P8: who waits with the last tick of its slice stays at its level, and has a whole slice there when it has waited.
func TestWaitsWithLastTick(t *testing.T) {
	k := start(t, api.Config{Slices: [3]int{7, 7, 7}, Boost: 1000}, trap(api.Pipe), trap(api.Fork), child(8), read(0, 20, 1), jump(7), write(1, 0, 1), jump(12))
	run(t, k, 7)
	if p := proc(t, k, 1); p != (api.Proc{ID: 1, State: 4, At: 7, Used: 7, Regs: [8]uint16{0, 20, 1}}) {
		t.Errorf("reading: %+v", p)
	}
	goes(t, k, step{2, 2}, step{2, 8}, step{2, 9}, step{2, 10}, step{2, 11})
	if p := proc(t, k, 1); p != (api.Proc{ID: 1, State: 1, At: 7, Regs: [8]uint16{1, 20, 1}}) {
		t.Errorf("behind the read: %+v", p)
	}
	goes(t, k, slices.Concat(times(2, 2, 12), times(7, 1, 7), times(1, 2, 12))...)
}

// P8: who is done while it asks with the last tick of its slice moves down, behind who became ready there by that.
func TestAsksWithLastTick(t *testing.T) {
	k := start(t, api.Config{Slices: [3]int{5, 5, 5}, Boost: 1000},
		trap(api.Pipe), trap(api.Fork), child(11), call(api.Sleep, 30), trap(api.Self), write(1, 0, 1), jump(10),
		trap(api.Self), trap(api.Self), trap(api.Self), trap(api.Self), read(0, 20, 1), jump(19))
	run(t, k, 34)
	if p := proc(t, k, 2); p != (api.Proc{ID: 2, Parent: 1, State: 4, At: 19, Level: 1, Used: 4, Regs: [8]uint16{0, 20, 1}}) {
		t.Errorf("reading: %+v", p)
	}
	goes(t, k, step{1, 5}, step{1, 6}, step{1, 7}, step{1, 8}, step{1, 9})
	shows(t, k,
		api.Proc{ID: 1, State: 1, At: 10, Level: 1, Regs: [8]uint16{1, 0, 1}},
		api.Proc{ID: 2, Parent: 1, State: 1, At: 19, Level: 1, Regs: [8]uint16{1, 20, 1}})
	goes(t, k, slices.Concat(times(5, 2, 19), times(5, 1, 10), times(5, 2, 19))...)
}

// P8: who waits at a pipe is raised as others are.
func TestRaisedAtPipes(t *testing.T) {
	k := start(t, api.Config{Slices: [3]int{4, 4, 4}, Boost: 20},
		trap(api.Pipe), trap(api.Pipe), trap(api.Fork), child(9), read(0, 0, 1), jump(8), write(3, 0, 8), write(3, 0, 1), jump(17))
	run(t, k, 20)
	l := []api.Proc{
		{ID: 1, State: 4, At: 8, Level: 1, Used: 4, Regs: [8]uint16{0, 0, 1}},
		{ID: 2, Parent: 1, State: 5, At: 17, Level: 2, Used: 1, Regs: [8]uint16{3, 0, 1}},
	}
	shows(t, k, l...)
	tells(t, k, 1, idle(20))
	l[0].Level, l[0].Used, l[1].Level, l[1].Used = 0, 0, 0, 0
	shows(t, k, l...)
}

// P7: three that read: in the order of asking, not of their numbers; each takes what there is, up to what it asks for.
func TestReadersInTurn(t *testing.T) {
	k := start(t, quiet, parts(t,
		image(trap(api.Pipe), begin(1), begin(2), begin(3), hold(0, "abcdefgh"), hours(4), write(1, 0, 8), hours(1), write(1, 3, 1)),
		image(hours(2), read(0, 20, 7), keep()),
		image(hours(3), read(0, 20, 44), keep()),
		image(hours(1), read(0, 20, 1), keep())))
	run(t, k, hour)
	inState(t, k, asleep, asleep, asleep, asleep)
	run(t, k, 3*hour)
	inState(t, k, asleep, reading, reading, reading)
	ordered(t, k, []int{1}, 4, 2)
	inState(t, k, asleep, asleep, reading, asleep)
	kept(t, k, 4, 1)
	holds(t, k, 4, 20, "a\x00")
	kept(t, k, 2, 7)
	holds(t, k, 2, 20, "bcdefgh\x00")
	holds(t, k, 3, 20, "\x00")
	ordered(t, k, []int{1}, 3)
	kept(t, k, 3, 1)
	holds(t, k, 3, 20, "d\x00")
}

// P7: three that write: in the order of asking; as long as there is no room for the first one those behind it wait, whatever they ask for.
func TestWritersInTurn(t *testing.T) {
	k := start(t, quiet, parts(t,
		image(trap(api.Pipe), hold(0, "12345"), write(1, 0, 5), begin(1), begin(2), begin(3),
			hours(4), read(0, 20, 2), hours(1), read(0, 30, 1), hours(1), read(0, 40, 24), hours(1), read(0, 40, 24)),
		image(hold(0, "B"), hours(2), write(1, 0, 1), keep()),
		image(hold(0, "CC"), hours(3), write(1, 0, 2), keep()),
		image(hold(0, "AAAAAA"), hours(1), write(1, 0, 6), keep())))
	run(t, k, 4*hour)
	inState(t, k, asleep, writing, writing, writing)
	ordered(t, k, []int{1})
	inState(t, k, asleep, writing, writing, writing)
	holds(t, k, 1, 20, "12\x00")
	ordered(t, k, []int{1}, 4)
	inState(t, k, asleep, writing, writing, asleep)
	kept(t, k, 4, 6)
	holds(t, k, 1, 30, "3\x00")
	ordered(t, k, []int{1}, 2, 3)
	inState(t, k, asleep, asleep, asleep, asleep)
	kept(t, k, 2, 1)
	kept(t, k, 3, 2)
	holds(t, k, 1, 40, "45AAAAAA\x00")
	run(t, k, hour)
	holds(t, k, 1, 40, "BCCAAAAA\x00")
}

// P7: one read makes room for the first of those who write, and not for the second.
func TestReadMakesRoomForOne(t *testing.T) {
	k := start(t, quiet, parts(t,
		image(trap(api.Pipe), hold(0, "12345678"), write(1, 0, 8), begin(1), begin(2), hours(3), read(0, 20, 3), hours(1), read(0, 30, 30)),
		image(hours(1), hold(0, "AAA"), write(1, 0, 3), keep()),
		image(hours(2), hold(0, "B"), write(1, 0, 1), keep())))
	run(t, k, 3*hour)
	inState(t, k, asleep, writing, writing)
	run(t, k, hour)
	inState(t, k, asleep, asleep, writing)
	kept(t, k, 2, 3)
	run(t, k, hour)
	inState(t, k, asleep, asleep, asleep)
	kept(t, k, 3, 1)
	holds(t, k, 1, 20, "123"+string(make([]byte, 7))+"45678AAA\x00")
}

// P7: whoever reads gets what was written whole, though another one writes the same pipe and reads of it too.
func TestReadsAndWrites(t *testing.T) {
	k := start(t, quiet, parts(t,
		image(trap(api.Pipe), hold(0, "AAAAAAAA"), write(1, 0, 8), begin(1), hours(2), read(0, 20, 3), read(0, 30, 30), write(1, 0, 2), keep(), hours(1), write(1, 0, 1)),
		image(hours(1), hold(0, "BC"), write(1, 0, 2), read(0, 40, 1), read(0, 41, 2), keep())))
	run(t, k, 2*hour)
	inState(t, k, asleep, writing)
	run(t, k, hour)
	inState(t, k, asleep, asleep)
	kept(t, k, 1, 2)
	kept(t, k, 2, 1)
	holds(t, k, 1, 20, "AAA"+string(make([]byte, 7))+"AAAAABC\x00")
	holds(t, k, 2, 40, "AA\x00")
}

// ends: ways in which process 4 closes a file, or all; at the third hour, by itself or by process 1.
func ends(file int, use []byte) map[string][2][]byte {
	rest := hours(9)
	kill := image(hours(3), call(api.Kill, 4))
	return map[string][2][]byte{
		"Close":                 {rest, image(hours(3), shut(file))},
		"Exit":                  {rest, image(hours(3), trap(api.Exit))},
		"a fault":               {rest, image(hours(3), []byte{0, 0, 0, 0})},
		"a kill of itself":      {rest, image(hours(3), trap(api.Self), trap(api.Kill))},
		"a kill":                {kill, hours(9)},
		"a kill while it waits": {kill, use},
	}
}

// P7: the last file for writing is closed: all who wait to read are answered 0, in their order.
func TestLastWriter(t *testing.T) {
	for name, how := range ends(1, read(0, 20, 1)) {
		k := start(t, quiet, parts(t,
			image(trap(api.Pipe), set(5, 9), hold(20, "zz"), begin(1), begin(2), begin(3), shut(1), how[0]),
			image(shut(1), hours(2), read(0, 20, 5), keep()),
			image(shut(1), hours(1), read(0, 20, 5), keep()),
			how[1]))
		run(t, k, 3*hour)
		if l := k.Procs(); l[1].State != api.Reading || l[2].State != api.Reading {
			t.Errorf("%s: ahead: %+v", name, l)
		}
		if got := order(t, k, 1, 4); !slices.Equal(got, []int{3, 2}) {
			t.Errorf("%s: ready in the order %v", name, got)
		}
		for _, id := range []int{2, 3} {
			kept(t, k, id, 0)
			holds(t, k, id, 20, "zz")
		}
	}
}

// P7: the last file for reading is closed: all who wait to write are answered NoReader, in their order.
func TestLastReader(t *testing.T) {
	for name, how := range ends(0, write(1, 0, 1)) {
		k := start(t, quiet, parts(t,
			image(trap(api.Pipe), write(1, 0, 4), begin(1), begin(2), begin(3), shut(0), how[0]),
			image(shut(0), hours(2), write(1, 0, 1), keep()),
			image(shut(0), hours(1), write(1, 0, 5), keep()),
			image(write(1, 0, 4), how[1])))
		run(t, k, 3*hour)
		if l := k.Procs(); l[1].State != api.Writing || l[2].State != api.Writing {
			t.Errorf("%s: ahead: %+v", name, l)
		}
		if got := order(t, k, 1, 4); !slices.Equal(got, []int{3, 2}) {
			t.Errorf("%s: ready in the order %v", name, got)
		}
		kept(t, k, 2, 65531)
		kept(t, k, 3, 65531)
	}
}

// P7: as long as anybody has the other end open, who waits goes on waiting.
func TestNotTheLast(t *testing.T) {
	for use, c := range map[int]struct {
		file int
		ask  []byte
		want uint16
	}{
		api.Reading: {1, read(0, 20, 5), 0},
		api.Writing: {0, write(1, 0, 1), 65531},
	} {
		var fill []byte
		if use == api.Writing {
			fill = write(1, 0, 8)
		}
		k := start(t, quiet, parts(t,
			image(trap(api.Pipe), set(5, 9), fill, begin(1), begin(2), begin(3), shut(c.file)),
			image(shut(c.file), c.ask, keep()),
			image(hours(1), trap(api.Exit)),
			image(hours(2), shut(c.file))))
		run(t, k, 2*hour)
		inState(t, k, asleep, use, ended, asleep)
		kept(t, k, 2, 9)
		run(t, k, hour)
		inState(t, k, asleep, asleep, ended, asleep)
		kept(t, k, 2, c.want)
	}
}

// P7: its own file keeps one waiting, when all others have ended.
func TestOwnFileKeepsWaiting(t *testing.T) {
	k := start(t, quiet, parts(t, image(trap(api.Pipe), begin(1), read(0, 0, 1)), image(hours(1), trap(api.Exit))))
	run(t, k, 3*hour)
	inState(t, k, reading, ended)
	k = start(t, quiet, parts(t, image(trap(api.Pipe), begin(1), write(1, 0, 5), write(1, 0, 5)), image(hours(1), trap(api.Exit))))
	run(t, k, 3*hour)
	inState(t, k, writing, ended)
}

// P7: the first of those who write is killed: the next ones have their turn, and nothing of its own is in the pipe.
func TestKillFirstWriter(t *testing.T) {
	k := start(t, quiet, parts(t,
		image(trap(api.Pipe), hold(0, "12345"), write(1, 0, 5), begin(1), begin(2), begin(3), hours(4), call(api.Kill, 2), hours(1), read(0, 30, 30)),
		image(hours(1), write(1, 0, 6)),
		image(hold(0, "BB"), hours(2), write(1, 0, 2), keep()),
		image(hold(0, "C"), hours(3), write(1, 0, 1), keep())))
	run(t, k, 4*hour)
	inState(t, k, asleep, writing, writing, writing)
	ordered(t, k, []int{1}, 3, 4)
	inState(t, k, asleep, ended, asleep, asleep)
	if p := proc(t, k, 2); p.Status != 65280 || p.Regs[0] != 1 || p.Regs[2] != 6 {
		t.Errorf("killed: %+v", p)
	}
	kept(t, k, 3, 2)
	kept(t, k, 4, 1)
	run(t, k, hour)
	holds(t, k, 1, 30, "12345BBC\x00")
}

// P7: one in the middle of a row is killed: those ahead and behind stay as they stand.
func TestKillMiddleWriter(t *testing.T) {
	k := start(t, quiet, parts(t,
		image(trap(api.Pipe), hold(0, "12345"), write(1, 0, 5), begin(1), begin(2), begin(3), hours(4), call(api.Kill, 3), hours(1), read(0, 30, 4), read(0, 34, 30)),
		image(hold(0, "AAAAAA"), hours(1), write(1, 0, 6), keep()),
		image(hold(0, "BB"), hours(2), write(1, 0, 2)),
		image(hold(0, "CCC"), hours(3), write(1, 0, 3), keep())))
	run(t, k, 5*hour)
	inState(t, k, asleep, writing, ended, writing)
	ordered(t, k, []int{1}, 2, 4)
	kept(t, k, 2, 6)
	kept(t, k, 4, 3)
	holds(t, k, 1, 30, "12345AAAAAA\x00")
}

// P7: the first of those who read is killed: what is written then is the next one's.
func TestKillFirstReader(t *testing.T) {
	k := start(t, quiet, parts(t,
		image(trap(api.Pipe), begin(1), begin(2), hold(0, "abc"), hours(3), call(api.Kill, 2), hours(1), write(1, 0, 3)),
		image(hours(1), read(0, 20, 2)),
		image(hours(2), read(0, 20, 9), keep())))
	run(t, k, 4*hour)
	inState(t, k, asleep, ended, reading)
	run(t, k, hour)
	inState(t, k, asleep, ended, asleep)
	kept(t, k, 3, 3)
	holds(t, k, 3, 20, "abc\x00")
	holds(t, k, 2, 20, "\x00\x00")
	if p := proc(t, k, 2); p.Status != 65280 || p.Regs != [8]uint16{0, 20, 2} {
		t.Errorf("killed: %+v", p)
	}
}

// P7: an end closes the files by their numbers, whoever began to wait first; who waits for a child comes behind.
func TestEndClosesByNumber(t *testing.T) {
	shutBoth := image(shut(1), shut(3))
	for name, end := range map[string][]byte{"Exit": trap(api.Exit), "a fault": {0, 0, 0, 0}} {
		k := start(t, quiet, parts(t,
			image(trap(api.Pipe), trap(api.Pipe), set(5, 9), begin(1), begin(2), begin(3), shutBoth, trap(api.Wait), keep()),
			image(hours(4), end),
			image(shutBoth, hours(3), read(0, 20, 1), keep()),
			image(shutBoth, hours(2), read(2, 20, 1), keep())))
		run(t, k, 4*hour)
		inState(t, k, api.Waiting, asleep, reading, reading)
		if got := order(t, k); !slices.Equal(got, []int{2, 3, 4, 1}) {
			t.Errorf("%s: ran in the order %v", name, got)
		}
		inState(t, k, asleep, asleep, asleep)
		kept(t, k, 1, 2)
		kept(t, k, 3, 0)
		kept(t, k, 4, 0)
	}
}

// P7: by the numbers of the files, not by when the pipes were made: the files 0 and 1 are of a pipe that is newer than that of 2 and 3.
func TestEndClosesNewerFirst(t *testing.T) {
	k := start(t, quiet, parts(t,
		image(trap(api.Pipe), trap(api.Pipe), begin(1), shut(0), shut(1), trap(api.Pipe), begin(2), begin(3), shut(1), shut(3)),
		image(shut(3), hours(1), read(2, 20, 1), keep()),
		image(shut(1), shut(3), hours(2), read(0, 20, 1), keep()),
		image(hours(3), trap(api.Exit))))
	run(t, k, 3*hour)
	inState(t, k, asleep, reading, reading, asleep)
	ordered(t, k, nil, 4, 3, 2)
	inState(t, k, asleep, asleep, asleep, ended)
}

// P7: one file is closed behind the other: who reads waits as long as the one for writing is open, though another file of that pipe has been closed, and one of another pipe.
func TestEndClosesOneByOne(t *testing.T) {
	k := start(t, quiet, parts(t,
		// The files of process 4: 0 and 3 are of the third pipe, 1 is of the first one, for writing.
		image(trap(api.Pipe), trap(api.Pipe), begin(1), shut(0), shut(3), trap(api.Pipe), begin(2), begin(3), shut(1), shut(3)),
		image(shut(1), shut(3), hours(2), read(0, 20, 1), keep()),
		image(shut(1), shut(3), hours(1), read(0, 20, 1), keep()),
		image(hours(3), trap(api.Exit))))
	run(t, k, 3*hour)
	inState(t, k, asleep, reading, reading, asleep)
	ordered(t, k, nil, 4, 2, 3)
	inState(t, k, asleep, asleep, asleep, ended)
}

// P7: a pipe is looked at as a file of it is closed, not as who waited there leaves its row: who waits at a pipe of a lower file is ready ahead.
func TestEndLooksByNumber(t *testing.T) {
	k := start(t, quiet, parts(t,
		image(trap(api.Pipe), trap(api.Pipe), set(5, 9), write(3, 0, 5), begin(1), begin(2), begin(3), shut(1), hours(4), call(api.Kill, 2)),
		image(hours(1), write(3, 0, 6)),
		image(shut(1), hours(2), write(3, 0, 2), keep()),
		image(shut(1), hours(3), read(0, 20, 1), keep())))
	run(t, k, 4*hour)
	inState(t, k, asleep, writing, writing, reading)
	ordered(t, k, []int{1}, 4, 3)
	inState(t, k, asleep, ended, asleep, asleep)
	kept(t, k, 3, 2)
	kept(t, k, 4, 0)
}

// P7: likewise, as the file that is closed first is the last one for reading: there is room for who writes, but nobody reads.
func TestEndLooksNotAhead(t *testing.T) {
	k := start(t, quiet, parts(t,
		image(trap(api.Pipe), begin(1), begin(2), shut(0), hours(3), call(api.Kill, 2)),
		image(write(1, 0, 5), hours(1), write(1, 0, 6)),
		image(shut(0), hours(2), write(1, 0, 2), keep())))
	run(t, k, 3*hour)
	inState(t, k, asleep, writing, writing)
	run(t, k, hour)
	inState(t, k, asleep, ended, asleep)
	kept(t, k, 3, 65531)
}

// P7, P9: process 1 ends: what that brings at its pipes is done; then all is over.
func TestOverAtPipes(t *testing.T) {
	k := start(t, plain,
		trap(api.Pipe), trap(api.Pipe), write(3, 0, 8), trap(api.Fork), child(16), trap(api.Fork), child(27), call(api.Sleep, 60), call(api.Exit, 4), trap(api.Exit), trap(api.Exit),
		shut(1), shut(2), shut(3), read(0, 20, 5), trap(api.Exit),
		shut(1), shut(2), write(3, 0, 1), trap(api.Exit))
	run(t, k, 60)
	inState(t, k, asleep, reading, writing)
	overAt(t, k, 60, 91, 4,
		api.Proc{ID: 1, State: 6, Status: 4, At: 14, Level: 1, Used: 2, Regs: [8]uint16{4, 0, 8}},
		api.Proc{ID: 2, Parent: 1, State: 1, At: 26, Level: 1, Regs: [8]uint16{0, 20, 5}},
		api.Proc{ID: 3, Parent: 1, State: 1, At: 35, Regs: [8]uint16{65531, 0, 1}})
}

// P7, P6: a fork: the child has the same files, and from then on each has its own.
func TestForkWithFiles(t *testing.T) {
	k := start(t, quiet, parts(t,
		image(trap(api.Pipe), hold(0, "abcdef"), write(1, 0, 3), begin(1), hours(1), shut(0), shut(1), call(api.Close, 1), keep()),
		image(read(0, 20, 2), shut(1), hours(2), read(0, 30, 9), trap(api.Pipe), keep(), write(2, 4, 2), read(1, 40, 9))))
	run(t, k, 2*hour)
	kept(t, k, 1, 65535)
	holds(t, k, 2, 20, "ab\x00")
	run(t, k, hour)
	inState(t, k, asleep, asleep)
	kept(t, k, 2, 1)
	holds(t, k, 2, 30, "c"+string(make([]byte, 9))+"ef\x00")
}

// P7: a pipe that was made behind a fork is its maker's alone.
func TestPipeBehindFork(t *testing.T) {
	k := start(t, quiet, parts(t,
		image(trap(api.Pipe), begin(1), trap(api.Pipe), hours(2), write(3, 0, 8)),
		image(hours(1), shut(2), keep(), read(2, 0, 1), insn(api.Move, 4, 0), trap(api.Pipe), insn(api.Move, 3, 0))))
	run(t, k, 2*hour)
	if p := proc(t, k, 2); p.Regs[3] != 2 || p.Regs[4] != 65535 || p.Regs[5] != 65535 {
		t.Errorf("the child: %+v", p)
	}
	run(t, k, hour)
	if p := proc(t, k, 1); p.State != api.Asleep {
		t.Errorf("the parent: %+v", p)
	}
}

// P7: four pipes are counted over all processes; those of one that has ended are no more, though nobody has asked for it.
func TestFourPipesAnywhere(t *testing.T) {
	for name, how := range ends(0, read(0, 0, 1)) {
		if name == "Close" {
			how[1] = image(hours(3), shut(0), shut(1))
		}
		k := start(t, quiet, parts(t,
			image(trap(api.Pipe), begin(1), begin(2), begin(3), shut(0), shut(1), how[0]),
			image(shut(0), shut(1), trap(api.Pipe), shut(0), trap(api.Pipe), shut(0), trap(api.Pipe), shut(0),
				trap(api.Pipe), keep(), hours(4), trap(api.Pipe), insn(api.Move, 4, 0), set(3, 1)),
			image(shut(0), shut(1)),
			how[1]))
		run(t, k, 4*hour)
		kept(t, k, 2, 65534)
		run(t, k, hour)
		if p := proc(t, k, 2); p.Regs[4] != 0 || p.Regs[1] != 4 || p.Regs[3] != 1 {
			t.Errorf("%s: a fourth pipe: %+v", name, p)
		}
	}
}
