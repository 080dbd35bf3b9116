package hearth

import "hearth/api"

// pass lets so many ticks pass. When all is over nothing hangs on their number any more.
func (k *Kernel) pass(ticks int, events chan<- api.Event) {
	for range ticks {
		if k.over() {
			return
		}
		k.tick(events)
		k.now++
	}
}

// over: process 1 is never asked for, so that it is found as long as there is a kernel.
func (k *Kernel) over() bool {
	first := k.find(1)
	return first == nil || first.State == api.Ended
}

func (k *Kernel) tick(events chan<- api.Event) {
	k.wakeSleepers()
	if k.now > 0 && k.now%k.config.Boost == 0 {
		k.raise()
	}
	p := k.ready.first()
	if p == nil {
		k.tell(events, api.Idle, 0, 0)
		return
	}
	k.tell(events, api.Ran, p.ID, p.At)
	k.settle(p, k.step(p, events), events)
	p.Used++
	if p.State == api.Ready {
		k.turn(p)
	}
}

func (k *Kernel) wakeSleepers() {
	for _, p := range k.procs {
		if p.State == api.Asleep && p.until == k.now {
			k.wake(p)
		}
	}
}

// raise: who is at level 0 already keeps what it has used.
func (k *Kernel) raise() {
	for _, p := range k.procs {
		if p.State != api.Ended && p.Level > 0 {
			p.Level, p.Used = 0, 0
		}
	}
	k.ready.raise()
}

// step does the process's next instruction, and answers what it failed with.
func (k *Kernel) step(p *process, events chan<- api.Event) error {
	if p.At >= len(k.program) {
		return errNoInsn
	}
	in := k.program[p.At]
	if in.op == api.Trap {
		p.At++
		return k.trap(p, in.a, events)
	}
	return p.do(in)
}

// settle: a trap that failed has an answer; whatever else failed is a fault.
func (k *Kernel) settle(p *process, err error, events chan<- api.Event) {
	if err != nil && !p.answered(err) {
		k.end(p, api.Faulted, events)
	}
}

// turn moves down a process that has used its slice.
func (k *Kernel) turn(p *process) {
	if p.Used < k.config.Slices[p.Level] {
		return
	}
	k.ready.leave(p)
	p.Level = min(p.Level+1, levels-1)
	p.Used = 0
	k.ready.join(p)
}

func (k *Kernel) tell(events chan<- api.Event, kind, id, a int) {
	events <- api.Event{Tick: k.now, Kind: kind, Proc: id, A: a}
}
