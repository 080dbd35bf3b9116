// Package hearth: a small kernel: see DOC.md.
package hearth

import (
	"slices"
	"sync"

	"hearth/api"
)

// Kernel is processes, and the pipes between them.
type Kernel struct {
	config  api.Config
	program []insn
	procs   []*process // by their numbers
	last    int        // the greatest number that a process has got
	ready   rows
	bytes   [1 + api.MaxPipes][]byte // what is in each pipe; there is no pipe 0
	waiting map[pipeEnd][]*process   // the rows at the pipes' ends, in the order of asking
	now     int                      // the number of the next tick
}

// New makes a kernel with one process (P3).
func New(c api.Config, image []byte) (*Kernel, api.Errno) {
	if !isConfig(c) {
		return nil, api.ErrConfig
	}
	if !isImage(image) {
		return nil, api.ErrImage
	}
	k := &Kernel{config: c, program: decode(image), waiting: map[pipeEnd][]*process{}}
	k.add(&process{})
	return k, api.OK
}

// Run lets some ticks pass; what happened (P4 to P8).
func (k *Kernel) Run(ticks int) ([]api.Event, api.Errno) {
	if ticks < 0 || ticks > api.MaxTicks {
		return nil, api.ErrTicks
	}
	// The channel has no room of its own: what is sent has been taken, so that
	// behind the close of done there is no event left to be missed.
	events := make(chan api.Event)
	done := make(chan struct{})
	var worker sync.WaitGroup
	worker.Add(1)
	go func() {
		defer worker.Done()
		defer close(done)
		k.pass(ticks, events)
	}()
	told := gather(events, done)
	worker.Wait()
	return told, api.OK
}

// Procs tells all processes, by their numbers (P9).
func (k *Kernel) Procs() []api.Proc {
	var told []api.Proc
	for _, p := range k.all() {
		told = append(told, p.Proc)
	}
	return told
}

// Memory tells a process's memory (P9).
func (k *Kernel) Memory(id int) ([]byte, api.Errno) {
	p := k.find(id)
	if p == nil {
		return nil, api.ErrProc
	}
	return slices.Clone(p.memory[:]), api.OK
}

func isConfig(c api.Config) bool {
	for _, s := range c.Slices {
		if s < 1 || s > api.MaxSlice {
			return false
		}
	}
	return c.Boost >= 1 && c.Boost <= api.MaxBoost
}

func isImage(image []byte) bool {
	n := len(image)
	return n > 0 && n%insnSize == 0 && n <= insnSize*api.MaxInsns
}

// gather takes events until there will be none.
func gather(events <-chan api.Event, done <-chan struct{}) []api.Event {
	var told []api.Event
	for {
		select {
		case e := <-events:
			told = append(told, e)
		case <-done:
			return told
		}
	}
}

// all: beside an error New gives no kernel; the calls find no process there.
func (k *Kernel) all() []*process {
	if k == nil {
		return nil
	}
	return k.procs
}

// find answers nil if there is no such process.
func (k *Kernel) find(id int) *process {
	for _, p := range k.all() {
		if p.ID == id {
			return p
		}
	}
	return nil
}

// add takes a new process in, with a number of its own; it is ready.
func (k *Kernel) add(p *process) {
	k.last++
	p.ID = k.last
	k.procs = append(k.procs, p)
	k.wake(p)
}

// wake: who becomes ready stands last, with a whole slice.
func (k *Kernel) wake(p *process) {
	p.State = api.Ready
	p.Used = 0
	k.ready.join(p)
}

// stop: who is not ready, whatever else it is, stands in no level's row.
func (k *Kernel) stop(p *process, state int) {
	k.ready.leave(p)
	p.State = state
}
