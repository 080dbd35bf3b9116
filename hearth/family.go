package hearth

import (
	"slices"

	"hearth/api"
)

func (k *Kernel) fork(p *process) error {
	if len(k.procs) >= api.MaxProcs {
		return errFull
	}
	child := &process{Proc: api.Proc{Parent: p.ID, At: p.At, Regs: p.Regs}, memory: p.memory, files: p.files}
	child.Regs[0] = 0
	k.add(child)
	p.Regs[0] = uint16(child.ID)
	return nil
}

func (k *Kernel) wait(p *process) error {
	if !slices.ContainsFunc(k.procs, p.isParentOf) {
		return errNoChild
	}
	if !k.collect(p) {
		k.stop(p, api.Waiting)
	}
	return nil
}

func (k *Kernel) kill(p *process, events chan<- api.Event) error {
	victim := k.find(int(p.Regs[0]))
	if victim == nil || victim.State == api.Ended {
		return errNoProc
	}
	k.end(victim, api.Killed, events)
	p.Regs[0] = 0
	return nil
}

// end: the process stays, with its status, until its parent asks for it.
func (k *Kernel) end(p *process, status int, events chan<- api.Event) {
	// Register 0 of who waits at a pipe still names the file; of others it names no row that they stand in.
	k.depart(p, p.file(p.Regs[0]))
	k.stop(p, api.Ended)
	p.Status = status
	k.tell(events, api.Gone, p.ID, status)
	k.shutAll(p)
	k.orphan(p)
	k.lookAtParents()
}

// orphan gives the process's children to process 1, those that have ended too.
func (k *Kernel) orphan(p *process) {
	for _, child := range k.procs {
		if p.isParentOf(child) {
			child.Parent = 1
		}
	}
}

// lookAtParents: one end can bring two of them a child, as process 1 may get one that had ended ahead.
func (k *Kernel) lookAtParents() {
	// A copy, as each child that is told is taken out.
	for _, p := range slices.Clone(k.procs) {
		if p.State == api.Waiting && k.collect(p) {
			k.wake(p)
		}
	}
}

// collect tells a process its first child that has ended, which is no more then; false if there is none.
func (k *Kernel) collect(p *process) bool {
	i := slices.IndexFunc(k.procs, func(child *process) bool {
		return p.isParentOf(child) && child.State == api.Ended
	})
	if i < 0 {
		return false
	}
	child := k.procs[i]
	k.procs = slices.Delete(k.procs, i, i+1)
	p.Regs[0], p.Regs[1] = uint16(child.ID), uint16(child.Status)
	return true
}

func (p *process) isParentOf(child *process) bool {
	return child.Parent == p.ID
}
