package hearth

import (
	"slices"

	"hearth/api"
)

// pipeEnd is an end of a pipe: a file of a process, and what those wait for who stand in a row there. The zero end is none.
type pipeEnd struct {
	pipe int // from 1 to MaxPipes
	use  int // Reading or Writing, as is the state of who waits
}

func (e pipeEnd) isNone() bool {
	return e == pipeEnd{}
}

func (e pipeEnd) other() pipeEnd {
	if e.use == api.Reading {
		return pipeEnd{e.pipe, api.Writing}
	}
	return pipeEnd{e.pipe, api.Reading}
}

// file answers the zero end if there is no such file.
func (p *process) file(number uint16) pipeEnd {
	if int(number) >= len(p.files) {
		return pipeEnd{}
	}
	return p.files[number]
}

// free: the numbers of the files that are none.
func (p *process) free() []int {
	var l []int
	for number, e := range p.files {
		if e.isNone() {
			l = append(l, number)
		}
	}
	return l
}

// isOpen: whether anybody has that end as a file. Who has ended has none.
func (k *Kernel) isOpen(e pipeEnd) bool {
	return slices.ContainsFunc(k.procs, func(p *process) bool {
		return slices.Contains(p.files[:], e)
	})
}

// unused answers a pipe that has no end open, or 0.
func (k *Kernel) unused() int {
	for pipe := 1; pipe <= api.MaxPipes; pipe++ {
		if !k.isOpen(pipeEnd{pipe, api.Reading}) && !k.isOpen(pipeEnd{pipe, api.Writing}) {
			return pipe
		}
	}
	return 0
}

func (k *Kernel) pipe(p *process) error {
	pipe, free := k.unused(), p.free()
	if pipe == 0 || len(free) < 2 {
		return errFull
	}
	// What nobody has read of the one that was there ahead is lost.
	k.bytes[pipe] = nil
	p.files[free[0]] = pipeEnd{pipe, api.Reading}
	p.files[free[1]] = pipeEnd{pipe, api.Writing}
	p.Regs[0], p.Regs[1] = uint16(free[0]), uint16(free[1])
	return nil
}

func (k *Kernel) close(p *process) error {
	number := p.Regs[0]
	if p.file(number).isNone() {
		return errBadFile
	}
	k.shut(p, int(number))
	p.Regs[0] = 0
	return nil
}

func (k *Kernel) shut(p *process, number int) {
	e := p.files[number]
	p.files[number] = pipeEnd{}
	k.look(e.pipe)
}

// shutAll: each pipe is looked at as its file is closed, so that who is done there hangs on the files' order.
func (k *Kernel) shutAll(p *process) {
	for number, e := range p.files {
		if !e.isNone() {
			k.shut(p, number)
		}
	}
}

// ask puts a process into a pipe's row. It waits only if it is still there when the pipe has been looked at.
func (k *Kernel) ask(p *process, use, most int) error {
	if err := p.checkUse(use, most); err != nil {
		return err
	}
	e := p.file(p.Regs[0])
	k.waiting[e] = append(k.waiting[e], p)
	k.look(e.pipe)
	if slices.Contains(k.waiting[e], p) {
		k.stop(p, use)
	}
	return nil
}

// checkUse: of several things that are wrong the first one is told.
func (p *process) checkUse(use, most int) error {
	from, count := int(p.Regs[1]), int(p.Regs[2])
	switch {
	case p.file(p.Regs[0]).use != use:
		return errBadFile
	case count == 0 || count > most:
		return errBadCall
	case from+count > len(p.memory):
		return errBadAddr
	}
	return nil
}

// look does all that can be done at a pipe now, one by one: each time who writes is asked for ahead of who reads.
func (k *Kernel) look(pipe int) {
	for k.serve(pipeEnd{pipe, api.Writing}) || k.serve(pipeEnd{pipe, api.Reading}) {
	}
}

// serve does what the first of a row asks for; false if it can't be done, whoever stands behind.
func (k *Kernel) serve(e pipeEnd) bool {
	row := k.waiting[e]
	if len(row) == 0 || !k.canBeDone(row[0], e) {
		return false
	}
	p := row[0]
	k.depart(p, e)
	if err := k.carry(p, e); err != nil {
		p.answered(err)
	}
	// Who is just asking has never left the row of its level.
	if p.State != api.Ready {
		k.wake(p)
	}
	return true
}

// canBeDone: with nobody at the other end there is nothing to wait for.
func (k *Kernel) canBeDone(p *process, e pipeEnd) bool {
	inside := len(k.bytes[e.pipe])
	switch {
	case !k.isOpen(e.other()):
		return true
	case e.use == api.Reading:
		return inside > 0
	default:
		return inside+int(p.Regs[2]) <= api.PipeSize
	}
}

// depart takes a process out of a pipe's row.
func (k *Kernel) depart(p *process, e pipeEnd) {
	row := slices.DeleteFunc(k.waiting[e], func(q *process) bool { return q == p })
	if len(row) == 0 {
		delete(k.waiting, e)
		return
	}
	k.waiting[e] = row
}

// carry moves bytes between a process and a pipe. The process's registers are still as it asked.
func (k *Kernel) carry(p *process, e pipeEnd) error {
	from, count := int(p.Regs[1]), int(p.Regs[2])
	own := p.memory[from : from+count]
	if e.use == api.Reading {
		n := copy(own, k.bytes[e.pipe])
		k.bytes[e.pipe] = slices.Delete(k.bytes[e.pipe], 0, n)
		p.Regs[0] = uint16(n)
		return nil
	}
	if !k.isOpen(e.other()) {
		return refuse(api.Write, errNoReader)
	}
	k.bytes[e.pipe] = append(k.bytes[e.pipe], own...)
	p.Regs[0] = p.Regs[2]
	return nil
}
