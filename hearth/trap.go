package hearth

import (
	"errors"
	"strconv"

	"hearth/api"
)

// Why traps fail.
var (
	errFull    = errors.New("there is no room for one more")
	errNoChild = errors.New("there is no child")
	errNoProc  = errors.New("there is no such process")
	errBadCall = errors.New("no such call, or not with that")
)

// refusal is what a trap fails with: which one, and why.
type refusal struct {
	number int
	reason error
}

func (r *refusal) Error() string {
	return "trap " + strconv.Itoa(r.number) + ": " + r.reason.Error()
}

func (r *refusal) Unwrap() error {
	return r.reason
}

// answer is what the process finds in register 0.
func (r *refusal) answer() uint16 {
	switch {
	case errors.Is(r, errFull):
		return api.Full
	case errors.Is(r, errNoChild):
		return api.NoChild
	case errors.Is(r, errNoProc):
		return api.NoProc
	default:
		return api.BadCall
	}
}

// trap does what the process asks for. Its next instruction stands behind the trap already.
func (k *Kernel) trap(p *process, number byte, events chan<- api.Event) error {
	if err := k.grant(p, number, events); err != nil {
		return &refusal{number: int(number), reason: err}
	}
	return nil
}

func (k *Kernel) grant(p *process, number byte, events chan<- api.Event) error {
	switch number {
	case api.Exit:
		k.end(p, int(p.Regs[0]), events)
	case api.Fork:
		return k.fork(p)
	case api.Wait:
		return k.wait(p)
	case api.Kill:
		return k.kill(p, events)
	case api.Sleep:
		k.sleep(p)
	case api.Yield:
		k.yield(p)
	case api.Self:
		p.Regs[0] = uint16(p.ID)
	case api.Print:
		k.tell(events, api.Printed, p.ID, int(byte(p.Regs[0])))
		p.Regs[0] = 0
	default:
		return errBadCall
	}
	return nil
}

func (k *Kernel) sleep(p *process) {
	ticks := int(p.Regs[0])
	p.Regs[0] = 0
	if ticks == 0 {
		return
	}
	p.until = k.now + ticks
	k.stop(p, api.Asleep)
}

// yield: whether the slice is used too, so that it moves down from there, is seen behind the instruction.
func (k *Kernel) yield(p *process) {
	p.Regs[0] = 0
	k.ready.leave(p)
	k.ready.join(p)
}
