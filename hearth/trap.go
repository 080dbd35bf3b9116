package hearth

import (
	"errors"
	"strconv"

	"hearth/api"
)

// Why traps fail.
var (
	errBadFile  = errors.New("no such file, or not of that kind")
	errFull     = errors.New("there is no room for one more")
	errNoChild  = errors.New("there is no child")
	errNoProc   = errors.New("there is no such process")
	errNoReader = errors.New("nobody can read that")
	errBadAddr  = errors.New("memory that there is not")
	errBadCall  = errors.New("no such call, or not with that")
)

// refusal is what a trap fails with: which one, and why.
type refusal struct {
	number int
	reason error
}

func (r *refusal) Error() string {
	return "trap " + strconv.Itoa(r.number) + ": " + r.reason.Error()
}

func (r *refusal) Unwrap() error {
	return r.reason
}

// answer is what the process finds in register 0.
func (r *refusal) answer() uint16 {
	switch {
	case errors.Is(r, errBadFile):
		return api.BadFile
	case errors.Is(r, errFull):
		return api.Full
	case errors.Is(r, errNoChild):
		return api.NoChild
	case errors.Is(r, errNoProc):
		return api.NoProc
	case errors.Is(r, errNoReader):
		return api.NoReader
	case errors.Is(r, errBadAddr):
		return api.BadAddr
	default:
		return api.BadCall
	}
}

// refuse wraps why a trap failed, if it did.
func refuse(number int, reason error) error {
	if reason == nil {
		return nil
	}
	return &refusal{number: number, reason: reason}
}

// answered gives the process the answer of a trap that failed; false if it was something else that did.
func (p *process) answered(err error) bool {
	var r *refusal
	if !errors.As(err, &r) {
		return false
	}
	p.Regs[0] = r.answer()
	return true
}

// trap does what the process asks for. Its next instruction stands behind the trap already.
func (k *Kernel) trap(p *process, number byte, events chan<- api.Event) error {
	return refuse(int(number), k.grant(p, number, events))
}

func (k *Kernel) grant(p *process, number byte, events chan<- api.Event) error {
	switch number {
	case api.Exit:
		k.end(p, int(p.Regs[0]), events)
	case api.Fork:
		return k.fork(p)
	case api.Wait:
		return k.wait(p)
	case api.Kill:
		return k.kill(p, events)
	case api.Sleep:
		k.sleep(p)
	case api.Yield:
		k.yield(p)
	case api.Self:
		p.Regs[0] = uint16(p.ID)
	case api.Pipe:
		return k.pipe(p)
	case api.Close:
		return k.close(p)
	case api.Read:
		return k.ask(p, api.Reading, api.Memory)
	case api.Write:
		return k.ask(p, api.Writing, api.PipeSize)
	case api.Print:
		k.tell(events, api.Printed, p.ID, int(byte(p.Regs[0])))
		p.Regs[0] = 0
	default:
		return errBadCall
	}
	return nil
}

func (k *Kernel) sleep(p *process) {
	ticks := int(p.Regs[0])
	p.Regs[0] = 0
	if ticks == 0 {
		return
	}
	p.until = k.now + ticks
	k.stop(p, api.Asleep)
}

// yield: whether the slice is used too, so that it moves down from there, is seen behind the instruction.
func (k *Kernel) yield(p *process) {
	p.Regs[0] = 0
	k.ready.leave(p)
	k.ready.join(p)
}
