package hearth

import (
	"errors"
	"strconv"

	"hearth/api"
)

// Why traps fail.
var errBadCall = errors.New("no such call, or not with that")

// refusal is what a trap fails with: which one, and why.
type refusal struct {
	number int
	reason error
}

func (r *refusal) Error() string {
	return "trap " + strconv.Itoa(r.number) + ": " + r.reason.Error()
}

func (r *refusal) Unwrap() error {
	return r.reason
}

// answer is what the process finds in register 0.
func (r *refusal) answer() uint16 {
	if errors.Is(r, errBadCall) {
		return api.BadCall
	}
	return 0
}

// trap does what the process asks for. Its next instruction stands behind the trap already.
func (k *Kernel) trap(p *process, number byte, events chan<- api.Event) error {
	switch number {
	case api.Exit:
		k.end(p, int(p.Regs[0]), events)
	case api.Self:
		p.Regs[0] = uint16(p.ID)
	case api.Print:
		k.tell(events, api.Printed, p.ID, int(byte(p.Regs[0])))
		p.Regs[0] = 0
	default:
		return &refusal{number: int(number), reason: errBadCall}
	}
	return nil
}
