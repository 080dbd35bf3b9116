package hearth

import (
	"errors"

	"hearth/api"
)

// What a process faults with.
var (
	errNoInsn     = errors.New("there is no such instruction")
	errNoOperator = errors.New("there is no such operator")
	errNoByte     = errors.New("there is no such byte of memory")
)

// insnSize: so many bytes of an image are an instruction.
const insnSize = 4

type insn struct {
	op, a, b, c byte
}

func (in insn) k() uint16 {
	return uint16(in.b) + 256*uint16(in.c)
}

func decode(image []byte) []insn {
	var program []insn
	for i := 0; i+insnSize <= len(image); i += insnSize {
		program = append(program, insn{image[i], image[i+1], image[i+2], image[i+3]})
	}
	return program
}

// process is what is told of it, its memory, its files, and the tick at which its sleep is over.
type process struct {
	api.Proc
	memory [api.Memory]byte
	files  [api.MaxFiles]pipeEnd
	until  int
}

// do does an instruction that is no trap. One that faults changes nothing.
func (p *process) do(in insn) error {
	a := &p.Regs[int(in.a)%len(p.Regs)]
	b := p.Regs[int(in.b)%len(p.Regs)]
	next := p.At + 1
	switch in.op {
	case api.Set:
		*a = in.k()
	case api.Move:
		*a = b
	case api.Add:
		*a += b
	case api.Sub:
		*a -= b
	case api.Jumpz:
		if *a == 0 {
			next = int(in.k())
		}
	case api.Jump:
		next = int(in.k())
	case api.Load:
		m, err := p.place(b, in.c)
		if err != nil {
			return err
		}
		*a = uint16(p.memory[m])
	case api.Store:
		m, err := p.place(b, in.c)
		if err != nil {
			return err
		}
		p.memory[m] = byte(*a)
	default:
		return errNoOperator
	}
	p.At = next
	return nil
}

// place: which byte of the memory is meant. The sum does not go round.
func (p *process) place(base uint16, offset byte) (int, error) {
	m := int(base) + int(offset)
	if m >= len(p.memory) {
		return 0, errNoByte
	}
	return m, nil
}
