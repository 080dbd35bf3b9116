package hearth

import (
	"slices"

	"hearth/api"
)

// Untidy answers what is wrong with how those stand who are ready, or wait at pipes; or nothing.
func (k *Kernel) Untidy() string {
	for _, p := range k.procs {
		if complaint := k.untidy(p); complaint != "" {
			return complaint
		}
	}
	for e, row := range k.waiting {
		if len(row) == 0 || e.use != api.Reading && e.use != api.Writing {
			return "a row in which nobody can stand"
		}
		if k.canBeDone(row[0], e) {
			return "one waits who could be done"
		}
	}
	for _, b := range k.bytes {
		if len(b) > api.PipeSize {
			return "a pipe with too many bytes"
		}
	}
	return ""
}

func (k *Kernel) untidy(p *process) string {
	stands := 0
	for _, row := range k.waiting {
		for _, q := range row {
			if q == p {
				stands++
			}
		}
	}
	own := pipeEnd{}
	wanted := 0
	if p.State == api.Reading || p.State == api.Writing {
		own, wanted = p.file(p.Regs[0]), 1
	}
	switch {
	case stands != wanted || wanted == 1 && (own.use != p.State || !slices.Contains(k.waiting[own], p)):
		return "one stands in the wrong row of a pipe, or in too many"
	case slices.Contains(k.ready[p.Level], p) != (p.State == api.Ready):
		return "one is ready and stands in no row, or is not and does"
	case p.State == api.Ended && len(p.free()) != api.MaxFiles:
		return "one that has ended has files"
	}
	return ""
}
