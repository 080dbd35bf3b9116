package hearth

import "slices"

const levels = 3

// rows: those that are ready, by levels. Who runs stands in its row all the while, first if it does not yield.
type rows [levels][]*process

// first answers nil if all rows are empty.
func (r *rows) first() *process {
	for _, row := range r {
		if len(row) > 0 {
			return row[0]
		}
	}
	return nil
}

func (r *rows) join(p *process) {
	r[p.Level] = append(r[p.Level], p)
}

func (r *rows) leave(p *process) {
	row := r[p.Level]
	if i := slices.Index(row, p); i >= 0 {
		r[p.Level] = slices.Delete(row, i, i+1)
	}
}

// raise puts the lower rows behind that of level 0.
func (r *rows) raise() {
	for level := 1; level < levels; level++ {
		r[0] = append(r[0], r[level]...)
		r[level] = nil
	}
}
