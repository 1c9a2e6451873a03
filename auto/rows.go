package auto

// part is a part of a row: the places from from up to to, of which the first ones are marked.
type part struct{ from, to, marked int }

// row is the numbers from 0 on, cut into parts. What is marked of a part can be split off.
type row struct {
	numbers []int // part by part
	at      []int // where each number stands
	in      []int // the part of each number
	parts   []part
	touched []int // the parts with marks
}

// newRow returns a row of one part.
func newRow(many int) *row {
	r := &row{in: make([]int, many), parts: []part{{to: many}}}
	for n := range many {
		r.numbers = append(r.numbers, n)
		r.at = append(r.at, n)
	}
	return r
}

// part returns the numbers of a part.
func (r *row) part(n int) []int { return r.numbers[r.parts[n].from:r.parts[n].to] }

// mark marks numbers that have no marks.
func (r *row) mark(l ...int) {
	for _, n := range l {
		p := &r.parts[r.in[n]]
		if p.marked == 0 {
			r.touched = append(r.touched, r.in[n])
		}
		r.swap(r.at[n], p.from+p.marked)
		p.marked++
	}
}

// swap swaps the numbers that stand at two places.
func (r *row) swap(i, j int) {
	r.numbers[i], r.numbers[j] = r.numbers[j], r.numbers[i]
	r.at[r.numbers[i]], r.at[r.numbers[j]] = i, j
}

// split splits what is marked off, and takes the marks away. The smaller half becomes the new part, so that no number changes its part often.
func (r *row) split() {
	for _, n := range r.touched {
		p := &r.parts[n]
		marked, left := part{from: p.from, to: p.from + p.marked}, part{from: p.from + p.marked, to: p.to}
		p.marked = 0
		switch {
		case left.from == left.to: // all of it is marked
		case marked.to-marked.from <= left.to-left.from:
			*p = left
			r.add(marked)
		default:
			*p = marked
			r.add(left)
		}
	}
	r.touched = r.touched[:0]
}

// add adds a new part.
func (r *row) add(p part) {
	for _, n := range r.numbers[p.from:p.to] {
		r.in[n] = len(r.parts)
	}
	r.parts = append(r.parts, p)
}
