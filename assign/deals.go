package assign

import (
	"slices"

	"fasti/api"
)

// none stands for the column of a row without one, and for the row of a column without one.
const none = -1

// far is longer than any path.
const far = 1 << 60

// A deal has prices that fit the costs, and gives columns to rows such that the price of each of these pairs is its element, and that a column that no row has costs nothing. If each row has a column, nothing costs less.
type deal struct {
	cost [][]int
	u, v []int
	to   []int // the column of each row
	row  []int // the row of each column
}

// settle returns a deal in which each row has a column, if there is one.
func settle(cost [][]int) (d *deal, ok bool) {
	rows, cols := len(cost), columns(cost)
	d = &deal{cost, make([]int, rows), make([]int, cols), slices.Repeat([]int{none}, rows), slices.Repeat([]int{none}, cols)}
	for i := range cost {
		if !d.add(i) {
			return nil, false
		}
	}
	return d, true
}

// Paths lead from a row without a column to columns, each of which belongs to the next row of the path. A path is as long as the elements of its pairs are greater than their prices.
type paths struct {
	length [api.MaxRows]int  // of the shortest path to a column that was found
	from   [api.MaxRows]int  // the last row of that path
	sure   [api.MaxRows]bool // whether no path to a column is shorter
}

// add gives a column to a row that has none, along the shortest path to a column that no row has, and reports whether there is such a path.
func (d *deal) add(row int) bool {
	p := paths{}
	for j := range p.length {
		p.length[j] = far
	}
	end, at, length := none, row, 0
search:
	for {
		d.extend(&p, at, length)
		end = p.nearest()
		switch {
		case end == none:
			return false
		case d.row[end] == none:
			break search
		}
		p.sure[end] = true
		at, length = d.row[end], p.length[end]
	}
	d.improve(&p, row, p.length[end])
	d.exchange(&p, end)
	return true
}

// extend finds the paths over one more row, to which the shortest path has a length.
func (d *deal) extend(p *paths, row, length int) {
	for j, x := range d.cost[row] {
		if x == forbidden || p.sure[j] {
			continue
		}
		if n := length + x - d.u[row] - d.v[j]; n < p.length[j] {
			p.length[j], p.from[j] = n, row
		}
	}
}

// nearest returns the column with the shortest path of those that are not sure yet, if there is a path to one.
func (p *paths) nearest() int {
	nearest, least := none, far
	for j, n := range p.length {
		if !p.sure[j] && n < least {
			nearest, least = j, n
		}
	}
	return nearest
}

// improve changes prices such that nothing is left of the length of the shortest path, which begins at a row. Columns become cheaper, never dearer.
func (d *deal) improve(p *paths, row, length int) {
	d.u[row] += length
	for j, i := range d.row {
		if p.sure[j] {
			d.u[i] += length - p.length[j]
			d.v[j] -= length - p.length[j]
		}
	}
}

// exchange gives each row of the path to a column the column that follows.
func (d *deal) exchange(p *paths, end int) {
	for end != none {
		at := p.from[end]
		d.row[end] = at
		d.to[at], end = end, d.to[at]
	}
}

// bound returns the sum of all prices. If each row has a column, it is the cost of that.
func (d *deal) bound() int { return sum(d.u) + sum(d.v) }

// exact reports whether a pair is permitted, and its price is its element. A pair that is cheaper than its element is in no best assignment.
func (d *deal) exact(i, j int) bool {
	x := d.cost[i][j]
	return x != forbidden && d.u[i]+d.v[j] == x
}

// least returns the lexicographically least one of the best assignments. Row by row it takes the first column with which the others can still do as well.
func (d *deal) least() (to []int) {
	left := slices.Clone(d.cost)
	takes := func(i, j int) bool {
		row := left[i]
		left[i] = slices.Repeat([]int{forbidden}, len(row))
		left[i][j] = row[j]
		if rest, ok := settle(left); ok && rest.bound() == d.bound() {
			return true
		}
		left[i] = row
		return false
	}
	for i, row := range d.cost {
		for j := range row {
			if d.exact(i, j) && takes(i, j) {
				to = append(to, j)
				break
			}
		}
	}
	return to
}
