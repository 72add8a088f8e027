package edits

import "selvage/api"

// run is n lines that stay: from the line a of the old text on, and from the line b of the new one on.
type run struct{ a, b, n int }

// eachRun hands on, in order, the runs of lines that stay by an edit script from n lines.
func eachRun(s []api.Change, n int, take func(r run)) {
	a, b := 0, 0
	for _, c := range s {
		if c.A > a {
			take(run{a, b, c.A - a})
		}
		a, b = c.A+c.N, c.B+c.M
	}
	if n > a {
		take(run{a, b, n - a})
	}
}

// through is the run of those lines that stay in both of two runs, the new text of r being the old one of t; there is such a line.
func through(r, t run) run {
	from := max(r.b, t.a)
	to := min(r.b+r.n, t.a+t.n)
	return run{r.a + from - r.b, t.b + from - t.a, to - from}
}

// writer writes a normal edit script by the lines that stay: what lies between two runs of them is one change.
type writer struct {
	changes []api.Change
	a, b    int // the ends of the last run
}

// stay lets the lines of a run stay, which lies behind the last one in both texts.
func (w *writer) stay(r run) {
	if r.a > w.a || r.b > w.b {
		w.changes = append(w.changes, api.Change{A: w.a, N: r.a - w.a, B: w.b, M: r.b - w.b})
	}
	w.a, w.b = r.a+r.n, r.b+r.n
}

// ended is the edit script from n lines to m in which just the lines of the runs stay.
func (w *writer) ended(n, m int) []api.Change {
	w.stay(run{n, m, 0})
	return w.changes
}
