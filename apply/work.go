package apply

// work is hunks being applied to a text, one after another.
type work struct {
	text    text
	made    []string // what the lines ahead of from have become
	from    int      // where the lines end that the last hunk that was found took
	offset  int      // how far off that one was
	hits    []Hit
	rejects []int
}

// apply applies the hunk at a place in the list.
func (w *work) apply(place int, s sought, fuzz int) {
	q, f, found := s.find(&w.text, w.from, w.offset, fuzz)
	if !found {
		w.rejects = append(w.rejects, place)
		return
	}
	p := s.with(f)
	more := len(w.made) - w.from
	w.offset = q - s.place
	w.hits = append(w.hits, Hit{Hunk: place, Line: q + 1 + more, Offset: w.offset, Fuzz: f})
	at := q + p.skipped
	w.made = append(w.made, w.text.lines[w.from:at]...)
	w.made = append(w.made, p.fresh...)
	w.from = at + len(p.old)
}

// ended is the new text's lines, behind the last hunk.
func (w *work) ended() []string {
	return append(w.made, w.text.lines[w.from:]...)
}
