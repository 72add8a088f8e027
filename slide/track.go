package slide

// track is a row of numbers along which blocks of it slide, the last one first, each one up to where that behind it stands by then.
type track struct {
	row   []int
	began map[int]int // by length: where the last block of this length stood ahead of sliding
}

// newTrack is a track along which nothing has slid yet.
func newTrack(row []int) *track {
	return &track{row: row, began: map[int]int{}}
}

// far is by how many places the block of n numbers from the place at on slides, if something at the place limit bars its way.
func (t *track) far(at, n, limit int) int {
	place, began := at, t.began[n]
	t.began[n] = at
	for place+n < limit && t.row[place] == t.row[place+n] {
		place++
		if place == began {
			// The block that began here came as far as the limit, or further: all of its way again would be long, where many slide over numbers all alike.
			place = limit - n
		}
	}
	return place - at
}
