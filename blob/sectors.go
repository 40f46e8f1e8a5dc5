package blob

import (
	"iter"

	"spence/api"
	"spence/log"
)

// wordBits is how many sectors a word tells of.
const wordBits = 64

// taken are the sectors that are held: words of bits, by their places; what has no word is free.
type taken map[int]uint64

// has says whether a sector is held.
func (t taken) has(at int) bool {
	return t[at/wordBits]>>(at%wordBits)&1 == 1
}

// hold takes a sector, and says whether it was free.
func (t taken) hold(at int) bool {
	if t.has(at) {
		return false
	}
	t[at/wordBits] |= 1 << (at % wordBits)
	return true
}

// free goes through the sectors of data that are not held, in order.
func (t taken) free(data int) iter.Seq[int] {
	return func(yield func(int) bool) {
		for at := range data {
			if !t.has(at) && !yield(at) {
				return
			}
		}
	}
}

// sectors goes through those of runs, run by run.
func sectors(runs ...api.Run) iter.Seq[int] {
	return func(yield func(int) bool) {
		for _, r := range runs {
			for i := range r.Many {
				if !yield(r.At + i) {
					return
				}
			}
		}
	}
}

// isRun says whether a run is right by a shape that is.
func isRun(s api.Shape, r api.Run) bool {
	// A sum of At and Many might turn round.
	return r.At >= 0 && r.Many >= 1 && r.Many <= s.Data-r.At
}

// take takes the sectors of runs, and says whether the shape and the runs are right, and apart.
func take(s api.Shape, runs ...api.Run) (taken, bool) {
	if !log.Right(s) {
		return nil, false
	}
	t := taken{}
	for _, r := range runs {
		if !isRun(s, r) {
			return nil, false
		}
		for at := range sectors(r) {
			if !t.hold(at) {
				return nil, false
			}
		}
	}
	return t, true
}

// count is how many sectors runs have that are apart.
func count(runs ...api.Run) int {
	many := 0
	for _, r := range runs {
		many += r.Many
	}
	return many
}

// joined are runs with a sector behind them: the last run goes on, if it ends there.
func joined(l []api.Run, at int) []api.Run {
	if last := len(l) - 1; last >= 0 && l[last].At+l[last].Many == at {
		l[last].Many++
		return l
	}
	return append(l, api.Run{At: at, Many: 1})
}
