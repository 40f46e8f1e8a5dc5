package store

import (
	"bytes"
	"slices"

	"spence/api"
	"spence/blob"
)

// write is an object's bytes that are to be written, and where.
type write struct {
	path  api.Path
	bytes []byte
	runs  []api.Run
}

// turn is deeds under way: the state behind those that are done, and what they write.
type turn struct {
	state
	writes []write
}

// do does deeds one behind the other, up to the first error; it tells the path that each of them tells.
func (t *turn) do(l ...Deed) ([]api.Path, api.Errno) {
	var told []api.Path
	for _, d := range l {
		p, e := t.deed(d)
		if e != api.OK {
			return nil, e
		}
		told = append(told, p)
	}
	return told, api.OK
}

// keep has an object's bytes written behind all deeds.
func (t *turn) keep(p api.Path, b []byte) {
	t.writes = append(t.writes, write{path: p, bytes: b})
}

// read is an object's bytes, as the deeds that are done left them.
func (t *turn) read(p api.Path) ([]byte, api.Errno) {
	for _, w := range slices.Backward(t.writes) {
		if w.path == p {
			return w.bytes, api.OK
		}
	}
	return t.state.read(p)
}

// compare tells ErrHash, if an object has other bytes than these.
func (t *turn) compare(p api.Path, own []byte) api.Errno {
	b, e := t.read(p)
	switch {
	case e != api.OK:
		return e
	case !bytes.Equal(b, own):
		return api.ErrHash
	}
	return api.OK
}

// place finds runs for all that is to be written, apart from one another, and from those that were held ahead of the turn: where a crash undoes it these must be as they were.
func (t *turn) place(held ...api.Run) api.Errno {
	for i, w := range t.writes {
		runs, e := blob.Find(t.shape, blob.Need(len(w.bytes)), held...)
		if e != api.OK {
			return e
		}
		t.writes[i].runs = runs
		held = append(held, runs...)
		// What a later deed let go is not there; what it wrote again is moved again.
		t.shelf.Move(w.path, runs...)
	}
	return api.OK
}

// write writes all that is to be written.
func (t *turn) write() api.Errno {
	for _, w := range t.writes {
		if e := t.put(w.bytes, w.runs...); e != api.OK {
			return e
		}
	}
	return api.OK
}
