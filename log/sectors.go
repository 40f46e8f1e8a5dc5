package log

import (
	"maps"
	"slices"

	"spence/api"
	"spence/code"
	"spence/dev"
)

// read is so many bytes, from the begin of a sector on.
func read(d *dev.Device, at, many int) ([]byte, api.Errno) {
	var b []byte
	for ; len(b) < many; at++ {
		s, e := d.Read(at)
		if e != api.OK {
			return nil, e
		}
		b = append(b, s[:min(len(s), many-len(b))]...)
	}
	return b, api.OK
}

// records are those that bytes are; ErrShape, if they are none.
func records(b []byte) ([][]byte, api.Errno) {
	var l [][]byte
	c := code.Over(b)
	for c.Left() > 0 {
		l = append(l, c.Text(len(b)))
	}
	if c.End() != api.OK {
		return nil, api.ErrShape
	}
	return l, api.OK
}

// laid are the sectors in which bytes come to lie, from a byte of the device on, by their places: what is seen of them, with these bytes in it.
func laid(d *dev.Device, from int, b []byte) (map[int][]byte, api.Errno) {
	sectors := map[int][]byte{}
	for len(b) > 0 {
		at, in := from/api.Sector, from%api.Sector
		s, e := d.Read(at)
		if e != api.OK {
			return nil, e
		}
		many := copy(s[in:], b)
		sectors[at] = s
		from += many
		b = b[many:]
	}
	return sectors, api.OK
}

// write writes bytes, from a byte of the device on.
func write(d *dev.Device, from int, b []byte) api.Errno {
	sectors, e := laid(d, from, b)
	if e != api.OK {
		return e
	}
	for _, at := range slices.Sorted(maps.Keys(sectors)) {
		if e := d.Write(at, sectors[at]); e != api.OK {
			return e
		}
	}
	return api.OK
}

// tell writes a head, and keeps it.
func tell(d *dev.Device, h head) api.Errno {
	if e := d.Write(headAt, h.bytes()); e != api.OK {
		return e
	}
	return d.Flush()
}
