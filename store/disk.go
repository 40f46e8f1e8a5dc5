package store

import (
	"spence/api"
	"spence/blob"
	"spence/dev"
)

// disk is a device, how it is laid, and whether it told an error, from which on it is down.
type disk struct {
	device *dev.Device
	shape  api.Shape
	down   bool
}

// get is so many bytes of runs.
func (d *disk) get(many int, runs ...api.Run) ([]byte, api.Errno) {
	b, e := blob.Read(d.device, d.shape, many, runs...)
	d.heed(e)
	return b, e
}

// put writes bytes to runs, and keeps them.
func (d *disk) put(b []byte, runs ...api.Run) api.Errno {
	e := blob.Write(d.device, d.shape, b, runs...)
	d.heed(e)
	return e
}

// heed takes the disk down where its device told an error.
func (d *disk) heed(e api.Errno) {
	if e != api.OK {
		d.down = true
	}
}
