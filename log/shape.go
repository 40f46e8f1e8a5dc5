package log

import (
	"spence/api"
	"spence/dev"
)

const (
	// headAt is the sector of the head.
	headAt = 0
	// logAt is the first sector of the log.
	logAt = 1
)

// isMany says whether a region may have so many sectors.
func isMany(n int) bool {
	return n >= 1 && n <= api.MaxSectors
}

// Right says whether a shape is.
func Right(s api.Shape) bool {
	return isMany(s.Log) && isMany(s.Area) && isMany(s.Data) && dataAt(s)+s.Data <= api.MaxSectors
}

// Sectors is how many a shape has.
func Sectors(s api.Shape) int {
	if !Right(s) {
		return 0
	}
	return dataAt(s) + s.Data
}

// First is the first sector of data.
func First(s api.Shape) int {
	if !Right(s) {
		return 0
	}
	return dataAt(s)
}

// areaAt is the first sector of an area.
func areaAt(s api.Shape, area int) int {
	return logAt + s.Log + area*s.Area
}

// dataAt is the sector behind both areas.
func dataAt(s api.Shape) int {
	return areaAt(s, 2)
}

// fits is the error of a device that is none, or that has not the sectors of a right shape.
func fits(d *dev.Device, s api.Shape) api.Errno {
	sectors := d.Stat().Sectors
	switch {
	// There is no device without sectors.
	case sectors == 0:
		return api.ErrNil
	case !Right(s) || sectors < Sectors(s):
		return api.ErrArg
	}
	return api.OK
}
