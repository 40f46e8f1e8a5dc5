package view

import (
	"spence/api"
	"spence/blob"
	"spence/log"
)

const (
	mostBytes = api.MaxObjects * api.MaxPack
	mostRoots = 100
	mostNotes = 400
	// longestKey leaves room ahead of a note's key for what the store's row has there, too.
	longestKey = api.MaxKey - 2
)

// What the store's rows need, in bytes of the area: for each object, root, note, for each user, and for all together.
const (
	objectRows = 2400
	rootRow    = 100
	noteRow    = 2130
	userRow    = 100
	allRows    = 100
)

// spareData is the sectors of data that there are besides what all users' bytes may fill.
const spareData = 64

// Right says whether a quota is.
func Right(q api.Quota) bool {
	return within(q.Objects, api.MaxObjects) && within(q.Bytes, mostBytes) && within(q.Roots, mostRoots) && within(q.Notes, mostNotes)
}

// Fits says whether quotas fit a shape.
func Fits(s api.Shape, quotas ...api.Quota) api.Errno {
	switch {
	case !log.Right(s) || !areRight(quotas...):
		return api.ErrArg
	case s.Area < blob.Need(areaBytes(quotas...)) || s.Data < dataSectors(quotas...):
		return api.ErrConfig
	}
	return api.OK
}

// areRight says whether there are users of these quotas.
func areRight(quotas ...api.Quota) bool {
	for _, q := range quotas {
		if !Right(q) {
			return false
		}
	}
	return 1 <= len(quotas) && len(quotas) <= api.MaxUsers
}

// areaBytes is how many bytes of the area quotas need at most.
func areaBytes(quotas ...api.Quota) int {
	many := allRows
	for _, q := range quotas {
		many += q.Objects*objectRows + q.Roots*rootRow + q.Notes*noteRow + userRow
	}
	return many
}

// dataSectors is how many sectors of data quotas need at most. An object fills its last sector in part, so it may need one more than its bytes are.
func dataSectors(quotas ...api.Quota) int {
	many := spareData
	for _, q := range quotas {
		many += q.Bytes/api.Sector + q.Objects
	}
	return many
}

// within says whether a number is from 0 to most.
func within(n, most int) bool {
	return 0 <= n && n <= most
}
