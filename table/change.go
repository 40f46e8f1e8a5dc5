package table

import (
	"spence/api"
	"spence/code"
)

const (
	// stays is what stands ahead of a change that has a value.
	stays = 0
	// goes is what stands ahead of one that has none.
	goes = 1
)

// isWrong says whether a change is not right.
func isWrong(x api.Change) bool {
	return !isKey(x.Key) || !isVal(x.Val) || x.Gone && len(x.Val) > 0
}

// textLength is how many bytes a text's are.
func textLength(text []byte) int {
	b, _ := (&code.Maker{}).Num(len(text)).Done()
	return len(b) + len(text)
}

// changesBytes are those of changes that are right.
func changesBytes(l []api.Change) []byte {
	m := (&code.Maker{}).Num(len(l))
	for _, x := range l {
		if x.Gone {
			m.Num(goes).Text([]byte(x.Key))
		} else {
			m.Num(stays).Text([]byte(x.Key), x.Val)
		}
	}
	b, _ := m.Done()
	return b
}

// changeAt gets a change, right or not.
func changeAt(c *code.Cursor) api.Change {
	gone := c.Num(goes) == goes
	key := string(c.Text(api.MaxKey))
	if gone {
		return api.Change{Key: key, Gone: true}
	}
	return api.Change{Key: key, Val: c.Text(api.MaxVal)}
}

// changesOf are the right changes whose bytes these are, if they are such.
func changesOf(b []byte) ([]api.Change, bool) {
	var l []api.Change
	c := code.Over(b)
	for range c.Num(api.MaxNum) {
		x := changeAt(c)
		// A broken cursor's change, without a key, is wrong, too.
		if isWrong(x) {
			return nil, false
		}
		l = append(l, x)
	}
	if c.End() != api.OK {
		return nil, false
	}
	return l, true
}
