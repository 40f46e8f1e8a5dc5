package table

import (
	"bytes"
	"iter"
	"slices"
	"strings"

	"spence/api"
	"spence/code"
)

// rows are values by their keys.
type rows struct {
	vals map[string][]byte
	// size is how many bytes the rows have, without their number: each Commit asks for it.
	size int
}

// isKey says whether a text may be a row's key.
func isKey(key string) bool {
	return len(key) >= 1 && len(key) <= api.MaxKey
}

// isVal says whether bytes may be a row's value.
func isVal(val []byte) bool {
	return len(val) <= api.MaxVal
}

// rowLength is how many bytes a row has in a table's.
func rowLength(key string, val []byte) int {
	return textLength([]byte(key)) + textLength(val)
}

// many is how many rows there are.
func (r *rows) many() int {
	return len(r.vals)
}

// length is how many bytes the table has.
func (r *rows) length() int {
	b, _ := (&code.Maker{}).Num(r.many()).Done()
	return len(b) + r.size
}

// get is a key's value, if it has one.
func (r *rows) get(key string) ([]byte, bool) {
	val, ok := r.vals[key]
	return val, ok
}

// put puts a row that is not there.
func (r *rows) put(key string, val []byte) {
	r.vals[key] = bytes.Clone(val)
	r.size += rowLength(key, val)
}

// drop takes a row away, if it is there.
func (r *rows) drop(key string) {
	if val, ok := r.vals[key]; ok {
		r.size -= rowLength(key, val)
		delete(r.vals, key)
	}
}

// now is the change by which a key has what it has.
func (r *rows) now(key string) api.Change {
	val, ok := r.get(key)
	return api.Change{Key: key, Val: val, Gone: !ok}
}

// do does changes, in order, and tells those that undo them.
func (r *rows) do(l []api.Change) (back []api.Change) {
	for _, x := range l {
		back = append(back, r.now(x.Key))
		r.drop(x.Key)
		if !x.Gone {
			r.put(x.Key, x.Val)
		}
	}
	slices.Reverse(back)
	return back
}

// keys are those that begin so, in order.
func (r *rows) keys(prefix string) []string {
	var l []string
	for key := range r.vals {
		if strings.HasPrefix(key, prefix) {
			l = append(l, key)
		}
	}
	slices.Sort(l)
	return l
}

// ordered goes through the rows whose keys begin so, in order by their keys.
func (r *rows) ordered(prefix string) iter.Seq2[string, []byte] {
	return func(yield func(string, []byte) bool) {
		for _, key := range r.keys(prefix) {
			if !yield(key, r.vals[key]) {
				return
			}
		}
	}
}

// bytes are the table's.
func (r *rows) bytes() []byte {
	m := (&code.Maker{}).Num(r.many())
	for key, val := range r.ordered("") {
		m.Text([]byte(key), val)
	}
	b, _ := m.Done()
	return b
}

// tableOf are the rows of the table whose bytes these are, if they are a table's; without bytes there are no rows.
func tableOf(b []byte) (rows, bool) {
	r := rows{vals: map[string][]byte{}}
	if len(b) == 0 {
		return r, true
	}
	c := code.Over(b)
	last := ""
	for range c.Num(api.MaxRows) {
		key, val := string(c.Text(api.MaxKey)), c.Text(api.MaxVal)
		// A broken cursor's key, of no bytes, is behind no other one, either.
		if key <= last {
			return rows{}, false
		}
		r.put(key, val)
		last = key
	}
	if c.End() != api.OK {
		return rows{}, false
	}
	return r, true
}
