package store

import (
	"bytes"
	"slices"
	"strconv"
	"strings"

	"spence/api"
	"spence/base"
	"spence/cas"
	"spence/code"
	"spence/name"
	"spence/table"
)

// What keys of rows begin with.
const (
	ofQuota  = "q"
	ofObject = "o"
	ofRuns   = "p"
	ofHolder = "h"
	ofRoot   = "r"
	ofNote   = "n"
)

// rows are values by their keys.
type rows map[string][]byte

// rowsIn are all of a table.
func rowsIn(t *table.Table) rows {
	r := rows{}
	for _, x := range t.Rows("") {
		r[x.Key] = x.Val
	}
	return r
}

// userKey is the key of a user's row, of a rest of its own.
func userKey(kind string, who int, rest string) string {
	return kind + strconv.Itoa(who) + rest
}

// textOf is the text of a path that has a name.
func textOf(p api.Path) string {
	text, _ := base.Path(p)
	return text
}

// numbers are the bytes of numbers, one behind the other.
func numbers(l ...int) []byte {
	b, _ := (&code.Maker{}).Num(l...).Done()
	return b
}

// rows are those of a state.
func (s state) rows() rows {
	r := rows{}
	r.putQuotas(s.quotas()...)
	for _, x := range s.items() {
		r.putItem(x)
	}
	for _, who := range s.users() {
		for _, root := range s.view.Roots(who) {
			r[userKey(ofRoot, who, root.Name)] = []byte(textOf(root.Path))
		}
		for _, note := range s.view.Notes(who, "") {
			r[userKey(ofNote, who, note.Key)] = note.Val
		}
	}
	return r
}

// putQuotas puts users' quotas, the first one's first.
func (r rows) putQuotas(quotas ...api.Quota) {
	for i, q := range quotas {
		r[userKey(ofQuota, i+1, "")] = numbers(q.Bytes, q.Objects, q.Roots, q.Notes)
	}
}

// putItem puts an object, where it lies, and who holds it.
func (r rows) putItem(x cas.Item) {
	text := textOf(x.Object.Path)
	// What is on a shelf is right, and so it is put.
	r[ofObject+text], _ = name.Put(x.Object)
	runs := []int{len(x.Runs)}
	for _, run := range x.Runs {
		runs = append(runs, run.At, run.Many)
	}
	r[ofRuns+text] = numbers(runs...)
	for _, who := range x.Holders {
		r[userKey(ofHolder, who, text)] = nil
	}
}

// changes are those that make rows that were these, in order by their keys.
func (r rows) changes(was rows) []api.Change {
	var l []api.Change
	for key, val := range r {
		if old, ok := was[key]; !ok || !bytes.Equal(old, val) {
			l = append(l, api.Change{Key: key, Val: val})
		}
	}
	for key := range was {
		if _, ok := r[key]; !ok {
			l = append(l, api.Change{Key: key, Gone: true})
		}
	}
	slices.SortFunc(l, func(a, b api.Change) int { return strings.Compare(a.Key, b.Key) })
	return l
}
