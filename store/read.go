package store

import (
	"spence/api"
	"spence/base"
	"spence/cas"
	"spence/code"
	"spence/name"
	"spence/view"
)

// stateOf is the state that rows tell. What can't be a part of one is left out.
func stateOf(d *disk, r rows) state {
	s := state{disk: d, shelf: &cas.Shelf{}}
	// Of quotas that are not right there is no view, which has no users.
	s.view, _ = view.New(r.quotas()...)
	for key, val := range r {
		who, rest := userOf(key)
		switch key[:1] {
		case ofObject:
			s.getObject(r, val)
		case ofRoot:
			p, _ := base.Parse(string(val))
			s.view.Root(who, rest, p)
		case ofNote:
			s.view.Note(who, rest, val)
		}
	}
	return s
}

// quotas are those of users from 1 on, up to the first one that there is not.
func (r rows) quotas() []api.Quota {
	var l []api.Quota
	for {
		val, ok := r[userKey(ofQuota, len(l)+1, "")]
		if !ok {
			return l
		}
		c := code.Over(val)
		l = append(l, api.Quota{Bytes: c.Num(api.MaxNum), Objects: c.Num(api.MaxNum), Roots: c.Num(api.MaxNum), Notes: c.Num(api.MaxNum)})
	}
}

// userOf is whose row a key is, if it is a user's, and the rest of it.
func userOf(key string) (who int, rest string) {
	if len(key) < 2 {
		return 0, ""
	}
	return int(key[1]) - '0', key[2:]
}

// getObject puts an object of a row's value on the shelf, where it lies, for those who hold it.
func (s state) getObject(r rows, val []byte) {
	o, e := name.Get(val)
	if e != api.OK {
		return
	}
	text := textOf(o.Path)
	runs := runsOf(r[ofRuns+text])
	for _, who := range s.users() {
		if _, ok := r[userKey(ofHolder, who, text)]; ok {
			s.shelf.Add(o, who, runs...)
		}
	}
}

// runsOf are the runs of a row's value.
func runsOf(val []byte) []api.Run {
	var l []api.Run
	c := code.Over(val)
	// Each run has a sector at least, so that there are no more of them than an archive has sectors.
	for range c.Num(api.MaxPack / api.Sector) {
		l = append(l, api.Run{At: c.Num(api.MaxNum), Many: c.Num(api.MaxNum)})
	}
	return l
}
