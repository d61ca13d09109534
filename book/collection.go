package book

import "earmark/api"

// collection is what can be known of the logs of all parishes that have sticks.
type collection struct {
	sticks [][]api.Stick
	logs   []log
}

// newCollection returns an empty collection for valid sticks, which it keeps.
func newCollection(sticks [][]api.Stick) collection {
	return collection{sticks, make([]log, len(sticks))}
}

// take takes a list of entries. Each new proof and entry is first passed to write, as a record; an error of it ends the taking. It returns how many there were.
func (c *collection) take(l []api.Entry, write func(record) api.Errno) (int, api.Errno) {
	taken := 0
	put := func(r record) api.Errno {
		err := write(r)
		if err == api.OK {
			c.put(r)
			taken++
		}
		return err
	}
	for parish, candidates := range c.candidates(l) {
		if err := c.logs[parish].take(candidates, put); err != api.OK {
			return 0, err
		}
	}
	return taken, api.OK
}

// candidates returns the sealed entries of l, by parish and number.
func (c *collection) candidates(l []api.Entry) [][][]candidate {
	all := make([][][]candidate, len(c.logs))
	for parish := range all {
		all[parish] = make([][]candidate, api.MaxEntries)
	}
	for _, e := range l {
		if checkSealed(c.sticks, e) == api.OK {
			at := &all[e.Parish][e.No]
			*at = append(*at, candidateOf(e))
		}
	}
	return all
}

// permits reports whether the record of an entry or a proof can follow those of the collection.
func (c *collection) permits(r record) bool {
	switch r.kind {
	case entryRecord:
		return checkSealed(c.sticks, r.entry) == api.OK && c.logs[r.entry.Parish].isNext(r.entry)
	case proofRecord:
		a := r.proof.A
		return checkSealed(c.sticks, a) == api.OK && CheckProof(c.sticks[a.Parish][a.No], r.proof) == api.OK && a.No < c.logs[a.Parish].end()
	}
	return false
}

// put changes the collection by a record that it permits.
func (c *collection) put(r record) {
	switch r.kind {
	case entryRecord:
		c.logs[r.entry.Parish].add(r.entry)
	case proofRecord:
		c.logs[r.proof.A.Parish].convict(r.proof)
	}
}

// all returns all entries, by parish and number.
func (c *collection) all() []api.Entry {
	var l []api.Entry
	for _, g := range c.logs {
		l = append(l, g.entries...)
	}
	return l
}

// proofs returns all proofs, by parish.
func (c *collection) proofs() []api.Proof {
	var l []api.Proof
	for _, g := range c.logs {
		if g.convicted {
			l = append(l, g.proof)
		}
	}
	return l
}
