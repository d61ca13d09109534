package book

import (
	"slices"
	"strings"

	"earmark/api"
)

// log is what a collection has of a parish: the first entries of its log, and a proof if it is convicted.
type log struct {
	entries   []api.Entry
	proof     api.Proof
	convicted bool
}

// candidate is a sealed entry that a log may take, with its encoding and its digest.
type candidate struct {
	entry    api.Entry
	encoding string
	digest   int
}

func candidateOf(e api.Entry) candidate { return candidate{e, encodingOf(e), digestOf(e)} }

// leastOf returns the candidate of l, which is not empty, that is least.
func leastOf(l []candidate) candidate {
	return slices.MinFunc(l, func(a, b candidate) int { return strings.Compare(a.encoding, b.encoding) })
}

// head returns the hash of the last entry; 0 if there is none.
func (g *log) head() uint64 {
	if len(g.entries) == 0 {
		return 0
	}
	return hashOf(g.entries[len(g.entries)-1])
}

// end returns the number than which those of all entries are less.
func (g *log) end() int {
	if g.convicted {
		return g.proof.A.No
	}
	return api.MaxEntries
}

// isNext reports whether a sealed entry of the parish can be added.
func (g *log) isNext(e api.Entry) bool {
	return e.No == len(g.entries) && e.No < g.end() && e.Prev == g.head()
}

// next returns the least candidate that can be added, and whether there is one. The candidates are given by number.
func (g *log) next(l [][]candidate) (api.Entry, bool) {
	no := len(g.entries)
	if no >= g.end() {
		return api.Entry{}, false
	}
	head := g.head()
	var fitting []candidate
	for _, c := range l[no] {
		if c.entry.Prev == head {
			fitting = append(fitting, c)
		}
	}
	if len(fitting) == 0 {
		return api.Entry{}, false
	}
	return leastOf(fitting).entry, true
}

// conviction returns the proof that follows from candidates, by number, and the entries of the log, and whether there is one with a lesser number than the present proof. Two entries of the log have different numbers; so only numbers with candidates matter.
func (g *log) conviction(l [][]candidate) (api.Proof, bool) {
	for no, considered := range l[:g.end()] {
		if len(considered) == 0 {
			continue
		}
		if no < len(g.entries) {
			considered = append(considered, candidateOf(g.entries[no]))
		}
		if p, ok := leastProof(considered); ok {
			return p, true
		}
	}
	return api.Proof{}, false
}

// leastProof returns the least proof from entries with one number, and whether there is one. If any two of them have different digests, the least one and another one do.
func leastProof(l []candidate) (api.Proof, bool) {
	a := leastOf(l)
	var others []candidate
	for _, c := range l {
		if c.digest != a.digest {
			others = append(others, c)
		}
	}
	if len(others) == 0 {
		return api.Proof{}, false
	}
	return api.Proof{A: a.entry, B: leastOf(others).entry}, true
}

// take takes candidates of the parish, by number: put changes the log by the record of a proof and of each entry.
func (g *log) take(l [][]candidate, put func(record) api.Errno) api.Errno {
	if p, ok := g.conviction(l); ok {
		if err := put(record{kind: proofRecord, proof: p}); err != api.OK {
			return err
		}
	}
	for {
		e, ok := g.next(l)
		if !ok {
			return api.OK
		}
		if err := put(record{kind: entryRecord, entry: e}); err != api.OK {
			return err
		}
	}
}

// add adds the next entry.
func (g *log) add(e api.Entry) { g.entries = append(g.entries, e) }

// convict replaces the proof, and removes the entries that count no more.
func (g *log) convict(p api.Proof) {
	g.proof, g.convicted = p, true
	if no := p.A.No; no < len(g.entries) {
		g.entries = slices.Delete(g.entries, no, len(g.entries))
	}
}

// behind returns the entries that are missing where the first ones are there up to one with the hash head; all of them if the log has other ones there.
func (g *log) behind(have int, head uint64) []api.Entry {
	if have <= len(g.entries) && (have == 0 || hashOf(g.entries[have-1]) == head) {
		return g.entries[have:]
	}
	return g.entries
}
