package book

import "earmark/api"

type sector [api.SectorSize]byte

// written is what a Write has written to a sector.
type written struct {
	at   int
	text string
}

// Disk is a disk of sectors whose writes are safe after a Sync.
type Disk struct {
	// safe has what is safe, seen what is there after all writes, and writes those that are not safe.
	safe, seen []sector
	writes     []written
	up         bool
	// armed is how many calls it takes until the power goes off; 0 if the disk is not armed.
	armed int
	// losses is how often the power has gone off: by it a book knows that it has.
	losses int
}

// NewDisk returns a disk of so many sectors of zeros.
func NewDisk(sectors int) (*Disk, api.Errno) {
	if !within(sectors, 1, api.MaxSectors) {
		return nil, api.ErrArg
	}
	return &Disk{safe: make([]sector, sectors), seen: make([]sector, sectors), up: true}, api.OK
}

// Sectors returns how many sectors d has.
func (d *Disk) Sectors() int { return len(d.safe) }

// Up reports whether the power is on.
func (d *Disk) Up() bool { return d.up }

// Read returns a sector.
func (d *Disk) Read(at int) (string, api.Errno) {
	if err := d.check(d.has(at)); err != api.OK {
		return "", err
	}
	return string(d.seen[at][:]), api.OK
}

// Write writes a sector.
func (d *Disk) Write(at int, s string) api.Errno {
	if err := d.check(d.has(at) && len(s) == api.SectorSize); err != api.OK {
		return err
	}
	d.writes = append(d.writes, written{at, s})
	copy(d.seen[at][:], s)
	return d.call()
}

// Sync makes all writes safe.
func (d *Disk) Sync() api.Errno {
	if err := d.check(true); err != api.OK {
		return err
	}
	if err := d.call(); err != api.OK {
		return err
	}
	for _, w := range d.writes {
		d.safe[w.at] = d.seen[w.at]
	}
	d.forget()
	return api.OK
}

// Arm has the power go off at the n-th write or sync from now on.
func (d *Disk) Arm(n int) { d.armed = max(n, 0) }

// Restart turns the power on again: of the writes that were not safe those survive for which the byte of keep is not 0; the last one of them may be torn.
func (d *Disk) Restart(keep string) {
	if d.up {
		d.turnOff()
	}
	keep = keep[:min(len(keep), len(d.writes))]
	last := lastKept(keep)
	for i, w := range d.writes[:last+1] {
		switch {
		case i == last:
			copy(d.safe[w.at][:], w.text[:min(int(keep[i]), api.SectorSize)])
		case keep[i] != 0:
			copy(d.safe[w.at][:], w.text)
		}
	}
	for _, w := range d.writes {
		d.seen[w.at] = d.safe[w.at]
	}
	d.forget()
	d.armed = 0
	d.up = true
}

// lastKept returns the index of the last byte that is not 0; -1 if there is none.
func lastKept(keep string) int {
	at := len(keep) - 1
	for at >= 0 && keep[at] == 0 {
		at--
	}
	return at
}

// check returns ErrDown if the power is off, and then ErrArg unless the arguments are in their ranges.
func (d *Disk) check(inRange bool) api.Errno {
	switch {
	case !d.up:
		return api.ErrDown
	case !inRange:
		return api.ErrArg
	}
	return api.OK
}

func (d *Disk) has(at int) bool { return within(at, 0, d.Sectors()-1) }

// call counts a call of Write or Sync; ErrDown if the power goes off at it.
func (d *Disk) call() api.Errno {
	if d.armed == 0 {
		return api.OK
	}
	d.armed--
	if d.armed > 0 {
		return api.OK
	}
	d.turnOff()
	return api.ErrDown
}

func (d *Disk) turnOff() {
	d.up = false
	d.losses++
}

// forget empties the list of writes that are not safe.
func (d *Disk) forget() {
	clear(d.writes)
	d.writes = d.writes[:0]
}
