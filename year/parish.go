package year

import (
	"earmark/api"
	"earmark/book"
)

// diskSectors is how many sectors the disk of a parish has.
const diskSectors = 512

// parish is a parish of a model: its disk, its book if that is open, and whether it has given out a forged entry.
type parish struct {
	disk *book.Disk
	book *book.Book
	lies bool
}

// newParish returns a parish with an empty book.
func newParish(sticks [][]api.Stick) (parish, api.Errno) {
	disk, err := book.NewDisk(diskSectors)
	if err != api.OK {
		return parish{}, err
	}
	empty, err := book.Make(disk, sticks)
	return parish{disk: disk, book: empty}, err
}

// sticksOf returns the sticks of a seed for some parishes, with so many entries each.
func sticksOf(seed uint64, parishes, entries int) [][]api.Stick {
	sticks := make([][]api.Stick, parishes)
	for p := range sticks {
		for no := range entries {
			stick, _ := book.MakeStick(seed, p, no)
			sticks[p] = append(sticks[p], stick)
		}
	}
	return sticks
}

// add adds an entry to the book.
func (p *parish) add(e api.Entry) api.Errno {
	err := p.book.Add(e)
	p.closeIfDown(err)
	return err
}

// take has the book take entries.
func (p *parish) take(l []api.Entry) (int, api.Errno) {
	n, err := p.book.Take(l)
	p.closeIfDown(err)
	return n, err
}

// closeIfDown closes the book if a call of it has returned that the power is off.
func (p *parish) closeIfDown(err api.Errno) {
	if err == api.ErrDown {
		p.book = nil
	}
}

// reopen turns the power on again, of which the writes that keep says survive, and opens the book.
func (p *parish) reopen(keep string, sticks [][]api.Stick) api.Errno {
	p.disk.Restart(keep)
	opened, err := book.Open(p.disk, sticks)
	p.book = opened
	return err
}

// write has a parish write a body, and returns the name of the entry.
func (y *Year) write(parish int, body string) (name, api.Errno) {
	p := &y.parishes[parish]
	t := p.book.Tally()
	no := t.Have[parish]
	e, err := book.Seal(y.seed, api.Entry{Parish: parish, No: no, Prev: t.Heads[parish], Body: body})
	if err != api.OK {
		return name{}, err
	}
	return name{parish, no}, p.add(e)
}

// forge has another parish take an entry with the number of one that a parish has written, and with another body. It returns how many entries and proofs were new.
func (y *Year) forge(c forgeCommand) (int, api.Errno) {
	own, err := y.parishes[c.p].book.Entries(c.p)
	if err != api.OK {
		return 0, err
	}
	if c.no >= len(own) {
		return 0, api.ErrArg
	}
	e := own[c.no]
	e.Body = bodyOf(y.day, c.form)
	if e, err = book.Seal(y.seed, e); err != api.OK {
		return 0, err
	}
	y.parishes[c.p].lies = true
	return y.parishes[c.q].take([]api.Entry{e})
}

// send has the book of a parish take what that of another one has and it has not, and then each proof. It returns how many entries and proofs were new.
func (y *Year) send(from, to int) (int, api.Errno) {
	a, b := &y.parishes[from], &y.parishes[to]
	wanted, err := a.book.Wanted(b.book.Tally())
	if err != api.OK {
		return 0, err
	}
	lists := [][]api.Entry{wanted}
	for _, p := range a.book.Proofs() {
		lists = append(lists, []api.Entry{p.A, p.B})
	}
	taken := 0
	for _, l := range lists {
		n, err := b.take(l)
		if err != api.OK {
			return 0, err
		}
		taken += n
	}
	return taken, api.OK
}

// sendAll sends between all parishes whose books are open until nothing is new, and returns how many entries and proofs were new.
func (y *Year) sendAll() (int, api.Errno) {
	taken := 0
again:
	n, err := y.sendRound()
	if err != api.OK {
		return 0, err
	}
	taken += n
	if n > 0 {
		goto again
	}
	return taken, api.OK
}

// sendRound sends once from each parish whose book is open to each other one.
func (y *Year) sendRound() (int, api.Errno) {
	taken := 0
	for from := range y.parishes {
		for to := range y.parishes {
			if from == to || !y.isOpen(from) || !y.isOpen(to) {
				continue
			}
			n, err := y.send(from, to)
			if err != api.OK {
				return 0, err
			}
			taken += n
		}
	}
	return taken, api.OK
}
