package store

import (
	"sump/api"
	"sump/bank"
	"sump/geom"
	"sump/record"
	"sump/room"
	"sump/state"
	"sump/words"
)

// commit is a Commit that goes on. All that changes but the device does so in next, which is the store once all is done; its tree stays the one ahead of e as long, since a Check on the way has that.
type commit struct {
	next  Store
	e     api.Effect
	page  int
	tree  *state.State
	gone  []int
	entry []uint64
}

// Commit: P19.2. The words of the log come last of all, so that all that they tell of is there when they count.
func (s *Store) Commit(e api.Effect) (int, api.Errno) {
	if !s.made() {
		return 0, api.ErrNil
	}
	c := &commit{next: *s, e: e}
	c.next.pages = s.pages.Copy()
	err := inTurn(c.take, c.apply, c.fit, c.lay, c.encode, c.makeRoom, c.append, c.give)
	if err != api.OK {
		return 0, err
	}
	*s = c.next
	return c.page, api.OK
}

func (c *commit) writes() bool { return c.e.Kind == api.EfWrite }

// take comes ahead of what e may be refused for, since a write is tried with its page. There always is one: what Fits leaves one free.
func (c *commit) take() api.Errno {
	if c.writes() {
		c.page, _ = c.next.pages.Take()
	}
	return api.OK
}

func (c *commit) apply() (err api.Errno) {
	c.tree = c.next.tree.Copy()
	c.gone, err = c.tree.Apply(c.e, c.page)
	return err
}

func (c *commit) fit() api.Errno {
	if !room.Fits(c.next.g, c.tree) {
		return api.ErrSpace
	}
	return api.OK
}

// lay has the bytes stay in a page that is free till now, so that nothing is lost if power fails.
func (c *commit) lay() api.Errno {
	if !c.writes() {
		return api.OK
	}
	return bank.Lay(c.next.d, geom.PageAt(c.next.g, c.page), words.Pack(c.e.Data))
}

func (c *commit) encode() (err api.Errno) {
	c.entry, err = record.Put(c.e, c.page)
	return err
}

// makeRoom begins a new log, if the words don't go into this one.
func (c *commit) makeRoom() api.Errno {
	free, err := bank.Free(c.next.d, c.next.g, c.next.bank)
	if err != api.OK || len(c.entry) <= free {
		return err
	}
	return c.next.Check()
}

func (c *commit) append() api.Errno {
	return bank.Append(c.next.d, c.next.g, c.next.bank, c.entry)
}

// give lets others have the pages that went only now, when e stays: till then power could fail, and they would be seen again.
func (c *commit) give() api.Errno {
	c.next.tree = c.tree
	for _, ref := range c.gone {
		c.next.pages.Give(ref)
	}
	return api.OK
}
