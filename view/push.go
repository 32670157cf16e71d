package view

import (
	"sump/api"
	"sump/effect"
	"sump/room"
)

// Try: P22.3.
func (v *View) Try(l []api.Effect) api.Errno {
	if !v.made() {
		return api.ErrNil
	}
	return room.Try(v.st.Geom(), v.tree, l)
}

// Room: P22.3.
func (v *View) Room(n int) bool { return v.made() && v.pages.Room(n) }

// Add: P22.3. All that could fail is asked for ahead of the first change.
func (v *View) Add(l []api.Effect) api.Errno {
	if err := v.Try(l); err != api.OK {
		return err
	}
	if !v.Room(effect.Pages(l)) {
		return api.ErrBusy
	}
	v.take(l, v.pages.Put)
	return api.OK
}

// take has effects happen and wait, one behind the other. Those that write have their bytes put, under the number that put tells.
func (v *View) take(l []api.Effect, put func(b []byte) (int, bool)) {
effects:
	for _, e := range l {
		if e.Kind != api.EfWrite {
			v.happen(e, 0)
			continue effects
		}
		id, _ := put(e.Data)
		v.happen(e, id)
	}
}

// happen lets go of no page of the cache that e has unseen: the effect that wrote it is pending still.
func (v *View) happen(e api.Effect, id int) {
	v.tree.Apply(e, -id)
	v.pending.Add(e, id)
}

// Push: P22.3. The page of the cache can have been seen in one place alone, which is its effect's.
func (v *View) Push() (bool, api.Errno) {
	if !v.made() {
		return false, api.ErrNil
	}
	e, id, is := v.pending.Head()
	if !is {
		return false, api.OK
	}
	e.Data, _ = v.pages.Get(id)
	page, err := v.st.Commit(e)
	if err != api.OK {
		return false, err
	}
	v.tree.Turn(e.Ino, e.Page, -id, page)
	v.pages.Drop(id)
	v.pending.Pop()
	return true, api.OK
}
