package view

import (
	"sump/api"
	"sump/inode"
)

// Write: P22.2.
func (v *View) Write(ino, off int, b []byte) ([]api.Effect, api.Errno) {
	n, err := v.readable(ino)
	if err != api.OK {
		return nil, err
	}
	if off < 0 {
		return nil, api.ErrArg
	}
	if off > api.MaxSize-len(b) {
		return nil, api.ErrBig
	}
	if len(b) == 0 {
		return nil, api.OK
	}
	return v.writes(n, off, b)
}

// Trunc: P22.2.
func (v *View) Trunc(ino, size int) ([]api.Effect, api.Errno) {
	n, err := v.readable(ino)
	if err != api.OK {
		return nil, err
	}
	if size < 0 || size > api.MaxSize {
		return nil, api.ErrBig
	}
	if size == n.Size {
		return nil, api.OK
	}
	if i, is := begun(n); is && size > n.Size {
		return v.over(nil, n, api.Effect{Page: i, Size: size}, 0, nil)
	}
	return []api.Effect{{Kind: api.EfTrunc, Ino: n.Ino, Size: size}}, api.OK
}

// readable tells a file's node, if its first page can be read, as the chapter asks of what is to be changed.
func (v *View) readable(ino int) (api.Node, api.Errno) {
	n, err := v.file(ino)
	if err != api.OK {
		return api.Node{}, err
	}
	if _, err := v.seen(n, 0); err != api.OK {
		return api.Node{}, err
	}
	return n, api.OK
}

// begun tells the last page, and whether anything may stand there behind the Size: that would be seen, if the file grew over it.
func begun(n api.Node) (int, bool) {
	i := n.Size / api.PageBytes
	return i, n.Size%api.PageBytes != 0 && n.Pages[i] != 0
}

// writes tells the effects of b at off, of which there is a byte at least.
func (v *View) writes(n api.Node, off int, b []byte) (l []api.Effect, err api.Errno) {
	if i, is := begun(n); is && off > n.Size && off/api.PageBytes != i {
		l, err = v.over(l, n, api.Effect{Page: i, Size: n.Size}, 0, nil)
	}
	end := off + len(b)
	for i := off / api.PageBytes; i < inode.Need(end) && err == api.OK; i++ {
		from, to := within(i, off, end)
		at := i*api.PageBytes - off
		e := api.Effect{Page: i, Size: max(n.Size, i*api.PageBytes+to)}
		l, err = v.over(l, n, e, from, b[at+from:at+to])
	}
	return l, err
}

// over tells one effect more: the write of e's Page as it is seen, with a part of it written over. Behind an error there are none at all.
func (v *View) over(l []api.Effect, n api.Node, e api.Effect, from int, part []byte) ([]api.Effect, api.Errno) {
	data, err := v.seen(n, e.Page)
	if err != api.OK {
		return nil, err
	}
	copy(data[from:], part)
	e.Kind, e.Ino, e.Data = api.EfWrite, n.Ino, data
	return append(l, e), api.OK
}
