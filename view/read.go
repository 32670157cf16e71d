package view

import (
	"sump/api"
	"sump/inode"
)

// Page: P22.1.
func (v *View) Page(ino, i int) ([]byte, api.Errno) {
	n, err := v.file(ino)
	if err != api.OK {
		return nil, err
	}
	return v.seen(n, i)
}

// file tells a file's node.
func (v *View) file(ino int) (api.Node, api.Errno) {
	if !v.made() {
		return api.Node{}, api.ErrNil
	}
	n, there := v.tree.Get(ino)
	if !there {
		return api.Node{}, api.ErrNone
	}
	if n.Kind == api.Dir {
		return api.Node{}, api.ErrIsDir
	}
	return n, api.OK
}

// seen tells a page of a file, as a list of its own. What stands behind the Size was there ahead of a cut, and isn't the file's any more.
func (v *View) seen(n api.Node, i int) ([]byte, api.Errno) {
	if i < 0 || i >= len(n.Pages) {
		return v.bytesOf(0)
	}
	b, err := v.bytesOf(n.Pages[i])
	if err != api.OK {
		return nil, err
	}
	if end := n.Size - i*api.PageBytes; end < api.PageBytes {
		clear(b[end:])
	}
	return b, api.OK
}

// bytesOf tells what a ref has. There always is the page of the cache, since it goes only when its ref is turned to another one.
func (v *View) bytesOf(ref int) ([]byte, api.Errno) {
	if ref > 0 {
		return v.st.Read(ref)
	}
	if ref < 0 {
		b, _ := v.pages.Get(-ref)
		return b, api.OK
	}
	return make([]byte, api.PageBytes), api.OK
}

// Bytes: P22.1. What is left of the file is held against n, since off and n together could wrap round.
func (v *View) Bytes(ino, off, n int) ([]byte, api.Errno) {
	f, err := v.file(ino)
	if err != api.OK {
		return nil, err
	}
	if off < 0 || n < 0 {
		return nil, api.ErrArg
	}
	n = min(n, f.Size-off)
	if n < 1 {
		return nil, api.OK
	}
	return v.row(f, off, off+n)
}

// row tells the bytes from off to end, page by page.
func (v *View) row(f api.Node, off, end int) ([]byte, api.Errno) {
	var l []byte
	for i := off / api.PageBytes; i < inode.Need(end); i++ {
		b, err := v.seen(f, i)
		if err != api.OK {
			return nil, err
		}
		from, to := within(i, off, end)
		l = append(l, b[from:to]...)
	}
	return l, api.OK
}

// within tells which bytes of page i are from off to end.
func within(i, off, end int) (int, int) {
	first := i * api.PageBytes
	return max(off-first, 0), min(end-first, api.PageBytes)
}
