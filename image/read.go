package image

import (
	"math"

	"sump/api"
	"sump/words"
)

const (
	// mostNodes are the nodes that are read, at most.
	mostNodes = 1 << 16
	// mostNames are the names of one node that are read, at most.
	mostNames = 1 << 16
)

// reader goes through a picture's words, as a words.Reader does, but reads numbers above 2^62, too: nothing bounds Last and refs of a state that is Right, and P18.3 asks for them.
// A bad one has no words left, so that only what is left need be asked for.
type reader struct {
	left []uint64
	bad  bool
}

// spoil makes it bad for good.
func (r *reader) spoil() { *r = reader{bad: true} }

// took tells whether all words were read, and all could be.
func (r *reader) took() bool { return !r.bad && len(r.left) == 0 }

// num tells the next number. Those below 0 stand above the greatest, and can't be in a picture that is read.
func (r *reader) num() int {
	if len(r.left) == 0 || r.left[0] > math.MaxInt {
		r.spoil()
		return 0
	}
	n := int(r.left[0])
	r.left = r.left[1:]
	return n
}

// upTo tells the next number, that is at most most.
func (r *reader) upTo(most int) int {
	n := r.num()
	if n > most {
		r.spoil()
		return 0
	}
	return n
}

// text tells the next name, whose words must be just those that it would be written as.
func (r *reader) text() string {
	n := r.upTo(api.MaxName)
	need := words.Need(n)
	if need > len(r.left) {
		r.spoil()
		return ""
	}
	b, is := words.Unpack(r.left[:need], n)
	if !is {
		r.spoil()
		return ""
	}
	r.left = r.left[need:]
	return string(b)
}

// row reads so many, one by one; none behind what can't be read, since how many there are is only claimed.
func row[T any](r *reader, many int, one func() T) []T {
	var l []T
	for range many {
		if r.bad {
			return nil
		}
		l = append(l, one())
	}
	return l
}

func (r *reader) entry() api.Entry {
	name := r.text()
	return api.Entry{Name: name, Ino: r.num()}
}

func (r *reader) node() api.Node {
	var n api.Node
	for _, field := range []*int{&n.Ino, &n.Kind, &n.Links, &n.Size, &n.Up} {
		*field = r.num()
	}
	pages, names := r.upTo(api.MaxFilePages), r.upTo(mostNames)
	n.Pages = row(r, pages, r.num)
	n.Names = row(r, names, r.entry)
	return n
}
