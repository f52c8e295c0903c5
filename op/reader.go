package op

import (
	"daguerre/api"
	"daguerre/num"
)

// reader reads one part behind the other. It keeps to its first error, since what stands ahead is asked first.
type reader struct {
	rest []byte
	err  api.Errno
}

func (r *reader) number() int {
	if r.err != api.OK {
		return 0
	}
	n, size, err := num.Get(r.rest)
	r.rest, r.err = r.rest[size:], err
	return int(n)
}

func (r *reader) text() string {
	if r.err != api.OK {
		return ""
	}
	s, size, err := num.GetText(r.rest)
	r.rest, r.err = r.rest[size:], err
	return s
}

// ask takes the answer of whether the part that was just read may be.
func (r *reader) ask(may bool) {
	if r.err == api.OK && !may {
		r.err = api.ErrForm
	}
}
