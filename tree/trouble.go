package tree

import (
	"docket/api"
	"docket/uri"
)

// trouble is what is given up with, deep inside.
type trouble struct {
	err api.Errno
}

// attempt does a call's work, if the paths that the call takes are good, and tells the error that has ended it.
func (t *Tree) attempt(work func(), paths ...[]string) (err api.Errno) {
	if t == nil || t.tx == nil {
		return api.ErrNone
	}
	for _, path := range paths {
		if !uri.Good(path) {
			return api.ErrArg
		}
	}
	defer func() {
		switch with := recover().(type) {
		case nil:
		case trouble:
			err = with.err
		default:
			// Nothing of anybody else's is called in here: that is a fault of this package, and nobody else's.
			panic(with)
		}
	}()
	work()
	return api.OK
}

// demand gives up with an error where something doesn't hold.
func demand(holds bool, err api.Errno) {
	if !holds {
		panic(trouble{err})
	}
}

// heed gives up where the transaction has answered an error.
func heed(err api.Errno) {
	demand(err == api.OK, err)
}
