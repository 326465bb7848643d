package btree

import "docket/api"

// trouble is what is given up with, deep inside of a tree.
type trouble struct {
	err     api.Errno
	ofStore bool // the store has answered it
}

// attempt does some work, and tells what that has given up with.
func attempt(work func()) (met trouble) {
	defer func() {
		switch with := recover().(type) {
		case nil:
		case trouble:
			met = with
		default:
			// A store is anybody's, and its panic isn't to be its tree's.
			met = trouble{err: api.ErrBad, ofStore: true}
		}
	}()
	work()
	return met
}

// heed gives up where the store has answered an error.
func heed(err api.Errno) {
	if err != api.OK {
		panic(trouble{err: err, ofStore: true})
	}
}
