package blob

import "docket/api"

// trouble is what is given up with, deep inside.
type trouble struct {
	err api.Errno
}

// attempt does some work, and tells the error that has ended it.
func attempt(work func()) (err api.Errno) {
	defer func() {
		switch with := recover().(type) {
		case nil:
		case trouble:
			err = with.err
		default:
			// A store is anybody's, and its panic isn't to be that of whoever has asked for a blob.
			err = api.ErrBad
		}
	}()
	work()
	return api.OK
}

// heed gives up where there is an error.
func heed(err api.Errno) {
	if err != api.OK {
		panic(trouble{err})
	}
}
