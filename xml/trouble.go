package xml

import "docket/api"

// trouble is what is given up with, deep inside.
type trouble struct {
	err api.Errno
}

// attempt does some work, and tells the error that has ended it.
func attempt(work func()) (err api.Errno) {
	defer func() {
		switch with := recover().(type) {
		case nil:
		case trouble:
			err = with.err
		default:
			// Nothing of anybody else's is called in here: that is a fault of this package, and no fault of the text.
			panic(with)
		}
	}()
	work()
	return api.OK
}

// demand gives up with an error where something doesn't hold.
func demand(holds bool, err api.Errno) {
	if !holds {
		panic(trouble{err})
	}
}
