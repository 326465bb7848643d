package ask

import (
	"docket/api"
	"docket/xml"
)

// scope tells whether the lock that an info asks for is exclusive, if the info says which kind it is.
func scope(info api.Node) (exclusive, good bool) {
	within, found := only(info, "lockscope")
	if !found {
		return false, false
	}
	kind, found := only(within, "exclusive", "shared")
	return kind.Name == "exclusive", found
}

// isOfWrites tells whether an info asks for a lock of writes.
func isOfWrites(info api.Node) bool {
	kind, found := only(info, "locktype")
	return found && len(named(kind, "write")) > 0
}

// owner tells the form of an info's owner, if it has one.
func owner(info api.Node) (string, api.Errno) {
	all := named(info, "owner")
	switch len(all) {
	case 0:
		return "", api.OK
	case 1:
		return shortForm(all[0])
	}
	return "", api.ErrAsk
}

func shortForm(n api.Node) (string, api.Errno) {
	form, err := xml.Write(n)
	if err == api.OK && len(form) <= mostOwner {
		return form, api.OK
	}
	// An element of a tree that was read is good, so the form can't be refused but for its length.
	return "", api.ErrLong
}
