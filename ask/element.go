package ask

import (
	"slices"

	"docket/api"
	"docket/xml"
)

// dav is the namespace of all elements that count by their names.
const dav = "DAV:"

// isOf tells whether a node is a D-element of one of some names.
func isOf(n api.Node, names []string) bool {
	return n.Space == dav && slices.Contains(names, n.Name)
}

// read reads a body that is to be a D-element of a name.
func read(body, name string) (api.Node, api.Errno) {
	root, err := xml.Parse(body)
	if err != api.OK {
		return api.Node{}, err
	}
	if !isOf(root, []string{name}) {
		return api.Node{}, api.ErrAsk
	}
	return root, api.OK
}

// elements tells what elements are in an element, in order.
func elements(in api.Node) []api.Node {
	var all []api.Node
	for _, kid := range in.Kids {
		if kid.Name != "" {
			all = append(all, kid)
		}
	}
	return all
}

// named tells the D-elements of some names that are in an element, in order.
func named(in api.Node, names ...string) []api.Node {
	var all []api.Node
	for _, kid := range in.Kids {
		if isOf(kid, names) {
			all = append(all, kid)
		}
	}
	return all
}

// only tells the D-element in an element that has one of some names, if it is the only such one.
func only(in api.Node, names ...string) (api.Node, bool) {
	all := named(in, names...)
	if len(all) != 1 {
		return api.Node{}, false
	}
	return all[0], true
}
