package ask

import (
	"slices"

	"docket/api"
)

// some tells what properties a prop asks for. It gives up with the first that is too many, so that a long body is done with soon.
func some(prop api.Node) (api.Find, api.Errno) {
	var names []api.Prop
	for _, element := range elements(prop) {
		name := api.Prop{Space: element.Space, Name: element.Name}
		if slices.Contains(names, name) {
			continue
		}
		if len(names) == mostProps {
			return api.Find{}, api.ErrFull
		}
		names = append(names, name)
	}
	return api.Find{Kind: api.FindSome, Names: names}, api.OK
}

// changes tells all changes that an update has, in order.
func changes(update api.Node) []api.Change {
	var all []api.Change
	for _, action := range named(update, "set", "remove") {
		for _, prop := range named(action, "prop") {
			for _, element := range elements(prop) {
				all = append(all, api.Change{Remove: action.Name == "remove", Value: element})
			}
		}
	}
	return all
}
