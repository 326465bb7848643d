package xml

import "docket/api"

// census goes through a tree and counts. It goes no deeper and no farther than a good tree goes, so it ends with any tree, one that holds itself, too.
type census struct {
	nodes int
}

// takesElement tells whether a node is an element that may stand so deep, with all that is in it.
func (c *census) takesElement(n api.Node, depth int) bool {
	if depth > api.MaxDepth || !c.takesOne() || n.Text != "" || !isGoodName(n.Name) || !isShort(n.Space) || !areGood(n.Attrs) {
		return false
	}
	behindText := false
	for _, kid := range n.Kids {
		isText := kid.Name == ""
		switch {
		case isText && (behindText || !c.takesText(kid)):
			return false
		case !isText && !c.takesElement(kid, depth+1):
			return false
		}
		behindText = isText
	}
	return true
}

func (c *census) takesText(n api.Node) bool {
	return c.takesOne() && n.Text != "" && isLetters(n.Text) && n.Space == "" && len(n.Attrs) == 0 && len(n.Kids) == 0
}

func (c *census) takesOne() bool {
	c.nodes++
	return c.nodes <= api.MaxNodes
}

// isGoodName tells whether a text may be an element's or an attribute's Name.
func isGoodName(s string) bool {
	return isShort(s) && isName(s)
}

// areGood tells whether an element may have these attributes.
func areGood(attrs []api.Attr) bool {
	for _, a := range attrs {
		if !isGoodName(a.Name) || a.Name == declares || !isLetters(a.Value) {
			return false
		}
	}
	return areDistinct(attrs)
}

// areDistinct tells whether no two attributes have the same name.
func areDistinct(attrs []api.Attr) bool {
	met := map[string]struct{}{}
	for _, a := range attrs {
		met[a.Name] = struct{}{}
	}
	return len(met) == len(attrs)
}
