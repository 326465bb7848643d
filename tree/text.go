package tree

// Bodies, and the forms of properties, are texts with ids of their own. What is copied has no texts of its own, but is one
// more user of each: so a copy takes hardly any room (P14.8), and none of what is big is written anew.

// text tells a text; there is none of noID.
func (t *Tree) text(id int64) string {
	text, _ := t.get(textKey(id))
	return text
}

// write lays a new text that one uses, and tells its id.
func (t *Tree) write(text string, n *numbers) int64 {
	id := n.newID()
	t.put(textKey(id), text)
	return id
}

// users tells by how many a text is used.
func (t *Tree) users(id int64) int64 {
	packed, several := t.get(usersKey(id))
	if !several {
		return 1
	}
	return readNumber(packed)
}

// share makes a text used by one more.
func (t *Tree) share(id int64) {
	t.put(usersKey(id), packNumbers(t.users(id)+1))
}

// release makes a text used by one less; what nobody uses is gone.
func (t *Tree) release(id int64) {
	switch users := t.users(id); users {
	case 1:
		t.drop(textKey(id))
	case 2:
		t.drop(usersKey(id))
	default:
		t.put(usersKey(id), packNumbers(users-1))
	}
}
