package tree

import (
	"strconv"
	"strings"

	"docket/api"
)

// A tree's pairs are these, and all their keys begin with t, since others may keep theirs beside them:
//
//   - numbersKey: the numbers that were given out last;
//   - entryMark, a collection's id and a segment: the record of the member that has that name;
//   - propMark, a resource's id, a Space, a zero and a Name: the id of the text that is the form of that dead property;
//   - textMark and a text's id: the text;
//   - usersMark and a text's id: by how many it is used, if these are more than one.
//
// Ids stand for paths in there: a path may be longer than a key, and what stands below a resource stays where it lies when
// that is moved. A Space holds no zero: so the keys have the order of properties, and no two have one key.
const (
	numbersKey = "tn"
	entryMark  = "te"
	propMark   = "tp"
	propBreak  = "\x00"
	textMark   = "tt"
	usersMark  = "tu"
)

// The root is the member without a name of a collection that isn't there. It has no record as long as nothing has changed
// what that would say.
const (
	noID   = 0 // nothing has it
	rootID = 1
)

// record is what is known of a resource but its properties. How many members and properties it has tells how many pairs are
// to be looked for, so that none behind these is read.
type record struct {
	kind    int
	id      int64
	etag    int64
	size    int
	text    int64 // the id of a file's body
	members int
	props   int // dead ones
}

// numbers are those that were given out last.
type numbers struct {
	etags int64
	ids   int64
}

func (n *numbers) newEtag() int64 {
	n.etags++
	return n.etags
}

func (n *numbers) newID() int64 {
	n.ids++
	return n.ids
}

func (r record) pack() string {
	return packNumbers(int64(r.kind), r.id, r.etag, int64(r.size), r.text, int64(r.members), int64(r.props))
}

func unpackRecord(packed string) record {
	all := readNumbers(packed, 7)
	return record{
		kind:    int(all[0]),
		id:      all[1],
		etag:    all[2],
		size:    int(all[3]),
		text:    all[4],
		members: int(all[5]),
		props:   int(all[6]),
	}
}

func (n numbers) pack() string {
	return packNumbers(n.etags, n.ids)
}

func unpackNumbers(packed string) numbers {
	all := readNumbers(packed, 2)
	return numbers{etags: all[0], ids: all[1]}
}

// packNumbers writes numbers one behind the other. Those of a record take so few bytes that the vault needs no blob for it.
func packNumbers(all ...int64) string {
	var texts []string
	for _, x := range all {
		texts = append(texts, strconv.FormatInt(x, 10))
	}
	return strings.Join(texts, " ")
}

// readNumbers reads so many numbers that were written so.
func readNumbers(packed string, many int) []int64 {
	texts := strings.Split(packed, " ")
	demand(len(texts) == many, api.ErrBad)
	var all []int64
	for _, text := range texts {
		x, err := strconv.ParseInt(text, 10, 64)
		demand(err == nil, api.ErrBad)
		all = append(all, x)
	}
	return all
}

func readNumber(packed string) int64 {
	return readNumbers(packed, 1)[0]
}

func entryKey(id int64, segment string) string {
	return entryMark + packID(id) + segment
}

// propsKey is what the keys of all dead properties of a resource begin with.
func propsKey(id int64) string {
	return propMark + packID(id)
}

func propKey(id int64, p api.Prop) string {
	return propsKey(id) + p.Space + propBreak + p.Name
}

func textKey(id int64) string {
	return textMark + packID(id)
}

func usersKey(id int64) string {
	return usersMark + packID(id)
}

// mayBe tells whether a property's name is so short that there may be one: else it is no part of a key.
func mayBe(p api.Prop) bool {
	return len(p.Space) <= api.MaxName && len(p.Name) <= api.MaxName
}

// packID makes an id a text. All of them are of one length, since none is to begin with another.
func packID(id int64) string {
	return string([]byte{byte(id >> 24), byte(id >> 16), byte(id >> 8), byte(id)})
}
