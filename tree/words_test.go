package tree

import (
	"cmp"
	"maps"
	"math"
	"slices"
	"strings"
	"testing"

	"docket/api"
	"docket/disk"
	"docket/uri"
	"docket/vault"
	"docket/xml"
)

// thing is a resource, as the chapter's words have it.
type thing struct {
	kind  int
	body  string
	etag  int64
	props map[api.Prop]api.Node
}

// words are a tree, as the chapter has it: nothing but resources by their paths, whose segments are joined by slashes.
type words struct {
	all   map[string]thing
	etags int64
}

func newWords() *words {
	return &words{all: map[string]thing{"": {kind: api.Dir}}}
}

func (w *words) clone() *words {
	next := &words{all: map[string]thing{}, etags: w.etags}
	for key, x := range w.all {
		x.props = maps.Clone(x.props)
		next.all[key] = x
	}
	return next
}

func joined(path []string) string { return strings.Join(path, "/") }

func split(key string) []string {
	if key == "" {
		return nil
	}
	return strings.Split(key, "/")
}

func (w *words) at(path []string) (thing, bool) {
	x, there := w.all[joined(path)]
	return x, there
}

// walk tells the paths within a path with at most so many segments more: those of lists of segments in order come so that
// each is ahead of those below it.
func (w *words) walk(path []string, depth int) [][]string {
	var all [][]string
	for key := range w.all {
		p := split(key)
		if uri.Within(p, path) && (depth < 0 || len(p)-len(path) <= depth) {
			all = append(all, p)
		}
	}
	slices.SortFunc(all, slices.Compare)
	return all
}

func (w *words) members(path []string) []string {
	var all []string
	for _, p := range w.walk(path, 1)[1:] {
		all = append(all, p[len(p)-1])
	}
	return all
}

func (w *words) stat(path []string) (api.Info, api.Errno) {
	if !uri.Good(path) {
		return api.Info{}, api.ErrArg
	}
	x, _ := w.at(path)
	return api.Info{Kind: x.kind, Size: len(x.body), Etag: x.etag}, api.OK
}

// there tells the error of a call that wants a resource.
func (w *words) there(path []string) api.Errno {
	if !uri.Good(path) {
		return api.ErrArg
	}
	if _, there := w.at(path); !there {
		return api.ErrNone
	}
	return api.OK
}

func (w *words) read(path []string) (string, api.Errno) {
	if err := w.there(path); err != api.OK {
		return "", err
	}
	x, _ := w.at(path)
	if x.kind == api.Dir {
		return "", api.ErrKind
	}
	return x.body, api.OK
}

func (w *words) list(path []string) ([]string, api.Errno) {
	if err := w.there(path); err != api.OK {
		return nil, err
	}
	if x, _ := w.at(path); x.kind == api.File {
		return nil, api.ErrKind
	}
	return w.members(path), api.OK
}

// place tells the error of a call that wants to make something at a path where nothing is.
func (w *words) place(path []string) api.Errno {
	parent := path[:len(path)-1]
	if x, _ := w.at(parent); x.kind != api.Dir {
		return api.ErrParent
	}
	if len(w.members(parent)) >= 200 {
		return api.ErrFull
	}
	return api.OK
}

func (w *words) newEtag() int64 {
	w.etags++
	return w.etags
}

func (w *words) put(path []string, body string) (bool, api.Errno) {
	x, there := w.at(path)
	switch {
	case !uri.Good(path):
		return false, api.ErrArg
	case len(body) > 8192:
		return false, api.ErrLong
	case x.kind == api.Dir:
		return false, api.ErrKind
	}
	if !there {
		if err := w.place(path); err != api.OK {
			return false, err
		}
	}
	x.kind, x.body, x.etag = api.File, body, w.newEtag()
	w.all[joined(path)] = x
	return !there, api.OK
}

func (w *words) make(path []string) api.Errno {
	if !uri.Good(path) {
		return api.ErrArg
	}
	if _, there := w.at(path); there {
		return api.ErrThere
	}
	if err := w.place(path); err != api.OK {
		return err
	}
	w.all[joined(path)] = thing{kind: api.Dir}
	return api.OK
}

func (w *words) delete(path []string) api.Errno {
	if err := w.there(path); err != api.OK {
		return err
	}
	if len(path) == 0 {
		return api.ErrKind
	}
	for _, p := range w.walk(path, -1) {
		delete(w.all, joined(p))
	}
	return api.OK
}

// way tells the error of a Copy or a Move; of the latter the root is refused.
func (w *words) way(from, to []string, deep, rootToo bool) api.Errno {
	if !uri.Good(from) || !uri.Good(to) {
		return api.ErrArg
	}
	if err := w.there(from); err != api.OK {
		return err
	}
	if !rootToo && len(from) == 0 {
		return api.ErrKind
	}
	if uri.Within(from, to) || uri.Within(to, from) {
		return api.ErrSelf
	}
	if _, there := w.at(to); there {
		return api.ErrThere
	}
	if err := w.place(to); err != api.OK {
		return err
	}
	for _, p := range w.walk(from, -1) {
		if deep && len(p)-len(from)+len(to) > 12 {
			return api.ErrLong
		}
	}
	return api.OK
}

func (w *words) copy(from, to []string, deep bool) api.Errno {
	if err := w.way(from, to, deep, true); err != api.OK {
		return err
	}
	for _, p := range w.walk(from, -1) {
		if !deep && len(p) > len(from) {
			break
		}
		x := w.all[joined(p)]
		if x.kind == api.File {
			x.etag = w.newEtag()
		}
		x.props = maps.Clone(x.props)
		w.all[joined(append(slices.Clone(to), p[len(from):]...))] = x
	}
	return api.OK
}

func (w *words) move(from, to []string) api.Errno {
	if err := w.way(from, to, true, false); err != api.OK {
		return err
	}
	for _, p := range w.walk(from, -1) {
		w.all[joined(append(slices.Clone(to), p[len(from):]...))] = w.all[joined(p)]
		delete(w.all, joined(p))
	}
	return api.OK
}

func (x thing) list() []api.Node {
	var all []api.Node
	for _, n := range x.props {
		all = append(all, n)
	}
	slices.SortFunc(all, func(a, b api.Node) int {
		if a.Space != b.Space {
			return strings.Compare(a.Space, b.Space)
		}
		return strings.Compare(a.Name, b.Name)
	})
	return all
}

func (w *words) props(path []string) ([]api.Node, api.Errno) {
	if err := w.there(path); err != api.OK {
		return nil, err
	}
	x, _ := w.at(path)
	return x.list(), api.OK
}

func (w *words) setProp(path []string, value api.Node) api.Errno {
	if err := w.there(path); err != api.OK {
		return err
	}
	if !xml.Good(value) {
		return api.ErrArg
	}
	if form, err := xml.Write(value); err != api.OK || len(form) > 4096 {
		return api.ErrLong
	}
	x, _ := w.at(path)
	name := api.Prop{Space: value.Space, Name: value.Name}
	if _, has := x.props[name]; !has && len(x.props) >= 16 {
		return api.ErrFull
	}
	if x.props == nil {
		x.props = map[api.Prop]api.Node{}
	}
	x.props[name] = value
	w.all[joined(path)] = x
	return api.OK
}

func (w *words) dropProp(path []string, name api.Prop) (bool, api.Errno) {
	if err := w.there(path); err != api.OK {
		return false, err
	}
	x, _ := w.at(path)
	_, has := x.props[name]
	delete(x.props, name)
	return has, api.OK
}

func (w *words) view() []api.Resource {
	var all []api.Resource
	for _, p := range w.walk(nil, -1) {
		x, _ := w.at(p)
		all = append(all, api.Resource{Path: p, Kind: x.kind, Body: x.body, Etag: x.etag, Props: x.list()})
	}
	return all
}

// weight tells what the tree weighs.
func (w *words) weight() int {
	sum := 0
	for _, x := range w.all {
		sum += 1 + len(x.body)/500 + 2*len(x.props)
	}
	return sum
}

// held is a tree in a vault, and what the words say of it: of what is committed, and of the transaction that is open.
type held struct {
	t     *testing.T
	d     *disk.Disk
	log   int
	v     *vault.Vault
	x     *vault.Tx
	tree  *Tree
	w     *words
	saved *words
}

func newHeld(t *testing.T, sectors, log int) *held {
	t.Helper()
	d := disk.New(sectors)
	v, err := vault.Make(d, log)
	if err != api.OK {
		t.Fatalf("Make of a vault: error %d", err)
	}
	h := &held{t: t, d: d, log: log, v: v, w: newWords()}
	h.saved = h.w.clone()
	h.begin()
	return h
}

func (h *held) begin() {
	h.t.Helper()
	x, err := h.v.Begin()
	if err != api.OK {
		h.t.Fatalf("Begin: error %d", err)
	}
	h.x, h.tree = x, On(x)
}

// commit commits what was done, and goes on with the next transaction.
func (h *held) commit() {
	h.t.Helper()
	_, err := h.x.Commit()
	wantErr(h.t, "Commit", err, api.OK)
	wantErr(h.t, "Check", h.v.Check(), api.OK)
	h.saved = h.w.clone()
	h.begin()
}

// abort goes back to what was committed last.
func (h *held) abort() {
	h.t.Helper()
	h.x.Abort()
	h.w = h.saved.clone()
	h.begin()
}

// crash makes what is committed durable, and finds it again behind a crash.
func (h *held) crash() {
	h.t.Helper()
	h.x.Abort()
	wantErr(h.t, "Sync", h.v.Sync(), api.OK)
	h.d.Crash(nil)
	v, err := vault.Open(h.d, h.log)
	if err != api.OK {
		h.t.Fatalf("Open: error %d", err)
	}
	h.v, h.w = v, h.saved.clone()
	h.begin()
}

// look holds all of the tree against the words.
func (h *held) look() {
	h.t.Helper()
	all, etags, err := h.tree.View()
	if want := h.w.view(); err != api.OK || etags != h.w.etags || !sameResources(all, want) {
		h.t.Fatalf("View = %s, %d, error %d, want %s, %d", show(all), etags, err, show(want), h.w.etags)
	}
	wantNoRest(h.t, pairsOf(h.t, h.x), len(all))
}

// wantNoRest holds that a vault holds no pairs but those of so many resources: nothing else is kept (P1, rule 6).
func wantNoRest(t *testing.T, pairs map[string]string, resources int) {
	t.Helper()
	delete(pairs, numbersKey)
	pairs[entryKey(noID, "")] = cmp.Or(pairs[entryKey(noID, "")], record{kind: api.Dir}.pack())
	users := map[int64]int64{}
	for key, value := range pairs {
		switch {
		case strings.HasPrefix(key, entryMark):
			resources--
			if r := unpackRecord(value); r.kind == api.File {
				users[r.text]++
			}
		case strings.HasPrefix(key, propMark):
			users[readNumber(value)]++
		default:
			continue
		}
		delete(pairs, key)
	}
	if resources != 0 {
		t.Errorf("the vault holds %d records less than there are resources", resources)
	}
	for id, many := range users {
		_, there := pairs[textKey(id)]
		said, several := pairs[usersKey(id)]
		if !there || several != (many > 1) || several && said != packNumbers(many) {
			t.Errorf("a text that is used by %d: is it there: %t, and it is said to be used by %q", many, there, said)
		}
		delete(pairs, textKey(id))
		delete(pairs, usersKey(id))
	}
	if len(pairs) != 0 {
		t.Errorf("of nothing are the pairs %.200q", pairs)
	}
}

// Each of these asks the tree and the words the same, and holds one against the other.

func (h *held) stat(path ...string) {
	h.t.Helper()
	info, err := h.tree.Stat(path)
	if want, wantErr := h.w.stat(path); info != want || err != wantErr {
		h.t.Errorf("Stat(%q) = %+v, error %d, want %+v, error %d", path, info, err, want, wantErr)
	}
}

func (h *held) read(path ...string) {
	h.t.Helper()
	body, err := h.tree.Read(path)
	if want, wantErr := h.w.read(path); body != want || err != wantErr {
		h.t.Errorf("Read(%q) = %.40q, error %d, want %.40q, error %d", path, body, err, want, wantErr)
	}
}

func (h *held) list(path ...string) {
	h.t.Helper()
	names, err := h.tree.List(path)
	if want, wantErr := h.w.list(path); !slices.Equal(names, want) || err != wantErr {
		h.t.Errorf("List(%q) = %q, error %d, want %q, error %d", path, names, err, want, wantErr)
	}
}

func (h *held) put(body string, path ...string) {
	h.t.Helper()
	made, err := h.tree.Put(path, body)
	if want, wantErr := h.w.put(path, body); made != want || err != wantErr {
		h.t.Errorf("Put(%q, %d bytes) = %t, error %d, want %t, error %d", path, len(body), made, err, want, wantErr)
	}
}

func (h *held) make(path ...string) {
	h.t.Helper()
	err := h.tree.Make(path)
	if want := h.w.make(path); err != want {
		h.t.Errorf("Make(%q): error %d, want %d", path, err, want)
	}
}

func (h *held) delete(path ...string) {
	h.t.Helper()
	err := h.tree.Delete(path)
	if want := h.w.delete(path); err != want {
		h.t.Errorf("Delete(%q): error %d, want %d", path, err, want)
	}
}

func (h *held) copy(from, to []string, deep bool) {
	h.t.Helper()
	err := h.tree.Copy(from, to, deep)
	if want := h.w.copy(from, to, deep); err != want {
		h.t.Errorf("Copy(%q, %q, %t): error %d, want %d", from, to, deep, err, want)
	}
}

func (h *held) move(from, to []string) {
	h.t.Helper()
	err := h.tree.Move(from, to)
	if want := h.w.move(from, to); err != want {
		h.t.Errorf("Move(%q, %q): error %d, want %d", from, to, err, want)
	}
}

func (h *held) props(path ...string) {
	h.t.Helper()
	props, err := h.tree.Props(path)
	if want, wantErr := h.w.props(path); !sameNodes(props, want) || err != wantErr {
		h.t.Errorf("Props(%q) = %+v, error %d, want %+v, error %d", path, props, err, want, wantErr)
	}
}

func (h *held) setProp(value api.Node, path ...string) {
	h.t.Helper()
	err := h.tree.SetProp(path, value)
	if want := h.w.setProp(path, value); err != want {
		h.t.Errorf("SetProp(%q, %.60q of %.60q): error %d, want %d", path, value.Name, value.Space, err, want)
	}
}

func (h *held) dropProp(p api.Prop, path ...string) {
	h.t.Helper()
	was, err := h.tree.DropProp(path, p)
	if want, wantErr := h.w.dropProp(path, p); was != want || err != wantErr {
		h.t.Errorf("DropProp(%q, %.60q) = %t, error %d, want %t, error %d", path, p, was, err, want, wantErr)
	}
}

func (h *held) walk(depth int, path ...string) {
	h.t.Helper()
	paths, err := h.tree.Walk(path, depth)
	var want [][]string
	wantErr := h.w.there(path)
	if wantErr == api.OK {
		want = h.w.walk(path, depth)
	}
	if !slices.EqualFunc(paths, want, slices.Equal) || err != wantErr {
		h.t.Errorf("Walk(%q, %d) = %q, error %d, want %q, error %d", path, depth, paths, err, want, wantErr)
	}
}

func sameNodes(a, b []api.Node) bool {
	return slices.EqualFunc(a, b, func(a, b api.Node) bool {
		return a.Text == b.Text && a.Space == b.Space && a.Name == b.Name && slices.Equal(a.Attrs, b.Attrs) && sameNodes(a.Kids, b.Kids)
	})
}

func sameResources(a, b []api.Resource) bool {
	return slices.EqualFunc(a, b, func(a, b api.Resource) bool {
		return slices.Equal(a.Path, b.Path) && a.Kind == b.Kind && a.Body == b.Body && a.Etag == b.Etag && sameNodes(a.Props, b.Props)
	})
}

func show(all []api.Resource) string {
	var text strings.Builder
	for _, r := range all {
		text.WriteString(uri.Text(r.Path) + " " + strings.Repeat("x", r.Kind) + " ")
		for _, n := range r.Props {
			form, _ := xml.Write(n)
			text.WriteString(form[:min(len(form), 60)] + " ")
		}
	}
	return text.String()
}

// source is where what is asked comes from.
type source interface {
	below(n int) int
}

// dice throws the same numbers in each run.
type dice uint64

func (x *dice) below(n int) int {
	*x = *x*6364136223846793005 + 1442695040888963407
	return int(uint64(*x) >> 33 % uint64(n))
}

// picks are numbers off bytes; behind the last one all are 0.
type picks []byte

func (p *picks) below(n int) int {
	if len(*p) == 0 {
		return 0
	}
	first := (*p)[0]
	*p = (*p)[1:]
	return int(first) % n
}

func one[T any](from source, list ...T) T {
	return list[from.below(len(list))]
}

// path is some path: most are short and may be there, some are long, few are none.
func path(from source) []string {
	var all []string
	long := one(from, 1, 1, 2, 2, 2, 3, 3, 4, 0, 12)
	for range long {
		all = append(all, one(from, "a", "b", "c", "a", "b", "c", "ab", "a!", "\u00e9", strings.Repeat("z", 64)))
	}
	switch from.below(60) {
	case 0:
		return append(all, one(from, "", ".", "..", "a/b", "\x00", "\xff", strings.Repeat("z", 65)))
	case 1:
		return append(all, "1", "2", "3", "4", "5", "6", "7", "8", "9", "10", "11", "12")
	}
	return all
}

func body(from source) string {
	return strings.Repeat(one(from, "x", "y", "\x00", "\xff"), one(from, 0, 1, 2, 3, 63, 64, 65, 499, 500, 513, 2000, 8192, 8193))
}

func name(from source) api.Prop {
	return api.Prop{
		Space: one(from, "", "x", "y", "xy", "DAV:", strings.Repeat("s", 60), "\u00e9"),
		Name:  one(from, "a", "b", "c", "ab", "yz", strings.Repeat("n", 60)),
	}
}

// value is some element, in rare cases none that is good.
func value(from source) api.Node {
	p := name(from)
	n := api.Node{Space: p.Space, Name: p.Name}
	switch from.below(8) {
	case 0:
		n.Kids = []api.Node{{Text: "t <&> \r"}, {Name: "k", Attrs: []api.Attr{{Name: "x", Value: "\"\n"}}}}
	case 1:
		n.Attrs = []api.Attr{{Name: "q", Value: "1"}}
	case 2:
		n.Kids = []api.Node{{Space: "x", Name: "y", Kids: []api.Node{{Text: "z"}}}}
	case 3:
		n.Kids = []api.Node{{Text: strings.Repeat("t", one(from, 30, 500, 3000, 4000, 4100))}}
	case 4:
		return one(from, n, n, api.Node{}, api.Node{Text: "t"}, api.Node{Name: "a:b"}, api.Node{Name: "a", Kids: []api.Node{{}}})
	}
	return n
}

// step asks one thing.
func (h *held) step(from source) {
	h.t.Helper()
	p := path(from)
	switch from.below(20) {
	case 0:
		h.stat(p...)
	case 1:
		h.read(p...)
	case 2:
		h.list(p...)
	case 3, 4, 5, 6:
		h.put(body(from), p...)
	case 7, 8, 9:
		h.make(p...)
	case 10:
		h.delete(p...)
	case 11, 12:
		h.copy(p, path(from), from.below(3) > 0)
	case 13, 14:
		h.move(p, path(from))
	case 15:
		h.props(p...)
	case 16, 17:
		h.setProp(value(from), p...)
	case 18:
		h.dropProp(name(from), p...)
	case 19:
		h.walk(one(from, -1, 0, 1, 2, 3, 12, 13, math.MinInt, math.MaxInt), p...)
	}
}

// thin keeps the tree small, so that there is room for it (P14.8).
func (h *held) thin() {
	h.t.Helper()
	for h.w.weight() > 150 {
		members := h.w.members(nil)
		h.delete(members[len(members)/2])
	}
}

// P14.1 to P14.7, P1: long runs of calls of all sorts, in transactions that are committed, aborted and found again.
func TestAgainstTheWords(t *testing.T) {
	t.Parallel()
	for seed := range 12 {
		from := dice(seed)
		h := newHeld(t, 2400, 600)
		for i := range 1200 {
			h.step(&from)
			h.thin()
			if i%4 == 0 {
				h.look()
			}
			switch from.below(30) {
			case 0, 1:
				h.commit()
			case 2:
				h.abort()
			case 3:
				h.crash()
			}
			if t.Failed() {
				t.Fatalf("seed %d, step %d", seed, i)
			}
		}
		h.look()
	}
}

func FuzzWords(f *testing.F) {
	f.Add([]byte("abcdefghijklmnopqrstuvwxyz0123456789"))
	f.Fuzz(func(t *testing.T, data []byte) {
		from := picks(data[:min(len(data), 600)])
		h := newHeld(t, 2400, 600)
		for len(from) > 0 && !t.Failed() {
			h.step(&from)
			h.thin()
			switch from.below(16) {
			case 0:
				h.commit()
			case 1:
				h.abort()
			case 2:
				h.crash()
			}
		}
		h.look()
	})
}
