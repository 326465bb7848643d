package vault

import (
	"strings"
	"testing"

	"docket/api"
	"docket/blob"
	"docket/btree"
	"docket/disk"
	"docket/pager"
)

const badLog = 40

// sound is a disk with a vault that is sound: short values, and blobs.
func sound(t *testing.T) (*disk.Disk, map[string]string) {
	t.Helper()
	d := disk.New(140)
	v := mustMake(t, d, badLog)
	want := map[string]string{"a": "x", "b": text(1, 64), "c": text(2, 3000), "d": "", "e": text(3, 513)}
	for i, pair := range pairsOf(want, "", 9) {
		puts(t, v, int64(i+1), pair.Key, pair.Value)
	}
	mustSync(t, v)
	return d, want
}

// tampered is that disk, with its blocks changed by somebody else.
func tampered(t *testing.T, what func(b blocks, tree *btree.Tree)) *disk.Disk {
	t.Helper()
	d, _ := sound(t)
	p, err := pager.Open(d, badLog)
	wantErr(t, "Open of the pager", err, api.OK)
	b, err := begin(p)
	wantErr(t, "begin", err, api.OK)
	tree, err := b.tree()
	wantErr(t, "tree", err, api.OK)
	what(b, tree)
	wantErr(t, "seal", b.seal(tree.Root()), api.OK)
	commitTo(t, p, b.Tx)
	return d
}

// overwritten is that disk, with one of the vault's blocks written over by somebody else.
func overwritten(t *testing.T, block int, data string) *disk.Disk {
	t.Helper()
	d, _ := sound(t)
	p, err := pager.Open(d, badLog)
	wantErr(t, "Open of the pager", err, api.OK)
	x, err := p.Begin()
	wantErr(t, "Begin of the pager", err, api.OK)
	wantErr(t, "Write", x.Write(block, []byte(data)), api.OK)
	commitTo(t, p, x)
	return d
}

func commitTo(t *testing.T, p *pager.Pager, x *pager.Tx) {
	t.Helper()
	_, err := x.Commit()
	wantErr(t, "Commit of the pager", err, api.OK)
	wantErr(t, "Sync of the pager", p.Sync(), api.OK)
}

func mustOpenBad(t *testing.T, d *disk.Disk) *Vault {
	t.Helper()
	v, err := Open(d, badLog)
	if err != api.OK {
		t.Fatalf("Open: error %d", err)
	}
	return v
}

// What the tests of this file tamper with is sound ahead of that.
func TestSound(t *testing.T) {
	d, want := sound(t)
	holds(t, mustOpen(t, d, badLog, 5), want)
	d = tampered(t, func(blocks, *btree.Tree) {})
	holds(t, mustOpen(t, d, badLog, 6), want)
}

// valueOf tells how a key's value lies in a tree.
func valueOf(t *testing.T, tree *btree.Tree, key string) stored {
	t.Helper()
	packed, found, err := tree.Get(key)
	s, ok := unpack(packed)
	if err != api.OK || !found || !ok {
		t.Fatalf("the tree's %q: %q, %t, error %d", key, packed, found, err)
	}
	return s
}

func blobBlocks(t *testing.T, b blocks, tree *btree.Tree, key string) []int {
	t.Helper()
	all, err := blob.Blocks(b, valueOf(t, tree, key).head)
	wantErr(t, "Blocks of a blob", err, api.OK)
	return all
}

// P8.5: blocks that are taken, but by nothing, or used, but not taken, or used twice. What is there can be read still.
func TestCheckFindsLeaks(t *testing.T) {
	for what, tamper := range map[string]func(b blocks, tree *btree.Tree){
		"a block that nothing lies on":     func(b blocks, _ *btree.Tree) { b.Take() },
		"a blob of no key":                 func(b blocks, _ *btree.Tree) { blob.Write(b, text(1, 600)) },
		"a tree of no root":                func(b blocks, _ *btree.Tree) { btree.Open(b, 0).Put("a", "x") },
		"the root isn't taken":             func(b blocks, tree *btree.Tree) { b.Free(tree.Root()) },
		"a blob's head isn't taken":        func(b blocks, tree *btree.Tree) { b.Free(valueOf(t, tree, "c").head) },
		"a blob's last part isn't taken":   func(b blocks, tree *btree.Tree) { b.Free(blobBlocks(t, b, tree, "c")[6]) },
		"a key that is gone, but its blob": func(b blocks, tree *btree.Tree) { tree.Delete("b") },
		"a blob of two keys":               func(b blocks, tree *btree.Tree) { tree.Put("f", valueOf(t, tree, "b").pack()) },
		"one taken for another": func(b blocks, tree *btree.Tree) {
			b.Take()
			b.Free(valueOf(t, tree, "b").head)
		},
	} {
		v := mustOpenBad(t, tampered(t, tamper))
		for range 2 {
			if err := v.Check(); err != api.ErrBad {
				t.Errorf("%s: Check: error %d", what, err)
			}
		}
		x := mustBegin(t, v)
		refuseAll(t, v, api.ErrBusy)
		wantGet(t, x, "a", "x")
		x.Abort()
	}
}

// wantBad holds that a call finds what lies there bad, and that its transaction is spoilt by that.
func wantBad(t *testing.T, v *Vault, what string, call func(x *Tx) api.Errno) {
	t.Helper()
	x := mustBegin(t, v)
	if err := call(x); err != api.ErrBad {
		t.Errorf("%s: error %d, want ErrBad", what, err)
	}
	refuse(t, x, api.ErrBad)
	refuseCommit(t, x, api.ErrBad)
	wantEnded(t, x)
}

// P8.5, Types: values that are none, or whose blobs aren't there. All others can be read.
func TestBadValues(t *testing.T) {
	for what, held := range map[string]string{
		"nothing":                 "",
		"no mark":                 "x",
		"another mark":            "S" + "short",
		"no head":                 "l",
		"half a head":             "l\x05",
		"the head 0":              "l\x00\x00",
		"the root's block":        "l" + packNumber(1),
		"a block that isn't used": "l" + packNumber(77),
		"no block, just":          "l" + packNumber(100),
		"no block at all":         "l\xff\xff",
	} {
		v := mustOpenBad(t, tampered(t, func(b blocks, tree *btree.Tree) { tree.Put("bad", held) }))
		if err := v.Check(); err != api.ErrBad {
			t.Errorf("%s: Check: error %d", what, err)
		}
		wantBad(t, v, what, func(x *Tx) api.Errno { _, _, err := x.Get("bad"); return err })
		wantBad(t, v, what, func(x *Tx) api.Errno { return x.Put("bad", "x") })
		wantBad(t, v, what, func(x *Tx) api.Errno { _, err := x.Delete("bad"); return err })
		wantBad(t, v, what, func(x *Tx) api.Errno { _, err := x.Scan("", 9); return err })
		x := mustBegin(t, v)
		wantGet(t, x, "a", "x")
		wantScan(t, x, "d", 1, api.Pair{Key: "d"})
		mustPut(t, x, "d", "y")
		mustDelete(t, x, "e", true)
		mustCommit(t, x, 7)
	}
}

// P8.5, Types: a head with something behind it.
func TestLongHead(t *testing.T) {
	v := mustOpenBad(t, tampered(t, func(_ blocks, tree *btree.Tree) {
		tree.Put("bad", valueOf(t, tree, "b").pack()+"\x00")
	}))
	wantErr(t, "Check", v.Check(), api.ErrBad)
	wantBad(t, v, "Get", func(x *Tx) api.Errno { _, _, err := x.Get("bad"); return err })
}

// P8.5, Types: a blob that has lost a block to something else.
func TestBadBlob(t *testing.T) {
	v := mustOpenBad(t, tampered(t, func(b blocks, tree *btree.Tree) {
		b.Write(valueOf(t, tree, "c").head, []byte("something else"))
	}))
	wantErr(t, "Check", v.Check(), api.ErrBad)
	for _, call := range []func(x *Tx) api.Errno{
		func(x *Tx) api.Errno { _, _, err := x.Get("c"); return err },
		func(x *Tx) api.Errno { return x.Put("c", "x") },
		func(x *Tx) api.Errno { _, err := x.Delete("c"); return err },
		func(x *Tx) api.Errno { _, err := x.Scan("b", 2); return err },
	} {
		wantBad(t, v, "a bad head", call)
	}
}

// P8.5, Types: roots of no tree.
func TestBadRoot(t *testing.T) {
	for _, root := range []int{1, 77, 99, 100, 4095, 65535} {
		v := mustOpenBad(t, overwritten(t, 1, string(packRoot(root))))
		wantErr(t, "Check", v.Check(), api.ErrBad)
		wantBad(t, v, "Get", func(x *Tx) api.Errno { _, _, err := x.Get("a"); return err })
		wantBad(t, v, "Put", func(x *Tx) api.Errno { return x.Put("a", "x") })
		wantBad(t, v, "Delete", func(x *Tx) api.Errno { _, err := x.Delete("a"); return err })
		wantBad(t, v, "Scan", func(x *Tx) api.Errno { _, err := x.Scan("", 9); return err })
	}
	// A tree that is there, but isn't all that takes blocks.
	v := mustOpenBad(t, overwritten(t, 1, string(packRoot(0))))
	wantErr(t, "Check", v.Check(), api.ErrBad)
}

// P8.1: no vault, by its own blocks.
func TestBadOwnBlocks(t *testing.T) {
	for _, data := range []string{"", "\x01", "\x02", "\xfc", strings.Repeat("\xff", 512), "\x03" + strings.Repeat("\x00", 511-1) + "\x01"} {
		refuseOpen(t, overwritten(t, 0, data), badLog, api.ErrBad)
	}
	named := string(packRoot(0))
	for _, data := range []string{"", "x", named[1:], named[:5], "x" + named[1:], strings.ToUpper(named), strings.Repeat("\xff", 512)} {
		refuseOpen(t, overwritten(t, 1, data), badLog, api.ErrBad)
	}
}

// P8.2: a vault whose own blocks become bad under it has no transaction, and none is under way.
func TestBadAtBegin(t *testing.T) {
	for block := range 2 {
		v := mustMake(t, disk.New(60), 20)
		x, err := v.pager.Begin()
		wantErr(t, "Begin of the pager", err, api.OK)
		wantErr(t, "Write", x.Write(block, []byte("bad")), api.OK)
		commitTo(t, v.pager, x)
		for range 2 {
			refuseBegin(t, v, api.ErrBad)
			wantErr(t, "Check", v.Check(), api.ErrBad)
		}
	}
}
