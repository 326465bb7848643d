package tree

import (
	"fmt"
	"strings"
	"testing"
)

// mostWeight is what a tree weighs at most that there is room for (P14.8).
const mostWeight = 300

// grow is a step in which the collection t grows, or, if that has been done already, is filled with other texts.
type grow func(h *held, seed, i int)

// segment is a segment as long as can be, in an order that isn't i's.
func segment(i int) string {
	return fmt.Sprintf("%064d", i*37%1009)
}

func letter(seed, i int) string {
	return string(rune('a' + (seed+i)%26))
}

// files makes files of so many bytes each, up to 150 in a collection.
func files(size int) grow {
	return func(h *held, seed, i int) {
		at := segment(1 + i/150)
		if i%150 == 0 {
			h.make("t", at)
			return
		}
		h.put(strings.Repeat(letter(seed, i), size), "t", at, segment(i))
	}
}

// props gives collections 16 properties each whose forms have so many bytes, and whose names are as long as can be.
func props(size int) grow {
	return func(h *held, seed, i int) {
		at := segment(1 + i/17)
		if i%17 == 0 {
			h.make("t", at)
			return
		}
		name := fmt.Sprintf("p%059d", i%17*7%17)
		value := sized(strings.Repeat("s", 60), name, size)
		value.Kids[0].Text = strings.Repeat(letter(seed, i), len(value.Kids[0].Text))
		h.setProp(value, "t", at)
	}
}

// collections makes collections one below the other, and then the next such ones.
func collections(h *held, _, i int) {
	path := []string{"t", segment(1 + i/10)}
	for k := range i % 10 {
		path = append(path, segment(k))
	}
	h.make(path...)
}

// fill lets the collection t grow until the tree weighs just what it may; each step of it weighs step at most. It tells how
// many steps there were.
func (h *held) fill(step int, how grow, behind func()) int {
	h.t.Helper()
	h.make("t")
	steps := 0
	for ; h.w.weight()+step <= mostWeight; steps++ {
		how(h, 0, steps)
		behind()
	}
	for i := 0; h.w.weight() < mostWeight; i++ {
		h.put("", "t", segment(200+i))
		behind()
	}
	return steps
}

// refill gives all that has grown so other texts.
func (h *held) refill(seed, steps int, how grow) {
	h.t.Helper()
	for i := range steps {
		how(h, seed, i)
	}
}

// heavy are ways for a tree to grow that weighs as much as it may, and takes as many blocks as such ones can.
type heavy struct {
	what string
	step int
	how  grow
}

func allHeavy() []heavy {
	return []heavy{
		{"empty files", 1, files(0)},
		{"short files", 1, files(64)},
		{"files of 499", 1, files(499)},
		{"files of 999", 2, files(999)},
		{"files of 1499", 3, files(1499)},
		{"files of 8192", 17, files(8192)},
		{"long properties", 2, props(4096)},
		{"short properties", 2, props(200)},
		{"collections", 1, collections},
	}
}

// all asks all that is done to much, and then aborts it. Each is asked of a tree that weighs what it may.
func (h *held) all() {
	h.t.Helper()
	for _, ask := range []func(){
		func() { h.copy(to("t"), to("u"), true) },
		func() { h.copy(to("t"), to("u"), false) },
		func() { h.move(to("t"), to("u")) },
		func() { h.delete("t") },
		func() { h.put(strings.Repeat("x", 8192), "u") },
		func() { h.setProp(sized("x", "p", 4096), "t") },
		func() { h.make("u") },
	} {
		ask()
		h.look()
		h.abort()
	}
}

// P14.8: a tree of 300 that is committed bit by bit: whatever is asked then has room.
func TestRoom(t *testing.T) {
	for _, tree := range allHeavy() {
		for _, log := range []int{600, 700} {
			t.Run(fmt.Sprintf("%s, a log of %d", tree.what, log), func(t *testing.T) {
				t.Parallel()
				h := newHeld(t, 4096, log)
				h.fill(tree.step, tree.how, h.commit)
				h.look()
				h.all()
			})
		}
	}
}

// P14.8: a tree of 300 that one transaction makes, without a commit; and then all of it over and over again.
func TestRoomOfOneTransaction(t *testing.T) {
	for _, tree := range allHeavy() {
		t.Run(tree.what, func(t *testing.T) {
			t.Parallel()
			h := newHeld(t, 4096, 700)
			h.fill(tree.step, tree.how, func() {})
			for range 3 {
				h.copy(to("t"), to("u"), true)
				h.look()
				h.delete("t")
				h.move(to("u"), to("t"))
				h.look()
			}
			h.delete("t")
			h.look()
		})
	}
}

// P14.8: a tree of 300 that is committed; and transactions that change all of it, and copy it, over and over again. What a
// transaction gives back that was committed is nobody's till it has ended: so there are few blocks for copies.
func TestRoomOfLongTransactions(t *testing.T) {
	for _, tree := range allHeavy() {
		t.Run(tree.what, func(t *testing.T) {
			t.Parallel()
			h := newHeld(t, 4096, 700)
			steps := h.fill(tree.step, tree.how, h.commit)
			replace := func() {
				h.copy(to("t"), to("u"), true)
				h.look()
				h.delete("t")
				h.move(to("u"), to("t"))
			}
			for range 2 {
				h.refill(1, steps, tree.how)
				replace()
				h.refill(2, steps, tree.how)
				replace()
				h.refill(3, steps, tree.how)
				replace()
				h.abort()
				replace()
				h.delete("t")
				h.fill(tree.step, tree.how, func() {})
				replace()
				h.abort()
				h.copy(to("t"), to("u"), true)
				h.commit()
				h.delete("t")
				h.move(to("u"), to("t"))
			}
		})
	}
}

// P14.4, P14.8: a copy of a tree of 300 is so little that it can be committed in the smaller one of the logs.
func TestCopiesAreCommitted(t *testing.T) {
	for _, tree := range allHeavy() {
		t.Run(tree.what, func(t *testing.T) {
			t.Parallel()
			h := newHeld(t, 4096, 600)
			h.fill(tree.step, tree.how, h.commit)
			h.copy(to("t"), to("u"), true)
			h.commit()
			h.delete("t")
			h.commit()
			h.look()
			h.copy(to("u"), to("t"), true)
			h.delete("u")
			h.commit()
			h.look()
		})
	}
}
