package volume

import (
	"fmt"
	"math"
	"slices"
	"strconv"
	"strings"
	"testing"

	"saltcellar/api"
)

// long returns n bytes.
func long(n int) string { return strings.Repeat("x", n) }

// same tells whether two volumes have the same items and blocks.
func same(a, b api.Volume) bool {
	return slices.Equal(a.Items, b.Items) && slices.Equal(a.Blocks, b.Blocks)
}

// none tells whether a volume is that beside an error.
func none(v api.Volume) bool { return len(v.Items) == 0 && len(v.Blocks) == 0 }

// distinct returns a volume of blocks, the first n of which have the data
// "d0", "d1", ...; the others are empty.
func distinct(n, blocks int) api.Volume {
	v := api.Volume{}
	for i := range blocks {
		if i < n {
			v.Items = append(v.Items, api.Item{Id: i, Data: "d" + strconv.Itoa(i), Refs: 1})
			v.Blocks = append(v.Blocks, i)
		} else {
			v.Blocks = append(v.Blocks, -1)
		}
	}
	return v
}

// alike returns a volume of n blocks that all have the same data.
func alike(n int) api.Volume {
	return api.Volume{Items: []api.Item{{Id: 4, Data: "x", Refs: n}}, Blocks: slices.Repeat([]int{4}, n)}
}

// someWrites returns n writes to the blocks from first on, of the data "w0", "w1", ...
func someWrites(first, n int) []api.Write {
	var l []api.Write
	for i := range n {
		l = append(l, api.Write{Block: first + i, Data: "w" + strconv.Itoa(i)})
	}
	return l
}

// goodVolumes are volumes that Check takes.
func goodVolumes() []api.Volume {
	return []api.Volume{
		{Blocks: []int{-1}},
		{Items: []api.Item{}, Blocks: []int{-1, -1, -1}},
		{Blocks: slices.Repeat([]int{-1}, api.MaxBlocks)},
		{Items: []api.Item{{Id: 0, Data: "a", Refs: 1}}, Blocks: []int{0}},
		{Items: []api.Item{{Id: 23, Data: "a", Refs: 1}}, Blocks: []int{23}},
		{Items: []api.Item{{Id: 0, Data: "a", Refs: 2}}, Blocks: []int{0, -1, 0}},
		{Items: []api.Item{{Id: 5, Data: "q", Refs: 1}}, Blocks: []int{-1, 5}},
		{Items: []api.Item{{Id: 1, Data: "b", Refs: 1}, {Id: 4, Data: "a", Refs: 3}}, Blocks: []int{4, 4, 1, -1, 4}},
		{Items: []api.Item{{Id: 2, Data: "\x00", Refs: 1}}, Blocks: []int{2}},
		{Items: []api.Item{{Id: 2, Data: long(api.MaxData), Refs: 1}}, Blocks: []int{2}},
		distinct(api.MaxItems, api.MaxItems),
		distinct(api.MaxItems, api.MaxBlocks),
		alike(api.MaxBlocks),
	}
}

// badVolumes are volumes that Check refuses: each condition of P3.1 is broken.
func badVolumes() []api.Volume {
	one := func() []api.Item { return []api.Item{{Id: 3, Data: "a", Refs: 1}} }
	two := func() []api.Item { return []api.Item{{Id: 3, Data: "a", Refs: 1}, {Id: 7, Data: "b", Refs: 2}} }
	return []api.Volume{
		// The number of blocks.
		{},
		{Items: []api.Item{}, Blocks: []int{}},
		{Items: one()},
		{Blocks: slices.Repeat([]int{-1}, api.MaxBlocks+1)},
		{Items: one(), Blocks: append(slices.Repeat([]int{-1}, api.MaxBlocks), 3)},
		{Blocks: slices.Repeat([]int{-1}, 1<<16)},

		// Items that are not valid by themselves (P2.1).
		{Items: []api.Item{{Id: 1, Data: "a", Refs: 1}, {Id: 0, Data: "b", Refs: 1}}, Blocks: []int{0, 1}},
		{Items: []api.Item{{Id: 1, Data: "a", Refs: 1}, {Id: 1, Data: "b", Refs: 1}}, Blocks: []int{1}},
		{Items: []api.Item{{Id: 0, Data: "a", Refs: 1}, {Id: 1, Data: "a", Refs: 1}}, Blocks: []int{0, 1}},
		{Items: []api.Item{{Id: 24, Data: "a", Refs: 1}}, Blocks: []int{24}},
		{Items: []api.Item{{Id: -1, Data: "a", Refs: 1}}, Blocks: []int{-1}},
		{Items: []api.Item{{Id: -2, Data: "a", Refs: 1}}, Blocks: []int{-2}},
		{Items: []api.Item{{Id: 0, Data: long(api.MaxData + 1), Refs: 1}}, Blocks: []int{0}},
		{Items: []api.Item{{Id: 0, Data: "a", Refs: 0}}, Blocks: []int{-1}},
		{Items: []api.Item{{Id: 0, Data: "a", Refs: -1}}, Blocks: []int{-1}},
		distinct(api.MaxItems+1, api.MaxBlocks),
		alike(api.MaxBlocks + 1),

		// An item without data.
		{Items: []api.Item{{Id: 0, Data: "", Refs: 1}}, Blocks: []int{0}},
		{Items: []api.Item{{Id: 0, Data: "a", Refs: 1}, {Id: 1, Data: "", Refs: 2}}, Blocks: []int{1, 0, 1}},

		// A block that is neither empty nor an item's Id.
		{Blocks: []int{0}},
		{Blocks: []int{-2}},
		{Blocks: []int{-1, 24}},
		{Blocks: []int{math.MaxInt}},
		{Blocks: []int{math.MinInt}},
		{Items: one(), Blocks: []int{3, 2}},
		{Items: one(), Blocks: []int{4, 3}},
		{Items: one(), Blocks: []int{3, -2}},
		{Items: two(), Blocks: []int{7, 3, 7, 0}},
		{Items: two(), Blocks: []int{7, 5, 3, 7}},

		// Refs that are not the number of blocks.
		{Items: one(), Blocks: []int{-1}},
		{Items: one(), Blocks: []int{3, 3}},
		{Items: one(), Blocks: []int{0}},
		{Items: []api.Item{{Id: 3, Data: "a", Refs: 2}}, Blocks: []int{3}},
		{Items: []api.Item{{Id: 3, Data: "a", Refs: 2}}, Blocks: []int{3, -1}},
		{Items: two(), Blocks: []int{3, 3, 7}},
		{Items: two(), Blocks: []int{3, 7}},
		{Items: two(), Blocks: []int{7, 7, -1}},
		{Items: two(), Blocks: []int{3, 7, 7, 7}},
		{Items: []api.Item{{Id: 3, Data: "a", Refs: 32}}, Blocks: slices.Repeat([]int{3}, 31)},
	}
}

func TestCheckTakes(t *testing.T) { // P3.1
	for _, v := range goodVolumes() {
		if err := Check(v); err != api.OK {
			t.Errorf("Check(%v) = %v, want OK", v, err)
		}
	}
}

func TestCheckRefuses(t *testing.T) { // P3.1
	for _, v := range badVolumes() {
		if err := Check(v); err != api.ErrState {
			t.Errorf("Check(%v) = %v, want ErrState", v, err)
		}
	}
}

// TestCheckComesFirst: Read and Apply refuse what Check refuses, before they
// look at their second argument.
func TestCheckComesFirst(t *testing.T) { // P3.2, P3.4
	for _, v := range badVolumes() {
		for _, block := range []int{0, 1, -1, api.MaxBlocks, math.MaxInt, math.MinInt} {
			if got, err := Read(v, block); got != "" || err != api.ErrState {
				t.Errorf("Read(%v, %d) = %q, %v, want ErrState", v, block, got, err)
			}
		}
		for _, l := range [][]api.Write{
			nil,
			{{Block: 0, Data: "a"}},
			{{Block: -1, Data: "a"}},
			{{Block: 0, Data: long(api.MaxData + 1)}},
			{{Block: 0}, {Block: 0}},
			someWrites(0, api.MaxWrites+1),
		} {
			if got, err := Apply(v, l); !none(got) || err != api.ErrState {
				t.Errorf("Apply(%v, %v) = %v, %v, want ErrState", v, l, got, err)
			}
		}
	}
}

func TestNew(t *testing.T) { // P3.2
	for blocks := 1; blocks <= api.MaxBlocks; blocks++ {
		v, err := New(blocks)
		if err != api.OK || len(v.Items) != 0 || len(v.Blocks) != blocks {
			t.Errorf("New(%d) = %v, %v", blocks, v, err)
		}
		for block := range v.Blocks {
			if v.Blocks[block] != -1 {
				t.Errorf("New(%d): block %d is %d, want -1", blocks, block, v.Blocks[block])
			}
			if data, err := Read(v, block); data != "" || err != api.OK {
				t.Errorf("New(%d): block %d has %q, %v", blocks, block, data, err)
			}
		}
		if err := Check(v); err != api.OK {
			t.Errorf("Check(New(%d)) = %v", blocks, err)
		}
	}
}

func TestNewErrors(t *testing.T) { // P3.2
	for _, blocks := range []int{0, -1, -32, math.MinInt, api.MaxBlocks + 1, 1000, math.MaxInt} {
		if v, err := New(blocks); !none(v) || err != api.ErrRange {
			t.Errorf("New(%d) = %v, %v, want ErrRange", blocks, v, err)
		}
	}
}

// TestCopy: a copy is equal, also one of an invalid volume, and what is
// written to one of the two does not show in the other.
func TestCopy(t *testing.T) { // P3.2
	for _, v := range append(goodVolumes(), badVolumes()...) {
		want := api.Volume{}
		want.Items = append(want.Items, v.Items...)
		want.Blocks = append(want.Blocks, v.Blocks...)
		got, other := Copy(v), Copy(v)
		if !same(got, want) {
			t.Errorf("Copy(%v) = %v", v, got)
		}
		overwrite(got)
		if !same(v, want) || !same(other, want) {
			t.Errorf("what is written to a copy of %v shows elsewhere", want)
		}
		overwrite(v)
		if !same(other, want) {
			t.Errorf("what is written to %v shows in its copy", want)
		}
	}
}

func TestRead(t *testing.T) { // P3.2
	mixed := api.Volume{
		Items:  []api.Item{{Id: 0, Data: "zero", Refs: 1}, {Id: 2, Data: "\xff\x00", Refs: 3}, {Id: 23, Data: long(api.MaxData), Refs: 1}},
		Blocks: []int{2, -1, 23, 2, 0, -1, 2},
	}
	for block, want := range []string{"\xff\x00", "", long(api.MaxData), "\xff\x00", "zero", "", "\xff\x00"} {
		if got, err := Read(mixed, block); got != want || err != api.OK {
			t.Errorf("Read(%v, %d) = %q, %v, want %q", mixed, block, got, err, want)
		}
	}
	full := distinct(api.MaxItems, api.MaxBlocks)
	for block := range api.MaxBlocks {
		want := ""
		if block < api.MaxItems {
			want = "d" + strconv.Itoa(block)
		}
		if got, err := Read(full, block); got != want || err != api.OK {
			t.Errorf("Read of block %d of a full volume = %q, %v, want %q", block, got, err, want)
		}
	}
}

func TestReadNone(t *testing.T) { // P3.2
	for _, v := range goodVolumes() {
		n := len(v.Blocks)
		for _, block := range []int{-1, -2, math.MinInt, n, n + 1, 1000, math.MaxInt} {
			if got, err := Read(v, block); got != "" || err != api.ErrNone {
				t.Errorf("Read(%v, %d) = %q, %v, want ErrNone", v, block, got, err)
			}
		}
	}
}

// writesCase: writes, a number of blocks, and what CheckWrites says of them.
type writesCase struct {
	l      []api.Write
	blocks int
	want   api.Errno
}

// writesCases hold for volumes of up to MaxBlocks blocks, and so for Apply too.
func writesCases() []writesCase {
	tooLong := long(api.MaxData + 1)
	return []writesCase{
		{nil, 1, api.OK},
		{[]api.Write{}, 1, api.OK},
		{[]api.Write{{Block: 0, Data: ""}}, 1, api.OK},
		{[]api.Write{{Block: 0, Data: "a"}, {Block: 1, Data: "a"}}, 2, api.OK},
		{[]api.Write{{Block: 1}, {Block: 5, Data: "b"}, {Block: 31, Data: "\x00"}}, 32, api.OK},
		{[]api.Write{{Block: 3, Data: long(api.MaxData)}}, 4, api.OK},
		{someWrites(0, api.MaxWrites), api.MaxWrites, api.OK},
		{someWrites(20, api.MaxWrites), api.MaxBlocks, api.OK},

		// Too many writes come first.
		{someWrites(0, api.MaxWrites+1), api.MaxBlocks, api.ErrSize},
		{someWrites(0, api.MaxWrites+1), 1, api.ErrSize},
		{someWrites(-1, api.MaxWrites+1), api.MaxBlocks, api.ErrSize},
		{make([]api.Write, api.MaxWrites+1), api.MaxBlocks, api.ErrSize},
		{make([]api.Write, 1<<16), api.MaxBlocks, api.ErrSize},

		// There is no such block.
		{[]api.Write{{Block: 2}}, 2, api.ErrNone},
		{[]api.Write{{Block: 3}}, 2, api.ErrNone},
		{[]api.Write{{Block: -1}}, 2, api.ErrNone},
		{[]api.Write{{Block: math.MaxInt}}, 2, api.ErrNone},
		{[]api.Write{{Block: math.MinInt}}, 2, api.ErrNone},
		{[]api.Write{{Block: 32, Data: "a"}}, 32, api.ErrNone},
		{[]api.Write{{Block: 0}, {Block: 1}, {Block: 2}}, 2, api.ErrNone},
		{someWrites(0, api.MaxWrites), api.MaxWrites - 1, api.ErrNone},

		// The data is too long, in bytes.
		{[]api.Write{{Block: 0, Data: tooLong}}, 1, api.ErrSize},
		{[]api.Write{{Block: 0, Data: strings.Repeat("é", api.MaxData/2+1)}}, 1, api.ErrSize},
		{[]api.Write{{Block: 0, Data: long(1 << 20)}}, 1, api.ErrSize},
		{[]api.Write{{Block: 0, Data: "a"}, {Block: 1, Data: tooLong}}, 2, api.ErrSize},

		// The blocks do not increase.
		{[]api.Write{{Block: 1}, {Block: 1}}, 2, api.ErrForm},
		{[]api.Write{{Block: 0}, {Block: 0}}, 1, api.ErrForm},
		{[]api.Write{{Block: 1}, {Block: 0}}, 2, api.ErrForm},
		{[]api.Write{{Block: 0}, {Block: 2}, {Block: 1}}, 3, api.ErrForm},
		{[]api.Write{{Block: 0}, {Block: 2}, {Block: 0}}, 3, api.ErrForm},
		{make([]api.Write, api.MaxWrites), 1, api.ErrForm},

		// Two errors of one write.
		{[]api.Write{{Block: 5, Data: tooLong}}, 2, api.ErrNone},
		{[]api.Write{{Block: 1}, {Block: -1}}, 2, api.ErrNone},
		{[]api.Write{{Block: 1}, {Block: -1, Data: tooLong}}, 2, api.ErrNone},
		{[]api.Write{{Block: 1}, {Block: 1, Data: tooLong}}, 2, api.ErrSize},
		{[]api.Write{{Block: 1}, {Block: 0, Data: tooLong}}, 2, api.ErrSize},

		// The first of two writes with errors counts.
		{[]api.Write{{Block: 1, Data: tooLong}, {Block: 2}}, 2, api.ErrSize},
		{[]api.Write{{Block: 1, Data: tooLong}, {Block: 1}}, 2, api.ErrSize},
		{[]api.Write{{Block: 2}, {Block: 3, Data: tooLong}}, 2, api.ErrNone},
		{[]api.Write{{Block: 2}, {Block: 1}}, 2, api.ErrNone},
		{[]api.Write{{Block: 1}, {Block: 1}, {Block: 2}}, 2, api.ErrForm},
		{[]api.Write{{Block: 1}, {Block: 0}, {Block: 1, Data: tooLong}}, 2, api.ErrForm},
	}
}

func TestCheckWrites(t *testing.T) { // P3.3
	cases := append(writesCases(), []writesCase{
		// The number of blocks has no bounds of its own here.
		{nil, 0, api.OK},
		{nil, math.MinInt, api.OK},
		{nil, math.MaxInt, api.OK},
		{[]api.Write{{Block: 0}}, 0, api.ErrNone},
		{[]api.Write{{Block: 0}}, -1, api.ErrNone},
		{[]api.Write{{Block: -2}}, -1, api.ErrNone},
		{[]api.Write{{Block: 0}}, math.MinInt, api.ErrNone},
		{[]api.Write{{Block: 99}}, 100, api.OK},
		{[]api.Write{{Block: 100}}, 100, api.ErrNone},
		{[]api.Write{{Block: math.MaxInt - 1}}, math.MaxInt, api.OK},
		{[]api.Write{{Block: math.MaxInt}}, math.MaxInt, api.ErrNone},
		{make([]api.Write, api.MaxWrites+1), -1, api.ErrSize},
	}...)
	for _, c := range cases {
		if err := CheckWrites(c.l, c.blocks); err != c.want {
			t.Errorf("CheckWrites(%v, %d) = %v, want %v", c.l, c.blocks, err, c.want)
		}
	}
}

// TestApplyRefusesWrites: Apply has the errors of CheckWrites.
func TestApplyRefusesWrites(t *testing.T) { // P3.4
	for _, c := range writesCases() {
		v, _ := New(c.blocks)
		got, err := Apply(v, c.l)
		if err != c.want || err != api.OK && !none(got) {
			t.Errorf("Apply(%v, %v) = %v, %v, want %v", v, c.l, got, err, c.want)
		}
	}
}

func TestApply(t *testing.T) { // P3.4
	for _, c := range []struct {
		v    api.Volume
		l    []api.Write
		want api.Volume
	}{
		// Same data is one item, which is counted.
		{api.Volume{Blocks: []int{-1, -1}}, []api.Write{{Block: 0, Data: "a"}, {Block: 1, Data: "a"}},
			api.Volume{Items: []api.Item{{Id: 0, Data: "a", Refs: 2}}, Blocks: []int{0, 0}}},
		{api.Volume{Items: []api.Item{{Id: 3, Data: "a", Refs: 1}}, Blocks: []int{3, -1}}, []api.Write{{Block: 1, Data: "a"}},
			api.Volume{Items: []api.Item{{Id: 3, Data: "a", Refs: 2}}, Blocks: []int{3, 3}}},

		// New items have the smallest unused Ids, in the order of the writes.
		{api.Volume{Blocks: []int{-1, -1, -1}}, []api.Write{{Block: 0, Data: "b"}, {Block: 2, Data: "a"}},
			api.Volume{Items: []api.Item{{Id: 0, Data: "b", Refs: 1}, {Id: 1, Data: "a", Refs: 1}}, Blocks: []int{0, -1, 1}}},
		{api.Volume{Items: []api.Item{{Id: 1, Data: "m", Refs: 1}}, Blocks: []int{-1, 1, -1}}, []api.Write{{Block: 0, Data: "z"}, {Block: 2, Data: "y"}},
			api.Volume{Items: []api.Item{{Id: 0, Data: "z", Refs: 1}, {Id: 1, Data: "m", Refs: 1}, {Id: 2, Data: "y", Refs: 1}}, Blocks: []int{0, 1, 2}}},

		// An item goes with its last block, not before.
		{api.Volume{Items: []api.Item{{Id: 0, Data: "a", Refs: 2}}, Blocks: []int{0, 0}}, []api.Write{{Block: 0}},
			api.Volume{Items: []api.Item{{Id: 0, Data: "a", Refs: 1}}, Blocks: []int{-1, 0}}},
		{api.Volume{Items: []api.Item{{Id: 0, Data: "a", Refs: 2}}, Blocks: []int{0, 0}}, []api.Write{{Block: 0}, {Block: 1}},
			api.Volume{Blocks: []int{-1, -1}}},
		{api.Volume{Items: []api.Item{{Id: 0, Data: "a", Refs: 1}, {Id: 1, Data: "b", Refs: 1}}, Blocks: []int{0, 1}}, []api.Write{{Block: 0}},
			api.Volume{Items: []api.Item{{Id: 1, Data: "b", Refs: 1}}, Blocks: []int{-1, 1}}},

		// An empty block stays empty.
		{api.Volume{Blocks: []int{-1, -1}}, []api.Write{{Block: 0}, {Block: 1}}, api.Volume{Blocks: []int{-1, -1}}},

		// No writes: nothing happens.
		{api.Volume{Items: []api.Item{{Id: 9, Data: "a", Refs: 2}}, Blocks: []int{9, -1, 9}}, nil,
			api.Volume{Items: []api.Item{{Id: 9, Data: "a", Refs: 2}}, Blocks: []int{9, -1, 9}}},

		// All is dropped before anything is kept: data that has only the block
		// that is written goes, and comes back with the smallest unused Id.
		{api.Volume{Items: []api.Item{{Id: 5, Data: "q", Refs: 1}}, Blocks: []int{-1, 5}}, []api.Write{{Block: 1, Data: "q"}},
			api.Volume{Items: []api.Item{{Id: 0, Data: "q", Refs: 1}}, Blocks: []int{-1, 0}}},
		{api.Volume{Items: []api.Item{{Id: 5, Data: "q", Refs: 1}}, Blocks: []int{-1, 5}}, []api.Write{{Block: 0, Data: "q"}, {Block: 1}},
			api.Volume{Items: []api.Item{{Id: 0, Data: "q", Refs: 1}}, Blocks: []int{0, -1}}},
		{api.Volume{Items: []api.Item{{Id: 0, Data: "a", Refs: 1}, {Id: 1, Data: "b", Refs: 1}}, Blocks: []int{0, 1}},
			[]api.Write{{Block: 0, Data: "b"}, {Block: 1, Data: "a"}},
			api.Volume{Items: []api.Item{{Id: 0, Data: "b", Refs: 1}, {Id: 1, Data: "a", Refs: 1}}, Blocks: []int{0, 1}}},
		{api.Volume{Items: []api.Item{{Id: 0, Data: "a", Refs: 1}, {Id: 1, Data: "b", Refs: 2}}, Blocks: []int{0, 1, 1}},
			[]api.Write{{Block: 0, Data: "c"}, {Block: 1, Data: "d"}},
			api.Volume{Items: []api.Item{{Id: 0, Data: "c", Refs: 1}, {Id: 1, Data: "b", Refs: 1}, {Id: 2, Data: "d", Refs: 1}}, Blocks: []int{0, 2, 1}}},

		// Data that another block has too keeps its Id.
		{api.Volume{Items: []api.Item{{Id: 5, Data: "q", Refs: 2}}, Blocks: []int{5, 5}}, []api.Write{{Block: 1, Data: "q"}},
			api.Volume{Items: []api.Item{{Id: 5, Data: "q", Refs: 2}}, Blocks: []int{5, 5}}},
	} {
		got, err := Apply(c.v, c.l)
		if !same(got, c.want) || err != api.OK {
			t.Errorf("Apply(%v, %v) = %v, %v, want %v", c.v, c.l, got, err, c.want)
		}
	}
}

// TestApplyFull is about a volume that has all items it may have.
func TestApplyFull(t *testing.T) { // P3.4
	full := distinct(api.MaxItems, api.MaxBlocks)
	for _, c := range []struct {
		l    []api.Write
		want api.Errno
	}{
		{[]api.Write{{Block: 24, Data: "new"}}, api.ErrSize},
		{[]api.Write{{Block: 24, Data: "d0"}}, api.OK},
		{[]api.Write{{Block: 0, Data: "new"}}, api.OK},
		{[]api.Write{{Block: 0, Data: "new"}, {Block: 24, Data: "new"}}, api.OK},
		{[]api.Write{{Block: 0, Data: "new"}, {Block: 24, Data: "other"}}, api.ErrSize},
		{[]api.Write{{Block: 0, Data: "new"}, {Block: 24, Data: "d0"}}, api.ErrSize},
		{[]api.Write{{Block: 0}, {Block: 24, Data: "new"}}, api.OK},
		{[]api.Write{{Block: 0, Data: "new"}, {Block: 1}, {Block: 31, Data: "other"}}, api.OK},
		{someWrites(12, api.MaxWrites), api.OK},
		{someWrites(13, api.MaxWrites), api.ErrSize},
		{someWrites(20, api.MaxWrites), api.ErrSize},

		// The errors of CheckWrites come before that of Keep, also those of
		// later writes.
		{[]api.Write{{Block: 24, Data: "new"}, {Block: 32, Data: "a"}}, api.ErrNone},
		{[]api.Write{{Block: 24, Data: "new"}, {Block: 24, Data: "a"}}, api.ErrForm},
	} {
		got, err := Apply(full, c.l)
		if err != c.want || err != api.OK && !none(got) {
			t.Errorf("Apply of %v to a full volume = %v, %v, want %v", c.l, got, err, c.want)
		}
		if err == api.OK && Check(got) != api.OK {
			t.Errorf("Apply of %v to a full volume = %v, which is not valid", c.l, got)
		}
	}
	// A write behind another one can make room for it, since it drops first.
	got, err := Apply(distinct(api.MaxItems, api.MaxItems+1), []api.Write{{Block: 7}, {Block: 24, Data: "new"}})
	if err != api.OK || got.Blocks[24] != 7 || got.Items[7] != (api.Item{Id: 7, Data: "new", Refs: 1}) {
		t.Errorf("a new item in place of item 7: %v, %v", got, err)
	}
	v := api.Volume{Items: distinct(api.MaxItems, api.MaxItems).Items, Blocks: []int{-1}}
	for i := range api.MaxItems {
		v.Blocks = append(v.Blocks, i)
	}
	got, err = Apply(v, []api.Write{{Block: 0, Data: "new"}, {Block: 8}})
	if err != api.OK || got.Blocks[0] != 7 || got.Items[7] != (api.Item{Id: 7, Data: "new", Refs: 1}) {
		t.Errorf("a new item in place of a later block's: %v, %v", got, err)
	}
}

// TestApplyAllAlike: all blocks can have the same data, and be written again.
func TestApplyAllAlike(t *testing.T) { // P3.4
	v := alike(api.MaxBlocks)
	got, err := Apply(v, []api.Write{{Block: 0, Data: "x"}, {Block: 31, Data: "x"}})
	if !same(got, v) || err != api.OK {
		t.Errorf("the same data again: %v, %v", got, err)
	}
	v, _ = New(api.MaxBlocks)
	for block := range api.MaxBlocks {
		if v, err = Apply(v, []api.Write{{Block: block, Data: "y"}}); err != api.OK {
			t.Fatalf("block %d: %v", block, err)
		}
	}
	if len(v.Items) != 1 || v.Items[0] != (api.Item{Id: 0, Data: "y", Refs: api.MaxRefs}) {
		t.Errorf("all blocks alike: %v", v)
	}
}

// model is a volume told in another way: the data of each block, and the data
// that each Id stands for.
type model struct {
	blocks [3]string
	ids    [3]string
}

func (m model) apply(l []api.Write) model {
	for _, w := range l {
		m.blocks[w.Block] = ""
	}
	for id, data := range m.ids {
		if !slices.Contains(m.blocks[:], data) {
			m.ids[id] = ""
		}
	}
	for _, w := range l {
		m.blocks[w.Block] = w.Data
		if w.Data != "" && !slices.Contains(m.ids[:], w.Data) {
			m.ids[slices.Index(m.ids[:], "")] = w.Data
		}
	}
	return m
}

func (m model) volume() api.Volume {
	var v api.Volume
	for id, data := range m.ids {
		refs := 0
		for _, s := range m.blocks {
			if data != "" && s == data {
				refs++
			}
		}
		if refs > 0 {
			v.Items = append(v.Items, api.Item{Id: id, Data: data, Refs: refs})
		}
	}
	for _, s := range m.blocks {
		id := -1
		if s != "" {
			id = slices.Index(m.ids[:], s)
		}
		v.Blocks = append(v.Blocks, id)
	}
	return v
}

// everyWrites returns all lists of writes of these data to three blocks.
func everyWrites(data ...string) [][]api.Write {
	all := [][]api.Write{nil}
	for block := range 3 {
		for _, l := range slices.Clone(all) {
			for _, s := range data {
				all = append(all, append(slices.Clone(l), api.Write{Block: block, Data: s}))
			}
		}
	}
	return all
}

// TestApplyAgainstModel walks through all volumes that writes to three blocks
// can lead to.
func TestApplyAgainstModel(t *testing.T) { // P3.1, P3.2, P3.4
	every := everyWrites("", "a", "b", "c", "d")
	seen := map[model]bool{{}: true}
	work := []model{{}}
	for len(work) > 0 {
		m := work[0]
		work = work[1:]
		for _, l := range every {
			after := m.apply(l)
			got, err := Apply(m.volume(), l)
			if !same(got, after.volume()) || err != api.OK {
				t.Fatalf("Apply(%v, %v) = %v, %v, want %v", m.volume(), l, got, err, after.volume())
			}
			if seen[after] {
				continue
			}
			seen[after] = true
			work = append(work, after)
			if err := Check(got); err != api.OK {
				t.Fatalf("Check(%v) = %v", got, err)
			}
			for block, want := range after.blocks {
				if data, err := Read(got, block); data != want || err != api.OK {
					t.Fatalf("Read(%v, %d) = %q, %v, want %q", got, block, data, err, want)
				}
			}
		}
	}
	if len(seen) < 100 {
		t.Errorf("only %d volumes", len(seen))
	}
}

// overwrite writes all memory of a volume, unused capacity included.
func overwrite(v api.Volume) {
	items, blocks := v.Items[:cap(v.Items)], v.Blocks[:cap(v.Blocks)]
	for i := range items {
		items[i] = api.Item{Id: -7, Data: "written later", Refs: -7}
	}
	for i := range blocks {
		blocks[i] = -7
	}
}

// roomy returns a volume with unused capacity, and all of its memory.
func roomy() (v, whole api.Volume) {
	whole.Items = []api.Item{{Id: 1, Data: "a", Refs: 2}, {Id: 3, Data: "b", Refs: 1}, {Id: 8, Data: "beyond", Refs: 8}, {Id: 9, Data: "beyond", Refs: 9}}
	whole.Blocks = []int{1, 3, 1, -1, 8, 9}
	return api.Volume{Items: whole.Items[:2], Blocks: whole.Blocks[:4]}, whole
}

// TestMemory: no function changes its arguments or their unused capacity, and
// what is written into a result does not show in an argument.
func TestMemory(t *testing.T) { // P3.1 to P3.4
	for _, l := range [][]api.Write{
		nil,
		{},
		{{Block: 3}},
		{{Block: 0, Data: "a"}},
		{{Block: 3, Data: "a"}},
		{{Block: 3, Data: "new"}},
		{{Block: 0}, {Block: 1}, {Block: 2}},
		{{Block: 0, Data: "x"}, {Block: 1, Data: "y"}, {Block: 2, Data: "z"}, {Block: 3, Data: "w"}},
		{{Block: 0, Data: "x"}, {Block: 0, Data: "y"}},
	} {
		wholeWrites := append(slices.Clone(l), api.Write{Block: 5, Data: "beyond"}, api.Write{Block: 6, Data: "beyond"})
		writesBefore := slices.Clone(wholeWrites)
		v, whole := roomy()
		_, before := roomy()
		for name, do := range map[string]func() api.Volume{
			"New":         func() api.Volume { out, _ := New(4); return out },
			"Check":       func() api.Volume { Check(v); return api.Volume{} },
			"Copy":        func() api.Volume { return Copy(v) },
			"Read":        func() api.Volume { Read(v, 1); return api.Volume{} },
			"CheckWrites": func() api.Volume { CheckWrites(wholeWrites[:len(l)], 4); return api.Volume{} },
			"Apply":       func() api.Volume { out, _ := Apply(v, wholeWrites[:len(l)]); return out },
		} {
			out, again := do(), do()
			want := fmt.Sprint(again)
			overwrite(out)
			if !same(whole, before) || !slices.Equal(wholeWrites, writesBefore) {
				t.Fatalf("%s with %v changes an argument, or shares memory with it", name, l)
			}
			if fmt.Sprint(again) != want {
				t.Errorf("two results of %s with %v share memory", name, l)
			}
		}
	}
}
