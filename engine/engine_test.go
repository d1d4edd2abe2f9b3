package engine

import (
	"fmt"
	"math"
	"math/rand"
	"slices"
	"strconv"
	"strings"
	"testing"

	"saltcellar/api"
	"saltcellar/log"
	"saltcellar/volume"
)

// Acts without arguments.
var (
	begin  = api.Act{Kind: api.Begin}
	commit = api.Act{Kind: api.Commit}
	abort  = api.Act{Kind: api.Abort}
	flush  = api.Act{Kind: api.Flush}
	mark   = api.Act{Kind: api.Mark}
	stat   = api.Act{Kind: api.Stat}
)

func put(block int, data string) api.Act {
	return api.Act{Kind: api.Put, Block: block, Data: data}
}
func read(block int) api.Act { return api.Act{Kind: api.Read, Block: block} }
func crash(keep int) api.Act { return api.Act{Kind: api.Crash, Keep: keep} }

// step: an act and its answer.
type step struct {
	act  api.Act
	want api.Answer
}

// Steps with each kind of answer.
func does(a api.Act) step               { return step{act: a} }
func fails(a api.Act, c api.Errno) step { return step{a, api.Answer{Code: c}} }
func reads(block int, data string) step { return step{read(block), api.Answer{Data: data}} }
func has(items, log int) step           { return step{stat, api.Answer{Items: items, Log: log}} }
func leaves(keep, count int) step       { return step{crash(keep), api.Answer{Count: count}} }

// steps joins steps and lists of steps.
func steps(l ...any) []step {
	var out []step
	for _, x := range l {
		switch y := x.(type) {
		case step:
			out = append(out, y)
		case []step:
			out = append(out, y...)
		}
	}
	return out
}

// writing is a whole transaction that succeeds.
func writing(puts ...api.Act) []step {
	out := []step{does(begin)}
	for _, a := range puts {
		out = append(out, does(a))
	}
	return append(out, does(commit))
}

// same tells whether two volumes have the same items and blocks.
func same(a, b api.Volume) bool {
	return slices.Equal(a.Items, b.Items) && slices.Equal(a.Blocks, b.Blocks)
}

// vol returns a volume of blocks that have some data ("": empty), with the
// items in the order of the blocks.
func vol(data ...string) api.Volume {
	v, err := volume.New(len(data))
	for block, d := range data {
		if err == api.OK {
			v, err = volume.Apply(v, []api.Write{{Block: block, Data: d}})
		}
	}
	if err != api.OK {
		panic(err)
	}
	return v
}

// check runs steps and compares all answers, and the volume in the end.
func check(t *testing.T, name string, blocks int, l []step, want api.Volume) {
	t.Helper()
	var acts []api.Act
	for _, s := range l {
		acts = append(acts, s.act)
	}
	got, v, err := Run(blocks, acts)
	if err != api.OK || len(got) != len(l) {
		t.Fatalf("%s: Run = %d answers to %d acts, %v", name, len(got), len(l), err)
	}
	for i, s := range l {
		if got[i] != s.want {
			t.Errorf("%s: act %d, %+v: %+v, want %+v", name, i, s.act, got[i], s.want)
		}
	}
	if !same(v, want) {
		t.Errorf("%s: the volume is %v, want %v", name, v, want)
	}
}

// noise returns n bytes that cannot be packed; n is at most MaxData+1.
func noise(n int) string {
	var b strings.Builder
	for i := range n {
		b.WriteByte(byte('0' + i))
	}
	return b.String()
}

// puts returns puts of data to n blocks from first on.
func puts(first, n int, data string) []api.Act {
	var l []api.Act
	for i := range n {
		l = append(l, put(first+i, data))
	}
	return l
}

// size returns the size of the record of a transaction, which has 8 bytes,
// and 2 more and the packed data for each write.
func size(packed ...int) int {
	n := 8
	for _, p := range packed {
		n += 2 + p
	}
	return n
}

func TestRunNothing(t *testing.T) { // P5.1
	for blocks := 1; blocks <= api.MaxBlocks; blocks++ {
		want := api.Volume{Blocks: slices.Repeat([]int{-1}, blocks)}
		check(t, "no acts", blocks, nil, want)
		check(t, "reads", blocks, []step{reads(0, ""), reads(blocks-1, ""), fails(read(blocks), api.ErrNone), has(0, 0)}, want)
	}
}

func TestRunErrors(t *testing.T) { // P5.1
	many := slices.Repeat([]api.Act{begin, put(0, "a"), commit}, api.MaxActs/3+1)[:api.MaxActs+1]
	for _, c := range []struct {
		blocks int
		l      []api.Act
		want   api.Errno
	}{
		{0, nil, api.ErrRange},
		{-1, nil, api.ErrRange},
		{api.MaxBlocks + 1, []api.Act{stat}, api.ErrRange},
		{math.MaxInt, []api.Act{stat}, api.ErrRange},
		{math.MinInt, []api.Act{stat}, api.ErrRange},
		{1, many, api.ErrSize},
		{api.MaxBlocks, make([]api.Act, api.MaxActs+1), api.ErrSize},
		{api.MaxBlocks, make([]api.Act, 1<<16), api.ErrSize},

		// The number of blocks comes first.
		{0, many, api.ErrRange},
		{api.MaxBlocks + 1, many, api.ErrRange},
	} {
		got, v, err := Run(c.blocks, c.l)
		if err != c.want || len(got) != 0 || len(v.Items) != 0 || len(v.Blocks) != 0 {
			t.Errorf("Run of %d blocks and %d acts = %v, %v, %v, want %v", c.blocks, len(c.l), got, v, err, c.want)
		}
	}
	got, v, err := Run(1, many[:api.MaxActs])
	if err != api.OK || len(got) != api.MaxActs || !same(v, vol("a")) {
		t.Errorf("Run of MaxActs acts: %d answers, %v, %v", len(got), v, err)
	}
}

// TestUnknownKinds: they change nothing, with and without a transaction.
func TestUnknownKinds(t *testing.T) { // P5.1
	for _, kind := range []int{0, -1, 10, 11, 256 + api.Begin, math.MaxInt, math.MinInt} {
		unknown := fails(api.Act{Kind: kind, Block: 1, Data: "u", Keep: 5}, api.ErrKind)
		check(t, strconv.Itoa(kind), 2, steps(unknown, has(0, 0), does(begin), unknown, does(put(0, "a")), unknown,
			reads(0, "a"), does(commit), unknown, has(1, size(2)), unknown), vol("a", ""))
	}
}

// TestUnusedFields: fields of an act that its kind does not use do not matter.
func TestUnusedFields(t *testing.T) { // P5.1
	long := noise(api.MaxData + 1)
	check(t, "unused fields", 2, steps(
		does(api.Act{Kind: api.Begin, Block: -7, Data: long, Keep: -1}),
		does(api.Act{Kind: api.Put, Block: 1, Data: "a", Keep: -1}),
		step{api.Act{Kind: api.Read, Block: 1, Data: long, Keep: -1}, api.Answer{Data: "a"}},
		does(api.Act{Kind: api.Commit, Block: -7, Data: long, Keep: -1}),
		does(api.Act{Kind: api.Flush, Block: -7, Data: long, Keep: -1}),
		does(api.Act{Kind: api.Begin, Block: math.MaxInt, Data: "x", Keep: math.MinInt}),
		does(api.Act{Kind: api.Abort, Block: -7, Data: long, Keep: -1}),
		step{api.Act{Kind: api.Stat, Block: -7, Data: long, Keep: -1}, api.Answer{Items: 1, Log: size(2)}},
		step{api.Act{Kind: api.Crash, Block: -7, Data: long}, api.Answer{Count: 1}},
		does(api.Act{Kind: api.Mark, Block: -7, Data: long, Keep: -1}),
	), vol("", "a"))
}

func TestBegin(t *testing.T) { // P5.2
	check(t, "second Begin", 2, steps(does(begin), fails(begin, api.ErrState), does(put(0, "a")), fails(begin, api.ErrState),
		reads(0, "a"), does(commit), does(begin), fails(begin, api.ErrState)), vol("a", ""))
	// Each transaction begins without writes, whatever ended the one before.
	for _, end := range []step{does(commit), does(abort), does(crash(0))} {
		want := vol("", "")
		if end.act.Kind == api.Commit {
			want = vol("a", "")
		}
		check(t, "begins empty", 2, steps(does(begin), does(put(0, "a")), end, does(begin), does(commit)), want)
	}
}

func TestPutErrors(t *testing.T) { // P5.2
	tooLong := noise(api.MaxData + 1)
	for _, c := range []struct {
		act  api.Act
		want api.Errno
	}{
		{put(0, ""), api.OK},
		{put(1, "a"), api.OK},
		{put(1, noise(api.MaxData)), api.OK},
		{put(1, strings.Repeat("x", api.MaxData)), api.OK},
		{put(2, "a"), api.ErrNone},
		{put(-1, "a"), api.ErrNone},
		{put(-1, ""), api.ErrNone},
		{put(256, "a"), api.ErrNone},
		{put(math.MaxInt, "a"), api.ErrNone},
		{put(math.MinInt, "a"), api.ErrNone},
		{put(0, tooLong), api.ErrSize},
		{put(0, strings.Repeat("x", api.MaxData+1)), api.ErrSize},
		{put(0, strings.Repeat("é", api.MaxData/2+1)), api.ErrSize},
		{put(0, strings.Repeat("x", 1<<20)), api.ErrSize},
		{put(2, tooLong), api.ErrNone},
		{put(-1, tooLong), api.ErrNone},
	} {
		// Without a transaction: before the first one, and after its end.
		no := fails(c.act, api.ErrState)
		check(t, "no transaction", 2, steps(no, does(begin), does(commit), no, does(begin), does(abort), no,
			does(begin), leaves(8, 1), no, reads(0, ""), reads(1, "")), vol("", ""))
		// In one, an error leaves the earlier writes.
		want := vol("p", "q")
		if c.want == api.OK {
			data := []string{"p", "q"}
			data[c.act.Block] = c.act.Data
			want = vol(data...)
		}
		check(t, fmt.Sprintf("Put %d of %d bytes", c.act.Block, len(c.act.Data)), 2,
			steps(does(begin), does(put(0, "p")), does(put(1, "q")), fails(c.act, c.want), does(commit)), want)
	}
}

// TestPutTooMany: MaxWrites blocks are all that a transaction writes; what
// replaces an earlier write is not one more.
func TestPutTooMany(t *testing.T) { // P5.2
	n := api.MaxWrites
	want := make([]string, api.MaxBlocks)
	l := []step{does(begin)}
	for block := range n {
		l = append(l, does(put(block, "a")))
		want[block] = "a"
	}
	want[3] = "c"
	l = steps(l,
		fails(put(n, "b"), api.ErrSize), fails(put(n, ""), api.ErrSize), fails(put(api.MaxBlocks-1, "b"), api.ErrSize),
		fails(put(api.MaxBlocks, "b"), api.ErrNone), fails(put(-1, "b"), api.ErrNone),
		does(put(3, "b")), does(put(3, "c")), does(put(n-1, "a")), does(put(0, "a")),
		fails(put(3, noise(api.MaxData+1)), api.ErrSize),
		fails(put(n, "b"), api.ErrSize), reads(n, ""), reads(3, "c"), does(commit))
	check(t, "too many", api.MaxBlocks, l, vol(want...))

	// The same block again and again is one write, an empty one counts too.
	l = []step{does(begin)}
	for i := range 3 * n {
		l = append(l, does(put(1, strconv.Itoa(i))), reads(1, strconv.Itoa(i)))
	}
	for block := 2; block <= n; block++ {
		l = append(l, does(put(block, "")))
	}
	want = make([]string, n+2)
	want[1] = strconv.Itoa(3*n - 1)
	check(t, "one block", n+2, steps(l, fails(put(n+1, ""), api.ErrSize), does(commit)), vol(want...))
}

func TestRead(t *testing.T) { // P5.2
	first := writing(put(0, "a"), put(1, "b"))
	check(t, "the volume", 3, steps(first, reads(0, "a"), reads(1, "b"), reads(2, "")), vol("a", "b", ""))
	check(t, "what is written", 3, steps(first, does(begin), reads(0, "a"),
		does(put(0, "x")), reads(0, "x"), reads(1, "b"), reads(2, ""),
		does(put(2, "z")), does(put(1, "")), reads(1, ""), reads(2, "z"), reads(0, "x"),
		does(put(0, "y")), does(put(2, "")), reads(0, "y"), reads(2, ""), does(put(1, "b")), reads(1, "b"),
		does(commit), reads(0, "y"), reads(1, "b"), reads(2, "")),
		api.Volume{Items: []api.Item{{Id: 0, Data: "y", Refs: 1}, {Id: 1, Data: "b", Refs: 1}}, Blocks: []int{0, 1, -1}})
	check(t, "an abort", 3, steps(first, does(begin), does(put(0, "x")), does(put(1, "")), does(abort), reads(0, "a"), reads(1, "b")), vol("a", "b", ""))
	for _, block := range []int{-1, -2, 3, 4, 32, math.MaxInt, math.MinInt} {
		none := fails(read(block), api.ErrNone)
		check(t, "no such block", 3, steps(none, first, none, does(begin), none, does(put(0, "x")), none, does(abort)), vol("a", "b", ""))
	}
}

func TestAbort(t *testing.T) { // P5.2
	check(t, "none open", 1, steps(fails(abort, api.ErrState), does(begin), does(abort), fails(abort, api.ErrState),
		writing(put(0, "a")), fails(abort, api.ErrState), does(begin), leaves(0, 0), fails(abort, api.ErrState)), vol(""))
	check(t, "nothing stays", 2, steps(writing(put(0, "a")), does(begin), does(put(0, "b")), does(put(1, "c")), has(1, size(2)),
		does(abort), has(1, size(2)), does(begin), reads(0, "a"), reads(1, ""), does(commit), has(1, size(2)+8)), vol("a", ""))
}

func TestCommit(t *testing.T) { // P5.3
	check(t, "none open", 1, steps(fails(commit, api.ErrState), has(0, 0), does(begin), does(commit), fails(commit, api.ErrState),
		has(0, 8), does(begin), does(abort), fails(commit, api.ErrState), does(begin), leaves(0, 0), fails(commit, api.ErrState), has(0, 0)), vol(""))
	check(t, "shared data", 2, steps(writing(put(0, "a"), put(1, "a")), has(1, size(2, 2))),
		api.Volume{Items: []api.Item{{Id: 0, Data: "a", Refs: 2}}, Blocks: []int{0, 0}})
	check(t, "no writes", 1, steps(writing(), has(0, 8), writing(), has(0, 16)), vol(""))

	// Writes are applied in the order of blocks, whatever the order of puts;
	// a replaced write keeps no place and no item.
	sorted := api.Volume{Items: []api.Item{{Id: 0, Data: "a", Refs: 1}, {Id: 1, Data: "b", Refs: 1}, {Id: 2, Data: "c", Refs: 1}}, Blocks: []int{0, 1, -1, 2}}
	for _, l := range [][]api.Act{
		{put(0, "a"), put(1, "b"), put(3, "c")},
		{put(0, "a"), put(3, "c"), put(1, "b")},
		{put(1, "b"), put(0, "a"), put(3, "c")},
		{put(1, "b"), put(3, "c"), put(0, "a")},
		{put(3, "c"), put(0, "a"), put(1, "b")},
		{put(3, "c"), put(1, "b"), put(0, "a")},
		{put(3, "x"), put(1, "y"), put(3, "c"), put(0, "z"), put(1, "b"), put(0, "a")},
	} {
		check(t, "order", 4, steps(writing(l...), has(3, size(2, 2, 2))), sorted)
	}

	// Data that is written to another block in the same transaction: all is
	// dropped before anything is kept.
	check(t, "swap", 2, steps(writing(put(0, "a"), put(1, "b")), writing(put(1, "a"), put(0, "b")), has(2, 2*size(2, 2))), vol("b", "a"))
	// Runs are packed in the log.
	check(t, "packed", 2, steps(writing(put(0, strings.Repeat("x", api.MaxData)), put(1, "abbb")), has(2, size(2, 4))),
		vol(strings.Repeat("x", api.MaxData), "abbb"))
	// Data is bytes of any kind, those of a record too.
	bytes := "\x00\xff\x80r\x00\x01\x00\x01\xce\x00\x74é"
	check(t, "bytes", 2, steps(writing(put(1, bytes)), reads(1, bytes), leaves(size(len(bytes)+1), 1), reads(1, bytes)), vol("", bytes))
	// A block that becomes empty is a write of no data.
	check(t, "empty", 2, steps(writing(put(1, "a")), writing(put(1, "")), has(0, size(2)+size(0)), writing(put(0, "")), has(0, size(2)+2*size(0))), vol("", ""))
}

// TestCommitTooManyItems: a volume has MaxItems items; a transaction that
// would have one more ends, and changes nothing else.
func TestCommitTooManyItems(t *testing.T) { // P5.3
	var l []step
	data := make([]string, api.MaxBlocks)
	for block := range api.MaxItems {
		data[block] = "d" + strconv.Itoa(10+block)
		l = append(l, writing(put(block, data[block]))...)
	}
	full := has(api.MaxItems, api.MaxItems*size(4))
	l = steps(l, full,
		does(begin), does(put(0, "")), does(put(24, "x")), does(put(25, "y")), fails(commit, api.ErrSize),
		full, reads(0, "d10"), reads(24, ""),
		fails(commit, api.ErrState), fails(abort, api.ErrState), fails(put(0, "x"), api.ErrState),
		// The failed transaction has no record: no crash finds it.
		does(flush), leaves(api.MaxLog, api.MaxItems), full)
	check(t, "one too many", api.MaxBlocks, l, vol(data...))
	// One that drops as many items as it keeps succeeds, with the Id that
	// becomes unused.
	want := api.Volume{Items: []api.Item{{Id: 0, Data: "x", Refs: 1}}, Blocks: slices.Repeat([]int{-1}, api.MaxBlocks)}
	for i := 1; i < api.MaxItems; i++ {
		want.Items = append(want.Items, api.Item{Id: i, Data: data[i], Refs: 1})
		want.Blocks[i] = i
	}
	want.Blocks[24] = 0
	check(t, "as many", api.MaxBlocks, steps(l, writing(put(24, "x"), put(0, ""))), want)
	// Data that is there already needs no item.
	data[24], data[31] = "d10", "d33"
	check(t, "known data", api.MaxBlocks, steps(l, writing(put(24, "d10"), put(31, "d33"))), vol(data...))
}

// bigLog returns six transactions, whose records have 620 bytes each, and the
// data of the blocks after them.
func bigLog() ([]step, []string) {
	var l []step
	data := make([]string, api.MaxBlocks)
	for range 6 {
		l = append(l, writing(puts(0, api.MaxWrites, noise(api.MaxData))...)...)
	}
	for block := range api.MaxWrites {
		data[block] = noise(api.MaxData)
	}
	return l, data
}

// TestCommitFullLog: the log has MaxLog bytes at most; a transaction whose
// record is one byte too long ends, and changes nothing else.
func TestCommitFullLog(t *testing.T) { // P5.3
	l, data := bigLog()
	most := size(slices.Repeat([]int{49}, api.MaxWrites)...)
	l = steps(l, has(1, 6*most), writing(puts(20, 5, noise(api.MaxData))...), has(1, api.MaxLog-17))
	for block := 20; block < 25; block++ {
		data[block] = noise(api.MaxData)
	}
	tooLong := steps(does(begin), does(put(31, "abcdefg")), fails(commit, api.ErrSize),
		has(1, api.MaxLog-17), reads(31, ""), fails(commit, api.ErrState), fails(abort, api.ErrState))
	check(t, "one byte too many", api.MaxBlocks, steps(l, tooLong), vol(data...))
	check(t, "crash", api.MaxBlocks, steps(l, tooLong, leaves(api.MaxLog, 7), has(1, api.MaxLog-17)), vol(data...))

	data[31] = "abcdef"
	full := steps(l, tooLong, writing(put(31, "abcdef")), has(2, api.MaxLog))
	check(t, "full", api.MaxBlocks, full, vol(data...))
	// Not even a transaction without writes goes on a full log; a volume that
	// is marked has room again, whatever is flushed has not.
	check(t, "no more", api.MaxBlocks, steps(full, does(flush), does(begin), fails(commit, api.ErrSize),
		leaves(0, 8), does(begin), fails(commit, api.ErrSize), has(2, api.MaxLog), does(mark), writing(), has(2, 8)), vol(data...))
}

// TestCommitErrorsFirst: a transaction that fails ends also where it would be
// too long for the log and have too many items at once.
func TestCommitErrorsFirst(t *testing.T) { // P5.3
	l, data := bigLog()
	var more []api.Act
	for i := range 23 {
		data[8+i] = "e" + strconv.Itoa(10+i)
		more = append(more, put(8+i, data[8+i]))
	}
	l = steps(l, writing(more[:12]...), writing(more[12:]...))
	full := has(api.MaxItems, 6*620+2*8+23*6)
	l = steps(l, full, does(begin))
	for _, a := range append(puts(0, 4, noise(api.MaxData)), put(31, "x")) {
		l = append(l, does(a))
	}
	check(t, "both", api.MaxBlocks, steps(l, fails(commit, api.ErrSize), full, fails(abort, api.ErrState)), vol(data...))
}

func TestFlush(t *testing.T) { // P5.3, P5.4
	one := writing(put(0, "a"), put(1, "a"))
	check(t, "the example without it", 2, steps(one, leaves(0, 0)), vol("", ""))
	check(t, "the example", 2, steps(one, does(flush), leaves(0, 1), reads(0, "a"), reads(1, "a")), vol("a", "a"))
	check(t, "only what is before it", 2, steps(one, does(flush), writing(put(1, "b")), leaves(0, 1)), vol("a", "a"))
	check(t, "not what is open", 2, steps(does(begin), does(put(0, "a")), does(flush), does(commit), leaves(0, 0)), vol("", ""))
	check(t, "an empty log", 2, steps(does(flush), one, leaves(0, 0), does(flush)), vol("", ""))
	check(t, "all of them", 2, steps(one, writing(put(0, "b")), does(flush), does(flush), leaves(0, 2)), api.Volume{
		Items: []api.Item{{Id: 0, Data: "a", Refs: 1}, {Id: 1, Data: "b", Refs: 1}}, Blocks: []int{1, 0}})
	check(t, "the transaction stays open", 2, steps(does(begin), does(put(0, "a")), does(flush), reads(0, "a"), does(put(1, "a")),
		does(commit), has(1, size(2, 2))), vol("a", "a"))
}

func TestMark(t *testing.T) { // P5.3, P5.4
	one := writing(put(0, "a"))
	check(t, "it lasts", 2, steps(one, does(mark), has(1, 0), leaves(0, 0), reads(0, "a"), has(1, 0)), vol("a", ""))
	check(t, "the log begins anew", 2, steps(one, does(flush), does(mark), writing(put(1, "b")), has(2, size(2)), leaves(0, 0), has(1, 0)), vol("a", ""))
	check(t, "what follows is flushed", 2, steps(one, does(mark), writing(put(1, "b")), does(flush), writing(put(0, "c")), leaves(0, 1), has(2, size(2))), vol("a", "b"))
	check(t, "the last one counts", 2, steps(one, does(mark), writing(put(0, "b")), does(mark), writing(put(0, "c")), leaves(11, 0)), vol("b", ""))
	check(t, "not what is open", 2, steps(does(begin), does(put(0, "a")), does(mark), reads(0, "a"), leaves(0, 0), reads(0, "")), vol("", ""))
	check(t, "the transaction stays open", 2, steps(one, does(begin), does(put(1, "b")), does(mark), reads(1, "b"), has(1, 0), does(commit), has(2, size(2))), vol("a", "b"))
	check(t, "also after a crash", 2, steps(one, writing(put(0, "b")), leaves(12, 1), does(mark), writing(put(0, "c")), leaves(0, 0)), vol("a", ""))
	check(t, "of a new volume", 1, steps(does(mark), one, leaves(0, 0)), vol(""))
	// The Ids of items are saved too: they are not those of a new volume.
	gap := api.Volume{Items: []api.Item{{Id: 1, Data: "b", Refs: 2}}, Blocks: []int{1, 1}}
	check(t, "the Ids stay", 2, steps(writing(put(0, "a"), put(1, "b")), writing(put(0, "b")), does(mark), writing(put(1, "c")), leaves(0, 0)), gap)
}

func TestStat(t *testing.T) { // P5.3
	check(t, "committed writes count", 3, steps(has(0, 0), does(begin), has(0, 0), does(put(0, "a")), has(0, 0), does(put(1, "b")), does(put(2, "a")),
		has(0, 0), does(commit), has(2, size(2, 2, 2)), does(begin), does(put(1, "")), has(2, size(2, 2, 2)), does(commit), has(1, size(2, 2, 2)+size(0)),
		does(flush), has(1, size(2, 2, 2)+size(0)), does(mark), has(1, 0)), vol("a", "", "a"))
}

// TestCrashKeeps crashes with each number of bytes that are kept, behind each
// number of transactions that are durable.
func TestCrashKeeps(t *testing.T) { // P5.4
	parts := [][]step{writing(put(0, "a"), put(2, "abbb")), writing(), writing(put(0, "b")), writing(put(2, ""), put(1, "b"))}
	ends := []int{0, size(2, 4), size(2, 4) + 8, size(2, 4) + 8 + size(2), size(2, 4) + 8 + size(2) + size(2, 0)}
	after := []api.Volume{vol("", "", ""), vol("a", "", "abbb"), vol("a", "", "abbb"),
		{Items: []api.Item{{Id: 0, Data: "b", Refs: 1}, {Id: 1, Data: "abbb", Refs: 1}}, Blocks: []int{0, -1, 1}},
		{Items: []api.Item{{Id: 0, Data: "b", Refs: 2}}, Blocks: []int{0, 0, -1}}}
	for durable := range ends {
		l := steps()
		for i, part := range parts {
			if i == durable {
				l = append(l, does(flush))
			}
			l = append(l, part...)
		}
		if durable == len(parts) {
			l = append(l, does(flush))
		}
		for keep := range ends[4] + 3 {
			count := durable
			for count < 4 && ends[count+1] <= ends[durable]+keep {
				count++
			}
			name := fmt.Sprintf("%d durable, %d bytes kept", durable, keep)
			log := has(len(after[count].Items), ends[count])
			check(t, name, 3, steps(l, leaves(keep, count), log), after[count])
			// What is left is durable, and a second crash takes nothing.
			check(t, name+", again", 3, steps(l, leaves(keep, count), writing(put(1, "lost")), leaves(0, count), log), after[count])
		}
		for _, keep := range []int{4000, math.MaxInt32, math.MaxInt - 1, math.MaxInt} {
			check(t, fmt.Sprintf("%d durable, all kept", durable), 3, steps(l, leaves(keep, 4)), after[4])
		}
	}
}

func TestCrashNegative(t *testing.T) { // P5.4
	for _, keep := range []int{-1, -2, -4000, math.MinInt32, math.MinInt} {
		no := fails(crash(keep), api.ErrRange)
		// Nothing changes: the volume, the log, what is durable, the transaction.
		check(t, strconv.Itoa(keep), 2, steps(no, writing(put(0, "a")), no, has(1, size(2)), does(begin), does(put(1, "b")), no,
			reads(1, "b"), fails(begin, api.ErrState), does(commit), does(flush), no, writing(put(0, "c")), no, has(2, 3*size(2)), leaves(0, 2)), vol("a", "b"))
	}
}

func TestCrashEndsTransaction(t *testing.T) { // P5.4
	check(t, "open", 2, steps(does(begin), does(put(0, "a")), leaves(100, 0), reads(0, ""), fails(put(0, "a"), api.ErrState),
		fails(commit, api.ErrState), fails(abort, api.ErrState), does(begin), reads(0, ""), does(put(1, "b")), does(commit)), vol("", "b"))
	check(t, "at once", 1, steps(leaves(0, 0), leaves(0, 0), leaves(math.MaxInt, 0), has(0, 0)), vol(""))
}

// TestCrashCuts: the rest of a cut record is gone, so that later records
// follow complete ones, and are found.
func TestCrashCuts(t *testing.T) { // P5.4
	for keep := range size(2) {
		check(t, strconv.Itoa(keep), 2, steps(writing(put(0, "a")), leaves(keep, 0), has(0, 0), writing(put(1, "b")), has(1, size(2)),
			leaves(size(2), 1), writing(put(0, "c")), does(flush), leaves(0, 2), has(2, 2*size(2))),
			api.Volume{Items: []api.Item{{Id: 0, Data: "b", Refs: 1}, {Id: 1, Data: "c", Refs: 1}}, Blocks: []int{1, 0}})
	}
}

// TestCrashTwice: each crash begins from the saved volume; this log cannot be
// applied to the volume that it leads to, which is full already.
func TestCrashTwice(t *testing.T) { // P5.4
	var l []api.Act
	want := api.Volume{Items: []api.Item{{Id: 0, Data: "x", Refs: 1}}, Blocks: slices.Repeat([]int{-1}, api.MaxBlocks)}
	for i := range api.MaxItems {
		l = append(l, put(i, "d"+strconv.Itoa(i)))
		if i > 0 {
			want.Items = append(want.Items, api.Item{Id: i, Data: "d" + strconv.Itoa(i), Refs: 1})
			want.Blocks[i] = i
		}
	}
	want.Blocks[31] = 0
	check(t, "full", api.MaxBlocks, steps(writing(l[:12]...), writing(l[12:]...), writing(put(0, ""), put(31, "x")),
		leaves(api.MaxLog, 3), leaves(0, 3), has(api.MaxItems, 2*8+10*5+14*6+size(0, 2)), leaves(1, 3)), want)
}

// model is another engine, without bytes: it has the volume after each
// transaction of the log, and the writes of the open one in a map.
type model struct {
	after   []api.Volume // the first one is the saved one
	ends    []int        // of the records in the log, the first one is 0
	durable int          // transactions
	open    map[int]string
}

func (m *model) last() api.Volume { return m.after[len(m.after)-1] }

func (m *model) put(a api.Act) api.Errno {
	_, again := m.open[a.Block]
	switch {
	case m.open == nil:
		return api.ErrState
	case a.Block < 0 || a.Block >= len(m.last().Blocks):
		return api.ErrNone
	case len(a.Data) > api.MaxData || !again && len(m.open) == api.MaxWrites:
		return api.ErrSize
	}
	m.open[a.Block] = a.Data
	return api.OK
}

func (m *model) commit() api.Errno {
	if m.open == nil {
		return api.ErrState
	}
	var l []api.Write
	for block := range m.last().Blocks {
		if data, ok := m.open[block]; ok {
			l = append(l, api.Write{Block: block, Data: data})
		}
	}
	m.open = nil
	v, err := volume.Apply(m.last(), l)
	if err != api.OK {
		return err
	}
	record, _ := log.Record(l, len(v.Blocks))
	end := m.ends[len(m.ends)-1] + len(record)
	if end > api.MaxLog {
		return api.ErrSize
	}
	m.after, m.ends = append(m.after, v), append(m.ends, end)
	return api.OK
}

func (m *model) crash(keep int) api.Answer {
	if keep < 0 {
		return api.Answer{Code: api.ErrRange}
	}
	n := m.durable
	for n+1 < len(m.ends) && m.ends[n+1]-m.ends[m.durable] <= keep {
		n++
	}
	m.after, m.ends, m.durable, m.open = m.after[:n+1], m.ends[:n+1], n, nil
	return api.Answer{Count: n}
}

func (m *model) perform(a api.Act) api.Answer {
	switch a.Kind {
	case api.Begin, api.Abort:
		if (m.open == nil) != (a.Kind == api.Begin) {
			return api.Answer{Code: api.ErrState}
		}
		m.open = nil
		if a.Kind == api.Begin {
			m.open = map[int]string{}
		}
	case api.Put:
		return api.Answer{Code: m.put(a)}
	case api.Read:
		if data, ok := m.open[a.Block]; ok {
			return api.Answer{Data: data}
		}
		data, err := volume.Read(m.last(), a.Block)
		return api.Answer{Code: err, Data: data}
	case api.Commit:
		return api.Answer{Code: m.commit()}
	case api.Flush:
		m.durable = len(m.ends) - 1
	case api.Crash:
		return m.crash(a.Keep)
	case api.Mark:
		m.after, m.ends, m.durable = []api.Volume{m.last()}, []int{0}, 0
	case api.Stat:
		return api.Answer{Items: len(m.last().Items), Log: m.ends[len(m.ends)-1]}
	default:
		return api.Answer{Code: api.ErrKind}
	}
	return api.Answer{}
}

// compare runs acts, and has the model say what is right; it returns the answers.
func compare(t *testing.T, blocks int, l []api.Act) []api.Answer {
	t.Helper()
	got, v, err := Run(blocks, l)
	if err != api.OK || len(got) != len(l) {
		t.Fatalf("Run(%d, %+v) = %v, %v", blocks, l, got, err)
	}
	start, _ := volume.New(blocks)
	m := model{after: []api.Volume{start}, ends: []int{0}}
	for i, a := range l {
		if want := m.perform(a); got[i] != want {
			t.Fatalf("Run(%d, %+v): answer %d is %+v, want %+v", blocks, l, i, got[i], want)
		}
	}
	if !same(v, m.last()) || volume.Check(v) != api.OK {
		t.Fatalf("Run(%d, %+v): the volume is %v, want %v", blocks, l, v, m.last())
	}
	return got
}

// TestAllShort goes through all lists of up to four of some acts.
func TestAllShort(t *testing.T) { // P5.1 to P5.4
	choice := [][]api.Act{{begin}, {put(0, "a")}, {put(1, "b")}, {put(0, "")}, {read(0)}, {commit}, {abort}, {flush}, {mark},
		{crash(0)}, {crash(12)}, {begin, put(1, "a"), commit}, {begin, put(0, "b"), put(1, "c"), commit}}
	level := [][]api.Act{nil}
	for range 4 {
		var next [][]api.Act
		for _, l := range level {
			for _, c := range choice {
				next = append(next, slices.Concat(l, c))
			}
		}
		for _, l := range next {
			compare(t, 2, slices.Concat(l, []api.Act{stat, read(0), crash(24), stat, crash(0), commit}))
		}
		level = next
	}
}

// anyPut returns a put to a block that exists, but for one in a while.
func anyPut(r *rand.Rand, blocks int) api.Act {
	block, data := r.Intn(blocks), strconv.Itoa(r.Intn(40))
	switch r.Intn(20) {
	case 0:
		block = r.Intn(2)*(blocks+1) - 1
	case 1, 2:
		data = noise(r.Intn(api.MaxData + 2))
	case 3, 4:
		data = strings.Repeat(data, r.Intn(26))
	case 5, 6:
		data = ""
	}
	return put(block, data)
}

// anyAct: most of them are about transactions.
func anyAct(r *rand.Rand, blocks int) api.Act {
	switch n := r.Intn(100); {
	case n < 14:
		return begin
	case n < 60:
		return anyPut(r, blocks)
	case n < 72:
		return commit
	case n < 80:
		return read(r.Intn(blocks+2) - 1)
	case n < 83:
		return abort
	case n < 87:
		return flush
	case n < 90:
		return crash(r.Intn(600) - 60)
	case n < 91:
		return mark
	case n < 92:
		return api.Act{Kind: r.Intn(14) - 1}
	}
	return stat
}

// fillingActs returns transactions of many bytes, with flushes between them.
func fillingActs(r *rand.Rand, blocks int) []api.Act {
	var l []api.Act
	for range 20 {
		l = append(l, begin)
		for range 2 + r.Intn(11) {
			l = append(l, put(r.Intn(blocks), noise(api.MaxData-r.Intn(5))))
		}
		l = append(l, commit, stat)
		if r.Intn(4) == 0 {
			l = append(l, flush)
		}
	}
	return l
}

// anyActs returns MaxActs acts.
func anyActs(r *rand.Rand, blocks int) []api.Act {
	var l []api.Act
	if r.Intn(3) == 0 {
		l = fillingActs(r, blocks)
	}
	for len(l) < api.MaxActs {
		l = append(l, anyAct(r, blocks))
	}
	return l[:api.MaxActs]
}

// TestManyLong compares long lists of acts with the model, and sees to it
// that each kind of act comes to each of its errors.
func TestManyLong(t *testing.T) { // P5.1 to P5.4
	r := rand.New(rand.NewSource(5))
	seen := map[string]int{}
	for range 2000 {
		blocks := 1 + r.Intn(api.MaxBlocks)
		l := anyActs(r, blocks)
		for i, a := range compare(t, blocks, l) {
			seen[fmt.Sprintf("%d %v", l[i].Kind, a.Code)]++
			seen["full log"] += max(0, a.Log-(api.MaxLog-100))
			seen["full volume"] += max(0, a.Items-(api.MaxItems-1))
			seen["several left"] += max(0, a.Count-1)
		}
	}
	for _, s := range []string{"1 refused 0", "1 refused 7", "2 refused 0", "2 refused 1", "2 refused 6", "2 refused 7", "3 refused 0", "3 refused 6",
		"4 refused 0", "4 refused 1", "4 refused 7", "5 refused 0", "5 refused 7", "6 refused 0", "7 refused 0", "7 refused 2", "8 refused 0", "9 refused 0",
		"0 refused 3", "10 refused 3", "full log", "full volume", "several left"} {
		if seen[s] == 0 {
			t.Errorf("never: %s", s)
		}
	}
}

// TestPrefixes: acts are performed one by one, so that those to come change
// no answer, and a crash that takes nothing changes no volume.
func TestPrefixes(t *testing.T) { // P5.1, P5.4
	r := rand.New(rand.NewSource(6))
	for range 5 {
		l := anyActs(r, 20)[1:]
		all, _, _ := Run(20, l)
		for n := range len(l) + 1 {
			got, v, err := Run(20, l[:n])
			if err != api.OK || !slices.Equal(got, all[:n]) {
				t.Fatalf("the answers to the first %d of %+v are %v, want %v", n, l, got, all[:n])
			}
			if _, w, _ := Run(20, append(slices.Clone(l[:n]), crash(api.MaxLog))); !same(v, w) {
				t.Fatalf("a crash that keeps all after the first %d of %+v: %v, want %v", n, l, w, v)
			}
		}
	}
}

// TestMemory: arguments stay as they are, and results share no memory.
func TestMemory(t *testing.T) { // P5.1
	whole := []api.Act{begin, put(1, "b"), put(0, "a"), commit, mark, begin, put(1, "c"), commit, read(1), crash(0), stat, put(0, "beyond"), commit}
	for n := range len(whole) {
		before := slices.Clone(whole)
		first, v, _ := Run(2, whole[:n])
		second, w, _ := Run(2, whole[:n])
		if !slices.Equal(whole, before) {
			t.Fatalf("Run changes its acts: %v", whole)
		}
		answers, copied := slices.Clone(second), volume.Copy(w)
		first, v.Items, v.Blocks = first[:cap(first)], v.Items[:cap(v.Items)], v.Blocks[:cap(v.Blocks)]
		for i := range first {
			first[i] = api.Answer{Data: "written later", Count: -7}
		}
		for i := range v.Items {
			v.Items[i] = api.Item{Id: -7, Data: "written later"}
		}
		for i := range v.Blocks {
			v.Blocks[i] = -7
		}
		third, x, _ := Run(2, whole[:n])
		if !slices.Equal(second, answers) || !same(w, copied) || !slices.Equal(third, answers) || !same(x, copied) {
			t.Fatalf("what is written to a result of %d acts shows elsewhere", n)
		}
	}
}

// FuzzRun reads acts from bytes, five for each, and compares with the model.
func FuzzRun(f *testing.F) { // P5.1 to P5.4
	f.Add(2, "\x01....\x02\x01\x02a\x00\x04....\x06....\x07..\x00\x00\x09....")
	f.Add(32, "\x01....\x02\x00\x30z\x00\x02\x01\x03y\x00\x04....\x08....\x07...\x00")
	f.Fuzz(func(t *testing.T, blocks int, s string) {
		var l []api.Act
		for ; len(s) >= 5; s = s[5:] {
			l = append(l, api.Act{Kind: int(s[0]), Block: int(int8(s[1])), Data: strings.Repeat(s[3:4], int(s[2])), Keep: int(int8(s[4])) * 9})
		}
		if blocks < 1 || blocks > api.MaxBlocks || len(l) > api.MaxActs {
			if got, v, err := Run(blocks, l); err == api.OK || len(got) != 0 || len(v.Blocks) != 0 {
				t.Fatalf("Run(%d, %d acts) = %v, %v, %v", blocks, len(l), got, v, err)
			}
			return
		}
		compare(t, blocks, l)
	})
}
