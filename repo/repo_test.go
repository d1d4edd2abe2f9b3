package repo

import (
	"math"
	"slices"
	"strconv"
	"strings"
	"testing"

	"saltcellar/api"
)

// items returns n items with the Ids from 0 on and the data "d0", "d1", ...
func items(n, refs int) []api.Item {
	var l []api.Item
	for i := range n {
		l = append(l, api.Item{Id: i, Data: "d" + strconv.Itoa(i), Refs: refs})
	}
	return l
}

// long returns n bytes.
func long(n int) string { return strings.Repeat("x", n) }

func TestCheckTakes(t *testing.T) { // P2.1
	for _, l := range [][]api.Item{
		nil,
		{},
		{{Id: 0, Data: "a", Refs: 1}},
		{{Id: api.MaxItems - 1, Data: "a", Refs: 1}},
		{{Id: 0, Data: "a", Refs: api.MaxRefs}},
		{{Id: 0, Data: "", Refs: 1}},
		{{Id: 0, Data: long(api.MaxData), Refs: 1}},
		{{Id: 0, Data: "a", Refs: 1}, {Id: 1, Data: "b", Refs: 1}},
		{{Id: 2, Data: "b", Refs: 3}, {Id: 5, Data: "a", Refs: 2}, {Id: 23, Data: "", Refs: 1}},
		items(api.MaxItems, 1),
		items(api.MaxItems, api.MaxRefs),

		// These differ in their bytes.
		{{Id: 0, Data: "a", Refs: 1}, {Id: 1, Data: "A", Refs: 1}},
		{{Id: 0, Data: "a", Refs: 1}, {Id: 1, Data: "a\x00", Refs: 1}},
		{{Id: 0, Data: "", Refs: 1}, {Id: 1, Data: "\x00", Refs: 1}},
		{{Id: 0, Data: "\xfe", Refs: 1}, {Id: 1, Data: "\xff", Refs: 1}},
		{{Id: 0, Data: "\xff", Refs: 1}, {Id: 1, Data: "\uFFFD", Refs: 1}},
		{{Id: 0, Data: "\u00e9", Refs: 1}, {Id: 1, Data: "e\u0301", Refs: 1}},
		{{Id: 0, Data: long(api.MaxData), Refs: 1}, {Id: 1, Data: long(api.MaxData - 1), Refs: 1}},
	} {
		if err := Check(l); err != api.OK {
			t.Errorf("Check(%v) = %v, want OK", l, err)
		}
	}
}

// badItems are lists that Check refuses: each condition of P2.1 is broken, at
// its bound and beyond, alone and among valid items.
func badItems() [][]api.Item {
	l := [][]api.Item{
		append(items(api.MaxItems, 1), api.Item{Id: api.MaxItems, Data: "a", Refs: 1}),
		append(items(api.MaxItems, 1), api.Item{Id: api.MaxItems - 1, Data: "a", Refs: 1}),
		items(100, 1),

		// Ids that do not increase.
		{{Id: 0, Data: "a", Refs: 1}, {Id: 0, Data: "b", Refs: 1}},
		{{Id: 7, Data: "a", Refs: 1}, {Id: 7, Data: "b", Refs: 1}},
		{{Id: 1, Data: "a", Refs: 1}, {Id: 0, Data: "b", Refs: 1}},
		{{Id: 0, Data: "a", Refs: 1}, {Id: 2, Data: "b", Refs: 1}, {Id: 1, Data: "c", Refs: 1}},
		{{Id: 0, Data: "a", Refs: 1}, {Id: 2, Data: "b", Refs: 1}, {Id: 0, Data: "c", Refs: 1}},

		// Data that occurs twice.
		{{Id: 0, Data: "a", Refs: 1}, {Id: 1, Data: "a", Refs: 1}},
		{{Id: 0, Data: "", Refs: 1}, {Id: 1, Data: "", Refs: 1}},
		{{Id: 0, Data: "a", Refs: 1}, {Id: 1, Data: "b", Refs: 1}, {Id: 2, Data: "a", Refs: 2}},
		{{Id: 0, Data: "b", Refs: 1}, {Id: 3, Data: "a", Refs: 1}, {Id: 9, Data: "a", Refs: 1}},
		{{Id: 0, Data: long(api.MaxData), Refs: 1}, {Id: 1, Data: long(api.MaxData), Refs: 1}},
	}
	for _, bad := range []api.Item{
		{Id: -1, Data: "a", Refs: 1},
		{Id: math.MinInt, Data: "a", Refs: 1},
		{Id: api.MaxItems, Data: "a", Refs: 1},
		{Id: math.MaxInt, Data: "a", Refs: 1},
		{Id: 5, Data: long(api.MaxData + 1), Refs: 1},
		{Id: 5, Data: strings.Repeat("é", api.MaxData/2+1), Refs: 1},
		{Id: 5, Data: long(1 << 20), Refs: 1},
		{Id: 5, Data: "a", Refs: 0},
		{Id: 5, Data: "a", Refs: -1},
		{Id: 5, Data: "a", Refs: math.MinInt},
		{Id: 5, Data: "a", Refs: api.MaxRefs + 1},
		{Id: 5, Data: "a", Refs: math.MaxInt},
	} {
		l = append(l, []api.Item{bad}, append(items(5, 2), bad),
			[]api.Item{bad, {Id: 20, Data: "b", Refs: 1}})
	}
	return l
}

func TestCheckRefuses(t *testing.T) { // P2.1
	for _, l := range badItems() {
		if err := Check(l); err != api.ErrState {
			t.Errorf("Check(%v) = %v, want ErrState", l, err)
		}
	}
}

// TestCheckComesFirst: every other function refuses what Check refuses, and
// does so before it looks at its second argument.
func TestCheckComesFirst(t *testing.T) { // P2.2, P2.3, P2.4
	for _, l := range badItems() {
		for _, id := range []int{0, 1, 5, -1, api.MaxItems, math.MaxInt} {
			if got, err := Get(l, id); got != (api.Item{}) || err != api.ErrState {
				t.Errorf("Get(%v, %d) = %v, %v, want ErrState", l, id, got, err)
			}
			if got, err := Use(l, id); len(got) != 0 || err != api.ErrState {
				t.Errorf("Use(%v, %d) = %v, %v, want ErrState", l, id, got, err)
			}
			if got, err := Drop(l, id); len(got) != 0 || err != api.ErrState {
				t.Errorf("Drop(%v, %d) = %v, %v, want ErrState", l, id, got, err)
			}
		}
		for _, data := range []string{"", "a", "d0", "new", long(api.MaxData + 1)} {
			if got, id, err := Keep(l, data); len(got) != 0 || id != 0 || err != api.ErrState {
				t.Errorf("Keep(%v, %q) = %v, %d, %v, want ErrState", l, data, got, id, err)
			}
		}
	}
}

func TestGet(t *testing.T) { // P2.2
	l := []api.Item{{Id: 0, Data: "", Refs: 32}, {Id: 3, Data: "x", Refs: 1}, {Id: 23, Data: "y", Refs: 2}}
	for _, want := range l {
		if got, err := Get(l, want.Id); got != want || err != api.OK {
			t.Errorf("Get(%v, %d) = %v, %v, want %v", l, want.Id, got, err, want)
		}
	}
	all := items(api.MaxItems, 7)
	for id, want := range all {
		if got, err := Get(all, id); got != want || err != api.OK {
			t.Errorf("Get of %d in a full list = %v, %v, want %v", id, got, err, want)
		}
	}
}

// TestNone: Get, Use and Drop refuse an Id that no item has.
func TestNone(t *testing.T) { // P2.2, P2.4
	for _, l := range [][]api.Item{
		nil,
		{},
		{{Id: 5, Data: "a", Refs: api.MaxRefs}},
		{{Id: 5, Data: "a", Refs: 1}, {Id: 7, Data: "b", Refs: 1}},
	} {
		for _, id := range []int{0, 1, 4, 6, 8, 23, 24, 25, -1, -5, math.MinInt, math.MaxInt} {
			if got, err := Get(l, id); got != (api.Item{}) || err != api.ErrNone {
				t.Errorf("Get(%v, %d) = %v, %v, want ErrNone", l, id, got, err)
			}
			if got, err := Use(l, id); len(got) != 0 || err != api.ErrNone {
				t.Errorf("Use(%v, %d) = %v, %v, want ErrNone", l, id, got, err)
			}
			if got, err := Drop(l, id); len(got) != 0 || err != api.ErrNone {
				t.Errorf("Drop(%v, %d) = %v, %v, want ErrNone", l, id, got, err)
			}
		}
	}
}

func TestKeep(t *testing.T) { // P2.3
	full := items(api.MaxItems, 1)
	fullMore := items(api.MaxItems, 1)
	fullMore[23].Refs = 2
	almost := slices.Delete(items(api.MaxItems, 1), 11, 12)
	almostMore := items(api.MaxItems, 1)
	almostMore[11].Data = "x"
	for _, c := range []struct {
		l    []api.Item
		data string
		want []api.Item
		id   int
	}{
		// A new item takes the smallest Id that is not used, and its place.
		{nil, "x", []api.Item{{Id: 0, Data: "x", Refs: 1}}, 0},
		{[]api.Item{}, "x", []api.Item{{Id: 0, Data: "x", Refs: 1}}, 0},
		{nil, "", []api.Item{{Id: 0, Data: "", Refs: 1}}, 0},
		{nil, long(api.MaxData), []api.Item{{Id: 0, Data: long(api.MaxData), Refs: 1}}, 0},
		{[]api.Item{{Id: 0, Data: "y", Refs: 2}}, "x",
			[]api.Item{{Id: 0, Data: "y", Refs: 2}, {Id: 1, Data: "x", Refs: 1}}, 1},
		{[]api.Item{{Id: 1, Data: "y", Refs: 2}}, "x",
			[]api.Item{{Id: 0, Data: "x", Refs: 1}, {Id: 1, Data: "y", Refs: 2}}, 0},
		{[]api.Item{{Id: 0, Data: "y", Refs: 2}, {Id: 2, Data: "z", Refs: 3}, {Id: 4, Data: "w", Refs: 4}}, "x",
			[]api.Item{{Id: 0, Data: "y", Refs: 2}, {Id: 1, Data: "x", Refs: 1}, {Id: 2, Data: "z", Refs: 3}, {Id: 4, Data: "w", Refs: 4}}, 1},
		{[]api.Item{{Id: 0, Data: "y", Refs: 2}, {Id: 1, Data: "z", Refs: 3}, {Id: 9, Data: "w", Refs: 4}}, "x",
			[]api.Item{{Id: 0, Data: "y", Refs: 2}, {Id: 1, Data: "z", Refs: 3}, {Id: 2, Data: "x", Refs: 1}, {Id: 9, Data: "w", Refs: 4}}, 2},
		{[]api.Item{{Id: 23, Data: "y", Refs: 1}}, "x",
			[]api.Item{{Id: 0, Data: "x", Refs: 1}, {Id: 23, Data: "y", Refs: 1}}, 0},
		{almost, "x", almostMore, 11},
		{items(23, 5), "d23", append(items(23, 5), api.Item{Id: 23, Data: "d23", Refs: 1}), 23},

		// Data that is there already is counted, also where all Ids are used.
		{[]api.Item{{Id: 0, Data: "x", Refs: 1}}, "x", []api.Item{{Id: 0, Data: "x", Refs: 2}}, 0},
		{[]api.Item{{Id: 7, Data: "", Refs: 1}}, "", []api.Item{{Id: 7, Data: "", Refs: 2}}, 7},
		{[]api.Item{{Id: 7, Data: "x", Refs: 31}}, "x", []api.Item{{Id: 7, Data: "x", Refs: 32}}, 7},
		{[]api.Item{{Id: 3, Data: "y", Refs: 32}, {Id: 5, Data: "x", Refs: 4}}, "x",
			[]api.Item{{Id: 3, Data: "y", Refs: 32}, {Id: 5, Data: "x", Refs: 5}}, 5},
		{full, "d23", fullMore, 23},

		// Data is compared byte by byte.
		{[]api.Item{{Id: 0, Data: "x", Refs: 1}}, "X",
			[]api.Item{{Id: 0, Data: "x", Refs: 1}, {Id: 1, Data: "X", Refs: 1}}, 1},
		{[]api.Item{{Id: 0, Data: "\xff", Refs: 1}}, "\xfe",
			[]api.Item{{Id: 0, Data: "\xff", Refs: 1}, {Id: 1, Data: "\xfe", Refs: 1}}, 1},
		{[]api.Item{{Id: 0, Data: "", Refs: 1}}, "\x00",
			[]api.Item{{Id: 0, Data: "", Refs: 1}, {Id: 1, Data: "\x00", Refs: 1}}, 1},
	} {
		got, id, err := Keep(c.l, c.data)
		if !slices.Equal(got, c.want) || id != c.id || err != api.OK {
			t.Errorf("Keep(%v, %q) = %v, %d, %v, want %v, %d", c.l, c.data, got, id, err, c.want, c.id)
		}
	}
}

func TestKeepErrors(t *testing.T) { // P2.3
	for _, c := range []struct {
		l    []api.Item
		data string
	}{
		{nil, long(api.MaxData + 1)},
		{nil, strings.Repeat("é", api.MaxData/2+1)},
		{nil, long(1 << 20)},
		{items(5, 1), long(api.MaxData + 1)},
		{items(api.MaxItems, 1), long(api.MaxData + 1)},
		{items(api.MaxItems, 1), "x"},
		{items(api.MaxItems, 1), ""},
		{[]api.Item{{Id: 7, Data: "x", Refs: api.MaxRefs}}, "x"},
		{[]api.Item{{Id: 7, Data: "", Refs: api.MaxRefs}}, ""},
		{items(api.MaxItems, api.MaxRefs), "d23"},
	} {
		got, id, err := Keep(c.l, c.data)
		if len(got) != 0 || id != 0 || err != api.ErrSize {
			t.Errorf("Keep(%v, %q) = %v, %d, %v, want ErrSize", c.l, c.data, got, id, err)
		}
	}
}

func TestUse(t *testing.T) { // P2.4
	for _, c := range []struct {
		l    []api.Item
		id   int
		want []api.Item
	}{
		{[]api.Item{{Id: 3, Data: "y", Refs: 1}}, 3, []api.Item{{Id: 3, Data: "y", Refs: 2}}},
		{[]api.Item{{Id: 3, Data: "", Refs: 31}}, 3, []api.Item{{Id: 3, Data: "", Refs: 32}}},
		{[]api.Item{{Id: 0, Data: "a", Refs: 32}, {Id: 1, Data: "b", Refs: 5}, {Id: 23, Data: "c", Refs: 32}}, 1,
			[]api.Item{{Id: 0, Data: "a", Refs: 32}, {Id: 1, Data: "b", Refs: 6}, {Id: 23, Data: "c", Refs: 32}}},
		{[]api.Item{{Id: 1, Data: "a", Refs: 1}, {Id: 23, Data: "b", Refs: 1}}, 23,
			[]api.Item{{Id: 1, Data: "a", Refs: 1}, {Id: 23, Data: "b", Refs: 2}}},
	} {
		got, err := Use(c.l, c.id)
		if !slices.Equal(got, c.want) || err != api.OK {
			t.Errorf("Use(%v, %d) = %v, %v, want %v", c.l, c.id, got, err, c.want)
		}
	}
}

func TestUseTooOften(t *testing.T) { // P2.4
	for _, c := range []struct {
		l  []api.Item
		id int
	}{
		{[]api.Item{{Id: 1, Data: "y", Refs: api.MaxRefs}}, 1},
		{[]api.Item{{Id: 1, Data: "y", Refs: 1}, {Id: 2, Data: "z", Refs: api.MaxRefs}}, 2},
		{items(api.MaxItems, api.MaxRefs), 0},
	} {
		if got, err := Use(c.l, c.id); len(got) != 0 || err != api.ErrSize {
			t.Errorf("Use(%v, %d) = %v, %v, want ErrSize", c.l, c.id, got, err)
		}
	}
}

func TestDrop(t *testing.T) { // P2.4
	three := []api.Item{{Id: 0, Data: "a", Refs: 1}, {Id: 4, Data: "b", Refs: 1}, {Id: 23, Data: "c", Refs: 1}}
	for _, c := range []struct {
		l    []api.Item
		id   int
		want []api.Item
	}{
		{[]api.Item{{Id: 3, Data: "y", Refs: 2}}, 3, []api.Item{{Id: 3, Data: "y", Refs: 1}}},
		{[]api.Item{{Id: 3, Data: "y", Refs: 32}}, 3, []api.Item{{Id: 3, Data: "y", Refs: 31}}},
		{[]api.Item{{Id: 3, Data: "y", Refs: 1}}, 3, nil},
		{[]api.Item{{Id: 3, Data: "", Refs: 1}}, 3, nil},

		// The other items keep their Ids.
		{three, 0, three[1:]},
		{three, 4, []api.Item{three[0], three[2]}},
		{three, 23, three[:2]},
		{items(api.MaxItems, 1), 23, items(23, 1)},
		{[]api.Item{{Id: 0, Data: "a", Refs: 1}, {Id: 1, Data: "b", Refs: 2}}, 1,
			[]api.Item{{Id: 0, Data: "a", Refs: 1}, {Id: 1, Data: "b", Refs: 1}}},
	} {
		got, err := Drop(c.l, c.id)
		if !slices.Equal(got, c.want) || err != api.OK {
			t.Errorf("Drop(%v, %d) = %v, %v, want %v", c.l, c.id, got, err, c.want)
		}
	}
}

// TestUntilLimits keeps and uses as much as there can be, and drops it again.
func TestUntilLimits(t *testing.T) { // P2.3, P2.4
	var l []api.Item
	for id, item := range items(api.MaxItems, 1) {
		for refs := 1; refs <= api.MaxRefs; refs++ {
			next, got, err := Keep(l, item.Data)
			if got != id || err != api.OK || next[id].Refs != refs {
				t.Fatalf("Keep(%v, %q) = %v, %d, %v", l, item.Data, next, got, err)
			}
			l = next
		}
	}
	if want := items(api.MaxItems, api.MaxRefs); !slices.Equal(l, want) {
		t.Fatalf("full: %v, want %v", l, want)
	}
	for id := range api.MaxItems {
		for range api.MaxRefs {
			next, err := Drop(l, id)
			if err != api.OK {
				t.Fatalf("Drop(%v, %d): %v", l, id, err)
			}
			l = next
		}
	}
	if len(l) != 0 {
		t.Fatalf("%v is left, want nothing", l)
	}
}

// model is what the items should be: the data and the uses of each Id.
type model struct {
	data [api.MaxItems]string
	refs [api.MaxItems]int
}

func (m *model) keep(data string) int {
	for id := range m.refs {
		if m.refs[id] > 0 && m.data[id] == data {
			m.refs[id]++
			return id
		}
	}
	id := 0
	for m.refs[id] > 0 {
		id++
	}
	m.data[id], m.refs[id] = data, 1
	return id
}

// change adds to the uses of an item, if there is one.
func (m *model) change(id, by int) api.Errno {
	if m.refs[id] == 0 {
		return api.ErrNone
	}
	m.refs[id] += by
	return api.OK
}

func (m *model) list() []api.Item {
	var l []api.Item
	for id, refs := range m.refs {
		if refs > 0 {
			l = append(l, api.Item{Id: id, Data: m.data[id], Refs: refs})
		}
	}
	return l
}

// TestEverySequence compares all sequences of a few steps with the model.
func TestEverySequence(t *testing.T) { // P2.1, P2.3, P2.4
	var walk func(l []api.Item, m model, left int)
	walk = func(l []api.Item, m model, left int) {
		if want := m.list(); !slices.Equal(l, want) || Check(l) != api.OK {
			t.Fatalf("%v (Check: %v), want %v", l, Check(l), want)
		}
		if left == 0 {
			return
		}
		for _, data := range []string{"", "a", "b"} {
			after := m
			want := after.keep(data)
			got, id, err := Keep(l, data)
			if id != want || err != api.OK {
				t.Fatalf("Keep(%v, %q) = %v, %d, %v, want Id %d", l, data, got, id, err, want)
			}
			walk(got, after, left-1)
		}
		for id := range 3 {
			for by, do := range map[int]func([]api.Item, int) ([]api.Item, api.Errno){1: Use, -1: Drop} {
				after := m
				want := after.change(id, by)
				got, err := do(l, id)
				if err != want {
					t.Fatalf("%v, Id %d, %+d: %v, %v, want %v", l, id, by, got, err, want)
				}
				if err == api.OK {
					walk(got, after, left-1)
				}
			}
		}
	}
	walk(nil, model{}, 6)
}

// TestMemory: no function changes its argument or the argument's unused
// capacity, and what is written into a result does not show in the argument.
func TestMemory(t *testing.T) { // P2.1 to P2.4
	for _, n := range []int{0, 1, 4, api.MaxItems} {
		for name, do := range map[string]func(l []api.Item) []api.Item{
			"Check":         func(l []api.Item) []api.Item { Check(l); return nil },
			"Get":           func(l []api.Item) []api.Item { Get(l, 0); return nil },
			"Keep of new":   func(l []api.Item) []api.Item { out, _, _ := Keep(l, "new"); return out },
			"Keep of known": func(l []api.Item) []api.Item { out, _, _ := Keep(l, "d1"); return out },
			"Use":           func(l []api.Item) []api.Item { out, _ := Use(l, 2); return out },
			"Drop":          func(l []api.Item) []api.Item { out, _ := Drop(l, 2); return out },
			"Drop to none":  func(l []api.Item) []api.Item { out, _ := Drop(l, 0); return out },
		} {
			whole := items(n+8, 2)
			if n > 0 {
				whole[0].Refs = 1
			}
			before := slices.Clone(whole)
			out := do(whole[:n])
			if !slices.Equal(whole, before) {
				t.Errorf("%s changes its argument of %d items", name, n)
			}
			out = out[:cap(out)]
			for i := range out {
				out[i] = api.Item{Id: -7, Data: "written later", Refs: -7}
			}
			if !slices.Equal(whole, before) {
				t.Errorf("%s: the result shares memory with the argument of %d items", name, n)
			}
		}
	}
}
