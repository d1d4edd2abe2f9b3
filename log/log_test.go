package log

import (
	"encoding/binary"
	"fmt"
	"hash/adler32"
	"math"
	"slices"
	"strings"
	"testing"

	"saltcellar/api"
)

// long returns n bytes that cannot be packed.
func long(n int) string {
	var b strings.Builder
	for i := range n {
		b.WriteByte(byte(255 - i))
	}
	return b.String()
}

// someWrites returns n writes of data to the blocks from first on.
func someWrites(first, n int, data string) []api.Write {
	var l []api.Write
	for i := range n {
		l = append(l, api.Write{Block: first + i, Data: data})
	}
	return l
}

// withSum appends the checksum, which is the one of the library of Go.
func withSum(s string) string {
	return string(binary.BigEndian.AppendUint32([]byte(s), adler32.Checksum([]byte(s))))
}

// seal returns what is a record but, maybe, for its body.
func seal(body string) string {
	return withSum("r" + string(binary.BigEndian.AppendUint16(nil, uint16(len(body)))) + body)
}

// sameLists tells whether two lists of transactions are equal.
func sameLists(a, b [][]api.Write) bool {
	return slices.EqualFunc(a, b, func(x, y []api.Write) bool { return slices.Equal(x, y) })
}

// goodCase: a transaction, and the body of its record.
type goodCase struct {
	l    []api.Write
	body string
}

// goodCases are for volumes of 32 blocks.
func goodCases() []goodCase {
	data := long(api.MaxData)
	longest := string([]byte{api.MaxWrites})
	for i := range api.MaxWrites {
		longest += string([]byte{byte(20 + i), 49, 47}) + data
	}
	return []goodCase{
		{nil, "\x00"},
		{[]api.Write{{Block: 0}}, "\x01\x00\x00"},
		{[]api.Write{{Block: 0, Data: "a"}}, "\x01\x00\x02\x00a"},
		{[]api.Write{{Block: 31, Data: "abbb"}}, "\x01\x1f\x04\x00a\x80b"},
		{[]api.Write{{Block: 3, Data: "\x00\x00\x00"}}, "\x01\x03\x02\x80\x00"},
		{make([]api.Write, 0, 5), "\x00"},
		{[]api.Write{{Block: 1, Data: "a"}, {Block: 2}, {Block: 30, Data: "\xff\xfe"}}, "\x03\x01\x02\x00a\x02\x00\x1e\x03\x01\xff\xfe"},
		{[]api.Write{{Block: 0}, {Block: 1}}, "\x02\x00\x00\x01\x00"},
		{[]api.Write{{Block: 7, Data: strings.Repeat("q", api.MaxData)}}, "\x01\x07\x02\xadq"},
		{[]api.Write{{Block: 7, Data: data}}, "\x01\x07\x31\x2f" + data},
		{someWrites(20, api.MaxWrites, data), longest},
		{someWrites(0, api.MaxWrites, ""), "\x0c\x00\x00\x01\x00\x02\x00\x03\x00\x04\x00\x05\x00\x06\x00\x07\x00\x08\x00\x09\x00\x0a\x00\x0b\x00"},
	}
}

func TestRecord(t *testing.T) { // P4.1
	for _, c := range goodCases() {
		got, err := Record(c.l, api.MaxBlocks)
		if want := seal(c.body); got != want || err != api.OK {
			t.Errorf("Record(%v) = %q, %v, want %q", c.l, got, err, want)
		}
	}
}

// TestRecordBytes has records whose checksums do not come from a library.
func TestRecordBytes(t *testing.T) { // P4.1
	for _, c := range []struct {
		l      []api.Write
		blocks int
		want   string
	}{
		// 'r', 0, 1, 0: the first number is 115, 115, 116, 116, and the second their sum, 462.
		{nil, 1, "r\x00\x01\x00\x01\xce\x00\x74"},
		// 'r', 0, 3, 1, 1, 0: 115, 115, 118, 119, 120, 120, and their sum, 707.
		{[]api.Write{{Block: 1}}, 2, "r\x00\x03\x01\x01\x00\x02\xc3\x00\x78"},
		// 'r', 0, 5, 1, 0, 2, 0, 'a': 115, 115, 120, 121, 121, 123, 123, 220, and their sum, 1058.
		{[]api.Write{{Block: 0, Data: "a"}}, 1, "r\x00\x05\x01\x00\x02\x00a\x04\x22\x00\xdc"},
	} {
		if got, err := Record(c.l, c.blocks); got != c.want || err != api.OK {
			t.Errorf("Record(%v, %d) = %q, %v, want %q", c.l, c.blocks, got, err, c.want)
		}
	}
}

// TestRecordSumsWrap: both numbers of the checksum pass 65521, and come to
// where a modulus of 65536 would give another one.
func TestRecordSumsWrap(t *testing.T) { // P4.1
	l := someWrites(0, api.MaxWrites, long(api.MaxData))
	record, err := Record(l, api.MaxBlocks)
	if err != api.OK {
		t.Fatal(err)
	}
	sum := 1
	for _, b := range []byte(record[:len(record)-4]) {
		sum += int(b)
	}
	if sum < 65536 {
		t.Fatalf("the bytes add up to %d only", sum)
	}
	last := int(record[len(record)-2])<<8 | int(record[len(record)-1])
	if last != sum%65521 {
		t.Errorf("the last two bytes are %d, want %d", last, sum%65521)
	}
	if withSum(record[:len(record)-4]) != record {
		t.Errorf("the checksum is %q", record[len(record)-4:])
	}
}

func TestRecordErrors(t *testing.T) { // P4.1
	tooLong := long(api.MaxData + 1)
	for _, c := range []struct {
		l      []api.Write
		blocks int
		want   api.Errno
	}{
		{someWrites(0, api.MaxWrites+1, ""), api.MaxBlocks, api.ErrSize},
		{someWrites(0, api.MaxWrites+1, ""), 1, api.ErrSize},
		{make([]api.Write, 256), 1, api.ErrSize},
		{make([]api.Write, 1<<16), 1, api.ErrSize},
		{[]api.Write{{Block: 1}}, 1, api.ErrNone},
		{[]api.Write{{Block: 32, Data: "a"}}, 32, api.ErrNone},
		{[]api.Write{{Block: -1}}, 32, api.ErrNone},
		{[]api.Write{{Block: 256}}, 32, api.ErrNone},
		{[]api.Write{{Block: math.MaxInt}}, 32, api.ErrNone},
		{[]api.Write{{Block: math.MinInt}}, 32, api.ErrNone},
		{[]api.Write{{Block: 0}}, 0, api.ErrNone},
		{[]api.Write{{Block: 0}}, math.MinInt, api.ErrNone},
		{[]api.Write{{Block: 0, Data: tooLong}}, 1, api.ErrSize},
		{[]api.Write{{Block: 0, Data: strings.Repeat("x", api.MaxData+1)}}, 1, api.ErrSize},
		{[]api.Write{{Block: 0, Data: strings.Repeat("é", api.MaxData/2+1)}}, 1, api.ErrSize},
		{[]api.Write{{Block: 1}, {Block: 1}}, 2, api.ErrForm},
		{[]api.Write{{Block: 1, Data: "a"}, {Block: 0, Data: "b"}}, 2, api.ErrForm},

		// The order of the errors is that of CheckWrites.
		{[]api.Write{{Block: 2, Data: tooLong}}, 2, api.ErrNone},
		{[]api.Write{{Block: 1}, {Block: 1, Data: tooLong}}, 2, api.ErrSize},
		{[]api.Write{{Block: 1}, {Block: 1}, {Block: 2}}, 2, api.ErrForm},
		{[]api.Write{{Block: 1}, {Block: 2}, {Block: 1}}, 2, api.ErrNone},
	} {
		if got, err := Record(c.l, c.blocks); got != "" || err != c.want {
			t.Errorf("Record(%v, %d) = %q, %v, want %v", c.l, c.blocks, got, err, c.want)
		}
	}
}

// TestManyBlocks: neither function has bounds of its own for the number of blocks.
func TestManyBlocks(t *testing.T) { // P4.1, P4.2
	for _, blocks := range []int{256, 1000, math.MaxInt} {
		l := []api.Write{{Block: 40}, {Block: 255, Data: "z"}}
		got, err := Record(l, blocks)
		if want := seal("\x02\x28\x00\xff\x02\x00z"); got != want || err != api.OK {
			t.Errorf("Record(%v, %d) = %q, %v, want %q", l, blocks, got, err, want)
		}
		if back, n := Scan(got, blocks); !sameLists(back, [][]api.Write{l}) || n != len(got) {
			t.Errorf("Scan(%q, %d) = %v, %d", got, blocks, back, n)
		}
	}
	for _, blocks := range []int{0, -1, math.MinInt} {
		got, err := Record(nil, blocks)
		if got != seal("\x00") || err != api.OK {
			t.Errorf("Record(nil, %d) = %q, %v", blocks, got, err)
		}
		if back, n := Scan(got+seal("\x01\x00\x00"), blocks); !sameLists(back, [][]api.Write{nil}) || n != 8 {
			t.Errorf("Scan for %d blocks = %v, %d", blocks, back, n)
		}
	}
	// One byte is all that a record has for a block, whatever the number.
	if got, err := Record([]api.Write{{Block: 300}}, 301); got != seal("\x01\x2c\x00") || err != api.OK {
		t.Errorf("Record of block 300 = %q, %v", got, err)
	}
}

// TestScanOne: a record alone, and with each kind of rest behind it.
func TestScanOne(t *testing.T) { // P4.2
	for _, c := range goodCases() {
		record := seal(c.body)
		for _, rest := range []string{"", "r", "x", "\x00", "r\x00", "r\x00\x01", "rrrrrrrrr", seal(c.body)[:len(record)-1], strings.Repeat("\xff", 100)} {
			got, n := Scan(record+rest, api.MaxBlocks)
			if !sameLists(got, [][]api.Write{c.l}) || n != len(record) {
				t.Errorf("Scan(%q + %q) = %v, %d, want %v, %d", record, rest, got, n, c.l, len(record))
			}
		}
	}
}

// TestScanPrefixes cuts a list of records at each byte.
func TestScanPrefixes(t *testing.T) { // P4.2
	var whole string
	var ends []int
	var lists [][]api.Write
	for _, c := range goodCases() {
		whole += seal(c.body)
		ends = append(ends, len(whole))
		lists = append(lists, c.l)
	}
	for cut := range len(whole) + 1 {
		count, end := 0, 0
		for count < len(ends) && ends[count] <= cut {
			end = ends[count]
			count++
		}
		got, n := Scan(whole[:cut], api.MaxBlocks)
		if !sameLists(got, lists[:count]) || n != end {
			t.Fatalf("Scan of %d bytes = %v, %d, want %v, %d", cut, got, n, lists[:count], end)
		}
	}
}

// TestScanNoRecord: what is not a record of a volume of 4 blocks ends a scan,
// before and behind records; the checksums are right but where said.
func TestScanNoRecord(t *testing.T) { // P4.2
	one := seal("\x01\x03\x02\x00a")
	for _, s := range []string{
		"",
		"garbage",
		strings.Repeat("\x00", 64),
		strings.Repeat("\xff", 64),
		strings.Repeat("r", 1<<16),
		"r\xff\xff\x00",
		"r\x00\x00",
		"r\x00\x01\x00",

		// Another mark.
		withSum("s\x00\x01\x00"),
		withSum("R\x00\x01\x00"),
		withSum("\x00\x00\x01\x00"),
		" " + seal("\x00"),

		// Another checksum, or its halves and bytes in another order.
		"r\x00\x01\x00\x01\xce\x00\x75",
		"r\x00\x01\x00\x01\xcf\x00\x74",
		"r\x00\x01\x00\x00\x74\x01\xce",
		"r\x00\x01\x00\xce\x01\x74\x00",
		"r\x00\x01\x00\x00\x00\x00\x00",

		// The length of the body is not that of what it consists of.
		withSum("r\x00\x00"),
		withSum("r\x01\x00\x00"),
		withSum("r\x00\x02\x00"),
		withSum("r\x00\x00\x00"),
		withSum("r\x05\x00\x01\x03\x02\x00a"),
		withSum("r\x00\x04\x01\x03\x02\x00a"),
		withSum("r\x00\x06\x01\x03\x02\x00a"),
		seal("\x00\x00"),
		seal("\x00\x01\x00"),
		seal("\x01\x03\x00\x00"),
		seal("\x01\x03\x02\x00a!"),
		seal("\x01\x00\x00\x01\x00"),

		// A body that ends too early.
		seal(""),
		seal("\x01"),
		seal("\x01\x03"),
		seal("\x01\x03\x01"),
		seal("\x01\x03\x02\x00"),
		seal("\x01\x03\xff\x00a"),
		seal("\x02\x01\x00"),
		seal("\x02\x01\x00\x02"),
		seal("\xff\x00\x00"),

		// Data that is not packed as it must be.
		seal("\x01\x03\x01\x00"),
		seal("\x01\x03\x01\x80"),
		seal("\x01\x03\x04\x00a\x00b"),
		seal("\x01\x03\x04\x02aaa"),
		seal("\x01\x03\x03\x00a\x80"),
		seal("\x01\x03\x02\x80a\x80b"),
		seal("\x01\x03\x02\xaea"),
		seal("\x01\x03\x32\x30" + long(api.MaxData+1)),
		seal("\x01\x03\x01a"),

		// Writes that CheckWrites refuses.
		seal("\x01\x04\x00"),
		seal("\x01\xff\x00"),
		seal("\x01\x04\x02\x00a"),
		seal("\x02\x01\x00\x01\x00"),
		seal("\x02\x01\x00\x00\x00"),
		seal("\x03\x00\x00\x02\x00\x01\x00"),
		seal("\x0d" + strings.Repeat("\x00\x00", 13)),
		seal("\xff" + strings.Repeat("\x00\x00", 255)),
	} {
		if got, n := Scan(s, 4); len(got) != 0 || n != 0 {
			t.Errorf("Scan(%q) = %v, %d, want no record", s, got, n)
		}
		got, n := Scan(one+seal("\x00")+s+one, 4)
		want := [][]api.Write{{{Block: 3, Data: "a"}}, nil}
		if s == "" {
			want = append(want, want[0])
		}
		if size := len(one)*(len(want)-1) + 8; !sameLists(got, want) || n != size {
			t.Errorf("Scan with %q behind two records = %v, %d, want %v, %d", s, got, n, want, size)
		}
	}
}

// TestScanTooMany: thirteen writes are refused although their blocks exist and increase.
func TestScanTooMany(t *testing.T) { // P4.2
	for _, n := range []int{api.MaxWrites, api.MaxWrites + 1, api.MaxBlocks} {
		body := string([]byte{byte(n)})
		for block := range n {
			body += string([]byte{byte(block), 0})
		}
		want := [][]api.Write{someWrites(0, n, "")}
		if n > api.MaxWrites {
			want = nil
		}
		if got, _ := Scan(seal(body), api.MaxBlocks); !sameLists(got, want) {
			t.Errorf("Scan of a record of %d writes = %v", n, got)
		}
	}
}

// TestScanBlocks: whether a record is valid depends on the number of blocks.
func TestScanBlocks(t *testing.T) { // P4.2
	s := seal("\x01\x00\x00") + seal("\x01\x05\x00") + seal("\x00")
	for _, c := range []struct{ blocks, count int }{
		{math.MinInt, 0}, {-1, 0}, {0, 0}, {1, 1}, {5, 1}, {6, 3}, {32, 3}, {math.MaxInt, 3},
	} {
		if got, _ := Scan(s, c.blocks); len(got) != c.count {
			t.Errorf("Scan for %d blocks = %v, want %d records", c.blocks, got, c.count)
		}
	}
}

// TestScanFlips changes each byte of a record to each other one: none is a record.
func TestScanFlips(t *testing.T) { // P4.1, P4.2
	record := seal("\x03\x01\x02\x00a\x02\x02\x83z\x1e\x03\x01\xff\xfe")
	if got, n := Scan(record, api.MaxBlocks); len(got) != 1 || n != len(record) {
		t.Fatalf("Scan(%q) = %v, %d", record, got, n)
	}
	for i := range len(record) {
		for change := 1; change < 256; change++ {
			b := []byte(record)
			b[i] ^= byte(change)
			if got, n := Scan(string(b)+record, api.MaxBlocks); len(got) != 0 || n != 0 {
				t.Fatalf("Scan(%q..) = %v, %d, want no record", b, got, n)
			}
		}
	}
}

// TestScanUndoesRecord goes through all transactions of up to three writes of
// some data to three blocks, each behind the one before.
func TestScanUndoesRecord(t *testing.T) { // P4.1, P4.2
	all := [][]api.Write{nil}
	for block := range 3 {
		for _, l := range slices.Clone(all) {
			for _, data := range []string{"", "a", "aa", "aaa", "abbb", "r\x00\x01\x00\x01\xce\x00t", "\x00\xff\x80", long(48)} {
				all = append(all, append(slices.Clone(l), api.Write{Block: block, Data: data}))
			}
		}
	}
	var log string
	for i, l := range all {
		record, err := Record(l, 3)
		if err != api.OK {
			t.Fatalf("Record(%v) = %v", l, err)
		}
		log += record
		if got, n := Scan(record, 3); !sameLists(got, all[i:i+1]) || n != len(record) {
			t.Fatalf("Scan(Record(%v)) = %v, %d", l, got, n)
		}
	}
	if got, n := Scan(log, 3); !sameLists(got, all) || n != len(log) {
		t.Errorf("Scan of all records: %d of %d, %d bytes of %d", len(got), len(all), n, len(log))
	}
}

// overwrite writes all memory of a list, unused capacity included.
func overwrite(l []api.Write) {
	l = l[:cap(l)]
	for i := range l {
		l[i] = api.Write{Block: -7, Data: "written later"}
	}
}

func TestRecordMemory(t *testing.T) { // P4.1
	for _, n := range []int{0, 1, 2, 3} {
		whole := []api.Write{{Block: 1, Data: "aaaa"}, {Block: 2}, {Block: 2, Data: "beyond"}, {Block: 9, Data: "beyond"}}
		before := slices.Clone(whole)
		Record(whole[:n], 3)
		if !slices.Equal(whole, before) {
			t.Errorf("Record of %v changes %v", before[:n], whole)
		}
	}
}

// TestScanMemory: what is written into one list of a result, or into its
// unused capacity, shows neither in another list nor in another result.
func TestScanMemory(t *testing.T) { // P4.2
	s := seal("\x01\x00\x00") + seal("\x00") + seal("\x03\x00\x02\x00a\x01\x00\x02\x00") + seal("\x02\x01\x02\x80b\x02\x00")
	want, _ := Scan(s, 3)
	for i := range want {
		got, _ := Scan(s, 3)
		overwrite(got[i])
		got[i] = slices.Clone(want[i])
		if !sameLists(got, want) {
			t.Errorf("list %d shares memory: %v", i, got)
		}
	}
	if again, _ := Scan(s, 3); fmt.Sprint(again) != fmt.Sprint(want) || len(want) != 4 {
		t.Errorf("Scan gives %v and %v", want, again)
	}
}

// FuzzScan: what Scan returns are the records at the beginning, and no record
// is next; the fuzzer looks for bytes where this fails.
func FuzzScan(f *testing.F) { // P4.2
	for _, c := range goodCases() {
		f.Add(seal(c.body)+seal(c.body), 32)
	}
	f.Add("r\x00\x01\x01", 1)
	f.Fuzz(func(t *testing.T, s string, blocks int) {
		lists, n := Scan(s, blocks)
		var records string
		for _, l := range lists {
			record, err := Record(l, blocks)
			if err != api.OK {
				t.Fatalf("Scan(%q, %d) has %v: %v", s, blocks, l, err)
			}
			records += record
		}
		if n != len(records) || !strings.HasPrefix(s, records) {
			t.Fatalf("Scan(%q, %d) = %v, %d, of which the records are %q", s, blocks, lists, n, records)
		}
		if more, m := Scan(s[n:], blocks); len(more) != 0 || m != 0 {
			t.Fatalf("Scan(%q, %d) stops before %v", s, blocks, more)
		}
	})
}
