package press

import (
	"strings"
	"testing"

	"saltcellar/api"
)

// letters returns n bytes, no two neighbours of which are equal.
func letters(n int) string {
	return strings.Repeat("ab", n/2) + "a"[:n%2]
}

// everyString calls f with all strings of up to most bytes of an alphabet.
func everyString(alphabet string, most int, f func(s string)) {
	level := []string{""}
	for n := 0; ; n++ {
		for _, s := range level {
			f(s)
		}
		if n == most {
			return
		}
		var next []string
		for _, s := range level {
			for i := range len(alphabet) {
				next = append(next, s+alphabet[i:i+1])
			}
		}
		level = next
	}
}

// packCases are texts and their packed form, for P1.1 and for P1.2.
var packCases = []struct{ plain, packed string }{
	{"", ""},
	{"a", "\x00a"},
	{"aa", "\x01aa"},
	{"ab", "\x01ab"},
	{"aaa", "\x80a"},
	{"aaaa", "\x81a"},
	{"abbb", "\x00a\x80b"},
	{"aaab", "\x80a\x00b"},
	{"abab", "\x03abab"},
	{"aabb", "\x03aabb"},
	{"aabbb", "\x01aa\x80b"},
	{"aaabb", "\x80a\x01bb"},
	{"aaabbb", "\x80a\x80b"},
	{"aaabbaaa", "\x80a\x01bb\x80a"},
	{"abcccd", "\x01ab\x80c\x00d"},
	{"\x00\x00\x00", "\x80\x00"},
	{"\xff\xff\xff\xff", "\x81\xff"},
	{"\x00\x80\xff", "\x02\x00\x80\xff"},
	{"ééé", "\x05ééé"},
	{strings.Repeat("a", api.MaxData), "\xada"},
	{letters(api.MaxData), "\x2f" + letters(api.MaxData)},
	{letters(api.MaxData-3) + "ccc", "\x2c" + letters(api.MaxData-3) + "\x80c"},
	{strings.Repeat("a", api.MaxData-1) + "b", "\xaca\x00b"},
}

func TestPack(t *testing.T) { // P1.1
	for _, c := range packCases {
		got, err := Pack(c.plain)
		if got != c.packed || err != api.OK {
			t.Errorf("Pack(%q) = %q, %v, want %q", c.plain, got, err, c.packed)
		}
	}
}

func TestPackTooLong(t *testing.T) { // P1.1
	for _, s := range []string{
		strings.Repeat("a", api.MaxData+1),
		letters(api.MaxData + 1),
		strings.Repeat("a", 1000),
		strings.Repeat("a", 1<<20),
	} {
		got, err := Pack(s)
		if got != "" || err != api.ErrSize {
			t.Errorf("Pack of %d bytes = %q, %v, want ErrSize", len(s), got, err)
		}
	}
}

// TestEncodeFullElements is about elements that are longer than MaxData, which
// Pack itself never reaches.
func TestEncodeFullElements(t *testing.T) { // P1.1
	run := func(n int) string { return strings.Repeat("z", n) }
	for _, c := range []struct{ plain, packed string }{
		{run(130), "\xffz"},
		{run(131), "\xffz\x00z"},
		{run(132), "\xffz\x01zz"},
		{run(133), "\xffz\x80z"},
		{run(132) + "yyy", "\xffz\x01zz\x80y"},
		{run(260), "\xffz\xffz"},
		{letters(127) + run(3), "\x7e" + letters(127) + "\x80z"},
		{letters(128), "\x7f" + letters(128)},
		{letters(128) + run(3), "\x7f" + letters(128) + "\x80z"},
		{letters(129), "\x7f" + letters(128) + "\x00a"},
		{letters(127) + run(2), "\x7f" + letters(127) + "z\x00z"},
		{letters(256), "\x7f" + letters(128) + "\x7f" + letters(128)},
	} {
		if got := encode(c.plain); got != c.packed {
			t.Errorf("encode(%q) = %q, want %q", c.plain, got, c.packed)
		}
	}
}

func TestUnpack(t *testing.T) { // P1.2
	for _, c := range packCases {
		got, err := Unpack(c.packed)
		if got != c.plain || err != api.OK {
			t.Errorf("Unpack(%q) = %q, %v, want %q", c.packed, got, err, c.plain)
		}
	}
}

func TestUnpackErrors(t *testing.T) { // P1.2
	full := "\x2f" + letters(api.MaxData)
	for _, c := range []struct {
		packed string
		want   api.Errno
	}{
		// It ends within an element: behind its first byte, or later.
		{"\x00", api.ErrShort},
		{"\x01", api.ErrShort},
		{"\x01a", api.ErrShort},
		{"\x02ab", api.ErrShort},
		{"\x7f", api.ErrShort},
		{"\x80", api.ErrShort},
		{"\x80a\x00", api.ErrShort},
		{"\x80a\x81", api.ErrShort},
		{"\x2f" + letters(api.MaxData-1), api.ErrShort},

		// The result is too long: in one element, or in all together.
		{"\xaea", api.ErrSize},
		{"\xffz", api.ErrSize},
		{"\x30" + letters(api.MaxData+1), api.ErrSize},
		{"\x7f" + letters(128), api.ErrSize},
		{full + "\x00b", api.ErrSize},
		{full + "\x80b", api.ErrSize},
		{"\xada\x00b", api.ErrSize},
		{"\xaba\x80b", api.ErrSize},
		{strings.Repeat("\x00a", api.MaxData+1), api.ErrSize},

		// Pack would have written the result in another way.
		{"\x02aaa", api.ErrForm},
		{"\x03aaab", api.ErrForm},
		{"\x03abbb", api.ErrForm},
		{"\x00a\x00b", api.ErrForm},
		{"\x01aa\x00a", api.ErrForm},
		{"\x80a\x00a", api.ErrForm},
		{"\x00a\x80a", api.ErrForm},
		{"\x80a\x80a", api.ErrForm},
		{"\x80a\x00b\x00c", api.ErrForm},
		{"\x2f" + strings.Repeat("a", api.MaxData), api.ErrForm},
		{strings.Repeat("\x00a", api.MaxData), api.ErrForm},

		// An element that is short and too long at once is short; of two
		// elements the first one counts; the form comes last.
		{"\xff", api.ErrShort},
		{"\x7f" + letters(127), api.ErrShort},
		{"\x30" + letters(api.MaxData), api.ErrShort},
		{full + "\x00", api.ErrShort},
		{full + "\x80", api.ErrShort},
		{"\xffz\x80", api.ErrSize},
		{full + "\x00b\x01", api.ErrSize},
		{"\x02aaa\x80", api.ErrShort},
		{"\x02aaa\xffz", api.ErrSize},
	} {
		got, err := Unpack(c.packed)
		if got != "" || err != c.want {
			t.Errorf("Unpack(%q) = %q, %v, want %v", c.packed, got, err, c.want)
		}
	}
}

func TestUnpackInvertsPack(t *testing.T) { // P1.1, P1.2
	everyString("ab\x80", 8, func(s string) {
		packed, err := Pack(s)
		if err != api.OK {
			t.Fatalf("Pack(%q): %v", s, err)
		}
		if back, err := Unpack(packed); back != s || err != api.OK {
			t.Fatalf("Unpack(Pack(%q)) = %q, %v", s, back, err)
		}
	})
}

func TestRunsOfEveryLength(t *testing.T) { // P1.1, P1.2
	for n := minRun; n <= api.MaxData; n++ {
		for b := range 256 {
			plain := strings.Repeat(string([]byte{byte(b)}), n)
			want := string([]byte{byte(125 + n), byte(b)})
			if got, err := Pack(plain); got != want || err != api.OK {
				t.Fatalf("Pack of %d bytes %d = %q, %v", n, b, got, err)
			}
			if got, err := Unpack(want); got != plain || err != api.OK {
				t.Fatalf("Unpack(%q) = %q, %v", want, got, err)
			}
		}
	}
}

// TestUnpackTakesNothingElse: what Unpack takes is just what Pack gives.
func TestUnpackTakesNothingElse(t *testing.T) { // P1.2
	everyString("\x00\x01\x02\x03\x2f\x30\x7f\x80\x81\xad\xae\xff", 5, func(s string) {
		plain, err := Unpack(s)
		if err != api.OK {
			if plain != "" {
				t.Fatalf("Unpack(%q) = %q beside %v", s, plain, err)
			}
			return
		}
		if again, err := Pack(plain); again != s || err != api.OK {
			t.Fatalf("Unpack(%q) = %q, which Pack packs as %q, %v", s, plain, again, err)
		}
	})
}
