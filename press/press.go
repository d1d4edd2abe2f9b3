// Package press: bytes, with runs of one byte made short.
package press

import "saltcellar/api"

// An element begins with one byte: below runBase+minRun it is the number of
// literal bytes minus 1, from there on it is runBase plus the length of a run.
const (
	minRun     = 3
	maxRun     = 130
	maxLiteral = 128
	runBase    = 125
)

// Pack encodes a string of at most api.MaxData bytes.
func Pack(s string) (string, api.Errno) {
	if len(s) > api.MaxData {
		return "", api.ErrSize
	}
	return encode(s), api.OK
}

// Unpack decodes a string that Pack has encoded; others are refused, also
// those that encode the same bytes in another way.
func Unpack(s string) (string, api.Errno) {
	data, err := decode(s)
	if err != api.OK {
		return "", err
	}
	if encode(data) != s {
		return "", api.ErrForm
	}
	return data, api.OK
}

// encode has no limit of its own, so that elements of full length can be tested.
func encode(s string) string {
	var out []byte
	for len(s) > 0 {
		n := runLength(s)
		if n >= minRun {
			out = append(out, byte(runBase+n), s[0])
		} else {
			n = literalLength(s)
			out = append(out, byte(n-1))
			out = append(out, s[:n]...)
		}
		s = s[n:]
	}
	return string(out)
}

// runLength counts the equal bytes at the beginning of s, as far as one
// element can hold them.
func runLength(s string) int {
	n := 0
	for n < len(s) && n < maxRun && s[n] == s[0] {
		n++
	}
	return n
}

// literalLength counts the bytes of s before the next run, as far as one
// element can hold them. s is not empty and does not begin with a run.
func literalLength(s string) int {
	n := 1
	for n < len(s) && n < maxLiteral && runLength(s[n:]) < minRun {
		n++
	}
	return n
}

// decode reads element by element, so that the error of an earlier element
// comes before that of a later one.
func decode(s string) (string, api.Errno) {
	var out []byte
	for len(s) > 0 {
		size, count := measure(s[0])
		if len(s) < size {
			return "", api.ErrShort
		}
		if len(out)+count > api.MaxData {
			return "", api.ErrSize
		}
		out = appendElement(out, s[:size], count)
		s = s[size:]
	}
	return string(out), api.OK
}

// measure tells from the first byte of an element how many bytes the element
// has, and how many bytes it stands for.
func measure(first byte) (size, count int) {
	if first < runBase+minRun {
		count = int(first) + 1
		return 1 + count, count
	}
	return 2, int(first) - runBase
}

func appendElement(out []byte, element string, count int) []byte {
	if element[0] < runBase+minRun {
		return append(out, element[1:]...)
	}
	for range count {
		out = append(out, element[1])
	}
	return out
}
