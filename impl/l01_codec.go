package impl

import "strings"

// Constants of chapter 1.
const (
	OK          = 0
	ErrInvalid  = 1
	ErrRange    = 2
	ErrNotFound = 3
	ErrFull     = 4
	ErrState    = 5
	ErrCorrupt  = 6
	ErrBad      = 7
	ErrPower    = 8
	ErrStale    = 9
	ErrParse    = 10
)

// codeNames holds the names of the codes from OK to ErrParse.
const codeNames = "ok invalid range not-found full state corrupt bad power stale parse"

// maxGroups is the number of groups of seven bits in a non-negative int64.
const maxGroups = 9

// checksumSize is the number of bytes of a checksum in the formats of the other layers.
const checksumSize = 4

// crcNibbles holds the CRC remainders of the integers of four bits. It serves each half of a byte
// in turn, because a table for whole bytes is too large for a package-level table.
var crcNibbles = [16]uint32{
	0x00000000, 0x1db71064, 0x3b6e20c8, 0x26d930ac, 0x76dc4190, 0x6b6b51f4, 0x4db26158, 0x5005713c,
	0xedb88320, 0xf00f9344, 0xd6d6a3e8, 0xcb61b38c, 0x9b64c2b0, 0x86d3d2d4, 0xa00ae278, 0xbdbdf21c,
}

// CodeName returns the name of an error code: ok, invalid, range, not-found, full, state,
// corrupt, bad, power, stale or parse, for OK to ErrParse in numeric order.
func CodeName(code int64) string {
	if code < OK || code > ErrParse {
		return ""
	}
	return wordAt(codeNames, code)
}

// wordAt returns word n of a text that has more than n words, separated by single blanks.
func wordAt(text string, n int64) string {
	start := 0
	for i, r := range text {
		if r != ' ' {
			continue
		}
		if n == 0 {
			return text[start:i]
		}
		n--
		start = i + 1
	}
	return text[start:]
}

// EncodeUvarint returns the shortest variable-length encoding of n: groups of seven bits, least
// significant group first, at least one byte, with bit 7 set in every byte but the last. It returns
// the empty string if n is negative.
func EncodeUvarint(n int64) string {
	if n < 0 {
		return ""
	}
	groups, size := groupsOf(n)
	return string(groups[:size])
}

// groupsOf returns the bytes of the encoding of a non-negative n and their number.
func groupsOf(n int64) ([maxGroups]byte, int) {
	var groups [maxGroups]byte
	size := 0
	for n >= 0x80 {
		groups[size] = byte(n) | 0x80
		n >>= 7
		size++
	}
	groups[size] = byte(n)
	return groups, size + 1
}

// DecodeUvarint decodes an integer from the start of s and returns it, the number of bytes
// consumed, and true, or false if s does not start with an encoding that EncodeUvarint returns.
func DecodeUvarint(s string) (int64, int64, bool) {
	var groups [maxGroups]byte
	n := int64(0)
	for i := range min(len(s), maxGroups) {
		groups[i] = s[i]
		n |= int64(s[i]&0x7f) << (7 * i)
		if s[i] < 0x80 {
			return checkGroups(n, groups)
		}
	}
	return 0, 0, false
}

// checkGroups returns n, the number of bytes of its encoding, and true if groups is this encoding.
// Comparing with the encoder rejects every longer form without a rule of its own.
func checkGroups(n int64, groups [maxGroups]byte) (int64, int64, bool) {
	shortest, size := groupsOf(n)
	if groups != shortest {
		return 0, 0, false
	}
	return n, int64(size), true
}

// encodeUvarints returns the encodings of integers one after the other.
func encodeUvarints(numbers []int64) string {
	var out strings.Builder
	for _, n := range numbers {
		out.WriteString(EncodeUvarint(n))
	}
	return out.String()
}

// uvarintReader reads encodings of integers one after the other.
type uvarintReader struct {
	rest string
}

// next returns the next integer. It returns 0 and does not move on if there is no encoding: its
// users compare what they have read with the encoder, which makes the failure known.
func (r *uvarintReader) next() int64 {
	n, used, _ := DecodeUvarint(r.rest)
	r.rest = r.rest[used:]
	return n
}

// list returns the next integers.
func (r *uvarintReader) list(size int64) []int64 {
	numbers := make([]int64, size)
	for i := range numbers {
		numbers[i] = r.next()
	}
	return numbers
}

// EncodeFixed returns the least significant size bytes of the two's complement of n in
// little-endian order, or the empty string if size is not in 0..8.
func EncodeFixed(n int64, size int64) string {
	if size < 0 || size > 8 {
		return ""
	}
	out := make([]byte, size)
	for i := range out {
		out[i] = byte(n)
		n >>= 8
	}
	return string(out)
}

// DecodeFixed returns the little-endian integer in s: a non-negative integer if s has at most
// seven bytes, a two's complement int64 if it has eight, and 0 if it has more.
func DecodeFixed(s string) int64 {
	if len(s) > 8 {
		return 0
	}
	n := int64(0)
	for i := range len(s) {
		n |= int64(s[i]) << (8 * i)
	}
	return n
}

// EncodeString returns EncodeUvarint of the length of s, followed by s.
func EncodeString(s string) string {
	return EncodeUvarint(int64(len(s))) + s
}

// DecodeString decodes a length-prefixed string from the start of s and returns it, the number of
// bytes consumed, and true, or false if the length is malformed or s ends too early.
func DecodeString(s string) (string, int64, bool) {
	size, used, ok := DecodeUvarint(s)
	if !ok || size > int64(len(s))-used {
		return "", 0, false
	}
	end := used + size
	return s[used:end], end, true
}

// Checksum returns the CRC-32 of s (IEEE 802.3): the polynomial in reversed bit order is edb88320
// (hexadecimal), the initial value and the final exclusive or are ffffffff, and the bits of each
// byte are processed from the least significant one on.
func Checksum(s string) int64 {
	sum := ^uint32(0)
	for i := range len(s) {
		sum ^= uint32(s[i])
		sum = sum>>4 ^ crcNibbles[sum&15]
		sum = sum>>4 ^ crcNibbles[sum&15]
	}
	return int64(^sum)
}

// withChecksum returns s followed by its checksum.
func withChecksum(s string) string {
	return s + EncodeFixed(Checksum(s), checksumSize)
}
