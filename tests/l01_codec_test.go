package tests

import (
	"hash/crc32"
	"math"
	"math/big"
	"math/rand"
	"strings"
	"testing"

	"loop.example/g00905/impl"
)

// expect reports a result that differs from the wanted one.
func expect[T comparable](t *testing.T, what string, got T, want T) {
	t.Helper()
	if got != want {
		t.Errorf("%s: got %#v, want %#v", what, got, want)
	}
}

// uvarint is a result of DecodeUvarint.
type uvarint struct {
	n, used int64
	ok      bool
}

func decodeUvarint(s string) uvarint {
	n, used, ok := impl.DecodeUvarint(s)
	return uvarint{n, used, ok}
}

// text is a result of DecodeString.
type text struct {
	s    string
	used int64
	ok   bool
}

func decodeString(s string) text {
	out, used, ok := impl.DecodeString(s)
	return text{out, used, ok}
}

// randomString returns size random bytes.
func randomString(r *rand.Rand, size int) string {
	b := make([]byte, size)
	r.Read(b)
	return string(b)
}

func TestCodeConstants(t *testing.T) {
	codes := []int64{
		impl.OK, impl.ErrInvalid, impl.ErrRange, impl.ErrNotFound, impl.ErrFull, impl.ErrState,
		impl.ErrCorrupt, impl.ErrBad, impl.ErrPower, impl.ErrStale, impl.ErrParse,
	}
	for i, code := range codes {
		expect(t, "error code", code, int64(i))
	}
}

func TestP2CodeName(t *testing.T) {
	names := strings.Fields("ok invalid range not-found full state corrupt bad power stale parse")
	for code, name := range names {
		expect(t, "CodeName", impl.CodeName(int64(code)), name)
	}
	for _, code := range []int64{-1, -2, 11, 12, 1 << 32, math.MinInt64, math.MaxInt64} {
		expect(t, "CodeName of no code", impl.CodeName(code), "")
	}
}

// uvarintSamples returns integers of all lengths, those around each change of length among them.
func uvarintSamples() []int64 {
	list := []int64{0, 1, 2, 300, math.MaxInt64, math.MaxInt64 - 1}
	for shift := 1; shift < 63; shift++ {
		n := int64(1) << shift
		list = append(list, n-1, n, n+1)
	}
	r := rand.New(rand.NewSource(1))
	for range 2000 {
		list = append(list, r.Int63()>>r.Intn(63))
	}
	return list
}

func TestP2EncodeUvarint(t *testing.T) {
	for want, n := range map[string]int64{
		"\x00": 0, "\x01": 1, "\x7f": 127, "\x80\x01": 128, "\xac\x02": 300, "\xff\x7f": 16383,
		"\x80\x80\x01": 16384, "\xff\xff\xff\xff\xff\xff\xff\xff\x7f": math.MaxInt64,
	} {
		expect(t, "EncodeUvarint", impl.EncodeUvarint(n), want)
	}
	for _, n := range []int64{-1, -2, -128, -300, math.MinInt64} {
		expect(t, "EncodeUvarint of a negative integer", impl.EncodeUvarint(n), "")
	}
}

func TestP2UvarintRoundTrip(t *testing.T) {
	for _, n := range uvarintSamples() {
		s := impl.EncodeUvarint(n)
		want := uvarint{n, int64(len(s)), true}
		for _, tail := range []string{"", "\x00", "\x01", "\x7f", "\x80", "\xff", "\x80\x00", strings.Repeat("\xff", 20)} {
			expect(t, "DecodeUvarint with trailing bytes", decodeUvarint(s+tail), want)
		}
		for cut := range len(s) {
			expect(t, "DecodeUvarint of a cut encoding", decodeUvarint(s[:cut]), uvarint{})
		}
	}
}

func TestP2UvarintLongerForms(t *testing.T) {
	for _, n := range uvarintSamples() {
		s := impl.EncodeUvarint(n)
		last := len(s) - 1
		longer := s[:last] + string([]byte{s[last] | 0x80})
		for range 12 {
			expect(t, "DecodeUvarint of a longer form", decodeUvarint(longer+"\x00"), uvarint{})
			expect(t, "DecodeUvarint of a longer form", decodeUvarint(longer+"\x00\x01"), uvarint{})
			longer += "\x80"
		}
	}
}

func TestP2UvarintTooLarge(t *testing.T) {
	for _, s := range []string{
		strings.Repeat("\x80", 9) + "\x01",
		strings.Repeat("\xff", 9) + "\x01",
		strings.Repeat("\xff", 9) + "\x00",
		strings.Repeat("\xff", 9) + "\x7f",
		strings.Repeat("\xff", 10) + "\x01",
		strings.Repeat("\x80", 18) + "\x01",
		strings.Repeat("\xff", 100),
		"",
	} {
		expect(t, "DecodeUvarint of no int64", decodeUvarint(s), uvarint{})
	}
}

// TestP2UvarintUnique decodes every string of three bytes; what is accepted must be the encoding of
// the result, so no integer has two encodings.
func TestP2UvarintUnique(t *testing.T) {
	seen := make([]bool, 1<<21)
	for n := range 1 << 24 {
		s := string([]byte{byte(n), byte(n >> 8), byte(n >> 16)})
		got, used, ok := impl.DecodeUvarint(s)
		whole := s[0] < 0x80 || s[1] >= 1 && s[1] < 0x80 || s[1] >= 0x80 && s[2] >= 1 && s[2] < 0x80
		if ok != whole {
			t.Fatalf("DecodeUvarint(%x): ok is %v", s, ok)
		}
		if !ok {
			continue
		}
		if impl.EncodeUvarint(got) != s[:used] {
			t.Fatalf("DecodeUvarint(%x) returns %d, whose encoding is %x", s, got, impl.EncodeUvarint(got))
		}
		seen[got] = true
	}
	for n, is := range seen {
		if !is {
			t.Fatalf("no string is decoded to %d", n)
		}
	}
}

// littleEndian returns size bytes of n modulo 2^(8*size).
func littleEndian(n int64, size uint) string {
	modulus := new(big.Int).Lsh(big.NewInt(1), 8*size)
	rest := new(big.Int).Mod(big.NewInt(n), modulus)
	out := make([]byte, size)
	rest.FillBytes(out)
	for i, j := 0, len(out)-1; i < j; i, j = i+1, j-1 {
		out[i], out[j] = out[j], out[i]
	}
	return string(out)
}

func TestP2EncodeFixed(t *testing.T) {
	expect(t, "EncodeFixed", impl.EncodeFixed(258, 4), "\x02\x01\x00\x00")
	expect(t, "EncodeFixed", impl.EncodeFixed(-1, 3), "\xff\xff\xff")
	expect(t, "EncodeFixed", impl.EncodeFixed(-2, 8), "\xfe\xff\xff\xff\xff\xff\xff\xff")
	for _, n := range append(uvarintSamples(), edgeInts...) {
		for size := range uint(9) {
			expect(t, "EncodeFixed", impl.EncodeFixed(n, int64(size)), littleEndian(n, size))
		}
		for _, size := range []int64{-1, -8, 9, 10, 16, 256, 1 << 40, math.MinInt64, math.MaxInt64} {
			expect(t, "EncodeFixed of an invalid size", impl.EncodeFixed(n, size), "")
		}
	}
}

func TestP2DecodeFixed(t *testing.T) {
	for s, want := range map[string]int64{
		"":                                     0,
		"\xff":                                 255,
		"\x02\x01\x00\x00":                     258,
		"\xff\xff\xff\xff":                     1<<32 - 1,
		"\xff\xff\xff\xff\xff\xff\xff":         1<<56 - 1,
		"\xff\xff\xff\xff\xff\xff\xff\xff":     -1,
		"\x00\x00\x00\x00\x00\x00\x00\x80":     math.MinInt64,
		"\xff\xff\xff\xff\xff\xff\xff\x7f":     math.MaxInt64,
		"\x01\x00\x00\x00\x00\x00\x00\x00\x00": 0,
		"\xff\xff\xff\xff\xff\xff\xff\xff\xff": 0,
		strings.Repeat("\x01", 300):            0,
	} {
		expect(t, "DecodeFixed", impl.DecodeFixed(s), want)
	}
}

func TestP2FixedRoundTrip(t *testing.T) {
	for _, n := range append(uvarintSamples(), edgeInts...) {
		expect(t, "DecodeFixed of eight bytes", impl.DecodeFixed(impl.EncodeFixed(n, 8)), n)
		for size := range int64(8) {
			want := n & (1<<(8*size) - 1)
			expect(t, "DecodeFixed", impl.DecodeFixed(impl.EncodeFixed(n, size)), want)
		}
	}
}

func TestP2StringRoundTrip(t *testing.T) {
	r := rand.New(rand.NewSource(2))
	for _, size := range []int{0, 1, 2, 3, 126, 127, 128, 129, 300, 16383, 16384, 70000} {
		s := randomString(r, size)
		code := impl.EncodeString(s)
		expect(t, "EncodeString", code, impl.EncodeUvarint(int64(size))+s)
		want := text{s, int64(len(code)), true}
		for _, tail := range []string{"", "d", "\x80", randomString(r, 50)} {
			expect(t, "DecodeString with trailing bytes", decodeString(code+tail), want)
		}
		for cut := range len(code) {
			if got := decodeString(code[:cut]); got != (text{}) {
				t.Fatalf("DecodeString of %d of %d bytes: %v", cut, len(code), got)
			}
		}
	}
	expect(t, "EncodeString", impl.EncodeString("abc"), "\x03abc")
	expect(t, "DecodeString", decodeString("\x03abcd"), text{"abc", 4, true})
	expect(t, "DecodeString", decodeString("\x00"), text{"", 1, true})
}

func TestP2StringMalformed(t *testing.T) {
	for _, s := range []string{
		"", "\x01", "\x03ab", "\x80", "\x80\x00", "\x83\x00abc", "\x83\x80\x00abc", "\x80\x01abc",
		impl.EncodeUvarint(math.MaxInt64), impl.EncodeUvarint(math.MaxInt64) + "abc",
		impl.EncodeUvarint(math.MaxInt64-8) + "abcdefgh", impl.EncodeUvarint(1<<32+2) + "abc",
		strings.Repeat("\xff", 9) + "\x01abc", strings.Repeat("\x80", 30),
	} {
		expect(t, "DecodeString of a malformed string", decodeString(s), text{})
	}
}

func TestP2ChecksumValues(t *testing.T) {
	expect(t, "Checksum", impl.Checksum("123456789"), 3421780262)
	expect(t, "Checksum", impl.Checksum(""), 0)
	r := rand.New(rand.NewSource(3))
	for size := range 600 {
		s := randomString(r, size)
		expect(t, "Checksum", impl.Checksum(s), int64(crc32.ChecksumIEEE([]byte(s))))
	}
	for b := range 256 {
		s := string([]byte{byte(b)})
		expect(t, "Checksum", impl.Checksum(s), int64(crc32.ChecksumIEEE([]byte(s))))
	}
}

// flipBurst returns s with the bits of pattern inverted from bit start on.
func flipBurst(s string, start int, pattern uint32) string {
	out := []byte(s)
	for b := range 32 {
		if pattern>>b&1 == 1 {
			out[(start+b)/8] ^= 1 << ((start + b) % 8)
		}
	}
	return string(out)
}

// TestP2ChecksumBursts changes bits within 32 consecutive ones, at every place of a string.
func TestP2ChecksumBursts(t *testing.T) {
	r := rand.New(rand.NewSource(4))
	for _, size := range []int{4, 5, 12, 60, 91} {
		s := randomString(r, size)
		sum := impl.Checksum(s)
		for start := range 8*size - 31 {
			patterns := []uint32{1, 1 << 31, 3, 1<<31 | 1, 0xff, 0xffff, math.MaxUint32, 0xedb88320}
			for range 100 {
				patterns = append(patterns, r.Uint32()|1)
			}
			for _, pattern := range patterns {
				if impl.Checksum(flipBurst(s, start, pattern)) == sum {
					t.Fatalf("size %d: pattern %x at bit %d is not detected", size, pattern, start)
				}
			}
		}
	}
}

// TestP2ChecksumWindows shows for all patterns of a window at once that they are detected: the
// checksum is affine, so it is enough that the changes caused by the 32 single bits are linearly
// independent.
func TestP2ChecksumWindows(t *testing.T) {
	r := rand.New(rand.NewSource(5))
	s := randomString(r, 40)
	sum := impl.Checksum(s)
	for start := range 8*len(s) - 31 {
		var basis [32]uint32
		for b := range 32 {
			change := uint32(impl.Checksum(flipBurst(s, start, 1<<b)) ^ sum)
			for top := 31; top >= 0 && change != 0; top-- {
				if change>>top&1 == 0 {
					continue
				}
				if basis[top] == 0 {
					basis[top] = change
					break
				}
				change ^= basis[top]
			}
			if change == 0 {
				t.Fatalf("the bits from %d on are dependent", start)
			}
		}
	}
	for range 1000 {
		a, b := randomString(r, 40), randomString(r, 40)
		all := make([]byte, 40)
		for i := range all {
			all[i] = a[i] ^ b[i] ^ s[i]
		}
		expect(t, "affine checksum", impl.Checksum(string(all)), impl.Checksum(a)^impl.Checksum(b)^sum)
	}
}
