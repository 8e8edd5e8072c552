package tests

import (
	"math"
	"math/rand"
	"slices"
	"strings"
	"testing"

	"loop.example/g00905/impl"
)

// badWords are strings that are no words, and badChecks integers that are no check bytes.
var (
	badWords  = []string{"", "a", "1234567", "123456789", "\x00\x00\x00\x00\x00\x00\x00", strings.Repeat("a", 16), strings.Repeat("a", 64)}
	badChecks = []int64{math.MinInt64, -256, -1, 256, 257, 1 << 32, math.MaxInt64}
)

// bitsOf is a word and its check byte as the 72 bits that chapter 3 defines.
type bitsOf [72]int

// split returns the bits of a word and a check byte.
func split(word string, check int64) bitsOf {
	var out bitsOf
	all := word + string([]byte{byte(check)})
	for b := range out {
		out[b] = int(all[b/8]) >> (b % 8) % 2
	}
	return out
}

// join returns the word and the check byte of bits.
func (b bitsOf) join() (string, int64) {
	var all [9]byte
	for i, bit := range b {
		all[i/8] |= byte(bit << (i % 8))
	}
	return string(all[:8]), int64(all[8])
}

// positions returns the positions of the bits 0 to 70, by their definition.
func positions() []int {
	powers := []int{1, 2, 4, 8, 16, 32, 64}
	var list []int
	for p := 3; len(list) < 64; p++ {
		if !slices.Contains(powers, p) {
			list = append(list, p)
		}
	}
	return append(list, powers...)
}

// sums returns the syndrome and the parity of bits, by their definition.
func (b bitsOf) sums() (int64, int64) {
	syndrome, parity := 0, 0
	for i, p := range positions() {
		if b[i] == 1 {
			syndrome ^= p
		}
	}
	for _, bit := range b {
		parity ^= bit
	}
	return int64(syndrome), int64(parity)
}

// decoded is a result of DecodeWord, FlipCodeBit or DecodeEcc.
type decoded struct {
	s    string
	n    int64
	code int64
}

func decodeWord(word string, check int64) decoded {
	s, n, code := impl.DecodeWord(word, check)
	return decoded{s, n, code}
}

func flipCodeBit(word string, check int64, bit int64) decoded {
	s, n, code := impl.FlipCodeBit(word, check, bit)
	return decoded{s, n, code}
}

func decodeEcc(data string, checks string) decoded {
	s, n, code := impl.DecodeEcc(data, checks)
	return decoded{s, n, code}
}

func decodeErased(word string, check int64, list []int64) coded {
	s, code := impl.DecodeErased(word, check, list)
	return coded{s, code}
}

func encodeEcc(data string) coded {
	s, code := impl.EncodeEcc(data)
	return coded{s, code}
}

// invert returns a word and a check byte with some bits inverted.
func invert(word string, check int64, list ...int64) (string, int64) {
	all := split(word, check)
	for _, bit := range list {
		all[bit] ^= 1
	}
	return all.join()
}

// sampleWords returns the words of equal bits, those with a single bit, and random ones.
func sampleWords(r *rand.Rand, random int) []string {
	list := []string{strings.Repeat("\x00", 8), strings.Repeat("\xff", 8), "codeword"}
	for b := range 64 {
		list = append(list, flipBurst(list[0], b&^31, 1<<(b&31)))
	}
	for range random {
		list = append(list, randomString(r, 8))
	}
	return list
}

func TestP4Constants(t *testing.T) {
	expect(t, "WordSize", impl.WordSize, 8)
	expect(t, "CodeBits", impl.CodeBits, 72)
	expect(t, "MaxWords", impl.MaxWords, 32)
	expect(t, "MaxErased", impl.MaxErased, 3)
}

// TestP4CheckByte also shows that a word has no other check byte.
func TestP4CheckByte(t *testing.T) {
	expect(t, "CheckByte", impl.CheckByte("\x00\x00\x00\x00\x00\x00\x00\x00"), 0)
	expect(t, "CheckByte", impl.CheckByte("\x01\x00\x00\x00\x00\x00\x00\x00"), 131)
	for _, word := range sampleWords(rand.New(rand.NewSource(8)), 50) {
		got := impl.CheckByte(word)
		for check := range int64(256) {
			syndrome, parity := split(word, check).sums()
			expect(t, "check byte of a codeword", got == check, syndrome == 0 && parity == 0)
		}
	}
	for _, word := range badWords {
		expect(t, "CheckByte of no word", impl.CheckByte(word), -1)
	}
}

func TestP4Syndrome(t *testing.T) {
	type sums struct{ syndrome, parity int64 }
	syndromeOf := func(word string, check int64) sums {
		syndrome, parity := impl.Syndrome(word, check)
		return sums{syndrome, parity}
	}
	zero := strings.Repeat("\x00", 8)
	expect(t, "Syndrome", syndromeOf("\x02\x00\x00\x00\x00\x00\x00\x00", 0), sums{5, 1})
	for bit, position := range append(positions(), 0) {
		word, check := invert(zero, 0, int64(bit))
		expect(t, "Syndrome of one bit", syndromeOf(word, check), sums{int64(position), 1})
	}
	for _, word := range sampleWords(rand.New(rand.NewSource(9)), 50) {
		for check := range int64(256) {
			syndrome, parity := split(word, check).sums()
			expect(t, "Syndrome", syndromeOf(word, check), sums{syndrome, parity})
		}
	}
	for _, word := range append(badWords, zero) {
		for _, check := range badChecks {
			expect(t, "Syndrome of no check byte", syndromeOf(word, check), sums{-1, -1})
		}
	}
	for _, word := range badWords {
		for _, check := range []int64{0, 131, 255} {
			expect(t, "Syndrome of no word", syndromeOf(word, check), sums{-1, -1})
		}
	}
}

// TestP4OneError inverts each bit of codewords: those of the word, those of the check byte that have
// a position, and the last one.
func TestP4OneError(t *testing.T) {
	for _, word := range sampleWords(rand.New(rand.NewSource(10)), 500) {
		check := impl.CheckByte(word)
		expect(t, "DecodeWord without an error", decodeWord(word, check), decoded{word, 0, impl.OK})
		for bit := range int64(72) {
			bentWord, bentCheck := invert(word, check, bit)
			expect(t, "DecodeWord with one error", decodeWord(bentWord, bentCheck), decoded{word, 1, impl.OK})
		}
	}
}

// TestP4TwoErrors inverts each pair of bits.
func TestP4TwoErrors(t *testing.T) {
	words := []string{strings.Repeat("\x00", 8), strings.Repeat("\xff", 8), "codeword"}
	r := rand.New(rand.NewSource(11))
	for range 20 {
		words = append(words, randomString(r, 8))
	}
	for _, word := range words {
		check := impl.CheckByte(word)
		for first := range int64(72) {
			for second := range first {
				bentWord, bentCheck := invert(word, check, first, second)
				expect(t, "DecodeWord with two errors", decodeWord(bentWord, bentCheck), decoded{"", 0, impl.ErrCorrupt})
			}
		}
	}
}

// TestP4AnyBits decodes words with all check bytes, whether a codeword is near or not, and compares
// with the rule for the syndrome and the parity.
func TestP4AnyBits(t *testing.T) {
	list := append(positions(), 0)
	far := 0
	for _, word := range sampleWords(rand.New(rand.NewSource(12)), 100) {
		for check := range int64(256) {
			syndrome, parity := split(word, check).sums()
			want := decoded{"", 0, impl.ErrCorrupt}
			if parity == 0 && syndrome == 0 {
				want = decoded{word, 0, impl.OK}
			}
			if parity == 1 && syndrome <= 71 {
				bit := slices.Index(list, int(syndrome))
				fixed, _ := invert(word, check, int64(bit))
				want = decoded{fixed, 1, impl.OK}
			}
			if parity == 1 && syndrome > 71 {
				far++
			}
			expect(t, "DecodeWord", decodeWord(word, check), want)
		}
	}
	if far == 0 {
		t.Error("no syndrome is above the last position")
	}
}

func TestP4DecodeWordErrors(t *testing.T) {
	want := decoded{"", 0, impl.ErrInvalid}
	for _, word := range badWords {
		for _, check := range append([]int64{0, 131, 255}, badChecks...) {
			expect(t, "DecodeWord of no word", decodeWord(word, check), want)
		}
	}
	for _, check := range badChecks {
		expect(t, "DecodeWord of no check byte", decodeWord("codeword", check), want)
		expect(t, "DecodeWord of no check byte", decodeWord(strings.Repeat("\x00", 8), check), want)
	}
}

func TestP4FlipCodeBit(t *testing.T) {
	for _, word := range sampleWords(rand.New(rand.NewSource(13)), 20) {
		for _, check := range []int64{0, 1, 127, 128, 255, impl.CheckByte(word)} {
			for bit := range int64(72) {
				bentWord, bentCheck := invert(word, check, bit)
				expect(t, "FlipCodeBit", flipCodeBit(word, check, bit), decoded{bentWord, bentCheck, impl.OK})
				expect(t, "FlipCodeBit twice", flipCodeBit(bentWord, bentCheck, bit), decoded{word, check, impl.OK})
			}
		}
	}
	badBits := []int64{math.MinInt64, -64, -1, 72, 73, 128, 1 << 32, math.MaxInt64}
	for _, bit := range badBits {
		for _, check := range []int64{0, 255} {
			expect(t, "FlipCodeBit of no bit", flipCodeBit("codeword", check, bit), decoded{"", 0, impl.ErrRange})
		}
	}
	for _, bit := range append(badBits, 0, 71) {
		for _, word := range badWords {
			expect(t, "FlipCodeBit of no word", flipCodeBit(word, 0, bit), decoded{"", 0, impl.ErrInvalid})
		}
		for _, check := range badChecks {
			expect(t, "FlipCodeBit of no check byte", flipCodeBit("codeword", check, bit), decoded{"", 0, impl.ErrInvalid})
		}
	}
}

// erasedSets calls visit with every strictly increasing list of at most three bits.
func erasedSets(visit func([]int64)) {
	visit(nil)
	for c := range int64(72) {
		visit([]int64{c})
		for b := range c {
			visit([]int64{b, c})
			for a := range b {
				visit([]int64{a, b, c})
			}
		}
	}
}

// TestP4Erased takes every set of at most three bits as unknown, with all values of them.
func TestP4Erased(t *testing.T) {
	word := "codeword"
	check := impl.CheckByte(word)
	erasedSets(func(list []int64) {
		for values := range 1 << len(list) {
			bent := split(word, check)
			for i, bit := range list {
				bent[bit] = values >> i & 1
			}
			bentWord, bentCheck := bent.join()
			if got := decodeErased(bentWord, bentCheck, list); got != (coded{word, impl.OK}) {
				t.Fatalf("unknown bits %v with the values %b: %v", list, values, got)
			}
		}
	})
}

// TestP4ErasedWords does so for many words, and bits chosen at random.
func TestP4ErasedWords(t *testing.T) {
	r := rand.New(rand.NewSource(14))
	for _, word := range sampleWords(r, 1000) {
		check := impl.CheckByte(word)
		for unknown := range 4 {
			list := someBits(r, unknown)
			bent := split(word, check)
			for _, bit := range list {
				bent[bit] = r.Intn(2)
			}
			bentWord, bentCheck := bent.join()
			expect(t, "DecodeErased", decodeErased(bentWord, bentCheck, list), coded{word, impl.OK})
		}
	}
	bentWord, bentCheck := invert("codeword", impl.CheckByte("codeword"), 3, 40, 66)
	expect(t, "DecodeErased", decodeErased(bentWord, bentCheck, []int64{3, 40, 66}), coded{"codeword", impl.OK})
}

// someBits returns n different bits of a codeword in increasing order.
func someBits(r *rand.Rand, n int) []int64 {
	var list []int64
	for _, bit := range r.Perm(72)[:n] {
		list = append(list, int64(bit))
	}
	slices.Sort(list)
	return list
}

// TestP4ErasedNone inverts bits that are not given as unknown. At most three inverted or unknown
// bits never lead to another codeword, because two of them differ in four bits.
func TestP4ErasedNone(t *testing.T) {
	r := rand.New(rand.NewSource(15))
	for range 3000 {
		word := randomString(r, 8)
		list := someBits(r, 1+r.Intn(3))
		bentWord, bentCheck := invert(word, impl.CheckByte(word), list...)
		for skip := range list {
			known := slices.Delete(slices.Clone(list), skip, skip+1)
			expect(t, "DecodeErased with an error in a known bit", decodeErased(bentWord, bentCheck, known), coded{"", impl.ErrCorrupt})
		}
		expect(t, "DecodeErased without unknown bits", decodeErased(bentWord, bentCheck, nil), coded{"", impl.ErrCorrupt})
	}
}

// TestP4ErasedAnyBits compares with a search for the codeword that agrees at the known bits, for
// words far from the codewords too.
func TestP4ErasedAnyBits(t *testing.T) {
	r := rand.New(rand.NewSource(16))
	found := 0
	for range 4000 {
		word, check := randomString(r, 8), r.Int63n(256)
		list := someBits(r, 3)
		if r.Intn(2) == 0 {
			// Near a codeword, with a known bit inverted: another codeword may agree.
			word, check = invert(word, impl.CheckByte(word), r.Int63n(72))
		}
		want := coded{"", impl.ErrCorrupt}
		for values := range 8 {
			guess := split(word, check)
			for i, bit := range list {
				guess[bit] = values >> i & 1
			}
			if syndrome, parity := guess.sums(); syndrome == 0 && parity == 0 {
				s, _ := guess.join()
				want = coded{s, impl.OK}
				found++
			}
		}
		expect(t, "DecodeErased", decodeErased(word, check, list), want)
	}
	if found == 0 {
		t.Error("no codeword agrees at the known bits")
	}
}

func TestP4ErasedErrors(t *testing.T) {
	badLists := [][]int64{
		{-1}, {72}, {math.MinInt64}, {math.MaxInt64}, {-1, 0, 1}, {70, 71, 72}, {1, 1}, {0, 0, 0},
		{3, 66, 40}, {40, 3}, {71, 0}, {0, 1, 2, 3}, {0, 20, 40, 71}, {1, 2, 2}, {5, -5, 7}, {0, 72},
		make([]int64, 100), {1 << 32}, {-1 << 32, 5}, {3, 40, 66, 70, 71},
	}
	check := impl.CheckByte("codeword")
	for _, list := range badLists {
		expect(t, "DecodeErased of a codeword", decodeErased("codeword", check, list), coded{"", impl.ErrRange})
		// Two errors: ErrRange is found before ErrCorrupt.
		expect(t, "DecodeErased of no codeword", decodeErased("codeword", check^3, list), coded{"", impl.ErrRange})
	}
	for _, list := range append(badLists, nil, []int64{0}, []int64{3, 40, 66}) {
		for _, word := range badWords {
			expect(t, "DecodeErased of no word", decodeErased(word, check, list), coded{"", impl.ErrInvalid})
		}
		for _, bad := range badChecks {
			expect(t, "DecodeErased of no check byte", decodeErased("codeword", bad, list), coded{"", impl.ErrInvalid})
		}
	}
	expect(t, "DecodeErased of the outermost bits", decodeErased("codeword", check, []int64{0, 1, 71}), coded{"codeword", impl.OK})
}

func TestP4EncodeEcc(t *testing.T) {
	r := rand.New(rand.NewSource(17))
	for size := range 300 {
		data := randomString(r, size)
		if size%8 != 0 || size > 256 {
			expect(t, "EncodeEcc of no words", encodeEcc(data), coded{"", impl.ErrInvalid})
			continue
		}
		var want []byte
		for start := 0; start < size; start += 8 {
			want = append(want, byte(impl.CheckByte(data[start:start+8])))
		}
		expect(t, "EncodeEcc", encodeEcc(data), coded{string(want), impl.OK})
	}
	for _, size := range []int{512, 2048, 70000, 1 << 16} {
		expect(t, "EncodeEcc of too many words", encodeEcc(strings.Repeat("a", size)), coded{"", impl.ErrInvalid})
	}
	expect(t, "EncodeEcc of no data", encodeEcc(""), coded{"", impl.OK})
}

// bendWords inverts errors bits in each word listed by which, for data with check bytes.
func bendWords(r *rand.Rand, data string, checks string, which []int, errors int) (string, string) {
	bentData, bentChecks := []byte(data), []byte(checks)
	for _, i := range which {
		word, check := invert(data[8*i:8*i+8], int64(checks[i]), someBits(r, errors)...)
		copy(bentData[8*i:], word)
		bentChecks[i] = byte(check)
	}
	return string(bentData), string(bentChecks)
}

// TestP4DecodeEcc inverts one bit in some words or in all of them.
func TestP4DecodeEcc(t *testing.T) {
	r := rand.New(rand.NewSource(18))
	for words := range 33 {
		for range 20 {
			data := randomString(r, 8*words)
			checks := encodeEcc(data).s
			expect(t, "DecodeEcc without errors", decodeEcc(data, checks), decoded{data, 0, impl.OK})
			which := r.Perm(words)[:r.Intn(words+1)]
			bent, bentChecks := bendWords(r, data, checks, which, 1)
			expect(t, "DecodeEcc", decodeEcc(bent, bentChecks), decoded{data, int64(len(which)), impl.OK})
			bent, bentChecks = bendWords(r, data, checks, r.Perm(words), 1)
			expect(t, "DecodeEcc with an error in each word", decodeEcc(bent, bentChecks), decoded{data, int64(words), impl.OK})
		}
	}
	expect(t, "DecodeEcc of no data", decodeEcc("", ""), decoded{"", 0, impl.OK})
}

// TestP4DecodeEccDouble inverts two bits in one word, among words with one or no error.
func TestP4DecodeEccDouble(t *testing.T) {
	r := rand.New(rand.NewSource(19))
	for words := 1; words <= 32; words++ {
		data := randomString(r, 8*words)
		checks := encodeEcc(data).s
		for lost := range words {
			bent, bentChecks := bendWords(r, data, checks, []int{lost}, 2)
			expect(t, "DecodeEcc with two errors", decodeEcc(bent, bentChecks), decoded{"", 0, impl.ErrCorrupt})
			others := slices.DeleteFunc(r.Perm(words), func(i int) bool { return i == lost })
			bent, bentChecks = bendWords(r, bent, bentChecks, others, 1)
			expect(t, "DecodeEcc with two errors among others", decodeEcc(bent, bentChecks), decoded{"", 0, impl.ErrCorrupt})
		}
	}
}

func TestP4DecodeEccErrors(t *testing.T) {
	want := decoded{"", 0, impl.ErrInvalid}
	for _, size := range []int{1, 7, 9, 15, 17, 63, 255, 257, 260, 264, 512, 2048, 70000} {
		data := strings.Repeat("\x00", size)
		for _, words := range []int{0, 1, size / 8, size/8 + 1, 32, 33} {
			expect(t, "DecodeEcc of no words", decodeEcc(data, strings.Repeat("\x00", words)), want)
		}
	}
	for words := range 33 {
		data := strings.Repeat("\x00", 8*words)
		for number := range 40 {
			if number != words {
				expect(t, "DecodeEcc with a wrong number of check bytes", decodeEcc(data, strings.Repeat("\x00", number)), want)
			}
		}
	}
	// A wrong number of check bytes is found before a word that is not correctable.
	expect(t, "DecodeEcc", decodeEcc("\x03\x00\x00\x00\x00\x00\x00\x00", "\x00\x00"), want)
	expect(t, "DecodeEcc", decodeEcc("\x03\x00\x00\x00\x00\x00\x00\x00", ""), want)
}

func TestP4DiffBits(t *testing.T) {
	if got := impl.DiffBits("\x00\xff", "\x01\x7f"); !slices.Equal(got, []int64{0, 15}) {
		t.Errorf("DiffBits: %v", got)
	}
	r := rand.New(rand.NewSource(20))
	for size := range 260 {
		a, b := randomString(r, size), []byte(randomString(r, size))
		copy(b[size/2:], a[size/2:])
		var want []int64
		for bit := int64(0); bit < int64(8*size) && size <= 256; bit++ {
			if a[bit/8]>>(bit%8)%2 != b[bit/8]>>(bit%8)%2 {
				want = append(want, bit)
			}
		}
		if got := impl.DiffBits(a, string(b)); !slices.Equal(got, want) {
			t.Errorf("DiffBits of %d bytes: %v, want %v", size, got, want)
		}
	}
	last := strings.Repeat("\x00", 255)
	if got := impl.DiffBits(last+"\x00", last+"\x80"); !slices.Equal(got, []int64{2047}) {
		t.Errorf("DiffBits of the last bit: %v", got)
	}
}

func TestP4DiffBitsNone(t *testing.T) {
	long := strings.Repeat("\xff", 257)
	for _, pair := range [][2]string{
		{"", ""}, {"same", "same"}, {"a", ""}, {"", "b"}, {"ab", "a"}, {"a", "bc"}, {long, strings.Repeat("\x00", 257)},
		{long + long, strings.Repeat("\x00", 514)}, {long[:256], long}, {long, ""}, {"é", "e"},
	} {
		if got := impl.DiffBits(pair[0], pair[1]); len(got) != 0 {
			t.Errorf("DiffBits of %d and %d bytes: %v", len(pair[0]), len(pair[1]), got)
		}
	}
}
