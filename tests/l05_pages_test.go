package tests

import (
	"math"
	"math/rand"
	"strings"
	"testing"

	"loop.example/g00905/impl"
)

// rawBits is the number of bits of a raw page, and markBits the index of the first bit of its mark.
const (
	rawBits  = 8 * 91
	markBits = 8 * 90
)

// badAddresses are integers that are no addresses of pages.
var badAddresses = []int64{math.MinInt64, -65535, -2, -1, 65535, 65536, 1 << 32, math.MaxInt64}

// opened is a result of OpenPage.
type opened struct {
	data, spare string
	fixed       int64
	code        int64
}

func openPage(raw string, page int64) opened {
	data, spare, fixed, code := impl.OpenPage(raw, page)
	return opened{data, spare, fixed, code}
}

func sealPage(data string, spare string, page int64) coded {
	raw, code := impl.SealPage(data, spare, page)
	return coded{raw, code}
}

func tornPage(raw string, keep int64) coded {
	torn, code := impl.TornPage(raw, keep)
	return coded{torn, code}
}

func flipPageBit(raw string, bit int64) coded {
	out, code := impl.FlipPageBit(raw, bit)
	return coded{out, code}
}

// pageSample is what a page contains, its address, and the raw page.
type pageSample struct {
	data, spare string
	page        int64
	raw         string
}

// open returns the result of opening the page after the given number of bits was corrected.
func (s pageSample) open(fixed int64) opened {
	return opened{s.data, s.spare, fixed, impl.OK}
}

// sealedByDefinition returns a raw page that is put together from the definitions of chapter 5.
func sealedByDefinition(data string, spare string, page int64) string {
	out := []byte(data + spare)
	state := page + 1
	for b := range 8 * len(out) {
		out[b/8] ^= byte(state%2) << (b % 8)
		state = impl.StepLfsr(state)
	}
	for word := range 10 {
		out = append(out, byte(impl.CheckByte(string(out[8*word:8*word+8]))))
	}
	return string(append(out, 90))
}

// samplePages returns pages with equal bits, with what scrambling turns into equal bits, with text
// and with random contents, at addresses up to the last one.
func samplePages(r *rand.Rand, random int) []pageSample {
	var list []pageSample
	add := func(all string, page int64) {
		list = append(list, pageSample{all[:64], all[64:], page, sealedByDefinition(all[:64], all[64:], page)})
	}
	for _, page := range []int64{0, 1, 5, 32767, 65533, 65534} {
		zeros, ones := strings.Repeat("\x00", 80), strings.Repeat("\xff", 80)
		add(zeros, page)
		add(ones, page)
		add(scramble(page, zeros).s, page)
		add(scramble(page, ones).s, page)
		add(strings.Repeat("codeword", 10), page)
	}
	for range random {
		add(randomString(r, 80), r.Int63n(65535))
	}
	return list
}

// invertBits returns s with the given bits inverted.
func invertBits(s string, list ...int) string {
	for _, bit := range list {
		s = flipBurst(s, bit, 1)
	}
	return s
}

// bitsOfWord returns the bits of a raw page that belong to a word: its own and those of its check byte.
func bitsOfWord(word int) []int {
	var list []int
	for b := range 64 {
		list = append(list, 64*word+b)
	}
	for b := range 8 {
		list = append(list, 8*(80+word)+b)
	}
	return list
}

func TestP6Constants(t *testing.T) {
	got := [6]int64{impl.DataSize, impl.SpareSize, impl.EccSize, impl.RawSize, impl.MarkByte, impl.MaxAddress}
	expect(t, "constants of chapter 5", got, [6]int64{64, 16, 10, 91, 90, 65534})
}

func TestP6SealAndOpen(t *testing.T) {
	for _, s := range samplePages(rand.New(rand.NewSource(31)), 2000) {
		expect(t, "SealPage", sealPage(s.data, s.spare, s.page), coded{s.raw, impl.OK})
		expect(t, "OpenPage", openPage(s.raw, s.page), s.open(0))
		expect(t, "size of a raw page", len(s.raw), 91)
		expect(t, "IsErased of a sealed page", impl.IsErased(s.raw), false)
	}
}

func TestP6AllAddresses(t *testing.T) {
	s := pageSample{data: strings.Repeat("codeword", 8), spare: "spare bytes 0123"}
	seen := map[string]bool{}
	for page := range int64(65535) {
		raw, code := impl.SealPage(s.data, s.spare, page)
		expect(t, "code of SealPage", code, impl.OK)
		expect(t, "OpenPage", openPage(raw, page), s.open(0))
		seen[raw] = true
	}
	expect(t, "number of raw pages", len(seen), 65535)
}

// TestP6OtherAddress opens pages with wrong addresses: only the scrambling depends on them.
func TestP6OtherAddress(t *testing.T) {
	r := rand.New(rand.NewSource(32))
	for _, s := range samplePages(r, 200) {
		page := r.Int63n(65535)
		all := scramble(page, scramble(s.page, s.data+s.spare).s).s
		expect(t, "OpenPage with another address", openPage(s.raw, page), opened{all[:64], all[64:], 0, impl.OK})
	}
}

func TestP6SealErrors(t *testing.T) {
	data, spare := strings.Repeat("d", 64), strings.Repeat("s", 16)
	for _, page := range append([]int64{0, 5, 65534}, badAddresses...) {
		for _, size := range []int{0, 1, 16, 63, 65, 80, 128, 256, 70000} {
			expect(t, "SealPage of wrong data", sealPage(strings.Repeat("d", size), spare, page), coded{"", impl.ErrInvalid})
		}
		for _, size := range []int{0, 1, 15, 17, 32, 64, 80, 256, 70000} {
			expect(t, "SealPage of wrong spare bytes", sealPage(data, strings.Repeat("s", size), page), coded{"", impl.ErrInvalid})
		}
		expect(t, "SealPage of exchanged parts", sealPage(spare, data, page), coded{"", impl.ErrInvalid})
		expect(t, "SealPage of a shifted boundary", sealPage(data[1:], spare+"d", page), coded{"", impl.ErrInvalid})
	}
	for _, page := range badAddresses {
		expect(t, "SealPage at no address", sealPage(data, spare, page), coded{"", impl.ErrRange})
	}
}

// TestP6OpenErrors opens pages with several faults, so that it also shows the order of the errors.
func TestP6OpenErrors(t *testing.T) {
	raw := sealedByDefinition(strings.Repeat("d", 64), strings.Repeat("s", 16), 5)
	for _, page := range append([]int64{0, 5, 65534}, badAddresses...) {
		for _, wrong := range []string{"", "Z", raw[1:], raw[:90], raw + "Z", raw + raw, strings.Repeat("\xff", 90), strings.Repeat("\x00", 92), strings.Repeat("Z", 70000)} {
			expect(t, "OpenPage of a wrong size", openPage(wrong, page), opened{code: impl.ErrInvalid})
		}
	}
	for _, page := range badAddresses {
		for _, any := range []string{raw, invertBits(raw, 1, 2), invertBits(raw, markBits, markBits+1), impl.ErasedPage(), impl.DestroyedPage()} {
			expect(t, "OpenPage at no address", openPage(any, page), opened{code: impl.ErrRange})
		}
	}
}

// TestP6OneError inverts each bit of pages, those of the check bytes and of the mark among them.
func TestP6OneError(t *testing.T) {
	for _, s := range samplePages(rand.New(rand.NewSource(33)), 20) {
		for bit := range rawBits {
			expect(t, "OpenPage with one error", openPage(invertBits(s.raw, bit), s.page), s.open(1))
		}
	}
}

// TestP6OneErrorInEachWord inverts one bit in each word of a random choice and perhaps in the mark.
func TestP6OneErrorInEachWord(t *testing.T) {
	r := rand.New(rand.NewSource(34))
	for round, s := range samplePages(r, 2000) {
		var list []int
		for word := range 10 {
			if round%3 == 0 || r.Intn(2) == 0 {
				list = append(list, bitsOfWord(word)[r.Intn(72)])
			}
		}
		if round%3 == 0 || r.Intn(2) == 0 {
			list = append(list, markBits+r.Intn(8))
		}
		expect(t, "OpenPage with one error in each word", openPage(invertBits(s.raw, list...), s.page), s.open(int64(len(list))))
	}
}

// TestP6TwoErrors inverts each pair of bits of one word or of the mark, and perhaps one bit elsewhere.
func TestP6TwoErrors(t *testing.T) {
	r := rand.New(rand.NewSource(35))
	groups := [][]int{{}}
	for b := range 8 {
		groups[0] = append(groups[0], markBits+b)
	}
	for word := range 10 {
		groups = append(groups, bitsOfWord(word))
	}
	s := samplePages(r, 1)[30]
	for _, group := range groups {
		for i, first := range group {
			for _, second := range group[:i] {
				raw := invertBits(s.raw, first, second)
				expect(t, "OpenPage with two errors", openPage(raw, s.page), opened{code: impl.ErrCorrupt})
				other := groups[r.Intn(len(groups))]
				if other[0] != group[0] {
					raw = invertBits(raw, other[r.Intn(len(other))])
					expect(t, "OpenPage with three errors", openPage(raw, s.page), opened{code: impl.ErrCorrupt})
				}
			}
		}
	}
}

// TestP6Marks tries all marks: nine of them are accepted.
func TestP6Marks(t *testing.T) {
	for _, s := range samplePages(rand.New(rand.NewSource(36)), 20) {
		accepted := 0
		for mark := range 256 {
			got := openPage(s.raw[:90]+string([]byte{byte(mark)}), s.page)
			switch impl.CountOnes(string([]byte{byte(mark ^ 90)})) {
			case 0:
				expect(t, "OpenPage with the mark", got, s.open(0))
				accepted++
			case 1:
				expect(t, "OpenPage with one error in the mark", got, s.open(1))
				accepted++
			default:
				expect(t, "OpenPage with another mark", got, opened{code: impl.ErrCorrupt})
			}
		}
		expect(t, "number of marks", accepted, 9)
	}
}

// TestP6Torn tears pages after every number of bytes, and inverts every bit of what is left.
func TestP6Torn(t *testing.T) {
	samples := samplePages(rand.New(rand.NewSource(37)), 30)
	for i, s := range samples {
		for keep := range 91 {
			torn := s.raw[:keep] + strings.Repeat("\xff", 91-keep)
			expect(t, "TornPage", tornPage(s.raw, int64(keep)), coded{torn, impl.OK})
			expect(t, "OpenPage of a torn page", openPage(torn, s.page), opened{code: impl.ErrCorrupt})
			if i%10 != 0 {
				continue
			}
			for bit := range rawBits {
				expect(t, "OpenPage of a torn page with one error", openPage(invertBits(torn, bit), s.page), opened{code: impl.ErrCorrupt})
			}
		}
		expect(t, "TornPage with all bytes", tornPage(s.raw, 91), coded{s.raw, impl.OK})
	}
}

// TestP6TornOthers tears pages that are not sealed.
func TestP6TornOthers(t *testing.T) {
	r := rand.New(rand.NewSource(38))
	ones := strings.Repeat("\xff", 91)
	for _, raw := range []string{ones, strings.Repeat("\x00", 91), randomString(r, 91), strings.Repeat("Z", 91)} {
		for keep := range 92 {
			torn := raw[:keep] + ones[keep:]
			expect(t, "TornPage", tornPage(raw, int64(keep)), coded{torn, impl.OK})
			expect(t, "TornPage of a torn page", tornPage(torn, int64(keep)), coded{torn, impl.OK})
		}
	}
}

func TestP6TornErrors(t *testing.T) {
	raw := strings.Repeat("r", 91)
	badKeeps := []int64{math.MinInt64, -91, -1, 92, 93, 728, 1 << 32, math.MaxInt64}
	for _, size := range []int{0, 1, 90, 92, 182, 70000} {
		for _, keep := range append([]int64{0, 1, 90, 91}, badKeeps...) {
			expect(t, "TornPage of a wrong size", tornPage(strings.Repeat("r", size), keep), coded{"", impl.ErrInvalid})
		}
	}
	for _, keep := range badKeeps {
		expect(t, "TornPage with no such byte", tornPage(raw, keep), coded{"", impl.ErrRange})
	}
}

// TestP6ErasedAndDestroyed also inverts every bit of these pages.
func TestP6ErasedAndDestroyed(t *testing.T) {
	ones, zeros := strings.Repeat("\xff", 91), strings.Repeat("\x00", 91)
	expect(t, "ErasedPage", impl.ErasedPage(), ones)
	expect(t, "DestroyedPage", impl.DestroyedPage(), zeros)
	expect(t, "IsErased", impl.IsErased(ones), true)
	for _, page := range []int64{0, 1, 5, 65533, 65534} {
		for _, raw := range []string{ones, zeros} {
			expect(t, "OpenPage of an erased or destroyed page", openPage(raw, page), opened{code: impl.ErrCorrupt})
			for bit := range rawBits {
				expect(t, "OpenPage of such a page with one error", openPage(invertBits(raw, bit), page), opened{code: impl.ErrCorrupt})
			}
		}
	}
	for bit := range rawBits {
		expect(t, "IsErased with one bit inverted", impl.IsErased(invertBits(ones, bit)), false)
	}
	for _, raw := range []string{"", "\xff", ones[1:], ones + "\xff", ones + ones, zeros} {
		expect(t, "IsErased of another page", impl.IsErased(raw), false)
	}
}

func TestP6FlipPageBit(t *testing.T) {
	r := rand.New(rand.NewSource(39))
	for _, raw := range []string{strings.Repeat("\xff", 91), strings.Repeat("\x00", 91), randomString(r, 91), samplePages(r, 0)[0].raw} {
		for bit := range rawBits {
			out := []byte(raw)
			out[bit/8] ^= 1 << (bit % 8)
			expect(t, "FlipPageBit", flipPageBit(raw, int64(bit)), coded{string(out), impl.OK})
			expect(t, "FlipPageBit twice", flipPageBit(string(out), int64(bit)), coded{raw, impl.OK})
		}
	}
	want := strings.Repeat("\xff", 5) + "\xfe" + strings.Repeat("\xff", 85)
	expect(t, "FlipPageBit of an erased page", flipPageBit(impl.ErasedPage(), 40), coded{want, impl.OK})
	badBits := []int64{math.MinInt64, -8, -1, 728, 729, 736, 1 << 32, math.MaxInt64}
	for _, size := range []int{0, 1, 90, 92, 182, 70000} {
		for _, bit := range append([]int64{0, 40, 727}, badBits...) {
			expect(t, "FlipPageBit of a wrong size", flipPageBit(strings.Repeat("r", size), bit), coded{"", impl.ErrInvalid})
		}
	}
	for _, bit := range badBits {
		expect(t, "FlipPageBit of no bit", flipPageBit(strings.Repeat("r", 91), bit), coded{"", impl.ErrRange})
	}
}
