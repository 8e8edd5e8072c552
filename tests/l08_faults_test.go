package tests

import (
	"math"
	"math/big"
	"math/rand"
	"reflect"
	"regexp"
	"slices"
	"strconv"
	"strings"
	"testing"

	"loop.example/g00905/impl"
)

// faultList is a result of a function that returns faults and a code.
type faultList struct {
	script []impl.Fault
	code   int64
}

// bitFault flips a bit of a page.
func bitFault(block int64, page int64, bit int64) impl.Fault {
	return impl.Fault{Kind: impl.FaultBit, Block: block, Page: page, Bit: bit}
}

// disturbFault flips a bit in all pages of a block but one.
func disturbFault(block int64, page int64, bit int64) impl.Fault {
	return impl.Fault{Kind: impl.FaultDisturb, Block: block, Page: page, Bit: bit}
}

// retentionFault flips a bit in each page of a block.
func retentionFault(block int64, bit int64) impl.Fault {
	return impl.Fault{Kind: impl.FaultRetention, Block: block, Bit: bit}
}

// blockFault marks a block as bad.
func blockFault(block int64) impl.Fault {
	return impl.Fault{Kind: impl.FaultBlock, Block: block}
}

// cutFault arms the fuse.
func cutFault(fuse int64, keep int64) impl.Fault {
	return impl.Fault{Kind: impl.FaultCut, Page: fuse, Bit: keep}
}

// faultIsValid reports whether x is valid for g, by the definition of chapter 8.
func faultIsValid(g impl.Geometry, x impl.Fault) bool {
	within := func(n int64, greatest int64) bool { return n >= 0 && n <= greatest }
	if !geometryIsValid(g) {
		return false
	}
	if x.Kind != impl.FaultCut && !within(x.Block, g.Dies*g.Blocks-1) {
		return false
	}
	switch x.Kind {
	case impl.FaultBit, impl.FaultDisturb:
		return within(x.Page, g.Pages-1) && within(x.Bit, 727)
	case impl.FaultRetention:
		return x.Page == 0 && within(x.Bit, 727)
	case impl.FaultBlock:
		return x.Page == 0 && x.Bit == 0
	case impl.FaultCut:
		return x.Block == 0 && within(x.Page, 1000000) && within(x.Bit, 91)
	}
	return false
}

// scriptIsValid reports whether script is a fault script for g, by the definition of chapter 8.
func scriptIsValid(g impl.Geometry, script []impl.Fault) bool {
	for _, x := range script {
		if !faultIsValid(g, x) {
			return false
		}
	}
	return geometryIsValid(g) && len(script) <= 40
}

// wantFaults returns the outcome that chapter 8 requires of ApplyFaults.
func wantFaults(s flashSample, script []impl.Fault) outcome {
	if !s.valid || !scriptIsValid(s.f.Geo, script) {
		return outcome{code: impl.ErrInvalid}
	}
	f := deepCopy(s.f)
	for _, x := range script {
		if x.Kind == impl.FaultCut && f.Off {
			return outcome{code: impl.ErrPower}
		}
	}
	for _, x := range script {
		b := &f.Blocks[x.Block]
		flip := func(page int64, bit int64) {
			if page < b.Next && b.Pages[page] != "" {
				b.Pages[page] = invertBits(b.Pages[page], int(bit))
			}
		}
		switch x.Kind {
		case impl.FaultBit:
			flip(x.Page, x.Bit)
		case impl.FaultDisturb:
			for page := range f.Geo.Pages {
				if page != x.Page {
					flip(page, x.Bit)
				}
			}
		case impl.FaultRetention:
			for page := range f.Geo.Pages {
				flip(page, (x.Bit+8*page)%728)
			}
		case impl.FaultBlock:
			b.Bad = true
		case impl.FaultCut:
			f.Fuse, f.Keep = x.Page, x.Bit
		}
	}
	return outcome{f, impl.OK}
}

// applyFaults applies a script and checks the outcome.
func applyFaults(t *testing.T, s flashSample, script ...impl.Fault) outcome {
	t.Helper()
	f, code := impl.ApplyFaults(s.f, script)
	got := outcome{f, code}
	expectOutcome(t, "ApplyFaults, "+s.what, got, wantFaults(s, script))
	if len(script) == 1 {
		f, code = impl.ApplyFault(s.f, script[0])
		expectOutcome(t, "ApplyFault, "+s.what, outcome{f, code}, got)
	}
	return got
}

// lineOf returns the text of a fault, by the table of chapter 8.
func lineOf(x impl.Fault) string {
	join := func(word string, numbers ...int64) string {
		for _, n := range numbers {
			word += " " + strconv.FormatInt(n, 10)
		}
		return word + "\n"
	}
	switch x.Kind {
	case impl.FaultBit:
		return join("bit", x.Block, x.Page, x.Bit)
	case impl.FaultDisturb:
		return join("disturb", x.Block, x.Page, x.Bit)
	case impl.FaultRetention:
		return join("retention", x.Block, x.Bit)
	case impl.FaultBlock:
		return join("block", x.Block)
	}
	return join("cut", x.Page, x.Bit)
}

// textOf returns the text form of a script, by the definition of chapter 8.
func textOf(script []impl.Fault) string {
	all := ""
	for _, x := range script {
		all += lineOf(x)
	}
	return all
}

// numeral matches a number without leading zeros.
const numeral = ` (0|[1-9][0-9]*)`

// faultLine matches the text of a fault with any numbers.
var faultLine = regexp.MustCompile(`^(?:(bit|disturb)` + numeral + numeral + numeral + `|(retention|cut)` + numeral + numeral + `|(block)` + numeral + `)$`)

// wantParse returns the outcome that chapter 8 requires of ParseFaults.
func wantParse(g impl.Geometry, s string) faultList {
	if !geometryIsValid(g) {
		return faultList{code: impl.ErrInvalid}
	}
	var script []impl.Fault
	for s != "" {
		line, rest, found := strings.Cut(s, "\n")
		parts := slices.DeleteFunc(faultLine.FindStringSubmatch(line), func(part string) bool { return part == "" })
		if !found || len(parts) == 0 {
			return faultList{code: impl.ErrParse}
		}
		var numbers []int64
		for _, part := range parts[2:] {
			n, err := strconv.ParseInt(part, 10, 64)
			if err != nil {
				return faultList{code: impl.ErrParse}
			}
			numbers = append(numbers, n)
		}
		switch parts[1] {
		case "bit":
			script = append(script, bitFault(numbers[0], numbers[1], numbers[2]))
		case "disturb":
			script = append(script, disturbFault(numbers[0], numbers[1], numbers[2]))
		case "retention":
			script = append(script, retentionFault(numbers[0], numbers[1]))
		case "block":
			script = append(script, blockFault(numbers[0]))
		case "cut":
			script = append(script, cutFault(numbers[0], numbers[1]))
		}
		s = rest
	}
	if !scriptIsValid(g, script) {
		return faultList{code: impl.ErrParse}
	}
	return faultList{script, impl.OK}
}

// expectFaults ends the test if a result differs from the wanted one.
func expectFaults(t *testing.T, what string, got faultList, want faultList) {
	t.Helper()
	if got.code != want.code || !slices.Equal(got.script, want.script) {
		t.Fatalf("%s: got %v, want %v", what, got, want)
	}
}

// parse parses a text and checks the outcome.
func parse(t *testing.T, g impl.Geometry, s string) faultList {
	t.Helper()
	script, code := impl.ParseFaults(g, s)
	got := faultList{script, code}
	expectFaults(t, "ParseFaults of "+strconv.Quote(s), got, wantParse(g, s))
	return got
}

// randomFault returns a valid fault of a kind.
func randomFault(r *rand.Rand, g impl.Geometry, kind int64) impl.Fault {
	block, page, bit := r.Int63n(g.Dies*g.Blocks), r.Int63n(g.Pages), r.Int63n(728)
	switch kind {
	case impl.FaultBit:
		return bitFault(block, page, bit)
	case impl.FaultDisturb:
		return disturbFault(block, page, bit)
	case impl.FaultRetention:
		return retentionFault(block, bit)
	case impl.FaultBlock:
		return blockFault(block)
	}
	return cutFault(r.Int63n(1000001), r.Int63n(92))
}

// randomScript returns a script of valid faults whose kinds are 1 to kinds.
func randomScript(r *rand.Rand, g impl.Geometry, size int, kinds int64) []impl.Fault {
	script := []impl.Fault{}
	for range size {
		script = append(script, randomFault(r, g, 1+r.Int63n(kinds)))
	}
	return script
}

// edgeFaults returns faults of all kinds, and of none, whose fields are at and beside their bounds.
func edgeFaults(g impl.Geometry) []impl.Fault {
	var list []impl.Fault
	blocks := []int64{math.MinInt64, -1, 0, 1, g.Dies*g.Blocks - 1, g.Dies * g.Blocks, math.MaxInt64}
	pages := []int64{math.MinInt64, -1, 0, 1, g.Pages - 1, g.Pages, 999999, 1000000, 1000001, math.MaxInt64}
	bits := []int64{math.MinInt64, -1, 0, 1, 90, 91, 92, 726, 727, 728, math.MaxInt64}
	for _, kind := range []int64{math.MinInt64, -1, 0, 1, 2, 3, 4, 5, 6, 7, 1<<32 + 1, math.MaxInt64} {
		for _, block := range blocks {
			for _, page := range pages {
				for _, bit := range bits {
					list = append(list, impl.Fault{Kind: kind, Block: block, Page: page, Bit: bit})
				}
			}
		}
	}
	return list
}

// sealedArray returns an array whose programmed pages, up to a different one in each block, are
// sealed, each with its own address.
func sealedArray(g impl.Geometry) impl.Flash {
	f := emptyFlash(g)
	for i := range f.Blocks {
		f.Blocks[i].Next = g.Pages - int64(i)%4
		for page := range f.Blocks[i].Next {
			f.Blocks[i].Pages[page] = sealedNumber(int64(i)*g.Pages + page).raw
		}
	}
	return f
}

// sealedNumber returns the sealed page with an address.
func sealedNumber(page int64) pageSample {
	text := strings.Repeat("page "+strconv.FormatInt(1000+page, 10), 9)
	s := pageSample{data: text[:64], spare: text[64:80], page: page}
	s.raw, _ = impl.SealPage(s.data, s.spare, page)
	return s
}

// wordOfPage returns the ECC word of a bit of a page, by the definition of chapter 8; the mark is 10.
func wordOfPage(bit int64) int64 {
	for word := range 10 {
		if slices.Contains(bitsOfWord(word), int(bit)) {
			return int64(word)
		}
	}
	return 10
}

// fitsBudget reports whether a valid script is within the ECC budget, by the definition of chapter 8.
func fitsBudget(script []impl.Fault) bool {
	for i, x := range script {
		if x.Kind != impl.FaultBit {
			return false
		}
		for _, y := range script[:i] {
			if x.Block == y.Block && x.Page == y.Page && wordOfPage(x.Bit) == wordOfPage(y.Bit) {
				return false
			}
		}
	}
	return true
}

func TestP12Constants(t *testing.T) {
	got := [6]int64{impl.MaxFaults, impl.FaultBit, impl.FaultDisturb, impl.FaultRetention, impl.FaultBlock, impl.FaultCut}
	expect(t, "constants of chapter 8", got, [6]int64{40, 1, 2, 3, 4, 5})
}

// TestP12AllPairs compares the words of all pairs of bits of a page.
func TestP12AllPairs(t *testing.T) {
	var words [728]int64
	for bit := range words {
		words[bit] = wordOfPage(int64(bit))
	}
	for first := range words {
		for second := range words {
			script := []impl.Fault{bitFault(3, 5, int64(first)), bitFault(3, 5, int64(second))}
			if got := impl.WithinEccBudget(smallGeometry, script); got != (words[first] != words[second]) {
				t.Fatalf("WithinEccBudget of the bits %d and %d is %v", first, second, got)
			}
		}
	}
}

func TestP12Budget(t *testing.T) {
	within := func(what string, want bool, script ...impl.Fault) {
		t.Helper()
		expect(t, "WithinEccBudget of "+what, impl.WithinEccBudget(smallGeometry, script), want)
	}
	within("no faults", true)
	within("one fault", true, bitFault(0, 0, 0))
	within("bits of one word", false, bitFault(0, 0, 0), bitFault(0, 0, 63))
	within("bits of neighbouring words", true, bitFault(0, 0, 63), bitFault(0, 0, 64))
	within("equal faults", false, bitFault(7, 7, 727), bitFault(7, 7, 727))
	within("a word and its check byte", false, bitFault(1, 1, 7), bitFault(1, 1, 640))
	within("a word and the check byte of another one", true, bitFault(1, 1, 7), bitFault(1, 1, 648))
	within("the last word and its check byte", false, bitFault(1, 1, 639), bitFault(1, 1, 712))
	within("the last check byte and the mark", true, bitFault(1, 1, 719), bitFault(1, 1, 720))
	within("two bits of the mark", false, bitFault(1, 1, 720), bitFault(1, 1, 727))
	within("the same bit of two pages", true, bitFault(0, 1, 5), bitFault(0, 2, 5))
	within("the same bit of two blocks", true, bitFault(1, 0, 5), bitFault(2, 0, 5))
	within("equal faults with another one between", false, bitFault(1, 0, 5), bitFault(2, 0, 5), bitFault(1, 0, 5))
	for _, x := range []impl.Fault{disturbFault(0, 0, 0), retentionFault(0, 0), blockFault(0), cutFault(0, 0)} {
		within("a fault of another kind", false, x)
		within("a fault of another kind behind one bit", false, bitFault(1, 1, 1), x)
	}
	for _, x := range []impl.Fault{{}, bitFault(8, 0, 0), bitFault(0, 8, 0), bitFault(0, 0, 728), bitFault(-1, 0, 0)} {
		within("an invalid fault", false, x)
		within("an invalid fault behind one bit", false, bitFault(1, 1, 1), x)
	}
	var many []impl.Fault
	for i := range int64(41) {
		many = append(many, bitFault(i%8, i/8, i))
	}
	within("as many faults as allowed", true, many[:40]...)
	within("one fault too many", false, many...)
	for _, g := range append(badGeometries(), impl.Geometry{}) {
		expect(t, "WithinEccBudget without a geometry", impl.WithinEccBudget(g, nil), false)
		expect(t, "WithinEccBudget without a geometry", impl.WithinEccBudget(g, []impl.Fault{bitFault(0, 0, 0)}), false)
	}
}

// TestP12RandomBudget compares scripts with few blocks and words with the definition.
func TestP12RandomBudget(t *testing.T) {
	r := rand.New(rand.NewSource(61))
	count := map[bool]int{}
	for range 5000 {
		var script []impl.Fault
		for range r.Intn(7) {
			script = append(script, bitFault(r.Int63n(2), r.Int63n(2), r.Int63n(728)))
		}
		if r.Intn(10) == 0 {
			script = append(script, randomFault(r, smallGeometry, 2+r.Int63n(4)))
		}
		got := impl.WithinEccBudget(smallGeometry, script)
		if got != fitsBudget(script) {
			t.Fatalf("WithinEccBudget(%v) = %v", script, got)
		}
		count[got]++
	}
	if count[true] < 500 || count[false] < 500 {
		t.Errorf("results of WithinEccBudget: %v", count)
	}
}

// checkOpens opens all programmed pages of a sealed array after the faults of a script. The number of
// corrected bits is that of the faults on the page.
func checkOpens(t *testing.T, before flashSample, script []impl.Fault) {
	t.Helper()
	if !impl.WithinEccBudget(before.f.Geo, script) {
		t.Fatalf("WithinEccBudget(%v) is false", script)
	}
	after := applyFaults(t, before, script...)
	isFlashOk(t, "ApplyFaults", after)
	hits := map[[2]int64]int64{}
	for _, x := range script {
		hits[[2]int64{x.Block, x.Page}]++
	}
	for i, b := range after.f.Blocks {
		for page := range b.Next {
			s := sealedNumber(int64(i)*before.f.Geo.Pages + page)
			got := openPage(b.Pages[page], s.page)
			if want := s.open(hits[[2]int64{int64(i), page}]); got != want {
				t.Fatalf("OpenPage after %v: got %v, want %v", script, got, want)
			}
		}
	}
}

func TestP12Opens(t *testing.T) {
	r := rand.New(rand.NewSource(62))
	for _, g := range someGeometries {
		before := flashSample{"sealed", sealedArray(g), true}
		checkOpens(t, before, nil)
		for range 60 {
			var script []impl.Fault
			size := r.Intn(41)
			for len(script) < size {
				// Few pages, so that several of their words are hit.
				x := bitFault(r.Int63n(3), r.Int63n(g.Pages), r.Int63n(728))
				if more := append(slices.Clone(script), x); fitsBudget(more) {
					script = more
				}
			}
			checkOpens(t, before, script)
		}
	}
}

// TestP12EveryBit hits each bit of a page.
func TestP12EveryBit(t *testing.T) {
	before := flashSample{"sealed", sealedArray(smallGeometry), true}
	for bit := range int64(728) {
		checkOpens(t, before, []impl.Fault{bitFault(bit%8, bit%5, bit)})
	}
}

// TestP12EveryWord hits all words and the mark of three pages, and some of a fourth one.
func TestP12EveryWord(t *testing.T) {
	r := rand.New(rand.NewSource(63))
	before := flashSample{"sealed", sealedArray(smallGeometry), true}
	for range 200 {
		var script []impl.Fault
		for page := range int64(4) {
			for word := range 11 {
				if len(script) == 40 {
					break
				}
				bit := markBits + r.Intn(8)
				if word < 10 {
					bit = bitsOfWord(word)[r.Intn(72)]
				}
				script = append(script, bitFault(page*2, page, int64(bit)))
			}
		}
		expect(t, "number of faults", len(script), 40)
		checkOpens(t, before, script)
	}
}

// TestP12OverBudget shows that the budget cannot be greater: two bits of a word close a page.
func TestP12OverBudget(t *testing.T) {
	before := flashSample{"sealed", sealedArray(smallGeometry), true}
	for _, bits := range [][2]int64{{0, 63}, {0, 640}, {639, 719}, {720, 727}} {
		after := applyFaults(t, before, bitFault(2, 0, bits[0]), bitFault(2, 0, bits[1]))
		expect(t, "code of OpenPage", openPage(after.f.Blocks[2].Pages[0], 16).code, impl.ErrCorrupt)
	}
}

func TestP13ValidFault(t *testing.T) {
	for _, g := range someGeometries {
		for _, x := range edgeFaults(g) {
			expect(t, "ValidFault", impl.ValidFault(g, x), faultIsValid(g, x))
		}
	}
	for _, g := range append(badGeometries(), impl.Geometry{}) {
		for _, x := range []impl.Fault{{}, bitFault(0, 0, 0), disturbFault(0, 0, 0), retentionFault(0, 0), blockFault(0), cutFault(0, 0)} {
			expect(t, "ValidFault without a geometry", impl.ValidFault(g, x), false)
		}
	}
	expect(t, "ValidFault of the last bit", impl.ValidFault(smallGeometry, bitFault(7, 7, 727)), true)
	expect(t, "ValidFault of no block", impl.ValidFault(smallGeometry, bitFault(8, 0, 0)), false)
}

// TestP13Edges formats and parses single faults whose fields are at and beside their bounds.
func TestP13Edges(t *testing.T) {
	for _, g := range someGeometries {
		for _, x := range edgeFaults(g) {
			script := []impl.Fault{x}
			got := parse(t, g, lineOf(x))
			if !faultIsValid(g, x) {
				expect(t, "FormatFaults of an invalid fault", impl.FormatFaults(g, script), "")
				continue
			}
			expect(t, "FormatFaults", impl.FormatFaults(g, script), lineOf(x))
			expectFaults(t, "ParseFaults of FormatFaults", got, faultList{script, impl.OK})
		}
	}
	expect(t, "FormatFaults of a cut", impl.FormatFaults(smallGeometry, []impl.Fault{cutFault(7, 30)}), "cut 7 30\n")
}

func TestP13RoundTrip(t *testing.T) {
	r := rand.New(rand.NewSource(64))
	for _, g := range someGeometries {
		for size := range 44 {
			for range 10 {
				script := randomScript(r, g, size, 5)
				form := impl.FormatFaults(g, script)
				if size > 40 {
					expect(t, "FormatFaults of too many faults", form, "")
					expect(t, "code of ParseFaults of too many faults", parse(t, g, textOf(script)).code, impl.ErrParse)
					continue
				}
				expect(t, "FormatFaults", form, textOf(script))
				expectFaults(t, "ParseFaults of FormatFaults", parse(t, g, form), faultList{script, impl.OK})
			}
		}
	}
}

// TestP13OneInvalid has one invalid fault in scripts of every length.
func TestP13OneInvalid(t *testing.T) {
	r := rand.New(rand.NewSource(65))
	for size := 1; size <= 40; size++ {
		script := randomScript(r, smallGeometry, size, 5)
		script[r.Intn(size)] = disturbFault(0, 8, 0)
		expect(t, "FormatFaults with an invalid fault", impl.FormatFaults(smallGeometry, script), "")
		expect(t, "code of ParseFaults with an invalid fault", parse(t, smallGeometry, textOf(script)).code, impl.ErrParse)
		valid := randomScript(r, smallGeometry, size, 5)
		for _, g := range append(badGeometries(), impl.Geometry{}) {
			expect(t, "FormatFaults without a geometry", impl.FormatFaults(g, valid), "")
			expect(t, "code of ParseFaults without a geometry", parse(t, g, textOf(valid)).code, impl.ErrInvalid)
		}
	}
	for _, g := range append(badGeometries(), impl.Geometry{}) {
		for _, s := range []string{"", "\n", "bit 1 2 3", "bit 1 2 3\n", "nothing"} {
			expect(t, "code of ParseFaults without a geometry", parse(t, g, s).code, impl.ErrInvalid)
		}
	}
	expectFaults(t, "ParseFaults of nothing", parse(t, smallGeometry, ""), faultList{nil, impl.OK})
	expect(t, "FormatFaults of no faults", impl.FormatFaults(smallGeometry, nil), "")
}

// TestP13OtherTexts parses texts that are no text forms. Some describe a fault, but not in its form.
func TestP13OtherTexts(t *testing.T) {
	texts := []string{
		"\n", " ", " \n", "\n\n", "bit", "bit\n", "bit 1 2 3", "bit 1 2 3\r\n", "bit 1 2 3\n\n", "\nbit 1 2 3\n", "bit 1 2 3\n ", "bit 1 2 3\nblock 1",
		"bit 1 2\n", "bit 1 2 3 4\n", "bit\n1 2 3\n", "bit 1\n2 3\n", "bit 1 2\n3\n", "bit 1 2 3 block 1\n", "bit 1 2 3\x00\n", "bit 1 2 3\x00",
		"bit 01 2 3\n", "bit 1 02 3\n", "bit 1 2 03\n", "bit 00 2 3\n", "bit 1 2 00\n", "block 00\n", "cut 07 30\n", "retention 0 09\n",
		"bit  1 2 3\n", "bit 1  2 3\n", "bit 1 2  3\n", "bit 1 2 3 \n", " bit 1 2 3\n", "bit\t1 2 3\n", "bit 1\t2 3\n", "bit,1,2,3\n", "bit1 2 3\n",
		"bit +1 2 3\n", "bit 1 +2 3\n", "bit 1 2 +3\n", "bit -1 2 3\n", "bit 1 -0 3\n", "bit 1 2 -0\n", "block +0\n", "block -0\n", "cut -1 0\n", "cut +7 30\n",
		"Bit 1 2 3\n", "BIT 1 2 3\n", "bits 1 2 3\n", "bi 1 2 3\n", "bit0 1 2 3\n", "1 1 2 3\n", "flip 1 2 3\n", " 1 2 3\n", "1 2 3\n",
		"bit 1 2 0x3\n", "bit 1 2 3.0\n", "bit 1 2 3e0\n", "bit 1 2 1_0\n", "bit 1 2 a\n", "bit 1 2 \u0663\n", "bit 1 2 \uff13\n", "bit 1 2 \n", "bit   \n", "bit 1 2 3;\n",
		"bit 8 0 0\n", "bit 0 8 0\n", "bit 0 0 728\n", "disturb 8 0 0\n", "disturb 0 8 0\n", "disturb 0 0 728\n", "retention 8 0\n", "retention 0 728\n",
		"block 8\n", "cut 1000001 0\n", "cut 0 92\n", "retention 0 0 0\n", "retention 0\n", "block 0 0\n", "block\n", "block 0 0 0\n", "cut 0\n", "cut 0 0 0\n", "disturb 1 2\n",
		"block \xff\n", "\xff\n", "é 1\n",
	}
	for _, big := range []string{"9223372036854775807", "9223372036854775808", "18446744073709551615", "18446744073709551616", "18446744073709551617", "340282366920938463463374607431768211456", strings.Repeat("0", 400), strings.Repeat("1", 70000), "4294967296", "4294967297", "-9223372036854775808", "-18446744073709551616"} {
		texts = append(texts, "bit "+big+" 2 3\n", "bit 1 "+big+" 3\n", "bit 1 2 "+big+"\n", "retention 1 "+big+"\n", "block "+big+"\n", "cut "+big+" 0\n", "cut 0 "+big+"\n")
	}
	for _, s := range texts {
		expect(t, "code of ParseFaults of "+strconv.Quote(s[:min(len(s), 80)]), parse(t, smallGeometry, s).code, impl.ErrParse)
		expect(t, "code of ParseFaults behind a fault", parse(t, smallGeometry, "block 3\n"+s).code, impl.ErrParse)
	}
	for _, s := range []string{"bit 0 0 0\n", "bit 7 7 727\n", "disturb 7 0 727\n", "retention 0 9\n", "block 3\n", "cut 1000000 91\n", "cut 0 0\n", "cut 10 10\n"} {
		expect(t, "code of ParseFaults of "+strconv.Quote(s), parse(t, smallGeometry, s).code, impl.OK)
	}
	for _, s := range []string{strings.Repeat("block 3\n", 41), strings.Repeat("block 3\n", 20000), strings.Repeat("\n", 70000), strings.Repeat("bit ", 70000), strings.Repeat("block 3\n", 40) + "\n"} {
		expect(t, "code of ParseFaults of a long text", parse(t, smallGeometry, s).code, impl.ErrParse)
	}
	expect(t, "number of faults", len(parse(t, smallGeometry, strings.Repeat("block 3\n", 40)).script), 40)
}

// TestP13Mutations removes, inserts and changes single bytes of text forms.
func TestP13Mutations(t *testing.T) {
	form := "bit 1 2 30\ndisturb 7 0 727\nretention 0 9\nblock 3\ncut 1000000 91\ncut 0 0\n"
	letters := []string{"", " ", "\n", "0", "1", "7", "9", "-", "+", "b", "t", "\x00", "\t", "\r"}
	accepted := 0
	for i := range len(form) {
		for _, letter := range letters {
			for _, s := range []string{form[:i] + letter + form[i:], form[:i] + letter + form[i+1:]} {
				got := parse(t, smallGeometry, s)
				if got.code == impl.OK {
					accepted++
					expect(t, "FormatFaults of ParseFaults", impl.FormatFaults(smallGeometry, got.script), s)
				}
			}
		}
		parse(t, smallGeometry, form[:i])
		parse(t, smallGeometry, form[i:])
	}
	if accepted < 50 {
		t.Errorf("%d texts are accepted", accepted)
	}
}

// TestP14Edges applies single faults, those with fields beside their bounds among them.
func TestP14Edges(t *testing.T) {
	faults := edgeFaults(smallGeometry)
	for _, s := range []flashSample{{"busy", busyFlash(smallGeometry), true}, {"off", changed(busyFlash(smallGeometry), func(f *impl.Flash) { f.Off = true }), true}} {
		for _, x := range faults {
			applyFaults(t, s, x)
		}
	}
}

// TestP14Effects applies faults of every kind to all arrays: pages that are empty or not below Next
// are not changed.
func TestP14Effects(t *testing.T) {
	r := rand.New(rand.NewSource(66))
	for _, s := range append(validFlashes(), invalidFlashes()...) {
		g := s.f.Geo
		if !geometryIsValid(g) {
			g = smallGeometry
		}
		for block := range min(g.Dies*g.Blocks, 8) {
			for _, bit := range []int64{0, 9, 725, 727} {
				applyFaults(t, s, bitFault(block, r.Int63n(g.Pages), bit))
				applyFaults(t, s, disturbFault(block, r.Int63n(g.Pages), bit))
				applyFaults(t, s, retentionFault(block, bit))
			}
			applyFaults(t, s, blockFault(block))
		}
		applyFaults(t, s, cutFault(0, 0))
		applyFaults(t, s, cutFault(1000000, 91))
		applyFaults(t, s)
		for range 3 {
			script := randomScript(r, g, r.Intn(42), 5)
			applyFaults(t, s, script...)
		}
	}
}

// TestP14Pages hits each page of arrays by faults of one page, and all bits by the others.
func TestP14Pages(t *testing.T) {
	for _, g := range []impl.Geometry{smallGeometry, {Dies: 2, Blocks: 4, Pages: 16}} {
		s := flashSample{"busy", busyFlash(g), true}
		for block := range g.Dies * g.Blocks {
			for page := range g.Pages {
				got := applyFaults(t, s, bitFault(block, page, 0))
				programmed := s.f.Blocks[block].Pages[page] != ""
				expect(t, "page is changed", got.f.Blocks[block].Pages[page] != s.f.Blocks[block].Pages[page], programmed)
				expect(t, "number of changed pages", len(changedPages(s.f, got.f)) == 1, programmed)
				applyFaults(t, s, disturbFault(block, page, 100))
			}
		}
		for bit := range int64(728) {
			applyFaults(t, s, retentionFault(6, bit))
			applyFaults(t, s, disturbFault(6, 2, bit))
		}
	}
}

// TestP14Purely checks promise 1 for faults of all kinds.
func TestP14Purely(t *testing.T) {
	f := busyFlash(smallGeometry)
	for _, x := range []impl.Fault{bitFault(5, 2, 9), disturbFault(5, 2, 9), retentionFault(5, 9), blockFault(5), cutFault(3, 9)} {
		got := callFlash(t, "ApplyFault", impl.ApplyFault, f, x)
		isFlashOk(t, "ApplyFault", got)
		expect(t, "Ops after a fault", got.f.Ops, f.Ops)
		isFlashOk(t, "ApplyFaults", callFlash(t, "ApplyFaults", impl.ApplyFaults, f, []impl.Fault{x, x}))
	}
}

// TestP14Twice applies scripts of bit, disturb and retention faults twice, in the same order, in
// reverse order, and mixed with one another.
func TestP14Twice(t *testing.T) {
	r := rand.New(rand.NewSource(67))
	for _, s := range validFlashes() {
		for range 4 {
			script := randomScript(r, s.f.Geo, r.Intn(41), 3)
			once := applyFaults(t, s, script...)
			isFlashOk(t, "ApplyFaults", once)
			twice := applyFaults(t, flashSample{"once", once.f, true}, script...)
			expect(t, "SameFlash after applying a script twice, "+s.what, impl.SameFlash(twice.f, s.f), true)
			expect(t, "DifferingBits after applying a script twice, "+s.what, differing(twice.f, s.f), number{0, impl.OK})
			slices.Reverse(script)
			twice = applyFaults(t, flashSample{"once", once.f, true}, script...)
			expect(t, "SameFlash after applying a reversed script, "+s.what, impl.SameFlash(twice.f, s.f), true)
			half := script[:len(script)/2]
			both := applyFaults(t, s, slices.Concat(half, half)...)
			expect(t, "SameFlash after each fault twice, "+s.what, impl.SameFlash(both.f, s.f), true)
		}
	}
}

// TestP14NotTwice shows the other faults, which are not undone by a second time.
func TestP14NotTwice(t *testing.T) {
	s := flashSample{"busy", busyFlash(smallGeometry), true}
	twice := applyFaults(t, s, blockFault(2), blockFault(2), cutFault(3, 9), cutFault(3, 9))
	expect(t, "Bad", twice.f.Blocks[2].Bad, true)
	expect(t, "Fuse", twice.f.Fuse, 3)
	expect(t, "Keep", twice.f.Keep, 9)
	last := applyFaults(t, s, cutFault(3, 9), blockFault(2), cutFault(0, 10), bitFault(2, 0, 5))
	expect(t, "Fuse of the last cut", last.f.Fuse, 0)
	expect(t, "Keep of the last cut", last.f.Keep, 10)
	cut := program(t, flashSample{"to be cut", last.f, true}, 3, 3, rawSample(1))
	expect(t, "code of an operation behind the cut", cut.code, impl.ErrPower)
	expect(t, "code of an operation in the failed block", program(t, flashSample{"", last.f, true}, 2, 2, rawSample(1)).code, impl.ErrBad)
}

// TestP14Errors combines the reasons of errors, in scripts of every kind of faults.
func TestP14Errors(t *testing.T) {
	for reasons := range 1 << 5 {
		f := busyFlash(smallGeometry)
		script := []impl.Fault{bitFault(5, 2, 9)}
		valid := true
		if reasons&1 != 0 {
			script = append(script, cutFault(3, 9))
		}
		if reasons&2 != 0 {
			f.Off = true
		}
		if reasons&4 != 0 {
			script = append(script, bitFault(0, 0, 728))
		}
		if reasons&8 != 0 {
			script = slices.Concat(script, slices.Repeat([]impl.Fault{blockFault(1)}, 40))
		}
		if reasons&16 != 0 {
			f.Ops, valid = -1, false
		}
		want := int64(impl.OK)
		if reasons&3 == 3 {
			want = impl.ErrPower
		}
		if reasons >= 4 {
			want = impl.ErrInvalid
		}
		got := applyFaults(t, flashSample{"several reasons", f, valid}, script...)
		expect(t, "code of ApplyFaults", got.code, want)
		if want != impl.OK {
			expect(t, "array beside an error", sameArrays(got.f, impl.Flash{}), true)
		}
	}
	off := flashSample{"off", changed(busyFlash(smallGeometry), func(f *impl.Flash) { f.Off = true }), true}
	expect(t, "code of a cut while off", applyFaults(t, off, cutFault(0, 0)).code, impl.ErrPower)
	expect(t, "code of an invalid cut while off", applyFaults(t, off, cutFault(0, 92)).code, impl.ErrInvalid)
	expect(t, "code of a last cut while off", applyFaults(t, off, blockFault(1), cutFault(0, 0)).code, impl.ErrPower)
	isFlashOk(t, "ApplyFaults while off", applyFaults(t, off, bitFault(5, 2, 9), disturbFault(5, 2, 9), retentionFault(5, 9), blockFault(5)))
}

// TestP14MaxFaults applies scripts of exactly as many faults as allowed, and of one more.
func TestP14MaxFaults(t *testing.T) {
	s := flashSample{"busy", busyFlash(smallGeometry), true}
	many := slices.Repeat([]impl.Fault{bitFault(5, 2, 9)}, 41)
	isFlashOk(t, "ApplyFaults", applyFaults(t, s, many[:39]...))
	got := applyFaults(t, s, many[:40]...)
	isFlashOk(t, "ApplyFaults", got)
	expect(t, "SameFlash after an even number of equal faults", impl.SameFlash(got.f, s.f), true)
	expect(t, "code of ApplyFaults of one fault more", applyFaults(t, s, many...).code, impl.ErrInvalid)
}

func differing(a impl.Flash, b impl.Flash) number {
	n, code := impl.DifferingBits(a, b)
	return number{n, code}
}

// wantDiffering returns what chapter 8 requires of DifferingBits.
func wantDiffering(a flashSample, b flashSample) number {
	switch {
	case !a.valid || !b.valid:
		return number{0, impl.ErrInvalid}
	case a.f.Geo != b.f.Geo:
		return number{0, impl.ErrState}
	}
	total := int64(0)
	for i := range a.f.Blocks {
		for page := range a.f.Blocks[i].Pages {
			first, second := a.f.Blocks[i].Pages[page], b.f.Blocks[i].Pages[page]
			if first == "" {
				first = strings.Repeat("\xff", 91)
			}
			if second == "" {
				second = strings.Repeat("\xff", 91)
			}
			if first != second {
				total += int64(len(impl.DiffBits(first, second)))
			}
		}
	}
	return number{total, impl.OK}
}

func TestP14DifferingBits(t *testing.T) {
	samples := append(validFlashes(), invalidFlashes()[:70]...)
	samples = append(samples, flashSample{"sealed", sealedArray(smallGeometry), true})
	erased := changed(emptyFlash(smallGeometry), func(f *impl.Flash) { f.Blocks[0].Next, f.Blocks[0].Pages[0] = 1, strings.Repeat("\xff", 91) })
	samples = append(samples, flashSample{"page of bytes ff", erased, true})
	zeros := changed(emptyFlash(smallGeometry), func(f *impl.Flash) {
		for i := range f.Blocks {
			f.Blocks[i] = impl.Block{Next: 8, Pages: slices.Repeat([]string{strings.Repeat("\x00", 91)}, 8)}
		}
	})
	samples = append(samples, flashSample{"zeros", zeros, true})
	for _, a := range samples {
		for _, b := range samples {
			expect(t, "DifferingBits, "+a.what+", "+b.what, differing(a.f, b.f), wantDiffering(a, b))
		}
	}
	empty := emptyFlash(smallGeometry)
	expect(t, "DifferingBits of a page of bytes ff", differing(erased, empty), number{0, impl.OK})
	expect(t, "DifferingBits of all bits", differing(zeros, empty), number{64 * 728, impl.OK})
	expect(t, "DifferingBits of other geometries", differing(empty, emptyFlash(someGeometries[3])), number{0, impl.ErrState})
	expect(t, "DifferingBits of an invalid array", differing(impl.Flash{}, emptyFlash(someGeometries[3])), number{0, impl.ErrInvalid})
}

// TestP14CountBits counts the bits that single faults flip.
func TestP14CountBits(t *testing.T) {
	f := sealedArray(smallGeometry)
	for block := range int64(8) {
		next := f.Blocks[block].Next
		for page := range int64(8) {
			for _, x := range []struct {
				x    impl.Fault
				bits int64
			}{{bitFault(block, page, 5), 1}, {disturbFault(block, page, 5), next - 1}, {retentionFault(block, 720-page), next}, {blockFault(block), 0}, {cutFault(page, 5), 0}} {
				want := x.bits
				switch {
				case x.x.Kind == impl.FaultBit && page >= next:
					want = 0
				case x.x.Kind == impl.FaultDisturb && page >= next:
					want = next
				}
				after, code := impl.ApplyFault(f, x.x)
				expect(t, "code of ApplyFault", code, impl.OK)
				expect(t, "DifferingBits after a fault", differing(f, after), number{want, impl.OK})
				expect(t, "DifferingBits after a fault", differing(after, f), number{want, impl.OK})
			}
		}
	}
}

// wantRandom returns the bit faults that chapter 8 requires of RandomFaults, computed with big integers.
func wantRandom(g impl.Geometry, seed int64, count int64) faultList {
	switch {
	case !geometryIsValid(g):
		return faultList{code: impl.ErrInvalid}
	case count < 0 || count > 40:
		return faultList{code: impl.ErrRange}
	}
	modulus := big.NewInt(999999937)
	state := new(big.Int).Mod(big.NewInt(seed), modulus)
	draw := func(limit int64) int64 {
		state.Mul(state, big.NewInt(48271))
		state.Add(state, big.NewInt(11))
		state.Mod(state, modulus)
		return state.Int64() % limit
	}
	want := faultList{code: impl.OK}
	for range count {
		block := draw(g.Dies * g.Blocks)
		page := draw(g.Pages)
		want.script = append(want.script, bitFault(block, page, draw(728)))
	}
	return want
}

// generate generates faults and checks the outcome.
func generate(t *testing.T, g impl.Geometry, seed int64, count int64) faultList {
	t.Helper()
	script, code := impl.RandomFaults(g, seed, count)
	got := faultList{script, code}
	expectFaults(t, "RandomFaults", got, wantRandom(g, seed, count))
	for _, x := range script {
		expect(t, "ValidFault of a generated fault", impl.ValidFault(g, x), true)
	}
	return got
}

// someSeeds are seeds around the multiples of the modulus, and the extreme ones.
func someSeeds(r *rand.Rand) []int64 {
	seeds := append([]int64{-1, 0, 1, 2, 10, 11, 48271, 1000000, 1000001, -48271}, farInts...)
	for _, factor := range []int64{-9223372617, -9223372616, -1000, -2, -1, 1, 2, 1000, 9223372616, 9223372617} {
		for add := int64(-2); add <= 2; add++ {
			seeds = append(seeds, factor*999999937+add)
		}
	}
	for range 300 {
		seeds = append(seeds, int64(r.Uint64()))
	}
	return seeds
}

func TestP15Generated(t *testing.T) {
	r := rand.New(rand.NewSource(68))
	for _, g := range someGeometries {
		for _, seed := range someSeeds(r) {
			for _, count := range []int64{0, 1, 2, 39, 40, 41, -1} {
				generate(t, g, seed, count)
			}
			for _, count := range farInts {
				expect(t, "code of RandomFaults of no number", generate(t, g, seed, count).code, impl.ErrRange)
			}
		}
	}
	for count := int64(-3); count <= 44; count++ {
		got := generate(t, smallGeometry, 4711, count)
		expect(t, "code of RandomFaults", got.code == impl.OK, count >= 0 && count <= 40)
		expect(t, "number of generated faults", int64(len(got.script)), max(0, count)*max(0, min(1, 41-count)))
	}
	expectFaults(t, "example", generate(t, smallGeometry, 1, 1), faultList{[]impl.Fault{bitFault(2, 7, 21)}, impl.OK})
}

func TestP15Errors(t *testing.T) {
	for _, g := range append(badGeometries(), impl.Geometry{}) {
		for _, count := range append([]int64{-1, 0, 1, 40, 41}, farInts...) {
			expectFaults(t, "RandomFaults without a geometry", generate(t, g, count, count), faultList{code: impl.ErrInvalid})
		}
	}
}

// TestP15Modulo adds multiples of the modulus to seeds, and shows that other seeds differ.
func TestP15Modulo(t *testing.T) {
	r := rand.New(rand.NewSource(69))
	for range 300 {
		seed := r.Int63n(999999937)
		want := generate(t, smallGeometry, seed, 40)
		for _, factor := range []int64{-9223372616, -3, -2, -1, 1, 2, 3, 9223372615} {
			expectFaults(t, "RandomFaults of a congruent seed", generate(t, smallGeometry, seed+factor*999999937, 40), want)
		}
		other := generate(t, smallGeometry, (seed+1)%999999937, 40)
		expect(t, "RandomFaults of another seed are different", slices.Equal(other.script, want.script), false)
		expect(t, "RandomFaults of fewer faults", slices.Equal(generate(t, smallGeometry, seed, 7).script, want.script[:7]), true)
	}
}

// TestP15Apply applies generated faults and formats them, because they are scripts.
func TestP15Apply(t *testing.T) {
	s := flashSample{"busy", busyFlash(smallGeometry), true}
	for seed := int64(-50); seed < 50; seed++ {
		script := generate(t, smallGeometry, seed, 40).script
		isFlashOk(t, "ApplyFaults of generated faults", applyFaults(t, s, script...))
		expectFaults(t, "ParseFaults of generated faults", parse(t, smallGeometry, textOf(script)), faultList{script, impl.OK})
	}
}

// TestP1FaultedBlocks lists the blocks of faults, which need not be valid nor few.
func TestP1FaultedBlocks(t *testing.T) {
	r := rand.New(rand.NewSource(70))
	scripts := [][]impl.Fault{nil, {}, {{}}, edgeFaults(smallGeometry), {cutFault(1, 2)}, {{Kind: impl.FaultCut, Block: 7}}, {{Kind: 6, Block: 7}}, {bitFault(5, 0, 0), bitFault(2, 0, 0), bitFault(5, 1, 1)}}
	for range 300 {
		script := randomScript(r, someGeometries[4], r.Intn(100), 5)
		for i := range script {
			if r.Intn(10) == 0 {
				script[i] = impl.Fault{Kind: r.Int63n(9) - 1, Block: int64(r.Uint64()), Page: -1, Bit: -1}
			}
		}
		scripts = append(scripts, script)
	}
	for _, script := range scripts {
		seen := map[int64]bool{}
		want := []int64{}
		for _, x := range script {
			if x.Kind != impl.FaultCut && !seen[x.Block] {
				seen[x.Block] = true
				want = append(want, x.Block)
			}
		}
		slices.Sort(want)
		results := callPurely(t, "FaultedBlocks", reflect.ValueOf(impl.FaultedBlocks), []reflect.Value{reflect.ValueOf(script)})
		if got := results[0].Interface().([]int64); !slices.Equal(got, want) {
			t.Fatalf("FaultedBlocks(%v) = %v, want %v", script, got, want)
		}
	}
}
