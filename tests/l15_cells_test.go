package tests

import (
	"math"
	"math/rand"
	"reflect"
	"slices"
	"strings"
	"testing"

	"loop.example/g00905/impl"
)

// edgeCharges are charges at and beside the bounds of the cell model, and some on the way down.
var edgeCharges = []int64{0, 1, 2, 3, 4, 5, 15, 16, 62, 63, 64, 126, 127, 128, 129, 254, 255}

// wrongCharges are integers that are no charges.
var wrongCharges = slices.Concat(farInts, []int64{-1, 256, 257, 1<<32 + 1})

// cellSample is a list of cells, whether it is valid, and what is special about it.
type cellSample struct {
	what  string
	c     impl.Cells
	valid bool
}

// cellOutcome is a result of ProgramCells.
type cellOutcome struct {
	c    impl.Cells
	code int64
}

// cellsOf returns cells with the given charges.
func cellsOf(charges ...int64) impl.Cells {
	return impl.Cells{Charge: charges}
}

// evenCells returns cells of the same charge.
func evenCells(n int, charge int64) impl.Cells {
	return cellsOf(slices.Repeat([]int64{charge}, n)...)
}

// validCells returns lists of cells of all lengths, with all charges.
func validCells() []cellSample {
	r := rand.New(rand.NewSource(151))
	list := []cellSample{{"zero", impl.Cells{}, true}, {"no cells", cellsOf([]int64{}...), true}}
	add := func(what string, c impl.Cells) { list = append(list, cellSample{what, c, true}) }
	for charge := range int64(256) {
		add("one cell", cellsOf(charge))
	}
	for _, a := range edgeCharges {
		for _, b := range edgeCharges {
			add("two cells", cellsOf(a, b))
		}
		add("one cell differs", impl.Cells{Charge: append(slices.Repeat([]int64{255}, 63), a)})
		add("as many cells as possible", evenCells(64, a))
	}
	for n := range 65 {
		charges := make([]int64, n)
		for i := range charges {
			charges[i] = r.Int63n(256)
		}
		add("random", impl.Cells{Charge: charges})
		add("full", evenCells(n, 255))
	}
	return list
}

// invalidCells returns lists of cells that are invalid for one reason each.
func invalidCells() []cellSample {
	var list []cellSample
	add := func(what string, c impl.Cells) { list = append(list, cellSample{what, c, false}) }
	for _, n := range []int{65, 66, 128, 1000} {
		add("too many cells", evenCells(n, 0))
	}
	for _, n := range wrongCharges {
		add("one cell", cellsOf(n))
		add("first cell", cellsOf(n, 0, 255))
		add("last cell", cellsOf(0, 255, n))
		add("last cell of many", impl.Cells{Charge: append(make([]int64, 63), n)})
	}
	return list
}

// allCells returns valid and invalid lists of cells.
func allCells() []cellSample {
	return append(validCells(), invalidCells()...)
}

// expectCells ends the test if cells differ from the wanted ones.
func expectCells(t *testing.T, what string, got cellOutcome, want cellOutcome) {
	t.Helper()
	if !reflect.DeepEqual(deepCopy(got.c), deepCopy(want.c)) || got.code != want.code {
		t.Fatalf("%s: got %v and code %d, want %v and code %d", what, got.c, got.code, want.c, want.code)
	}
}

// eachCell returns the cells after a change of each charge, or the zero Cells if they are invalid.
func eachCell(s cellSample, change func(charge int64) int64) impl.Cells {
	out := impl.Cells{}
	if s.valid {
		for _, charge := range s.c.Charge {
			out.Charge = append(out.Charge, change(charge))
		}
	}
	return out
}

// wantProgramCells returns the outcome that chapter 15 requires of ProgramCells.
func wantProgramCells(s cellSample, bits string) cellOutcome {
	if !s.valid || strings.Trim(bits, "01") != "" {
		return cellOutcome{code: impl.ErrInvalid}
	}
	if len(bits) != len(s.c.Charge) {
		return cellOutcome{code: impl.ErrRange}
	}
	i := -1
	return cellOutcome{c: eachCell(s, func(charge int64) int64 {
		i++
		if bits[i] == '0' {
			return 255
		}
		return charge
	})}
}

// programCells programs cells and checks the outcome.
func programCells(t *testing.T, s cellSample, bits string) cellOutcome {
	t.Helper()
	var got cellOutcome
	got.c, got.code = impl.ProgramCells(s.c, bits)
	expectCells(t, "ProgramCells, "+s.what, got, wantProgramCells(s, bits))
	return got
}

// randomBits returns a bit string.
func randomBits(r *rand.Rand, n int) string {
	bits := make([]byte, n)
	for i := range bits {
		bits[i] = "01"[r.Intn(2)]
	}
	return string(bits)
}

func TestP24Constants(t *testing.T) {
	got := [4]int64{impl.MaxCells, impl.FullCharge, impl.SenseLevel, impl.EraseDivisor}
	expect(t, "constants of chapter 15", got, [4]int64{64, 255, 128, 4})
}

func TestP24ValidCells(t *testing.T) {
	for _, s := range allCells() {
		expect(t, "ValidCells, "+s.what, impl.ValidCells(s.c), s.valid)
	}
	expect(t, "ValidCells of the example", impl.ValidCells(cellsOf(0, 255)), true)
	expect(t, "ValidCells of a charge that is too large", impl.ValidCells(cellsOf(256)), false)
}

// TestP24ProgramCells programs cells with bit strings of all lengths, and with other strings.
func TestP24ProgramCells(t *testing.T) {
	r := rand.New(rand.NewSource(152))
	for _, s := range allCells() {
		n := len(s.c.Charge)
		for _, size := range []int{0, 1, n - 1, n, n + 1, 63, 64, 65} {
			if size < 0 {
				continue
			}
			bits := randomBits(r, size)
			for _, text := range []string{bits, strings.Repeat("0", size), strings.Repeat("1", size), bits + "2", "/" + bits, bits + "\x00", bits + "\xff", bits + "é", bits + " "} {
				programCells(t, s, text)
			}
			for _, other := range []string{"/", "2", "\x00", "\x80", "o"} {
				if size > 0 {
					at := r.Intn(size)
					programCells(t, s, bits[:at]+other+bits[at+1:])
				}
			}
		}
	}
	expectCells(t, "example", programCells(t, cellSample{"", cellsOf(0, 10), true}, "01"), cellOutcome{c: cellsOf(255, 10)})
	one := cellSample{"", cellsOf(7), true}
	expect(t, "code of another byte and another length", programCells(t, one, "0x").code, impl.ErrInvalid)
	expect(t, "code of another byte and the right length", programCells(t, one, "x").code, impl.ErrInvalid)
	expect(t, "code of another length", programCells(t, one, "00").code, impl.ErrRange)
	expect(t, "code of no bits", programCells(t, one, "").code, impl.ErrRange)
	expect(t, "code of no bits for no cells", programCells(t, cellSample{"", impl.Cells{}, true}, "").code, impl.OK)
	expect(t, "code of invalid cells and another length", programCells(t, cellSample{"", cellsOf(256), false}, "00").code, impl.ErrInvalid)
}

// TestP24EraseCells erases cells of every charge.
func TestP24EraseCells(t *testing.T) {
	for _, s := range allCells() {
		want := eachCell(s, func(charge int64) int64 { return charge / 4 })
		expectCells(t, "EraseCells, "+s.what, cellOutcome{c: impl.EraseCells(s.c)}, cellOutcome{c: want})
	}
	expectCells(t, "example", cellOutcome{c: impl.EraseCells(cellsOf(255, 10))}, cellOutcome{c: cellsOf(63, 2)})
	expectCells(t, "charges around a multiple", cellOutcome{c: impl.EraseCells(cellsOf(0, 3, 4, 7, 8))}, cellOutcome{c: cellsOf(0, 0, 1, 1, 2)})
}

// TestP24SenseCells reads cells of every charge.
func TestP24SenseCells(t *testing.T) {
	for _, s := range allCells() {
		want := ""
		for _, charge := range s.c.Charge {
			if s.valid && charge < 128 {
				want += "1"
			} else if s.valid {
				want += "0"
			}
		}
		expect(t, "SenseCells, "+s.what, impl.SenseCells(s.c), want)
	}
	expect(t, "SenseCells of the example", impl.SenseCells(cellsOf(255, 127, 128)), "010")
}

func TestP24LeaksPattern(t *testing.T) {
	for _, s := range allCells() {
		want := false
		for _, charge := range s.c.Charge {
			want = want || s.valid && charge != s.c.Charge[len(s.c.Charge)-1]
		}
		expect(t, "LeaksPattern, "+s.what, impl.LeaksPattern(s.c), want)
	}
	expect(t, "LeaksPattern of different charges", impl.LeaksPattern(cellsOf(63, 2)), true)
	expect(t, "LeaksPattern of equal charges", impl.LeaksPattern(cellsOf(63, 63)), false)
	expect(t, "LeaksPattern if the last cell differs", impl.LeaksPattern(impl.Cells{Charge: append(make([]int64, 63), 1)}), true)
	expect(t, "LeaksPattern of no cells", impl.LeaksPattern(impl.Cells{}), false)
	expect(t, "LeaksPattern of invalid cells", impl.LeaksPattern(cellsOf(0, 256)), false)
}

// TestP24WipeCells wipes cells whatever is stored in them: the result depends on their number only.
func TestP24WipeCells(t *testing.T) {
	for _, s := range allCells() {
		got := impl.WipeCells(s.c)
		want := eachCell(s, func(int64) int64 { return 63 })
		expectCells(t, "WipeCells, "+s.what, cellOutcome{c: got}, cellOutcome{c: want})
		expect(t, "LeaksPattern of wiped cells", impl.LeaksPattern(got), false)
		expect(t, "bits of wiped cells", impl.SenseCells(got), strings.Repeat("1", len(got.Charge)))
	}
	expectCells(t, "example", cellOutcome{c: impl.WipeCells(cellsOf(255, 10))}, cellOutcome{c: cellsOf(63, 63)})
}

// TestP24WipePatterns stores patterns in cells, some of them several times, and wipes the cells then. An
// erase alone leaks a pattern.
func TestP24WipePatterns(t *testing.T) {
	r := rand.New(rand.NewSource(153))
	leaks := 0
	for range 2000 {
		n := 1 + r.Intn(64)
		c := evenCells(n, 0)
		for range 1 + r.Intn(4) {
			c = programCells(t, cellSample{"pattern", c, true}, randomBits(r, n)).c
			if r.Intn(2) == 0 {
				c = impl.EraseCells(c)
			}
		}
		if impl.LeaksPattern(impl.EraseCells(c)) {
			leaks++
		}
		wiped := impl.WipeCells(c)
		expectCells(t, "wiped cells", cellOutcome{c: wiped}, cellOutcome{c: evenCells(n, 63)})
		expect(t, "LeaksPattern of wiped cells", impl.LeaksPattern(wiped), false)
		expect(t, "LeaksPattern of cells that are wiped again", impl.LeaksPattern(impl.WipeCells(wiped)), false)
	}
	expect(t, "an erase alone leaks patterns", leaks > 1000, true)
}

// isBelow reports whether all charges are below a level.
func isBelow(c impl.Cells, level int64) bool {
	for _, charge := range c.Charge {
		if charge >= level {
			return false
		}
	}
	return true
}

// checkPasses checks promise 25: the cells are below the level after so many erases, and not before.
func checkPasses(t *testing.T, c impl.Cells, level int64) {
	t.Helper()
	got := impl.ErasePasses(c, level)
	if got < 0 || got > 4 {
		t.Fatalf("ErasePasses(%v, %d) = %d", c, level, got)
	}
	for pass := range got {
		if isBelow(c, level) {
			t.Fatalf("the charges %v are below %d, %d erases before those that ErasePasses returns", c, level, got-pass)
		}
		c = impl.EraseCells(c)
	}
	if !isBelow(c, level) {
		t.Fatalf("the charges %v are not below %d after %d erases", c, level, got)
	}
}

// TestP25ErasePasses checks all levels for all samples of cells.
func TestP25ErasePasses(t *testing.T) {
	for _, s := range validCells() {
		for level := int64(1); level <= 255; level++ {
			checkPasses(t, s.c, level)
		}
		for _, level := range slices.Concat(farInts, []int64{-1, 0, 256, 257}) {
			expect(t, "ErasePasses of a level out of range", impl.ErasePasses(s.c, level), -1)
		}
	}
	for _, s := range invalidCells() {
		for _, level := range []int64{-1, 0, 1, 128, 255, 256} {
			expect(t, "ErasePasses, "+s.what, impl.ErasePasses(s.c, level), -1)
		}
	}
}

// TestP25Examples has charges that are at and beside the bounds of each number of erases.
func TestP25Examples(t *testing.T) {
	expect(t, "ErasePasses of the example", impl.ErasePasses(cellsOf(255, 10), 16), 2)
	expect(t, "ErasePasses of no cells", impl.ErasePasses(impl.Cells{}, 1), 0)
	expect(t, "ErasePasses of empty cells", impl.ErasePasses(evenCells(64, 0), 1), 0)
	expect(t, "ErasePasses of cells below the level", impl.ErasePasses(cellsOf(15, 3, 15), 16), 0)
	expect(t, "ErasePasses of a cell at the level", impl.ErasePasses(cellsOf(15, 3, 16), 16), 1)
	expect(t, "ErasePasses of full cells for the greatest level", impl.ErasePasses(cellsOf(255), 255), 1)
	expect(t, "ErasePasses of other cells for the greatest level", impl.ErasePasses(cellsOf(254), 255), 0)
	expect(t, "ErasePasses of full cells for the least level", impl.ErasePasses(cellsOf(255), 1), 4)
	expect(t, "ErasePasses of 64 for the least level", impl.ErasePasses(cellsOf(64), 1), 4)
	expect(t, "ErasePasses of 63 for the least level", impl.ErasePasses(cellsOf(63), 1), 3)
	expect(t, "ErasePasses of full cells for 63", impl.ErasePasses(cellsOf(255), 63), 2)
	expect(t, "ErasePasses of full cells for 64", impl.ErasePasses(cellsOf(255), 64), 1)
	expect(t, "ErasePasses of the sense level", impl.ErasePasses(cellsOf(impl.SenseLevel), impl.SenseLevel), 1)
	expect(t, "ErasePasses of invalid cells", impl.ErasePasses(cellsOf(-1), 1), -1)
	expect(t, "ErasePasses of the least integer", impl.ErasePasses(cellsOf(255), math.MinInt64), -1)
}
