package tests

import (
	"math"
	"math/rand"
	"slices"
	"strings"
	"testing"

	"loop.example/g00905/impl"
)

// unitSizes are the sizes of units that the tests use.
var unitSizes = []int{0, 1, 2, 7, 100, 255, 256}

func xorBytes(a string, b string) coded {
	s, code := impl.XorBytes(a, b)
	return coded{s, code}
}

func parityOf(units []string) coded {
	s, code := impl.ParityOf(units)
	return coded{s, code}
}

func rebuild(units []string, parity string, k int64) coded {
	s, code := impl.Rebuild(units, parity, k)
	return coded{s, code}
}

func updateParity(parity string, old string, next string) coded {
	s, code := impl.UpdateParity(parity, old, next)
	return coded{s, code}
}

// randomUnits returns n random units of equal size.
func randomUnits(r *rand.Rand, n int, size int) []string {
	units := make([]string, n)
	for i := range units {
		units[i] = randomString(r, size)
	}
	return units
}

// sumOf returns the exclusive or of units of equal size, by its definition.
func sumOf(units []string) string {
	out := make([]byte, len(units[0]))
	for _, unit := range units {
		for i := range out {
			out[i] ^= unit[i]
		}
	}
	return string(out)
}

func TestP5Constants(t *testing.T) {
	expect(t, "MaxStripe", impl.MaxStripe, 8)
	expect(t, "MaxUnit", impl.MaxUnit, 256)
}

func TestP5XorBytes(t *testing.T) {
	expect(t, "XorBytes", xorBytes("\x0f", "\xff"), coded{"\xf0", impl.OK})
	r := rand.New(rand.NewSource(21))
	for size := range 257 {
		units := randomUnits(r, 2, size)
		expect(t, "XorBytes", xorBytes(units[0], units[1]), coded{sumOf(units), impl.OK})
		expect(t, "XorBytes of equal strings", xorBytes(units[0], units[0]), coded{strings.Repeat("\x00", size), impl.OK})
	}
	for _, sizes := range [][2]int{{0, 1}, {1, 0}, {1, 2}, {255, 256}, {256, 255}, {256, 257}, {257, 256}, {257, 257}, {300, 300}, {70000, 70000}, {0, 257}} {
		got := xorBytes(strings.Repeat("a", sizes[0]), strings.Repeat("a", sizes[1]))
		expect(t, "XorBytes of invalid lengths", got, coded{"", impl.ErrInvalid})
	}
}

func TestP5ParityOf(t *testing.T) {
	expect(t, "ParityOf", parityOf([]string{"ab", "cd", "ef"}), coded{"g`", impl.OK})
	r := rand.New(rand.NewSource(22))
	for n := 1; n <= 8; n++ {
		for _, size := range unitSizes {
			units := randomUnits(r, n, size)
			expect(t, "ParityOf", parityOf(units), coded{sumOf(units), impl.OK})
		}
	}
	expect(t, "ParityOf of one unit", parityOf([]string{"alone"}), coded{"alone", impl.OK})
	expect(t, "ParityOf of an empty unit", parityOf([]string{""}), coded{"", impl.OK})
}

// badUnits returns lists that are not the units of a stripe.
func badUnits(r *rand.Rand) [][]string {
	list := [][]string{
		nil, {}, {strings.Repeat("a", 257)}, slices.Repeat([]string{strings.Repeat("a", 257)}, 8), {strings.Repeat("a", 70000), ""},
		randomUnits(r, 9, 4), randomUnits(r, 9, 0), randomUnits(r, 16, 256), randomUnits(r, 1000, 1),
	}
	for n := 2; n <= 8; n++ {
		for k := range n {
			for _, odd := range []string{"", "abc", "abcde", strings.Repeat("a", 257)} {
				units := randomUnits(r, n, 4)
				units[k] = odd
				list = append(list, units)
			}
		}
	}
	return list
}

func TestP5ParityOfErrors(t *testing.T) {
	for _, units := range badUnits(rand.New(rand.NewSource(23))) {
		expect(t, "ParityOf of no stripe", parityOf(units), coded{"", impl.ErrInvalid})
	}
}

func TestP5ValidStripe(t *testing.T) {
	r := rand.New(rand.NewSource(24))
	for n := 1; n <= 8; n++ {
		for _, size := range unitSizes {
			units := randomUnits(r, n, size)
			parity := sumOf(units)
			expect(t, "ValidStripe", impl.ValidStripe(units, parity), true)
			for b := range size {
				bent := []byte(parity)
				bent[b] ^= 1 << r.Intn(8)
				expect(t, "ValidStripe with another parity", impl.ValidStripe(units, string(bent)), false)
			}
			expect(t, "ValidStripe with a longer parity", impl.ValidStripe(units, parity+"\x00"), false)
			if size > 0 {
				expect(t, "ValidStripe with a shorter parity", impl.ValidStripe(units, parity[1:]), false)
				expect(t, "ValidStripe with no parity", impl.ValidStripe(units, ""), false)
			}
		}
	}
	for _, units := range badUnits(r) {
		for _, parity := range []string{"", "\x00", "aaaa", strings.Repeat("a", 257), strings.Repeat("\x00", 257)} {
			expect(t, "ValidStripe of no stripe", impl.ValidStripe(units, parity), false)
		}
	}
	nine := slices.Repeat([]string{"a"}, 9)
	expect(t, "ValidStripe of nine units", impl.ValidStripe(nine, sumOf(nine)), false)
}

// TestP5Rebuild loses each unit of stripes, with anything in its place.
func TestP5Rebuild(t *testing.T) {
	expect(t, "Rebuild", rebuild([]string{"ab", "??", "ef"}, sumOf([]string{"ab", "cd", "ef"}), 1), coded{"cd", impl.OK})
	r := rand.New(rand.NewSource(25))
	for n := 1; n <= 8; n++ {
		for _, size := range unitSizes {
			units := randomUnits(r, n, size)
			parity := sumOf(units)
			for k := range units {
				for _, anything := range []string{units[k], "", "?", randomString(r, size), strings.Repeat("?", 257), strings.Repeat("?", 70000)} {
					rest := slices.Clone(units)
					rest[k] = anything
					expect(t, "Rebuild", rebuild(rest, parity, int64(k)), coded{units[k], impl.OK})
				}
			}
		}
	}
}

func TestP5RebuildErrors(t *testing.T) {
	r := rand.New(rand.NewSource(26))
	stripe := randomUnits(r, 3, 4)
	for _, units := range append(badUnits(r), stripe, []string{"a"}) {
		size := int64(len(units))
		for _, k := range []int64{math.MinInt64, -size, -1, size, size + 1, 1 << 32, math.MaxInt64} {
			if k < 0 || k >= size {
				expect(t, "Rebuild of no unit", rebuild(units, "aaaa", k), coded{"", impl.ErrRange})
			}
		}
	}
	for k := range int64(9) {
		expect(t, "Rebuild of too many units", rebuild(randomUnits(r, 9, 4), "aaaa", k), coded{"", impl.ErrInvalid})
		expect(t, "Rebuild of too many empty units", rebuild(make([]string, 9), "", k), coded{"", impl.ErrInvalid})
	}
	for k := range int64(3) {
		for _, parity := range []string{"", "aaa", "aaaaa", strings.Repeat("a", 257)} {
			expect(t, "Rebuild with another length of the parity", rebuild(stripe, parity, k), coded{"", impl.ErrInvalid})
		}
		for odd := range stripe {
			if int64(odd) != k {
				units := slices.Clone(stripe)
				units[odd] = "abc"
				expect(t, "Rebuild with another length of a unit", rebuild(units, "aaaa", k), coded{"", impl.ErrInvalid})
				expect(t, "Rebuild with another length of a unit", rebuild(units, "abc", k), coded{"", impl.ErrInvalid})
			}
		}
	}
	long := strings.Repeat("a", 257)
	expect(t, "Rebuild of a long unit", rebuild([]string{""}, long, 0), coded{"", impl.ErrInvalid})
	expect(t, "Rebuild of long units", rebuild([]string{long, long}, long, 1), coded{"", impl.ErrInvalid})
}

// TestP5UpdateParity changes units one after the other.
func TestP5UpdateParity(t *testing.T) {
	r := rand.New(rand.NewSource(27))
	for n := 1; n <= 8; n++ {
		for _, size := range unitSizes {
			units := randomUnits(r, n, size)
			parity := sumOf(units)
			for k := range units {
				next := randomString(r, size)
				got := updateParity(parity, units[k], next)
				units[k] = next
				parity = sumOf(units)
				expect(t, "UpdateParity", got, coded{parity, impl.OK})
			}
		}
	}
	sizes := []int{0, 1, 2, 256, 257, 300}
	for _, a := range sizes {
		for _, b := range sizes {
			for _, c := range sizes {
				if a == b && b == c && a <= 256 {
					continue
				}
				got := updateParity(strings.Repeat("a", a), strings.Repeat("b", b), strings.Repeat("c", c))
				expect(t, "UpdateParity of invalid lengths", got, coded{"", impl.ErrInvalid})
			}
		}
	}
}

// sampleRows returns the first rows and some of the last ones.
func sampleRows() []int64 {
	var rows []int64
	for row := range int64(100) {
		rows = append(rows, row, math.MaxInt64-row)
	}
	return append(rows, 1<<31, 1<<32, 1<<62)
}

// TestP5Rotation compares with the definition: the parity goes down the dies, and the data units
// follow it cyclically.
func TestP5Rotation(t *testing.T) {
	for dies := int64(2); dies <= 8; dies++ {
		for _, row := range sampleRows() {
			parity := dies - 1 - row%dies
			expect(t, "ParityDie", impl.ParityDie(row, dies), parity)
			expect(t, "UnitOn of the parity", impl.UnitOn(row, parity, dies), dies-1)
			die := parity
			for k := range dies - 1 {
				die++
				if die == dies {
					die = 0
				}
				expect(t, "DataDie", impl.DataDie(row, k, dies), die)
				expect(t, "UnitOn", impl.UnitOn(row, die, dies), k)
			}
		}
	}
}

func TestP5RotationExamples(t *testing.T) {
	for row, want := range []int64{2, 1, 0, 2} {
		expect(t, "ParityDie", impl.ParityDie(int64(row), 3), want)
	}
	expect(t, "DataDie", impl.DataDie(0, 0, 3), 0)
	expect(t, "DataDie", impl.DataDie(0, 1, 3), 1)
	expect(t, "DataDie", impl.DataDie(1, 0, 3), 2)
	expect(t, "DataDie", impl.DataDie(1, 1, 3), 0)
	expect(t, "UnitOn", impl.UnitOn(1, 2, 3), 0)
	expect(t, "UnitOn", impl.UnitOn(0, 2, 3), 2)
}

// TestP5RotationBalance shows that over as many rows as dies each die holds the parity once and
// each data unit once.
func TestP5RotationBalance(t *testing.T) {
	for dies := int64(2); dies <= 8; dies++ {
		for first := range int64(20) {
			held := map[[2]int64]bool{}
			for row := first; row < first+dies; row++ {
				for die := range dies {
					held[[2]int64{die, impl.UnitOn(row, die, dies)}] = true
				}
			}
			expect(t, "pairs of a die and a unit", int64(len(held)), dies*dies)
		}
	}
}

func TestP5RotationBounds(t *testing.T) {
	for _, row := range []int64{math.MinInt64, -8, -1} {
		for dies := int64(2); dies <= 8; dies++ {
			expectNoDie(t, row, 0, dies)
		}
	}
	for _, dies := range []int64{math.MinInt64, -3, -1, 0, 1, 9, 10, 1 << 32, math.MaxInt64} {
		for _, row := range []int64{0, 1, 7, math.MaxInt64, -1} {
			for _, k := range []int64{-1, 0, 1, 7, 8} {
				expectNoDie(t, row, k, dies)
			}
		}
	}
	for dies := int64(2); dies <= 8; dies++ {
		for _, row := range []int64{0, 1, 7, math.MaxInt64} {
			for _, k := range []int64{math.MinInt64, -2, -1, dies, dies + 1, 1 << 32, math.MaxInt64} {
				expect(t, "DataDie of no unit", impl.DataDie(row, k, dies), -1)
				expect(t, "UnitOn of no die", impl.UnitOn(row, k, dies), -1)
			}
			expect(t, "DataDie of the parity", impl.DataDie(row, dies-1, dies), -1)
		}
	}
}

// expectNoDie reports results other than -1 of all functions of a row.
func expectNoDie(t *testing.T, row int64, k int64, dies int64) {
	t.Helper()
	expect(t, "ParityDie of no row", impl.ParityDie(row, dies), -1)
	expect(t, "DataDie of no row", impl.DataDie(row, k, dies), -1)
	expect(t, "UnitOn of no row", impl.UnitOn(row, k, dies), -1)
}
