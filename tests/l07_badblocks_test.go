package tests

import (
	"math"
	"math/rand"
	"reflect"
	"slices"
	"strings"
	"testing"

	"loop.example/g00905/impl"
)

// tableSample is a table, whether it is valid, and what is special about it.
type tableSample struct {
	what  string
	t     impl.BadTable
	valid bool
}

// tableOutcome is a result of a function that returns a table and a code.
type tableOutcome struct {
	t    impl.BadTable
	code int64
}

// number is a result of a function that returns an integer and a code.
type number struct {
	n, code int64
}

// exampleTable returns the table of the examples of chapter 7.
func exampleTable() impl.BadTable {
	return impl.BadTable{Geo: smallGeometry, Spare: 1, Bad: []int64{1}, Remap: []int64{0, 3, 2, 4, 5, 6}}
}

// goodTable returns the table of an array without bad blocks.
func goodTable(g impl.Geometry, spare int64) impl.BadTable {
	return impl.BadTable{Geo: g, Spare: spare, Bad: []int64{}, Remap: homesOf(g, spare)}
}

// geometryIsValid reports whether g is valid, by the definition of chapter 6.
func geometryIsValid(g impl.Geometry) bool {
	return (g.Dies == 2 || g.Dies == 3) && g.Blocks >= 4 && g.Blocks <= 12 && (g.Pages == 8 || g.Pages == 16)
}

// spareIsValid reports whether the dies of a valid geometry can have so many spare blocks.
func spareIsValid(g impl.Geometry, spare int64) bool {
	return spare >= 1 && spare <= 4 && spare < g.Blocks-1
}

// blocksAreValid reports whether a list is a strictly increasing one of blocks of a valid geometry.
func blocksAreValid(g impl.Geometry, list []int64) bool {
	for i, block := range list {
		if block < 0 || block >= g.Dies*g.Blocks || i > 0 && block <= list[i-1] {
			return false
		}
	}
	return true
}

// homesOf returns the homes of all logical blocks.
func homesOf(g impl.Geometry, spare int64) []int64 {
	var list []int64
	for die := range g.Dies {
		for i := range g.Blocks - spare {
			list = append(list, die*g.Blocks+i)
		}
	}
	return list
}

// sparesOf returns the spare blocks of a die.
func sparesOf(t impl.BadTable, die int64) []int64 {
	var list []int64
	for i := range t.Spare {
		list = append(list, die*t.Geo.Blocks+t.Geo.Blocks-t.Spare+i)
	}
	return list
}

// freeOf returns the available spare blocks of a die.
func freeOf(t impl.BadTable, die int64) []int64 {
	return slices.DeleteFunc(sparesOf(t, die), func(block int64) bool {
		return slices.Contains(t.Bad, block) || slices.Contains(t.Remap, block)
	})
}

// tableIsValid reports whether a table is valid, by the definition of chapter 7.
func tableIsValid(t impl.BadTable) bool {
	if !geometryIsValid(t.Geo) || !spareIsValid(t.Geo, t.Spare) || !blocksAreValid(t.Geo, t.Bad) {
		return false
	}
	homes := homesOf(t.Geo, t.Spare)
	if len(t.Remap) != len(homes) {
		return false
	}
	for i, block := range t.Remap {
		if slices.Contains(t.Bad, block) || slices.Contains(t.Remap[:i], block) {
			return false
		}
		spare := slices.Contains(sparesOf(t, homes[i]/t.Geo.Blocks), block)
		if block != homes[i] && !(spare && slices.Contains(t.Bad, homes[i])) {
			return false
		}
	}
	return true
}

// wantNewTable returns the outcome that chapter 7 requires of NewBadTable.
func wantNewTable(g impl.Geometry, spare int64, factory []int64) tableOutcome {
	switch {
	case !geometryIsValid(g):
		return tableOutcome{code: impl.ErrInvalid}
	case !spareIsValid(g, spare) || !blocksAreValid(g, factory):
		return tableOutcome{code: impl.ErrRange}
	}
	t := goodTable(g, spare)
	t.Bad = append(t.Bad, factory...)
	for i, home := range t.Remap {
		if slices.Contains(factory, home) {
			free := freeOf(t, home/g.Blocks)
			if len(free) == 0 {
				return tableOutcome{code: impl.ErrFull}
			}
			t.Remap[i] = free[0]
		}
	}
	return tableOutcome{t, impl.OK}
}

// wantRetire returns the outcome that chapter 7 requires of RetireBlock.
func wantRetire(t impl.BadTable, physical int64) tableOutcome {
	switch {
	case !tableIsValid(t):
		return tableOutcome{code: impl.ErrInvalid}
	case physical < 0 || physical >= t.Geo.Dies*t.Geo.Blocks:
		return tableOutcome{code: impl.ErrRange}
	case slices.Contains(t.Bad, physical):
		return tableOutcome{code: impl.ErrState}
	}
	out := deepCopy(t)
	out.Bad = append(out.Bad, physical)
	slices.Sort(out.Bad)
	if i := slices.Index(t.Remap, physical); i >= 0 {
		free := freeOf(t, physical/t.Geo.Blocks)
		if len(free) == 0 {
			return tableOutcome{code: impl.ErrFull}
		}
		out.Remap[i] = free[0]
	}
	return tableOutcome{out, impl.OK}
}

// changedTable returns a copy of a table to which a change was made.
func changedTable(t impl.BadTable, change func(*impl.BadTable)) impl.BadTable {
	out := deepCopy(t)
	change(&out)
	return out
}

// sameTables reports whether two tables are deeply equal, without the package.
func sameTables(a impl.BadTable, b impl.BadTable) bool {
	return reflect.DeepEqual(deepCopy(a), deepCopy(b))
}

// expectTable ends the test if an outcome differs from the wanted one.
func expectTable(t *testing.T, what string, got tableOutcome, want tableOutcome) {
	t.Helper()
	if got.code != want.code || !sameTables(got.t, want.t) {
		t.Fatalf("%s: got %+v, want %+v", what, got, want)
	}
}

// callTable calls a function that returns a table and a code, and checks promise 1 for the call.
func callTable(t *testing.T, name string, function any, args ...any) tableOutcome {
	t.Helper()
	var values []reflect.Value
	for _, arg := range args {
		values = append(values, reflect.ValueOf(arg))
	}
	results := callPurely(t, name, reflect.ValueOf(function), values)
	return tableOutcome{results[0].Interface().(impl.BadTable), results[1].Interface().(int64)}
}

// newTable makes a table and checks the outcome.
func newTable(t *testing.T, g impl.Geometry, spare int64, factory []int64) tableOutcome {
	t.Helper()
	got := callTable(t, "NewBadTable", impl.NewBadTable, g, spare, factory)
	expectTable(t, "NewBadTable", got, wantNewTable(g, spare, factory))
	if got.code == impl.OK {
		checkMapping(t, got.t)
	}
	return got
}

// retire retires a block and checks the outcome.
func retire(t *testing.T, before impl.BadTable, physical int64) tableOutcome {
	t.Helper()
	got := callTable(t, "RetireBlock", impl.RetireBlock, before, physical)
	expectTable(t, "RetireBlock", got, wantRetire(before, physical))
	if got.code == impl.OK {
		checkMapping(t, got.t)
		checkSpares(t, before, got.t, physical)
	}
	return got
}

// checkMapping checks promise 8 for a table.
func checkMapping(t *testing.T, table impl.BadTable) {
	t.Helper()
	seen := map[int64]bool{}
	for logical := range int64(len(table.Remap)) {
		physical, code := impl.PhysicalBlock(table, logical)
		die := logical / (table.Geo.Blocks - table.Spare)
		if code != impl.OK || slices.Contains(table.Bad, physical) || seen[physical] || physical/table.Geo.Blocks != die {
			t.Fatalf("logical block %d is in block %d with code %d: %+v", logical, physical, code, table)
		}
		seen[physical] = true
	}
	if !impl.ValidBadTable(table) {
		t.Fatalf("invalid table %+v", table)
	}
}

// checkSpares checks promise 9 for a block that was retired: its die has one available spare block
// less if it was mapped or available before.
func checkSpares(t *testing.T, before impl.BadTable, after impl.BadTable, physical int64) {
	t.Helper()
	for die := range before.Geo.Dies {
		old, now := spareCount(before, die), spareCount(after, die)
		if physical/before.Geo.Blocks == die {
			now.n++
		}
		expect(t, "AvailableSpares before and after retiring a block", old, now)
	}
	mapped := slices.Index(before.Remap, physical)
	for logical := range before.Remap {
		moved := before.Remap[logical] != after.Remap[logical]
		expect(t, "logical block is moved", moved, logical == mapped)
	}
}

func spareCount(t impl.BadTable, die int64) number {
	n, code := impl.AvailableSpares(t, die)
	return number{n, code}
}

func physicalBlock(t impl.BadTable, logical int64) number {
	n, code := impl.PhysicalBlock(t, logical)
	return number{n, code}
}

func logicalBlock(t impl.BadTable, physical int64) number {
	n, code := impl.LogicalBlock(t, physical)
	return number{n, code}
}

// validTables returns tables of the least and greatest sizes, with spare blocks that are available,
// mapped and bad, and with mappings that arise from one order of retired blocks only.
func validTables() []tableSample {
	list := []tableSample{{"example", exampleTable(), true}}
	for _, g := range someGeometries {
		for spare := int64(1); spareIsValid(g, spare); spare++ {
			list = append(list, tableSample{"no bad blocks", goodTable(g, spare), true})
		}
	}
	add := func(what string, t impl.BadTable, change func(*impl.BadTable)) {
		list = append(list, tableSample{what, changedTable(t, change), true})
	}
	one, two, large := goodTable(smallGeometry, 1), goodTable(smallGeometry, 2), goodTable(impl.Geometry{Dies: 3, Blocks: 12, Pages: 16}, 4)
	add("one die exhausted", one, func(t *impl.BadTable) { t.Bad, t.Remap[0] = []int64{0}, 3 })
	add("both dies exhausted", one, func(t *impl.BadTable) { t.Bad, t.Remap[0], t.Remap[4] = []int64{0, 5}, 3, 7 })
	add("bad spare blocks", one, func(t *impl.BadTable) { t.Bad = []int64{3, 7} })
	add("all spare blocks bad", two, func(t *impl.BadTable) { t.Bad = []int64{2, 3, 6, 7} })
	add("one spare block of two bad", two, func(t *impl.BadTable) { t.Bad = []int64{3, 6} })
	add("last spare block taken first", two, func(t *impl.BadTable) { t.Bad, t.Remap[1] = []int64{1}, 3 })
	add("spare blocks taken in order", two, func(t *impl.BadTable) { t.Bad, t.Remap[0], t.Remap[1] = []int64{0, 1}, 2, 3 })
	add("spare blocks taken out of order", two, func(t *impl.BadTable) { t.Bad, t.Remap[0], t.Remap[1] = []int64{0, 1}, 3, 2 })
	add("home and first spare block bad", two, func(t *impl.BadTable) { t.Bad, t.Remap[2] = []int64{4, 6}, 7 })
	add("all blocks in use", large, func(t *impl.BadTable) {
		t.Bad = []int64{0, 3, 5, 7, 12, 13, 14, 15, 28, 29, 30, 31}
		t.Remap[0], t.Remap[3], t.Remap[5], t.Remap[7] = 11, 8, 10, 9
		t.Remap[8], t.Remap[9], t.Remap[10], t.Remap[11] = 20, 21, 22, 23
		t.Remap[20], t.Remap[21], t.Remap[22], t.Remap[23] = 35, 34, 33, 32
	})
	return list
}

// invalidTables returns tables that are invalid for one reason each.
func invalidTables() []tableSample {
	list := []tableSample{{"zero", impl.BadTable{}, false}}
	add := func(what string, t impl.BadTable, change func(*impl.BadTable)) {
		list = append(list, tableSample{what, changedTable(t, change), false})
	}
	example, two := exampleTable(), goodTable(smallGeometry, 2)
	for _, g := range badGeometries() {
		add("geometry", example, func(t *impl.BadTable) { t.Geo = g })
	}
	for _, g := range someGeometries[1:3] {
		add("another geometry", example, func(t *impl.BadTable) { t.Geo = g })
	}
	for _, n := range append(farInts, -1, 0, 2, 3, 4, 5) {
		add("Spare", example, func(t *impl.BadTable) { t.Spare = n })
	}
	three := impl.Geometry{Dies: 2, Blocks: 12, Pages: 8}
	add("Spare above MaxSpare", goodTable(three, 5), func(*impl.BadTable) {})
	add("Spare not below Blocks - 1", goodTable(smallGeometry, 3), func(*impl.BadTable) {})
	add("no spare blocks", goodTable(smallGeometry, 0), func(*impl.BadTable) {})
	for _, n := range append(farInts, -1, 8, 9) {
		add("bad block that does not exist", two, func(t *impl.BadTable) { t.Bad = []int64{n} })
		add("block that does not exist", two, func(t *impl.BadTable) { t.Remap[3] = n })
		add("block that does not exist for a bad one", example, func(t *impl.BadTable) { t.Remap[1] = n })
	}
	for _, bad := range [][]int64{{3, 3}, {3, 2}, {7, 2, 3}, {2, 3, 3}, {-1, 3}, {3, 8}, {2, 2, 3, 6, 7}} {
		add("Bad is not a list of blocks", two, func(t *impl.BadTable) { t.Bad = bad })
	}
	add("bad home", two, func(t *impl.BadTable) { t.Bad = []int64{1} })
	add("bad spare block in use", example, func(t *impl.BadTable) { t.Bad = []int64{1, 3} })
	add("good home that is not used", example, func(t *impl.BadTable) { t.Bad = nil })
	add("spare block for a good home", two, func(t *impl.BadTable) { t.Remap[0] = 2 })
	add("home of another block", example, func(t *impl.BadTable) { t.Remap[0], t.Remap[2] = 2, 0 })
	add("home of another block for a bad one", two, func(t *impl.BadTable) { t.Bad, t.Remap[0], t.Remap[1] = []int64{0}, 1, 2 })
	add("spare block of another die", example, func(t *impl.BadTable) { t.Remap[1] = 7 })
	add("spare block of the die before", two, func(t *impl.BadTable) { t.Bad, t.Remap[2] = []int64{4}, 3 })
	add("spare block used twice", two, func(t *impl.BadTable) { t.Bad, t.Remap[0], t.Remap[1] = []int64{0, 1}, 2, 2 })
	add("home used twice", example, func(t *impl.BadTable) { t.Remap[0] = 2 })
	add("empty Remap", example, func(t *impl.BadTable) { t.Remap = nil })
	add("entry too few", example, func(t *impl.BadTable) { t.Remap = t.Remap[:5] })
	add("entry too many", example, func(t *impl.BadTable) { t.Remap = append(t.Remap, 7) })
	return list
}

// allTables returns valid and invalid tables.
func allTables() []tableSample {
	return append(validTables(), invalidTables()...)
}

func TestP8Constants(t *testing.T) {
	expect(t, "MaxSpare", impl.MaxSpare, 4)
}

func TestP8ValidBadTable(t *testing.T) {
	for _, s := range allTables() {
		expect(t, "definition of a valid table, "+s.what, tableIsValid(s.t), s.valid)
		expect(t, "ValidBadTable, "+s.what, impl.ValidBadTable(s.t), s.valid)
	}
}

// TestP8ValidChanges changes each number of valid tables to every other block and to some more.
func TestP8ValidChanges(t *testing.T) {
	check := func(table impl.BadTable) {
		if got, want := impl.ValidBadTable(table), tableIsValid(table); got != want {
			t.Fatalf("ValidBadTable(%+v) = %v", table, got)
		}
	}
	for _, s := range validTables() {
		for _, n := range around(s.t.Geo.Dies * s.t.Geo.Blocks) {
			for i := range s.t.Remap {
				check(changedTable(s.t, func(t *impl.BadTable) { t.Remap[i] = n }))
			}
			for i := range s.t.Bad {
				check(changedTable(s.t, func(t *impl.BadTable) { t.Bad[i] = n }))
			}
			check(changedTable(s.t, func(t *impl.BadTable) { t.Bad = append(t.Bad, n) }))
			check(changedTable(s.t, func(t *impl.BadTable) { t.Remap = append(t.Remap, n) }))
			check(changedTable(s.t, func(t *impl.BadTable) { t.Spare = n }))
			check(changedTable(s.t, func(t *impl.BadTable) { t.Geo.Dies = n }))
			check(changedTable(s.t, func(t *impl.BadTable) { t.Geo.Blocks = n }))
			check(changedTable(s.t, func(t *impl.BadTable) { t.Geo.Pages = n }))
		}
		for i := range s.t.Bad {
			check(changedTable(s.t, func(t *impl.BadTable) { t.Bad = slices.Delete(t.Bad, i, i+1) }))
		}
	}
}

func TestP8SameBadTable(t *testing.T) {
	samples := allTables()
	for i, a := range samples {
		expect(t, "SameBadTable of a copy", impl.SameBadTable(a.t, deepCopy(a.t)), true)
		for _, b := range samples[:i] {
			want := sameTables(a.t, b.t)
			expect(t, "SameBadTable", impl.SameBadTable(a.t, b.t), want)
			expect(t, "SameBadTable", impl.SameBadTable(b.t, a.t), want)
		}
	}
	for _, change := range []func(*impl.BadTable){
		func(t *impl.BadTable) { t.Geo.Dies++ }, func(t *impl.BadTable) { t.Geo.Blocks++ }, func(t *impl.BadTable) { t.Geo.Pages++ },
		func(t *impl.BadTable) { t.Spare++ }, func(t *impl.BadTable) { t.Bad = nil }, func(t *impl.BadTable) { t.Bad[0]++ },
		func(t *impl.BadTable) { t.Bad = append(t.Bad, 1) }, func(t *impl.BadTable) { t.Remap = nil }, func(t *impl.BadTable) { t.Remap[5]++ },
		func(t *impl.BadTable) { t.Remap = t.Remap[:5] }, func(t *impl.BadTable) { t.Remap = append(t.Remap, 0) }, func(t *impl.BadTable) { slices.Reverse(t.Remap) },
	} {
		expect(t, "SameBadTable of a changed copy", impl.SameBadTable(exampleTable(), changedTable(exampleTable(), change)), false)
		expect(t, "SameBadTable of a changed copy", impl.SameBadTable(changedTable(exampleTable(), change), exampleTable()), false)
	}
	expect(t, "SameBadTable of nil and empty lists", impl.SameBadTable(impl.BadTable{}, impl.BadTable{Bad: []int64{}, Remap: []int64{}}), true)
	expect(t, "SameBadTable of empty and nil lists", impl.SameBadTable(impl.BadTable{Bad: []int64{}, Remap: []int64{}}, impl.BadTable{}), true)
}

// blocksOf returns the numbers of the bits of set that are 1.
func blocksOf(set int) []int64 {
	var list []int64
	for block := range 62 {
		if set>>block&1 == 1 {
			list = append(list, int64(block))
		}
	}
	return list
}

// TestP8NewAllFactories makes tables for every list of bad blocks of small arrays.
func TestP8NewAllFactories(t *testing.T) {
	for _, g := range []impl.Geometry{smallGeometry, {Dies: 2, Blocks: 5, Pages: 16}, {Dies: 3, Blocks: 4, Pages: 8}} {
		for spare := int64(1); spareIsValid(g, spare); spare++ {
			for set := range 1 << (g.Dies * g.Blocks) {
				newTable(t, g, spare, blocksOf(set))
			}
		}
	}
	expectTable(t, "example", newTable(t, smallGeometry, 1, []int64{1}), tableOutcome{exampleTable(), impl.OK})
}

// TestP8NewLarge makes tables for random lists of bad blocks.
func TestP8NewLarge(t *testing.T) {
	r := rand.New(rand.NewSource(51))
	made := map[int64]int{}
	for _, g := range someGeometries {
		for spare := int64(1); spareIsValid(g, spare); spare++ {
			for range 300 {
				set := 0
				for range r.Intn(2 * int(g.Dies*spare)) {
					set |= 1 << r.Intn(int(g.Dies*g.Blocks))
				}
				made[newTable(t, g, spare, blocksOf(set)).code]++
			}
		}
	}
	if made[impl.OK] < 100 || made[impl.ErrFull] < 100 {
		t.Errorf("codes of NewBadTable: %v", made)
	}
}

// TestP8NewErrors combines the reasons of errors: the first one of them is returned.
func TestP8NewErrors(t *testing.T) {
	full := []int64{0, 1, 2, 3, 4, 5, 6, 7}
	factories := [][]int64{nil, {}, {7}, full, {8}, {-1}, {0, 0}, {1, 0}, {7, 8}, {-1, 0}, append(full, 8), append(full, 7), {0, 1, 2, 0}}
	for _, n := range farInts {
		factories = append(factories, []int64{n}, []int64{0, 1, 2, n})
	}
	for _, spare := range append(farInts, -1, 0, 1, 2, 3, 4, 5, 6, 10, 11, 12) {
		for _, factory := range factories {
			for _, g := range append(badGeometries(), impl.Geometry{}) {
				got, code := impl.NewBadTable(g, spare, factory)
				expectTable(t, "NewBadTable of no geometry", tableOutcome{got, code}, tableOutcome{code: impl.ErrInvalid})
			}
			for _, g := range append(someGeometries, impl.Geometry{Dies: 2, Blocks: 5, Pages: 8}, impl.Geometry{Dies: 2, Blocks: 6, Pages: 8}) {
				newTable(t, g, spare, factory)
			}
		}
	}
	expect(t, "code for spare blocks and factory out of range", newTable(t, smallGeometry, 3, []int64{8}).code, impl.ErrRange)
	expect(t, "code for too many bad blocks and one that does not exist", newTable(t, smallGeometry, 1, append(full, 8)).code, impl.ErrRange)
	expect(t, "code for too many bad blocks", newTable(t, smallGeometry, 1, full).code, impl.ErrFull)
	expect(t, "code for a bad home and a bad spare block", newTable(t, smallGeometry, 1, []int64{0, 3}).code, impl.ErrFull)
	expect(t, "code for bad spare blocks", newTable(t, smallGeometry, 1, []int64{3, 7}).code, impl.OK)
}

// retireAll retires the given blocks in every order, and after each step also those that cannot be
// retired. It counts the tables.
func retireAll(t *testing.T, table impl.BadTable, blocks []int64) int {
	tables := 1
	for _, block := range blocks {
		if got := retire(t, table, block); got.code == impl.OK {
			tables += retireAll(t, got.t, blocks)
		}
	}
	return tables
}

func TestP8RetireInEveryOrder(t *testing.T) {
	all := []int64{0, 1, 2, 3, 4, 5, 6, 7}
	// With one spare block each die can lose any one block: none, one of 8, or one of each die in two orders.
	expect(t, "number of sequences with one spare block", retireAll(t, goodTable(smallGeometry, 1), all), 1+8+2*4*4)
	retireAll(t, goodTable(smallGeometry, 2), all)
	six := impl.Geometry{Dies: 2, Blocks: 6, Pages: 8}
	// With four spare blocks a die can lose any four of its six blocks, in any order.
	expect(t, "number of sequences with four spare blocks", retireAll(t, goodTable(six, 4), []int64{6, 7, 8, 9, 10, 11}), 1+6+30+120+360)
	retireAll(t, goodTable(impl.Geometry{Dies: 3, Blocks: 5, Pages: 16}, 3), []int64{10, 11, 12, 13, 14, 4})
}

// TestP8RetireWalk retires random blocks of tables until none can be retired any more.
func TestP8RetireWalk(t *testing.T) {
	r := rand.New(rand.NewSource(52))
	for _, g := range someGeometries {
		for spare := int64(1); spareIsValid(g, spare); spare++ {
			for range 10 {
				table := goodTable(g, spare)
				for range 100 {
					if got := retire(t, table, r.Int63n(g.Dies*g.Blocks)); got.code == impl.OK {
						table = got.t
					}
				}
				for block := range g.Dies * g.Blocks {
					if got := retire(t, table, block); got.code == impl.OK {
						table = got.t
					}
				}
				expect(t, "number of bad blocks at the end", int64(len(table.Bad)), g.Dies*spare)
			}
		}
	}
}

func TestP8RetireErrors(t *testing.T) {
	for _, s := range allTables() {
		for _, block := range around(8) {
			retire(t, s.t, block)
		}
		for _, block := range around(36) {
			got, code := impl.RetireBlock(s.t, block)
			expectTable(t, "RetireBlock", tableOutcome{got, code}, wantRetire(s.t, block))
		}
	}
	exhausted := changedTable(goodTable(smallGeometry, 1), func(t *impl.BadTable) { t.Bad, t.Remap[0] = []int64{0}, 3 })
	expect(t, "code of retiring a bad block of an exhausted die", retire(t, exhausted, 0).code, impl.ErrState)
	expect(t, "code of retiring a spare block in use", retire(t, exhausted, 3).code, impl.ErrFull)
}

// TestP8Lookup looks up all blocks of tables in both directions.
func TestP8Lookup(t *testing.T) {
	for _, s := range allTables() {
		for _, n := range around(36) {
			physical, logical := number{0, impl.ErrInvalid}, number{0, impl.ErrInvalid}
			if s.valid {
				physical, logical = number{0, impl.ErrRange}, number{0, impl.ErrRange}
				if n >= 0 && n < int64(len(s.t.Remap)) {
					physical = number{s.t.Remap[n], impl.OK}
				}
				if n >= 0 && n < s.t.Geo.Dies*s.t.Geo.Blocks {
					logical = number{0, impl.ErrNotFound}
					if at := slices.Index(s.t.Remap, n); at >= 0 {
						logical = number{int64(at), impl.OK}
					}
				}
			}
			expect(t, "PhysicalBlock, "+s.what, physicalBlock(s.t, n), physical)
			expect(t, "LogicalBlock, "+s.what, logicalBlock(s.t, n), logical)
			if physical.code == impl.OK {
				expect(t, "LogicalBlock of PhysicalBlock, "+s.what, logicalBlock(s.t, physical.n), number{n, impl.OK})
			}
		}
	}
	expect(t, "PhysicalBlock of the example", physicalBlock(exampleTable(), 1), number{3, impl.OK})
	expect(t, "LogicalBlock of the example", logicalBlock(exampleTable(), 3), number{1, impl.OK})
	expect(t, "LogicalBlock of a bad block", logicalBlock(exampleTable(), 1), number{0, impl.ErrNotFound})
	expect(t, "LogicalBlock of an available spare block", logicalBlock(exampleTable(), 7), number{0, impl.ErrNotFound})
}

func TestP9AvailableSpares(t *testing.T) {
	for _, s := range allTables() {
		for _, die := range around(4) {
			want := number{0, impl.ErrInvalid}
			switch {
			case !s.valid:
			case die < 0 || die >= s.t.Geo.Dies:
				want = number{0, impl.ErrRange}
			default:
				want = number{int64(len(freeOf(s.t, die))), impl.OK}
			}
			expect(t, "AvailableSpares, "+s.what, spareCount(s.t, die), want)
		}
	}
}

// TestP9OneDieExhausted retires blocks as the examples of chapter 7 do.
func TestP9OneDieExhausted(t *testing.T) {
	table := exampleTable()
	expect(t, "AvailableSpares of die 0", spareCount(table, 0), number{0, impl.OK})
	expect(t, "AvailableSpares of die 1", spareCount(table, 1), number{1, impl.OK})
	for _, block := range []int64{0, 2, 3} {
		expect(t, "code of RetireBlock on the exhausted die", retire(t, table, block).code, impl.ErrFull)
	}
	after := retire(t, table, 4)
	want := changedTable(table, func(t *impl.BadTable) { t.Bad, t.Remap[3] = []int64{1, 4}, 7 })
	expectTable(t, "RetireBlock on the other die", after, tableOutcome{want, impl.OK})
	expect(t, "AvailableSpares of die 1", spareCount(after.t, 1), number{0, impl.OK})
	for _, block := range []int64{0, 2, 3, 5, 6, 7} {
		expect(t, "code of RetireBlock on exhausted dies", retire(t, after.t, block).code, impl.ErrFull)
	}
	for _, block := range []int64{1, 4} {
		expect(t, "code of RetireBlock of a bad block", retire(t, after.t, block).code, impl.ErrState)
	}
}

// TestP9Spares retires spare blocks, available ones and those in use, and blocks twice.
func TestP9Spares(t *testing.T) {
	table := goodTable(smallGeometry, 2)
	unused := retire(t, table, 2)
	expectTable(t, "RetireBlock of an available spare block", unused, tableOutcome{changedTable(table, func(t *impl.BadTable) { t.Bad = []int64{2} }), impl.OK})
	expect(t, "code of retiring a spare block twice", retire(t, unused.t, 2).code, impl.ErrState)
	home := retire(t, unused.t, 1)
	expect(t, "PhysicalBlock after the home", physicalBlock(home.t, 1), number{3, impl.OK})
	expect(t, "code of retiring a home twice", retire(t, home.t, 1).code, impl.ErrState)
	expect(t, "code of retiring the last spare block", retire(t, home.t, 3).code, impl.ErrFull)
	moved := retire(t, table, 0)
	expect(t, "PhysicalBlock after the home", physicalBlock(moved.t, 0), number{2, impl.OK})
	again := retire(t, moved.t, 2)
	expect(t, "PhysicalBlock after the spare block", physicalBlock(again.t, 0), number{3, impl.OK})
	expect(t, "LogicalBlock of the next spare block", logicalBlock(again.t, 3), number{0, impl.OK})
	expect(t, "AvailableSpares", spareCount(again.t, 0), number{0, impl.OK})
	expect(t, "AvailableSpares of the other die", spareCount(again.t, 1), number{2, impl.OK})
}

// TestP9Order retires the same blocks in two orders, which lead to two mappings.
func TestP9Order(t *testing.T) {
	table := goodTable(smallGeometry, 2)
	first := retire(t, retire(t, table, 0).t, 1).t
	second := retire(t, retire(t, table, 1).t, 0).t
	expect(t, "blocks 0 and 1 retired in ascending order", reflect.DeepEqual(first.Remap[:2], []int64{2, 3}), true)
	expect(t, "blocks 0 and 1 retired in descending order", reflect.DeepEqual(second.Remap[:2], []int64{3, 2}), true)
	factory := newTable(t, smallGeometry, 2, []int64{0, 1}).t
	expect(t, "SameBadTable of the table from the factory", impl.SameBadTable(factory, first), true)
	expect(t, "SameBadTable of the other order", impl.SameBadTable(factory, second), false)
}

// numbersOf returns the numbers of a table in the order of the binary form.
func numbersOf(t impl.BadTable) []int64 {
	head := []int64{t.Geo.Dies, t.Geo.Blocks, t.Geo.Pages, t.Spare, int64(len(t.Bad))}
	return slices.Concat(head, t.Bad, t.Remap)
}

// withSum returns a string and its checksum.
func withSum(s string) string {
	return s + impl.EncodeFixed(impl.Checksum(s), 4)
}

// formOf returns the encodings of numbers and their checksum, or false if one of them is negative.
func formOf(numbers []int64) (string, bool) {
	form := ""
	for _, n := range numbers {
		if n < 0 {
			return "", false
		}
		form += impl.EncodeUvarint(n)
	}
	return withSum(form), true
}

// isCorrupt reports a string that is accepted as the binary form of a table.
func isCorrupt(t *testing.T, what string, s string) {
	t.Helper()
	table, code := impl.DecodeBadTable(s)
	expectTable(t, what, tableOutcome{table, code}, tableOutcome{code: impl.ErrCorrupt})
}

func TestP10RoundTrip(t *testing.T) {
	for _, s := range allTables() {
		form, ok := formOf(numbersOf(s.t))
		if !s.valid {
			expect(t, "EncodeBadTable, "+s.what, impl.EncodeBadTable(s.t), "")
			if ok {
				isCorrupt(t, "DecodeBadTable of an invalid table, "+s.what, form)
			}
			continue
		}
		expect(t, "EncodeBadTable, "+s.what, impl.EncodeBadTable(s.t), form)
		expectTable(t, "DecodeBadTable, "+s.what, callTable(t, "DecodeBadTable", impl.DecodeBadTable, form), tableOutcome{s.t, impl.OK})
	}
	form := withSum("\x02\x04\x08\x01\x01\x01\x00\x03\x02\x04\x05\x06")
	expect(t, "EncodeBadTable of the example", impl.EncodeBadTable(exampleTable()), form)
	expect(t, "size of the binary form", len(form), 16)
}

// TestP10Retired encodes the tables that arise from random sequences of retired blocks.
func TestP10Retired(t *testing.T) {
	r := rand.New(rand.NewSource(53))
	for _, g := range someGeometries {
		for spare := int64(1); spareIsValid(g, spare); spare++ {
			table := goodTable(g, spare)
			for range 200 {
				if after, code := impl.RetireBlock(table, r.Int63n(g.Dies*g.Blocks)); code == impl.OK {
					table = after
				}
				back, code := impl.DecodeBadTable(impl.EncodeBadTable(table))
				expectTable(t, "DecodeBadTable", tableOutcome{back, code}, tableOutcome{table, impl.OK})
			}
		}
	}
}

// TestP10OneByte changes each byte of binary forms to every other value.
func TestP10OneByte(t *testing.T) {
	for _, s := range validTables() {
		form := []byte(impl.EncodeBadTable(s.t))
		for i, b := range form {
			for n := range 255 {
				form[i] = b + 1 + byte(n)
				if _, code := impl.DecodeBadTable(string(form)); code != impl.ErrCorrupt {
					t.Fatalf("%s: byte %d changed to %d leads to code %d", s.what, i, form[i], code)
				}
			}
			form[i] = b
		}
	}
}

// TestP10OtherSizes cuts binary forms short and lengthens them, at the end and inside, with and
// without a checksum that fits.
func TestP10OtherSizes(t *testing.T) {
	isCorrupt(t, "DecodeBadTable of nothing", "")
	isCorrupt(t, "DecodeBadTable of the checksum of nothing", withSum(""))
	isCorrupt(t, "DecodeBadTable of zeros", strings.Repeat("\x00", 16))
	isCorrupt(t, "DecodeBadTable of ones", strings.Repeat("\xff", 16))
	for _, s := range validTables() {
		form := impl.EncodeBadTable(s.t)
		body := form[:len(form)-4]
		for i := range len(form) {
			isCorrupt(t, "DecodeBadTable of a cut form", form[:i])
			isCorrupt(t, "DecodeBadTable of the end of a form", form[i+1:])
			isCorrupt(t, "DecodeBadTable without a byte", form[:i]+form[i+1:])
			isCorrupt(t, "DecodeBadTable with one byte more", form[:i]+"\x00"+form[i:])
			isCorrupt(t, "DecodeBadTable with one byte twice", form[:i+1]+form[i:])
		}
		for i := range len(body) {
			isCorrupt(t, "DecodeBadTable of a cut form with its checksum", withSum(body[:i]))
		}
		for _, tail := range []string{"\x00", "\x01", "\xff", body, form, form[len(body):], strings.Repeat("\x00", 70000)} {
			isCorrupt(t, "DecodeBadTable of a lengthened form", form+tail)
			isCorrupt(t, "DecodeBadTable of a lengthened form with its checksum", withSum(body+tail))
		}
		isCorrupt(t, "DecodeBadTable with a longer checksum", body+impl.EncodeFixed(impl.Checksum(body), 8))
		isCorrupt(t, "DecodeBadTable with a shorter checksum", body+impl.EncodeFixed(impl.Checksum(body), 3))
		isCorrupt(t, "DecodeBadTable with a reversed checksum", body+string([]byte{form[len(form)-1], form[len(form)-2], form[len(form)-3], form[len(form)-4]}))
	}
}

// TestP10LongNumbers encodes single numbers of tables with more bytes than necessary, and replaces
// them with others; the checksum always fits.
func TestP10LongNumbers(t *testing.T) {
	others := []int64{0, 1, 2, 3, 4, 5, 7, 8, 9, 12, 13, 16, 36, 37, 127, 128, 130, 256, 65536, 1 << 31, 1 << 32, 1<<32 + 4, 1 << 62, math.MaxInt64 - 1, math.MaxInt64}
	for _, s := range validTables() {
		numbers := numbersOf(s.t)
		for i, n := range numbers {
			before, _ := formOf(numbers[:i])
			after, _ := formOf(numbers[i+1:])
			before, after = before[:len(before)-4], after[:len(after)-4]
			for zeros := range 11 {
				long := string([]byte{byte(n) | 0x80}) + strings.Repeat("\x80", zeros) + "\x00"
				isCorrupt(t, "DecodeBadTable of a form that is not minimal", withSum(before+long+after))
			}
			isCorrupt(t, "DecodeBadTable of a number that is too long", withSum(before+strings.Repeat("\xff", 9)+"\x01"+after))
			for _, other := range others {
				changed := slices.Clone(numbers)
				changed[i] = other
				form, _ := formOf(changed)
				table, code := impl.DecodeBadTable(form)
				want := tableOutcome{code: impl.ErrCorrupt}
				if other == n {
					want = tableOutcome{s.t, impl.OK}
				} else if again := tableOfNumbers(changed); tableIsValid(again) {
					want = tableOutcome{again, impl.OK}
				}
				expectTable(t, "DecodeBadTable of a changed number", tableOutcome{table, code}, want)
			}
		}
	}
}

// tableOfNumbers returns the table with the given numbers, or the zero table if there are too few or
// too many of them.
func tableOfNumbers(numbers []int64) impl.BadTable {
	t := impl.BadTable{Geo: impl.Geometry{Dies: numbers[0], Blocks: numbers[1], Pages: numbers[2]}, Spare: numbers[3]}
	rest := numbers[5:]
	if numbers[4] > int64(len(rest)) {
		return impl.BadTable{}
	}
	t.Bad, t.Remap = rest[:numbers[4]], rest[numbers[4]:]
	return t
}

// markBad marks the bad blocks of a table and checks the outcome.
func markBad(t *testing.T, f flashSample, s tableSample) outcome {
	t.Helper()
	want := outcome{code: impl.ErrInvalid}
	switch {
	case !f.valid || !s.valid:
	case f.f.Geo != s.t.Geo:
		want.code = impl.ErrState
	default:
		want = outcome{deepCopy(f.f), impl.OK}
		for _, block := range s.t.Bad {
			want.f.Blocks[block].Bad = true
		}
	}
	got, code := impl.MarkBadBlocks(f.f, s.t)
	expectOutcome(t, "MarkBadBlocks, "+f.what+", "+s.what, outcome{got, code}, want)
	return want
}

// TestP11Mark marks the bad blocks of all tables in all arrays, those of other geometries and invalid
// ones among them.
func TestP11Mark(t *testing.T) {
	arrays := append(validFlashes(), invalidFlashes()...)
	for _, s := range allTables() {
		for _, f := range arrays {
			got := markBad(t, f, s)
			if got.code != impl.OK {
				continue
			}
			for i, block := range got.f.Blocks {
				expect(t, "Bad after MarkBadBlocks", block.Bad, f.f.Blocks[i].Bad || slices.Contains(s.t.Bad, int64(i)))
			}
			again, code := impl.MarkBadBlocks(got.f, s.t)
			expectOutcome(t, "MarkBadBlocks twice", outcome{again, code}, got)
		}
	}
}

func TestP11MarkPurely(t *testing.T) {
	for _, s := range validTables() {
		f := busyFlash(s.t.Geo)
		f.Off = len(s.t.Bad) == 2
		got := callFlash(t, "MarkBadBlocks", impl.MarkBadBlocks, f, s.t)
		isFlashOk(t, "MarkBadBlocks", got)
		scanned := impl.ScanBadBlocks(got.f, 1001)
		expect(t, "ScanBadBlocks after MarkBadBlocks", slices.Equal(scanned, s.t.Bad), true)
	}
	marked := markBad(t, flashSample{"new", emptyFlash(smallGeometry), true}, tableSample{"example", exampleTable(), true})
	f := flashSample{"marked", marked.f, true}
	expect(t, "code of ProgramPage in a marked block", program(t, f, 1, 0, rawSample(1)).code, impl.ErrBad)
	expect(t, "code of EraseBlock of a marked block", erase(t, f, 1).code, impl.ErrBad)
	isFlashOk(t, "EraseBlock of another block", erase(t, f, 3))
}

// TestP11MarkGeometry marks blocks in arrays whose geometries differ in one number.
func TestP11MarkGeometry(t *testing.T) {
	table := tableSample{"no bad blocks", goodTable(impl.Geometry{Dies: 2, Blocks: 6, Pages: 8}, 1), true}
	for _, g := range []impl.Geometry{{Dies: 3, Blocks: 6, Pages: 8}, {Dies: 2, Blocks: 7, Pages: 8}, {Dies: 2, Blocks: 6, Pages: 16}, {Dies: 3, Blocks: 4, Pages: 8}} {
		got := markBad(t, flashSample{"another geometry", emptyFlash(g), true}, table)
		expect(t, "code of MarkBadBlocks", got.code, impl.ErrState)
	}
	isFlashOk(t, "MarkBadBlocks", markBad(t, flashSample{"the geometry", emptyFlash(table.t.Geo), true}, table))
}

func TestP11Scan(t *testing.T) {
	limits := append(slices.Clone(farInts), -1, 0, 1, 2, 3, 4, 5, 998, 999, 1000, 1001)
	for _, s := range append(validFlashes(), invalidFlashes()...) {
		for _, limit := range limits {
			var want []int64
			for i, block := range s.f.Blocks {
				if s.valid && (block.Bad || block.Erases >= limit) {
					want = append(want, int64(i))
				}
			}
			if got := impl.ScanBadBlocks(s.f, limit); !slices.Equal(got, want) {
				t.Fatalf("ScanBadBlocks of %s with the limit %d: got %v, want %v", s.what, limit, got, want)
			}
		}
	}
	f := emptyFlash(smallGeometry)
	f.Blocks[1].Bad, f.Blocks[2].Erases = true, 10
	expect(t, "ScanBadBlocks with a limit that is reached", slices.Equal(impl.ScanBadBlocks(f, 10), []int64{1, 2}), true)
	expect(t, "ScanBadBlocks with a limit that is not reached", slices.Equal(impl.ScanBadBlocks(f, 11), []int64{1}), true)
	expect(t, "ScanBadBlocks of an invalid array is nil", impl.ScanBadBlocks(impl.Flash{}, 0) == nil, true)
}
