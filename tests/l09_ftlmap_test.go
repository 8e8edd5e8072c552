package tests

import (
	"math"
	"math/big"
	"math/rand"
	"reflect"
	"slices"
	"testing"

	"loop.example/g00905/impl"
)

// mapSample is a map, whether it is valid, and what is special about it.
type mapSample struct {
	what  string
	m     impl.PageMap
	valid bool
}

// mapOutcome is a result of a function that returns a map and a code.
type mapOutcome struct {
	m    impl.PageMap
	code int64
}

// found is a result of a function that returns a page and whether there is one.
type found struct {
	n  int64
	ok bool
}

// mapSize is a number of blocks and of pages per block.
type mapSize struct {
	blocks, pages int64
}

// someSizes are valid sizes of maps, with the least and the greatest products.
var someSizes = []mapSize{{1, 1}, {1, 2}, {2, 1}, {3, 8}, {8, 8}, {36, 16}, {40, 16}, {16, 40}, {640, 1}, {1, 640}, {320, 2}, {2, 320}, {639, 1}, {1, 639}, {213, 3}}

// wrongSizes are sizes that no map has: their products are 0, negative or above MaxPhysical, some of
// them only if they are computed without overflow.
var wrongSizes = []mapSize{
	{0, 0}, {0, 8}, {8, 0}, {-1, 8}, {8, -1}, {-1, -1}, {-20, -32}, {0, 640}, {641, 1}, {1, 641}, {641, 0}, {33, 20}, {20, 33}, {27, 24}, {320, 3}, {641, 641},
	{1 << 32, 1 << 32}, {1 << 31, 1 << 33}, {1<<32 + 1, 1 << 32}, {1 << 62, 4}, {4, 1 << 62}, {1<<62 + 1, 4}, {1 << 61, 8}, {1<<61 + 1, 8}, {1<<63 - 1, 2},
	{math.MaxInt64, math.MaxInt64}, {math.MinInt64, math.MinInt64}, {math.MinInt64, 8}, {8, math.MinInt64}, {math.MinInt64, -1}, {-1, math.MinInt64},
	{math.MaxInt64, 1}, {1, math.MaxInt64}, {6148914691236517206, 3}, {3, 6148914691236517206}, {1 << 58, 64}, {1<<58 + 1, 64},
}

// sizeIsValid reports whether there are maps of a size, by the definition of chapter 9.
func sizeIsValid(blocks int64, pages int64) bool {
	product := new(big.Int).Mul(big.NewInt(blocks), big.NewInt(pages))
	return blocks >= 1 && pages >= 1 && product.Cmp(big.NewInt(640)) <= 0
}

// mapIsValid reports whether a map is valid, by the definition of chapter 9.
func mapIsValid(m impl.PageMap) bool {
	if !sizeIsValid(m.Blocks, m.Pages) || len(m.Map) != len(m.Trimmed) || len(m.Map) < 1 || len(m.Map) > 48 {
		return false
	}
	for i, phys := range m.Map {
		if phys == -1 && m.Trimmed[i] || phys < -1 || phys > m.Blocks*m.Pages-1 || phys != -1 && slices.Contains(m.Map[:i], phys) {
			return false
		}
	}
	return true
}

// emptyMap returns a map without records.
func emptyMap(logical int64, size mapSize) impl.PageMap {
	return impl.PageMap{Blocks: size.blocks, Pages: size.pages, Map: slices.Repeat([]int64{-1}, int(logical)), Trimmed: make([]bool, logical)}
}

// exampleMap returns the map of the examples of chapter 9.
func exampleMap() impl.PageMap {
	m := emptyMap(4, mapSize{3, 8})
	m.Map[2] = 9
	return m
}

// trimmedMap returns the example after logical page 2 was trimmed.
func trimmedMap() impl.PageMap {
	m := emptyMap(4, mapSize{3, 8})
	m.Map[2], m.Trimmed[2] = 10, true
	return m
}

// randomMap returns a valid map in which about half of the pages that may have a record have one.
func randomMap(r *rand.Rand, logical int64, size mapSize) impl.PageMap {
	m := emptyMap(logical, size)
	physical := r.Perm(int(size.blocks * size.pages))
	for i := range min(len(physical), int(logical)) {
		if r.Intn(3) > 0 {
			m.Map[i], m.Trimmed[i] = int64(physical[i]), r.Intn(3) == 0
		}
	}
	r.Shuffle(int(logical), func(i, j int) {
		m.Map[i], m.Map[j] = m.Map[j], m.Map[i]
		m.Trimmed[i], m.Trimmed[j] = m.Trimmed[j], m.Trimmed[i]
	})
	return m
}

// changedMap returns a copy of a map to which a change was made.
func changedMap(m impl.PageMap, change func(*impl.PageMap)) impl.PageMap {
	out := deepCopy(m)
	change(&out)
	return out
}

// validMaps returns maps of the least and greatest sizes, empty ones and full ones, with data and
// trim records on the first and last pages.
func validMaps() []mapSample {
	r := rand.New(rand.NewSource(91))
	list := []mapSample{{"example", exampleMap(), true}, {"trimmed", trimmedMap(), true}}
	for _, size := range someSizes {
		for _, logical := range []int64{1, 2, 47, 48} {
			list = append(list, mapSample{"no records", emptyMap(logical, size), true}, mapSample{"some records", randomMap(r, logical, size), true})
		}
	}
	add := func(what string, m impl.PageMap, change func(*impl.PageMap)) {
		list = append(list, mapSample{what, changedMap(m, change), true})
	}
	for _, size := range []mapSize{{6, 8}, {3, 16}, {1, 48}, {48, 1}} {
		full := emptyMap(48, size)
		for i := range full.Map {
			full.Map[i] = int64(47 - i)
		}
		add("full", full, func(*impl.PageMap) {})
		add("all trimmed", full, func(m *impl.PageMap) { m.Trimmed = slices.Repeat([]bool{true}, 48) })
		add("first and last page trimmed", full, func(m *impl.PageMap) { m.Trimmed[0], m.Trimmed[47] = true, true })
	}
	one := emptyMap(1, mapSize{1, 1})
	add("the only page", one, func(m *impl.PageMap) { m.Map[0] = 0 })
	add("the only page trimmed", one, func(m *impl.PageMap) { m.Map[0], m.Trimmed[0] = 0, true })
	for _, size := range []mapSize{{40, 16}, {640, 1}, {1, 640}} {
		add("last physical pages", emptyMap(48, size), func(m *impl.PageMap) { m.Map[0], m.Map[47], m.Trimmed[47] = 638, 639, true })
		add("first physical pages", emptyMap(48, size), func(m *impl.PageMap) { m.Map[47], m.Map[0], m.Trimmed[0] = 0, 1, true })
	}
	add("bounds of a block", emptyMap(6, mapSize{3, 8}), func(m *impl.PageMap) { m.Map = []int64{15, 16, 7, 8, 0, 23} })
	add("bounds of a block, trimmed", emptyMap(6, mapSize{3, 8}), func(m *impl.PageMap) {
		m.Map, m.Trimmed = []int64{15, 16, 7, 8, 0, 23}, []bool{true, false, false, true, false, true}
	})
	return list
}

// invalidMaps returns maps that are invalid for one reason each.
func invalidMaps() []mapSample {
	list := []mapSample{{"zero", impl.PageMap{}, false}}
	add := func(what string, m impl.PageMap, change func(*impl.PageMap)) {
		list = append(list, mapSample{what, changedMap(m, change), false})
	}
	for _, size := range wrongSizes {
		add("size", exampleMap(), func(m *impl.PageMap) { m.Blocks, m.Pages = size.blocks, size.pages })
		add("size, no records", emptyMap(4, mapSize{3, 8}), func(m *impl.PageMap) { m.Blocks, m.Pages = size.blocks, size.pages })
	}
	for _, logical := range []int64{0, 49, 50, 96, 1000} {
		add("number of logical pages", emptyMap(logical, mapSize{3, 8}), func(*impl.PageMap) {})
	}
	add("49 logical pages with records", emptyMap(49, mapSize{40, 16}), func(m *impl.PageMap) { m.Map[48] = 639 })
	for _, n := range append(farInts, 24, 25, 640) {
		add("physical page that does not exist", exampleMap(), func(m *impl.PageMap) { m.Map[0] = n })
		add("last physical page that does not exist", exampleMap(), func(m *impl.PageMap) { m.Map[3] = n })
		add("trim record that does not exist", exampleMap(), func(m *impl.PageMap) { m.Map[1], m.Trimmed[1] = n, true })
	}
	add("physical page twice", exampleMap(), func(m *impl.PageMap) { m.Map[0] = 9 })
	add("last physical page twice", exampleMap(), func(m *impl.PageMap) { m.Map[2], m.Map[3] = 23, 23 })
	add("first physical page twice", exampleMap(), func(m *impl.PageMap) { m.Map[0], m.Map[3] = 0, 0 })
	add("physical page twice, trimmed once", exampleMap(), func(m *impl.PageMap) { m.Map[3], m.Trimmed[3] = 9, true })
	add("physical page twice, trimmed first", trimmedMap(), func(m *impl.PageMap) { m.Map[3] = 10 })
	add("physical page twice, trimmed twice", trimmedMap(), func(m *impl.PageMap) { m.Map[3], m.Trimmed[3] = 10, true })
	for i := range 4 {
		add("trimmed without a record", emptyMap(4, mapSize{3, 8}), func(m *impl.PageMap) { m.Trimmed[i] = true })
	}
	add("no list of trim records", exampleMap(), func(m *impl.PageMap) { m.Trimmed = nil })
	add("short list of trim records", exampleMap(), func(m *impl.PageMap) { m.Trimmed = m.Trimmed[:3] })
	add("long list of trim records", exampleMap(), func(m *impl.PageMap) { m.Trimmed = append(m.Trimmed, false) })
	add("no list of physical pages", exampleMap(), func(m *impl.PageMap) { m.Map = nil })
	add("short list of physical pages", exampleMap(), func(m *impl.PageMap) { m.Map = m.Map[:3] })
	add("long list of physical pages", exampleMap(), func(m *impl.PageMap) { m.Map = append(m.Map, -1) })
	add("a block too few", emptyMap(2, mapSize{3, 8}), func(m *impl.PageMap) { m.Blocks, m.Map[1] = 2, 16 })
	add("a page per block too few", emptyMap(2, mapSize{3, 8}), func(m *impl.PageMap) { m.Pages, m.Map[1] = 7, 21 })
	return list
}

// allMaps returns valid and invalid maps.
func allMaps() []mapSample {
	return append(validMaps(), invalidMaps()...)
}

// sameMaps reports whether two maps are deeply equal, without the package.
func sameMaps(a impl.PageMap, b impl.PageMap) bool {
	return reflect.DeepEqual(deepCopy(a), deepCopy(b))
}

// expectMap ends the test if an outcome differs from the wanted one.
func expectMap(t *testing.T, what string, got mapOutcome, want mapOutcome) {
	t.Helper()
	if got.code != want.code || !sameMaps(got.m, want.m) {
		t.Fatalf("%s: got %+v, want %+v", what, got, want)
	}
}

// expectList ends the test if a list differs from the wanted one.
func expectList(t *testing.T, what string, got []int64, want []int64) {
	t.Helper()
	if !slices.Equal(got, want) {
		t.Fatalf("%s: got %v, want %v", what, got, want)
	}
}

// callMap calls a function that returns a map and a code, and checks promise 1 for the call.
func callMap(t *testing.T, name string, function any, args ...any) mapOutcome {
	t.Helper()
	var values []reflect.Value
	for _, arg := range args {
		values = append(values, reflect.ValueOf(arg))
	}
	results := callPurely(t, name, reflect.ValueOf(function), values)
	return mapOutcome{results[0].Interface().(impl.PageMap), results[1].Interface().(int64)}
}

// wantSetPage returns the outcome that chapter 9 requires of SetPage.
func wantSetPage(m impl.PageMap, lpn int64, phys int64, trim bool) mapOutcome {
	switch {
	case !mapIsValid(m):
		return mapOutcome{code: impl.ErrInvalid}
	case lpn < 0 || lpn >= int64(len(m.Map)) || phys < 0 || phys >= m.Blocks*m.Pages:
		return mapOutcome{code: impl.ErrRange}
	}
	for other, page := range m.Map {
		if page == phys && int64(other) != lpn {
			return mapOutcome{code: impl.ErrState}
		}
	}
	out := deepCopy(m)
	out.Map[lpn], out.Trimmed[lpn] = phys, trim
	return mapOutcome{out, impl.OK}
}

// wantPhysOf returns the result that chapter 9 requires of PhysOf.
func wantPhysOf(m impl.PageMap, lpn int64) found {
	if !mapIsValid(m) || lpn < 0 || lpn >= int64(len(m.Map)) || m.Map[lpn] == -1 || m.Trimmed[lpn] {
		return found{}
	}
	return found{m.Map[lpn], true}
}

// wantLogicalAt returns the result that chapter 9 requires of LogicalAt.
func wantLogicalAt(m impl.PageMap, phys int64) found {
	if at := slices.Index(m.Map, phys); mapIsValid(m) && phys >= 0 && at >= 0 {
		return found{int64(at), true}
	}
	return found{}
}

// wantLiveIn returns the result that chapter 9 requires of LiveIn.
func wantLiveIn(m impl.PageMap, block int64) []int64 {
	if !mapIsValid(m) || block < 0 || block >= m.Blocks {
		return nil
	}
	var list []int64
	for lpn, phys := range m.Map {
		if phys >= 0 && phys/m.Pages == block {
			list = append(list, int64(lpn))
		}
	}
	slices.SortFunc(list, func(a, b int64) int { return int(m.Map[a] - m.Map[b]) })
	return list
}

// wantMapped returns the result that chapter 9 requires of MappedPages.
func wantMapped(m impl.PageMap) []int64 {
	var list []int64
	for lpn := range int64(len(m.Map)) {
		if wantPhysOf(m, lpn).ok {
			list = append(list, lpn)
		}
	}
	return list
}

func physOf(m impl.PageMap, lpn int64) found {
	n, ok := impl.PhysOf(m, lpn)
	return found{n, ok}
}

func logicalAt(m impl.PageMap, phys int64) found {
	n, ok := impl.LogicalAt(m, phys)
	return found{n, ok}
}

// setPage sets a page and checks the outcome.
func setPage(t *testing.T, m impl.PageMap, lpn int64, phys int64, trim bool) mapOutcome {
	t.Helper()
	out, code := impl.SetPage(m, lpn, phys, trim)
	got := mapOutcome{out, code}
	expectMap(t, "SetPage", got, wantSetPage(m, lpn, phys, trim))
	return got
}

// checkLookups compares all lookups in a map with the definitions.
func checkLookups(t *testing.T, s mapSample) {
	t.Helper()
	for lpn := int64(-2); lpn < 50; lpn++ {
		expect(t, "PhysOf, "+s.what, physOf(s.m, lpn), wantPhysOf(s.m, lpn))
	}
	for phys := int64(-2); phys < 642; phys++ {
		expect(t, "LogicalAt, "+s.what, logicalAt(s.m, phys), wantLogicalAt(s.m, phys))
	}
	for block := int64(-2); block < min(s.m.Blocks, 640)+2; block++ {
		want := wantLiveIn(s.m, block)
		expectList(t, "LiveIn, "+s.what, impl.LiveIn(s.m, block), want)
		expect(t, "LivePages, "+s.what, impl.LivePages(s.m, block), int64(len(want)))
	}
	for _, n := range farInts {
		expect(t, "PhysOf, "+s.what, physOf(s.m, n), found{})
		expect(t, "LogicalAt, "+s.what, logicalAt(s.m, n), found{})
		expectList(t, "LiveIn, "+s.what, impl.LiveIn(s.m, n), nil)
		expect(t, "LivePages, "+s.what, impl.LivePages(s.m, n), 0)
	}
	expectList(t, "MappedPages, "+s.what, impl.MappedPages(s.m), wantMapped(s.m))
}

// checkInverse checks promise 16 for a valid map: the lookups in both directions fit together, and the
// live pages of all blocks are all records.
func checkInverse(t *testing.T, m impl.PageMap) {
	t.Helper()
	live := map[int64]bool{}
	for block := range m.Blocks {
		list := impl.LiveIn(m, block)
		expect(t, "LivePages", impl.LivePages(m, block), int64(len(list)))
		previous := int64(-1)
		for _, lpn := range list {
			phys := m.Map[lpn]
			if phys/m.Pages != block || phys <= previous {
				t.Fatalf("LiveIn(%d) = %v: %+v", block, list, m)
			}
			expect(t, "LogicalAt of a live page", logicalAt(m, phys), found{lpn, true})
			previous = phys
			live[lpn] = true
		}
	}
	data := impl.MappedPages(m)
	for lpn := range int64(len(m.Map)) {
		expect(t, "logical page is in LiveIn", live[lpn], m.Map[lpn] != -1)
		phys := physOf(m, lpn)
		expect(t, "PhysOf is true", phys.ok, live[lpn] && !m.Trimmed[lpn])
		expect(t, "logical page is in MappedPages", slices.Contains(data, lpn), phys.ok)
		if phys.ok {
			expect(t, "LogicalAt of PhysOf", logicalAt(m, phys.n), found{lpn, true})
		}
	}
}

func TestP16Constants(t *testing.T) {
	expect(t, "MaxLogical", impl.MaxLogical, 48)
	expect(t, "MaxPhysical", impl.MaxPhysical, 640)
}

func TestP16ValidMap(t *testing.T) {
	for _, s := range allMaps() {
		expect(t, "definition of a valid map, "+s.what, mapIsValid(s.m), s.valid)
		expect(t, "ValidMap, "+s.what, impl.ValidMap(s.m), s.valid)
	}
}

// TestP16ValidChanges changes each field of valid maps.
func TestP16ValidChanges(t *testing.T) {
	check := func(m impl.PageMap) {
		if got, want := impl.ValidMap(m), mapIsValid(m); got != want {
			t.Fatalf("ValidMap(%+v) = %v", m, got)
		}
	}
	for _, s := range validMaps() {
		numbers := append(around(50), 638, 639, 640, 641)
		for _, n := range numbers {
			for i := range s.m.Map {
				check(changedMap(s.m, func(m *impl.PageMap) { m.Map[i] = n }))
			}
			check(changedMap(s.m, func(m *impl.PageMap) { m.Blocks = n }))
			check(changedMap(s.m, func(m *impl.PageMap) { m.Pages = n }))
			check(changedMap(s.m, func(m *impl.PageMap) { m.Map, m.Trimmed = append(m.Map, n), append(m.Trimmed, false) }))
			check(changedMap(s.m, func(m *impl.PageMap) { m.Map, m.Trimmed = append(m.Map, n), append(m.Trimmed, true) }))
		}
		for i := range s.m.Map {
			check(changedMap(s.m, func(m *impl.PageMap) { m.Trimmed[i] = !m.Trimmed[i] }))
			check(changedMap(s.m, func(m *impl.PageMap) { m.Map = slices.Delete(m.Map, i, i+1) }))
			check(changedMap(s.m, func(m *impl.PageMap) {
				m.Map, m.Trimmed = slices.Delete(m.Map, i, i+1), slices.Delete(m.Trimmed, i, i+1)
			}))
		}
	}
}

// TestP16AllSizes makes maps of all sizes with at most 700 blocks and pages per block.
func TestP16AllSizes(t *testing.T) {
	for blocks := int64(-1); blocks <= 700; blocks++ {
		for pages := int64(-1); pages <= 700; pages++ {
			want := blocks >= 1 && pages >= 1 && blocks*pages <= 640
			m, code := impl.NewMap(1, blocks, pages)
			if (code == impl.OK) != want || want && m.Blocks*m.Pages != blocks*pages || impl.ValidMap(m) != want {
				t.Fatalf("NewMap(1, %d, %d) = %+v, %d", blocks, pages, m, code)
			}
		}
	}
}

func TestP16NewMap(t *testing.T) {
	sizes := slices.Concat(someSizes, wrongSizes)
	for _, logical := range append(around(50), 96, 640) {
		for _, size := range sizes {
			want := mapOutcome{code: impl.ErrRange}
			if logical >= 1 && logical <= 48 && sizeIsValid(size.blocks, size.pages) {
				want = mapOutcome{emptyMap(logical, size), impl.OK}
			}
			got := callMap(t, "NewMap", impl.NewMap, logical, size.blocks, size.pages)
			expectMap(t, "NewMap", got, want)
			if got.code == impl.OK {
				expect(t, "ValidMap of NewMap", impl.ValidMap(got.m), true)
				expectList(t, "MappedPages of NewMap", impl.MappedPages(got.m), nil)
			}
		}
	}
	m, code := impl.NewMap(4, 3, 8)
	expectMap(t, "example", mapOutcome{m, code}, mapOutcome{emptyMap(4, mapSize{3, 8}), impl.OK})
}

func TestP16SameMap(t *testing.T) {
	samples := allMaps()
	for i, a := range samples {
		expect(t, "SameMap of a copy", impl.SameMap(a.m, deepCopy(a.m)), true)
		for _, b := range samples[:i] {
			want := sameMaps(a.m, b.m)
			expect(t, "SameMap", impl.SameMap(a.m, b.m), want)
			expect(t, "SameMap", impl.SameMap(b.m, a.m), want)
		}
	}
	for _, change := range []func(*impl.PageMap){
		func(m *impl.PageMap) { m.Blocks++ }, func(m *impl.PageMap) { m.Pages++ }, func(m *impl.PageMap) { m.Blocks, m.Pages = m.Pages, m.Blocks },
		func(m *impl.PageMap) { m.Map = nil }, func(m *impl.PageMap) { m.Map[0]++ }, func(m *impl.PageMap) { m.Map[3]-- }, func(m *impl.PageMap) { m.Map = m.Map[:3] },
		func(m *impl.PageMap) { m.Map = append(m.Map, -1) }, func(m *impl.PageMap) { m.Trimmed = nil }, func(m *impl.PageMap) { m.Trimmed[0] = true },
		func(m *impl.PageMap) { m.Trimmed[2] = true }, func(m *impl.PageMap) { m.Trimmed = m.Trimmed[:3] }, func(m *impl.PageMap) { m.Trimmed = append(m.Trimmed, false) },
		func(m *impl.PageMap) { slices.Reverse(m.Map) },
	} {
		expect(t, "SameMap of a changed copy", impl.SameMap(exampleMap(), changedMap(exampleMap(), change)), false)
		expect(t, "SameMap of a changed copy", impl.SameMap(changedMap(exampleMap(), change), exampleMap()), false)
	}
	expect(t, "SameMap of nil and empty lists", impl.SameMap(impl.PageMap{}, impl.PageMap{Map: []int64{}, Trimmed: []bool{}}), true)
	expect(t, "SameMap of empty and nil lists", impl.SameMap(impl.PageMap{Map: []int64{}, Trimmed: []bool{}}, impl.PageMap{}), true)
}

func TestP16Lookups(t *testing.T) {
	for _, s := range allMaps() {
		checkLookups(t, s)
		if s.valid {
			checkInverse(t, s.m)
		}
	}
	expect(t, "PhysOf of the example", physOf(exampleMap(), 2), found{9, true})
	expect(t, "LogicalAt of the example", logicalAt(exampleMap(), 9), found{2, true})
	expectList(t, "LiveIn of the example", impl.LiveIn(exampleMap(), 1), []int64{2})
	expectList(t, "MappedPages of the example", impl.MappedPages(exampleMap()), []int64{2})
}

// TestP16Trimmed looks a trim record up: it is live, but no data.
func TestP16Trimmed(t *testing.T) {
	m := setPage(t, exampleMap(), 2, 10, true).m
	expectMap(t, "trimmed example", mapOutcome{m, impl.OK}, mapOutcome{trimmedMap(), impl.OK})
	expect(t, "PhysOf of a trimmed page", physOf(m, 2), found{})
	expect(t, "LogicalAt of a trim record", logicalAt(m, 10), found{2, true})
	expect(t, "LogicalAt of the page before", logicalAt(m, 9), found{})
	expect(t, "LivePages with a trim record", impl.LivePages(m, 1), 1)
	expectList(t, "LiveIn with a trim record", impl.LiveIn(m, 1), []int64{2})
	expectList(t, "MappedPages with a trim record", impl.MappedPages(m), nil)
	expect(t, "code of SetPage with the page of a trim record", setPage(t, m, 1, 10, false).code, impl.ErrState)
	expect(t, "code of SetPage with a trim record and the page of a trim record", setPage(t, m, 1, 10, true).code, impl.ErrState)
	again := setPage(t, m, 2, 10, false).m
	expect(t, "PhysOf of a page that is no longer trimmed", physOf(again, 2), found{10, true})
}

// someBelow returns the integers from two below 0 to two above size, but only about 50 of them, among
// them the first and the last ones.
func someBelow(size int64) []int64 {
	list := []int64{-2, -1, 0, 1, size - 2, size - 1, size, size + 1}
	for n := int64(2); n < size; n += 1 + size/50 {
		list = append(list, n)
	}
	return list
}

// TestP16SetAll sets logical pages to physical pages, live ones and those beside the bounds among them.
func TestP16SetAll(t *testing.T) {
	for _, s := range allMaps() {
		physical := s.m.Blocks * s.m.Pages
		if !s.valid {
			physical = 24
		}
		for _, lpn := range []int64{-2, -1, 0, 1, 2, 3, 4, 5, 46, 47, 48, 49} {
			for _, phys := range slices.Concat(someBelow(physical), s.m.Map) {
				trim := (lpn+phys)%2 == 0
				got := setPage(t, s.m, lpn, phys, trim)
				if got.code == impl.OK {
					expect(t, "number of changed pages", changedLogical(s.m, got.m) <= 1, true)
				}
			}
		}
	}
	for _, m := range []impl.PageMap{exampleMap(), trimmedMap()} {
		for lpn := int64(-1); lpn < 5; lpn++ {
			for phys := int64(-1); phys < 25; phys++ {
				for _, trim := range []bool{false, true} {
					got := callMap(t, "SetPage", impl.SetPage, m, lpn, phys, trim)
					expectMap(t, "SetPage", got, wantSetPage(m, lpn, phys, trim))
				}
			}
		}
	}
}

// changedLogical returns the number of logical pages whose records differ in two maps.
func changedLogical(a impl.PageMap, b impl.PageMap) int {
	n := 0
	for i := range a.Map {
		if a.Map[i] != b.Map[i] || a.Trimmed[i] != b.Trimmed[i] {
			n++
		}
	}
	return n
}

// TestP16SetErrors combines the reasons of errors: the first one of them is returned.
func TestP16SetErrors(t *testing.T) {
	twice := changedMap(exampleMap(), func(m *impl.PageMap) { m.Map[0] = 9 })
	for _, n := range append(farInts, -1, 24, 48, 640) {
		for _, trim := range []bool{false, true} {
			expect(t, "code of SetPage with no logical page", setPage(t, exampleMap(), n, 3, trim).code, impl.ErrRange)
			expect(t, "code of SetPage with no physical page", setPage(t, exampleMap(), 1, n, trim).code, impl.ErrRange)
			expect(t, "code of SetPage with no logical and no physical page", setPage(t, exampleMap(), n, n, trim).code, impl.ErrRange)
			expect(t, "code of SetPage with no logical page and a live page", setPage(t, exampleMap(), n, 9, trim).code, impl.ErrRange)
			expect(t, "code of SetPage in an invalid map", setPage(t, twice, n, n, trim).code, impl.ErrInvalid)
			expect(t, "code of SetPage in the zero map", setPage(t, impl.PageMap{}, n, n, trim).code, impl.ErrInvalid)
		}
	}
	expect(t, "code of SetPage with a live page in an invalid map", setPage(t, twice, 1, 9, false).code, impl.ErrInvalid)
	expect(t, "code of SetPage with the live page of another logical page", setPage(t, exampleMap(), 1, 9, false).code, impl.ErrState)
	expect(t, "code of SetPage with its live page", setPage(t, exampleMap(), 2, 9, false).code, impl.OK)
	expect(t, "code of SetPage with its live page as a trim record", setPage(t, exampleMap(), 2, 9, true).code, impl.OK)
	expect(t, "code of SetPage with the page that was live before", setPage(t, trimmedMap(), 1, 9, false).code, impl.OK)
	last := emptyMap(48, mapSize{40, 16})
	expect(t, "code of SetPage with the last pages", setPage(t, last, 47, 639, false).code, impl.OK)
	expect(t, "code of SetPage with the first pages", setPage(t, last, 0, 0, true).code, impl.OK)
	expect(t, "code of SetPage behind the last logical page", setPage(t, last, 48, 639, false).code, impl.ErrRange)
	expect(t, "code of SetPage behind the last physical page", setPage(t, last, 47, 640, false).code, impl.ErrRange)
}

// TestP16Walk sets random pages and keeps the record of each physical page beside the map.
func TestP16Walk(t *testing.T) {
	r := rand.New(rand.NewSource(92))
	for _, size := range someSizes {
		for _, logical := range []int64{1, 5, 48} {
			m := emptyMap(logical, size)
			owner := map[int64]int64{}
			for step := range 120 {
				lpn, phys, trim := r.Int63n(logical), r.Int63n(size.blocks*size.pages), r.Intn(3) == 0
				got := setPage(t, m, lpn, phys, trim)
				other, live := owner[phys]
				if live && other != lpn {
					expect(t, "code of SetPage with a live page", got.code, impl.ErrState)
					continue
				}
				expect(t, "code of SetPage", got.code, impl.OK)
				delete(owner, m.Map[lpn])
				owner[phys] = lpn
				m = got.m
				if step%20 == 0 {
					checkLookups(t, mapSample{"walk", m, true})
					checkInverse(t, m)
				}
			}
		}
	}
}
