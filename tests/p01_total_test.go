package tests

import (
	"cmp"
	"math"
	"math/rand"
	"reflect"
	"slices"
	"strings"
	"testing"

	"loop.example/g00905/impl"
)

// edgeInts are integers at and around the limits of the chapters, and the extreme ones.
var edgeInts = []int64{
	math.MinInt64, math.MinInt64 + 1, -65536, -256, -2, -1, 0, 1, 2, 3, 6, 7, 8, 9, 10, 11, 12, 16, 47, 48, 49, 63, 64,
	70, 71, 72, 73, 90, 91, 92, 127, 128, 255, 256, 257, 300, 640, 641, 16383, 16384, 65533, 65534, 65535, 65536, 65537,
	727, 728, 1000000, 1000001, 1 << 31, 1 << 32, math.MaxInt64 - 1, math.MaxInt64,
}

// edgeStrings are strings that are empty, malformed, not UTF-8, or at and around the limits of the
// chapters.
func edgeStrings() []string {
	list := []string{
		"", "\x00", "\x80", "\xff", "\x80\x00", "\xac\x02z", "\x03abcd", "\x03ab", "é世\xff\xfe",
		"123456789", "codeword", "0", "01", "10", strings.Repeat("01", 32), "\xff\xff\xff\xff\xff\xff\xff\xff\x7f",
		"\xff\xff\xff\xff\xff\xff\xff\xff\x7fabc", "\x80\x80\x80\x80\x80\x80\x80\x80\x80\x01",
	}
	for _, size := range []int{7, 8, 9, 10, 15, 16, 17, 63, 64, 65, 90, 91, 92, 127, 128, 255, 256, 257, 264, 70000} {
		list = append(list, strings.Repeat("\xff", size), strings.Repeat("\x80", size))
	}
	table, _ := formOf(numbersOf(exampleTable()))
	for _, m := range []impl.PageMeta{someMetas[0], someMetas[8], damagedMetas[0]} {
		list = append(list, rawMeta(m), rawMeta(m)+"\x00")
	}
	for _, h := range []impl.Header{{Kind: impl.HdData}, {Kind: impl.HdParity, Zone: 11, Row: 15, Unit: 3, Index: 65535, Size: 127}, {Kind: 1}} {
		list = append(list, rawHeader(h, strings.Repeat("\xff", 64)))
	}
	for _, c := range edgeCheckpoints() {
		form, _ := formOf(numbersOfCheckpoint(c))
		list = append(list, form)
	}
	list = append(list, "a", "b", "b\x00", "c", "put 5 6b 76", "put 05 6b 76", "delete 7 6b -", "range 2 61 6263", "range 2 62 61")
	for _, r := range []impl.Record{someRecords[0], someRecords[3], someRecords[7], someRecords[12], damagedRecords[1], damagedRecords[3]} {
		list = append(list, rawRecord(r), rawRecord(r)+"\x00")
	}
	return append(list, sealedByDefinition(strings.Repeat("codeword", 8), "spare bytes 0123", 7),
		table, withSum(table), "bit 1 2 3\ncut 7 30\n", "bit 01 2 3\n", "block 3", "block 9223372036854775808\n", strings.Repeat("block 3\n", 41))
}

// edgeIntLists are lists that are empty, not increasing, with elements out of every bound, or too
// long.
var edgeIntLists = [][]int64{
	nil, {}, {0}, {1}, {1, 4}, {3, 7}, {0, 3}, {0, 1, 2, 3, 4, 5, 6, 7}, {35}, {71}, {72}, {-1}, {math.MinInt64}, {math.MaxInt64}, {0, 71}, {3, 40, 66}, {66, 40, 3},
	{5, 5}, {64, 65, 66}, {69, 70, 71}, {70, 71, 72}, {0, 1, 2, 3}, {math.MinInt64, 0, math.MaxInt64},
	make([]int64, 1000),
}

// edgeStringLists are lists of strings that are empty, too long, or of equal or different lengths.
func edgeStringLists() [][]string {
	long := strings.Repeat("u", 256)
	return [][]string{
		nil, {}, {""}, {"a"}, {"ab", "cd", "ef"}, {"", "", ""}, {"ab", "c"}, {"a", "bc"}, {long},
		{long, long}, {long + "u"}, {"ab", long + "u"}, slices.Repeat([]string{"codeword"}, 8),
		slices.Repeat([]string{"codeword"}, 9), slices.Repeat([]string{long}, 8), make([]string, 1000),
	}
}

// withSpare returns a slice of the same elements with unused capacity that is not zero.
func withSpare[T any](list []T, spare T) []T {
	room := append(slices.Clone(list), spare, spare, spare)
	return room[:len(list)]
}

// maxLists is the number of argument lists with which a function is called at most.
const maxLists = 25000

// edgeGeometries are geometries at and around the limits, and some whose product overflows.
var edgeGeometries = []impl.Geometry{
	{}, {Dies: 2, Blocks: 4, Pages: 8}, {Dies: 3, Blocks: 12, Pages: 16}, {Dies: 2, Blocks: 4, Pages: 12}, {Dies: 1, Blocks: 4, Pages: 8},
	{Dies: 4, Blocks: 4, Pages: 8}, {Dies: 2, Blocks: 3, Pages: 8}, {Dies: 2, Blocks: 13, Pages: 8}, {Dies: -2, Blocks: -4, Pages: 8},
	{Dies: 1 << 32, Blocks: 1 << 32, Pages: 8}, {Dies: math.MaxInt64, Blocks: math.MaxInt64, Pages: math.MaxInt64},
	{Dies: math.MinInt64, Blocks: math.MinInt64, Pages: math.MinInt64},
}

// spareFlash returns a copy of an array whose slices have unused capacity.
func spareFlash(f impl.Flash) impl.Flash {
	f = deepCopy(f)
	f.Blocks = withSpare(f.Blocks, impl.Block{Erases: 12345})
	for i := range f.Blocks {
		f.Blocks[i].Pages = withSpare(f.Blocks[i].Pages, "spare")
	}
	return f
}

// edgeFlashes returns valid and invalid arrays whose slices have unused capacity.
func edgeFlashes() []impl.Flash {
	var list []impl.Flash
	for _, s := range append(validFlashes(), invalidFlashes()...) {
		list = append(list, spareFlash(s.f))
	}
	return list
}

// edgeTables returns valid and invalid tables whose slices have unused capacity.
func edgeTables() []impl.BadTable {
	var list []impl.BadTable
	for _, s := range allTables() {
		s.t.Bad = withSpare(s.t.Bad, 12345)
		s.t.Remap = withSpare(s.t.Remap, 12345)
		list = append(list, s.t)
	}
	return list
}

// someFaults are valid faults and invalid ones of each kind.
var someFaults = []impl.Fault{
	{}, bitFault(7, 7, 727), bitFault(8, 0, 0), bitFault(35, 15, 0), bitFault(0, 8, 0), bitFault(0, 0, 728), bitFault(-1, -1, -1),
	disturbFault(1, 0, 9), disturbFault(1, 16, 9), retentionFault(4, 725), retentionFault(math.MaxInt64, math.MaxInt64), blockFault(0), blockFault(12),
	cutFault(0, 0), cutFault(1000000, 91), cutFault(1000001, 92), cutFault(-1, 0), {Kind: impl.FaultRetention, Page: 1}, {Kind: impl.FaultBlock, Bit: 1}, {Kind: impl.FaultCut, Block: 1},
	{Kind: 6}, {Kind: math.MinInt64, Block: math.MinInt64, Page: math.MinInt64, Bit: math.MinInt64},
}

// edgeScripts returns lists of faults that are scripts, and some that are too long or have an invalid
// fault, with unused capacity.
func edgeScripts() [][]impl.Fault {
	r := rand.New(rand.NewSource(42))
	list := [][]impl.Fault{nil, {}, someFaults}
	for _, x := range someFaults {
		list = append(list, []impl.Fault{x}, []impl.Fault{blockFault(3), x})
	}
	for _, size := range []int{2, 39, 40, 41, 1000} {
		list = append(list, randomScript(r, smallGeometry, size, 5), randomScript(r, smallGeometry, size, 1))
	}
	for i := range list {
		list[i] = withSpare(list[i], blockFault(7))
	}
	return list
}

// edgeMaps returns some of the valid and invalid maps, with unused capacity.
func edgeMaps() []impl.PageMap {
	var list []impl.PageMap
	for i, s := range allMaps() {
		if i%3 == 0 || len(s.m.Map) < 5 && i%2 == 0 {
			s.m.Map = withSpare(s.m.Map, 12345)
			s.m.Trimmed = withSpare(s.m.Trimmed, true)
			list = append(list, s.m)
		}
	}
	return list
}

// edgeCheckpoints returns checkpoints with valid and invalid maps.
func edgeCheckpoints() []impl.Checkpoint {
	var list []impl.Checkpoint
	for i, m := range edgeMaps() {
		seqs := []int64{0, 1, 5, 1000000, 3, 1000001, 6, -1}
		list = append(list, impl.Checkpoint{Seq: seqs[i%len(seqs)], Map: m})
	}
	return list
}

// edgeFounds returns valid and invalid lists of pages, with unused capacity.
func edgeFounds() [][]impl.Found {
	var list [][]impl.Found
	for _, s := range allLists() {
		list = append(list, withSpare(s.list, impl.Found{Phys: 12345}))
	}
	return list
}

// edgeStats returns valid and invalid lists of statistics, with unused capacity.
func edgeStats() [][]impl.BlockStat {
	var list [][]impl.BlockStat
	for _, s := range allStats() {
		list = append(list, withSpare(s.list, impl.BlockStat{Live: 12345}))
	}
	return list
}

// edgeFlags returns lists of booleans, some with one element for each block of a map, with unused
// capacity.
func edgeFlags() [][]bool {
	r := rand.New(rand.NewSource(43))
	list := [][]bool{nil, {}}
	for _, size := range []int64{1, 2, 3, 8, 36, 40, 639, 640, 641} {
		list = append(list, make([]bool, size), randomFlags(r, size))
	}
	for i := range list {
		list[i] = withSpare(list[i], true)
	}
	return list
}

// edgeHeats returns valid and invalid counters, with unused capacity.
func edgeHeats() []impl.Heat {
	var list []impl.Heat
	for _, s := range allHeats() {
		s.h.Counts = withSpare(s.h.Counts, 12345)
		list = append(list, s.h)
	}
	return list
}

// edgeLayers returns some of the valid and invalid layers, with unused capacity.
func edgeLayers() []impl.FTL {
	var list []impl.FTL
	for i, s := range allLayers() {
		if i%4 == 0 {
			s.f = deepCopy(s.f)
			s.f.Flash = spareFlash(s.f.Flash)
			s.f.Map.Map, s.f.Map.Trimmed = withSpare(s.f.Map.Map, 12345), withSpare(s.f.Map.Trimmed, true)
			s.f.Heat.Counts = withSpare(s.f.Heat.Counts, 12345)
			s.f.Open, s.f.Last = withSpare(s.f.Open, 12345), withSpare(s.f.Last, 12345)
			list = append(list, s.f)
		}
	}
	return list
}

// edgeActLists returns lists of operations that can be played, and some that are too long or have an invalid
// one, with unused capacity.
func edgeActLists() [][]impl.FtlAct {
	r := rand.New(rand.NewSource(44))
	list := [][]impl.FtlAct{nil, {}, edgeActs()}
	for _, size := range []int{1, 2, 20, 59, 60, 61, 200} {
		acts := randomActs(r, 48, size, 1)
		broken := slices.Clone(acts)
		broken[size/2] = impl.FtlAct{Kind: impl.FaTrim}
		list = append(list, acts, broken, randomActs(r, 4, size, 1))
	}
	for i := range list {
		for j := range list[i] {
			list[i][j].Lpns, list[i][j].Data = withSpare(list[i][j].Lpns, 12345), withSpare(list[i][j].Data, "spare")
		}
		list[i] = withSpare(list[i], syncAct)
	}
	return list
}

// edgeWears returns valid and invalid states of blocks, with unused capacity.
func edgeWears() []impl.Wear {
	var list []impl.Wear
	for _, s := range allWears() {
		s.w.Erases, s.w.Bad, s.w.Content = withSpare(s.w.Erases, 12345), withSpare(s.w.Bad, true), withSpare(s.w.Content, 12345)
		list = append(list, s.w)
	}
	return list
}

// edgeCells returns some of the valid and invalid lists of cells, with unused capacity.
func edgeCells() []impl.Cells {
	var list []impl.Cells
	for i, s := range allCells() {
		if i%5 == 0 || !s.valid {
			list = append(list, impl.Cells{Charge: withSpare(s.c.Charge, 12345)})
		}
	}
	return list
}

// edgeWipes returns valid and invalid lists of blocks to be erased, with unused capacity.
func edgeWipes() []impl.Wipe {
	var list []impl.Wipe
	for _, w := range someWipes() {
		list = append(list, impl.Wipe{Blocks: withSpare(w.Blocks, 12345), Done: w.Done})
	}
	return list
}

// spareSlices returns a copy of a device whose slices have unused capacity.
func spareSlices(d impl.Device) impl.Device {
	d = impl.Device{Flash: spareFlash(d.Flash), Zones: withSpare(d.Zones, impl.Zone{State: 12345})}
	for z := range d.Zones {
		zone := &d.Zones[z]
		zone.Blocks, zone.Rows, zone.Buffer = withSpare(zone.Blocks, 12345), withSpare(zone.Rows, 12345), withSpare(zone.Buffer, "spare")
	}
	return d
}

// edgeDevices returns some of the valid and invalid devices, with unused capacity.
func edgeDevices() []impl.Device {
	var list []impl.Device
	for i, s := range allDevices() {
		if i%8 == 0 {
			list = append(list, spareSlices(s.d))
		}
	}
	return list
}

// edgeRecordLists returns runs, memtables, and lists that are neither, with unused capacity.
func edgeRecordLists() [][]impl.Record {
	list := [][]impl.Record{withSpare(slices.Concat(someRecords, damagedRecords), putAt(9, "spare", ""))}
	for _, s := range memSamples() {
		list = append(list, withSpare(s.list, putAt(9, "spare", "")))
	}
	return list
}

// valuesOf returns the elements of a list.
func valuesOf[T any](list []T) []reflect.Value {
	var values []reflect.Value
	for _, v := range list {
		values = append(values, reflect.ValueOf(v))
	}
	return values
}

// edgeValues returns the edge values of a type of parameters. Each call returns new memory.
func edgeValues(t *testing.T, kind reflect.Type) []reflect.Value {
	t.Helper()
	switch kind {
	case reflect.TypeFor[int64]():
		return valuesOf(edgeInts)
	case reflect.TypeFor[string]():
		return valuesOf(edgeStrings())
	case reflect.TypeFor[[]int64]():
		var lists [][]int64
		for _, list := range edgeIntLists {
			lists = append(lists, withSpare(list, 12345))
		}
		return valuesOf(lists)
	case reflect.TypeFor[[]string]():
		var lists [][]string
		for _, list := range edgeStringLists() {
			lists = append(lists, withSpare(list, "spare"))
		}
		return valuesOf(lists)
	case reflect.TypeFor[impl.Geometry]():
		return valuesOf(edgeGeometries)
	case reflect.TypeFor[impl.Flash]():
		return valuesOf(edgeFlashes())
	case reflect.TypeFor[impl.BadTable]():
		return valuesOf(edgeTables())
	case reflect.TypeFor[impl.Fault]():
		return valuesOf(someFaults)
	case reflect.TypeFor[[]impl.Fault]():
		return valuesOf(edgeScripts())
	case reflect.TypeFor[bool]():
		return valuesOf([]bool{false, true})
	case reflect.TypeFor[impl.PageMap]():
		return valuesOf(edgeMaps())
	case reflect.TypeFor[impl.PageMeta]():
		return valuesOf(slices.Concat(someMetas, damagedMetas))
	case reflect.TypeFor[[]impl.Found]():
		return valuesOf(edgeFounds())
	case reflect.TypeFor[impl.Checkpoint]():
		return valuesOf(edgeCheckpoints())
	case reflect.TypeFor[[]impl.BlockStat]():
		return valuesOf(edgeStats())
	case reflect.TypeFor[[]bool]():
		return valuesOf(edgeFlags())
	case reflect.TypeFor[impl.Heat]():
		return valuesOf(edgeHeats())
	case reflect.TypeFor[impl.FTL]():
		return valuesOf(edgeLayers())
	case reflect.TypeFor[impl.FtlAct]():
		return valuesOf(edgeActs())
	case reflect.TypeFor[[]impl.FtlAct]():
		return valuesOf(edgeActLists())
	case reflect.TypeFor[impl.Wear]():
		return valuesOf(edgeWears())
	case reflect.TypeFor[impl.Cells]():
		return valuesOf(edgeCells())
	case reflect.TypeFor[impl.Wipe]():
		return valuesOf(edgeWipes())
	case reflect.TypeFor[impl.Header]():
		return valuesOf(someHeaders())
	case reflect.TypeFor[impl.Device]():
		return valuesOf(edgeDevices())
	case reflect.TypeFor[impl.Record]():
		return valuesOf(slices.Concat(someRecords, damagedRecords, fieldVariants()))
	case reflect.TypeFor[[]impl.Record]():
		return valuesOf(edgeRecordLists())
	}
	t.Fatalf("no edge values for parameters of type %v", kind)
	return nil
}

// argumentLists returns all lists of edge values for the parameters of a function, or a random
// choice if these are too many.
func argumentLists(t *testing.T, f reflect.Type) [][]reflect.Value {
	t.Helper()
	all := 1
	var choices [][]reflect.Value
	for i := range f.NumIn() {
		choices = append(choices, edgeValues(t, f.In(i)))
		all *= len(choices[i])
	}
	r := rand.New(rand.NewSource(40))
	var lists [][]reflect.Value
	for n := range min(all, maxLists) {
		if all > maxLists {
			n = r.Intn(all)
		}
		var list []reflect.Value
		for _, values := range choices {
			list = append(list, values[n%len(values)])
			n /= len(values)
		}
		lists = append(lists, list)
	}
	return lists
}

// copyValue returns a copy of a value with memory of its own. If spare is set each slice has the
// length of its capacity, so that a comparison shows what is behind its end.
func copyValue(v reflect.Value, spare bool) reflect.Value {
	switch v.Kind() {
	case reflect.Slice:
		if spare {
			v = v.Slice(0, v.Cap())
		}
		out := reflect.MakeSlice(v.Type(), v.Len(), v.Len())
		reflect.Copy(out, v)
		if kind := v.Type().Elem().Kind(); kind == reflect.Slice || kind == reflect.Struct {
			for i := range v.Len() {
				out.Index(i).Set(copyValue(v.Index(i), spare))
			}
		}
		return out
	case reflect.Struct:
		out := reflect.New(v.Type()).Elem()
		for i := range v.NumField() {
			out.Field(i).Set(copyValue(v.Field(i), spare))
		}
		return out
	}
	return v
}

// deepCopy returns a copy of a value with memory of its own.
func deepCopy[T any](v T) T {
	return copyValue(reflect.ValueOf(v), false).Interface().(T)
}

// copies returns copies of values with the unused capacity of their slices.
func copies(values []reflect.Value) []any {
	var out []any
	for _, v := range values {
		out = append(out, copyValue(v, true).Interface())
	}
	return out
}

// memory is the memory of a slice with its unused capacity, from one address to before another one.
type memory struct {
	from, to uintptr
}

// memoryOf returns the memory of all slices of values.
func memoryOf(values []reflect.Value) []memory {
	var list []memory
	for _, v := range values {
		var parts []reflect.Value
		switch v.Kind() {
		case reflect.Slice:
			v = v.Slice(0, v.Cap())
			if v.Len() > 0 {
				from := v.Pointer()
				list = append(list, memory{from, from + uintptr(v.Len())*v.Type().Elem().Size()})
			}
			if kind := v.Type().Elem().Kind(); kind == reflect.Slice || kind == reflect.Struct {
				for i := range v.Len() {
					parts = append(parts, v.Index(i))
				}
			}
		case reflect.Struct:
			for i := range v.NumField() {
				parts = append(parts, v.Field(i))
			}
		}
		list = append(list, memoryOf(parts)...)
	}
	return list
}

// apart reports whether no two slices of values share memory.
func apart(values []reflect.Value) bool {
	list := memoryOf(values)
	slices.SortFunc(list, func(a memory, b memory) int { return cmp.Compare(a.from, b.from) })
	for i := 1; i < len(list); i++ {
		if list[i].from < list[i-1].to {
			return false
		}
	}
	return true
}

// resultsOf calls f and returns its results, or fails the test if f panics.
func resultsOf(t *testing.T, name string, f reflect.Value, args []reflect.Value) []reflect.Value {
	t.Helper()
	defer func() {
		if r := recover(); r != nil {
			t.Fatalf("%s%v panics: %v", name, args, r)
		}
	}()
	return f.Call(args)
}

// equalResults reports whether lists of results are equal, where a nil slice equals an empty one.
func equalResults(a []reflect.Value, b []reflect.Value) bool {
	for i := range a {
		if !reflect.DeepEqual(copyValue(a[i], false).Interface(), copyValue(b[i], false).Interface()) {
			return false
		}
	}
	return true
}

// callPurely calls a function twice and returns the results of the first call. It ends the test
// after different results, modified arguments or shared memory.
func callPurely(t *testing.T, name string, f reflect.Value, args []reflect.Value) []reflect.Value {
	t.Helper()
	before := copies(args)
	first := resultsOf(t, name, f, args)
	again := resultsOf(t, name, f, args)
	if !equalResults(first, again) {
		t.Fatalf("%s%v: %v, then %v", name, before, first, again)
	}
	if !reflect.DeepEqual(copies(args), before) {
		t.Fatalf("%s%v modifies its arguments", name, before)
	}
	if !apart(slices.Concat(args, first, again)) {
		t.Fatalf("%s%v: arguments and results share memory", name, before)
	}
	return first
}

// landedFunctions are the functions of the chapters that have landed.
var landedFunctions = map[string]any{
	"CodeName":      impl.CodeName,
	"EncodeUvarint": impl.EncodeUvarint,
	"DecodeUvarint": impl.DecodeUvarint,
	"EncodeFixed":   impl.EncodeFixed,
	"DecodeFixed":   impl.DecodeFixed,
	"EncodeString":  impl.EncodeString,
	"DecodeString":  impl.DecodeString,
	"Checksum":      impl.Checksum,
	"ValidState":    impl.ValidState,
	"StepLfsr":      impl.StepLfsr,
	"BackLfsr":      impl.BackLfsr,
	"JumpLfsr":      impl.JumpLfsr,
	"Keystream":     impl.Keystream,
	"SeedFor":       impl.SeedFor,
	"Scramble":      impl.Scramble,
	"CountOnes":     impl.CountOnes,
	"CheckByte":     impl.CheckByte,
	"Syndrome":      impl.Syndrome,
	"DecodeWord":    impl.DecodeWord,
	"FlipCodeBit":   impl.FlipCodeBit,
	"DecodeErased":  impl.DecodeErased,
	"EncodeEcc":     impl.EncodeEcc,
	"DecodeEcc":     impl.DecodeEcc,
	"DiffBits":      impl.DiffBits,
	"XorBytes":      impl.XorBytes,
	"ParityOf":      impl.ParityOf,
	"ValidStripe":   impl.ValidStripe,
	"Rebuild":       impl.Rebuild,
	"UpdateParity":  impl.UpdateParity,
	"ParityDie":     impl.ParityDie,
	"DataDie":       impl.DataDie,
	"UnitOn":        impl.UnitOn,
	"SealPage":      impl.SealPage,
	"OpenPage":      impl.OpenPage,
	"ErasedPage":    impl.ErasedPage,
	"IsErased":      impl.IsErased,
	"TornPage":      impl.TornPage,
	"DestroyedPage": impl.DestroyedPage,
	"FlipPageBit":   impl.FlipPageBit,
	"ValidGeometry": impl.ValidGeometry,
	"ValidFlash":    impl.ValidFlash,
	"SameFlash":     impl.SameFlash,
	"NewFlash":      impl.NewFlash,
	"ProgramPage":   impl.ProgramPage,
	"ReadRaw":       impl.ReadRaw,
	"EraseBlock":    impl.EraseBlock,
	"PowerOn":       impl.PowerOn,
	"ArmFuse":       impl.ArmFuse,

	"ValidBadTable":   impl.ValidBadTable,
	"SameBadTable":    impl.SameBadTable,
	"NewBadTable":     impl.NewBadTable,
	"PhysicalBlock":   impl.PhysicalBlock,
	"LogicalBlock":    impl.LogicalBlock,
	"RetireBlock":     impl.RetireBlock,
	"AvailableSpares": impl.AvailableSpares,
	"MarkBadBlocks":   impl.MarkBadBlocks,
	"ScanBadBlocks":   impl.ScanBadBlocks,
	"EncodeBadTable":  impl.EncodeBadTable,
	"DecodeBadTable":  impl.DecodeBadTable,
	"ValidFault":      impl.ValidFault,
	"ApplyFault":      impl.ApplyFault,
	"ApplyFaults":     impl.ApplyFaults,
	"DifferingBits":   impl.DifferingBits,
	"WithinEccBudget": impl.WithinEccBudget,
	"FaultedBlocks":   impl.FaultedBlocks,
	"FormatFaults":    impl.FormatFaults,
	"ParseFaults":     impl.ParseFaults,
	"RandomFaults":    impl.RandomFaults,

	"ValidMap":         impl.ValidMap,
	"SameMap":          impl.SameMap,
	"NewMap":           impl.NewMap,
	"SetPage":          impl.SetPage,
	"PhysOf":           impl.PhysOf,
	"LogicalAt":        impl.LogicalAt,
	"LivePages":        impl.LivePages,
	"LiveIn":           impl.LiveIn,
	"MappedPages":      impl.MappedPages,
	"ValidMeta":        impl.ValidMeta,
	"EncodeMeta":       impl.EncodeMeta,
	"DecodeMeta":       impl.DecodeMeta,
	"ScanPages":        impl.ScanPages,
	"ValidFound":       impl.ValidFound,
	"GroupComplete":    impl.GroupComplete,
	"NewestOf":         impl.NewestOf,
	"RecoverMap":       impl.RecoverMap,
	"NextSeq":          impl.NextSeq,
	"EncodeCheckpoint": impl.EncodeCheckpoint,
	"DecodeCheckpoint": impl.DecodeCheckpoint,
	"RecoverFrom":      impl.RecoverFrom,

	"ValidStats":        impl.ValidStats,
	"GreedyVictim":      impl.GreedyVictim,
	"CostBenefitVictim": impl.CostBenefitVictim,
	"PickVictim":        impl.PickVictim,
	"GainOf":            impl.GainOf,
	"AverageLive":       impl.AverageLive,
	"StatsOf":           impl.StatsOf,
	"ValidHeat":         impl.ValidHeat,
	"SameHeat":          impl.SameHeat,
	"NewHeat":           impl.NewHeat,
	"NoteWrite":         impl.NoteWrite,
	"DecayHeat":         impl.DecayHeat,
	"IsHot":             impl.IsHot,
	"StreamOf":          impl.StreamOf,
	"HotPages":          impl.HotPages,

	"PickFree":       impl.PickFree,
	"WearGap":        impl.WearGap,
	"WearExcess":     impl.WearExcess,
	"NeedsLevelling": impl.NeedsLevelling,
	"PickStatic":     impl.PickStatic,
	"ValidWear":      impl.ValidWear,
	"PlaceData":      impl.PlaceData,
	"RewriteHot":     impl.RewriteHot,
	"LevelMove":      impl.LevelMove,
	"LevelWear":      impl.LevelWear,

	"ValidFTL":    impl.ValidFTL,
	"SameFTL":     impl.SameFTL,
	"CapacityFTL": impl.CapacityFTL,
	"NewFTL":      impl.NewFTL,
	"MountFTL":    impl.MountFTL,
	"FreeBlocks":  impl.FreeBlocks,
	"WritePage":   impl.WritePage,
	"WriteAtomic": impl.WriteAtomic,
	"TrimPage":    impl.TrimPage,
	"ReadPage":    impl.ReadPage,
	"SyncFTL":     impl.SyncFTL,
	"CleanFTL":    impl.CleanFTL,
	"LevelFTL":    impl.LevelFTL,
	"ValidFtlAct": impl.ValidFtlAct,
	"PlayFTL":     impl.PlayFTL,

	"ValidCells":   impl.ValidCells,
	"ProgramCells": impl.ProgramCells,
	"EraseCells":   impl.EraseCells,
	"SenseCells":   impl.SenseCells,
	"LeaksPattern": impl.LeaksPattern,
	"WipeCells":    impl.WipeCells,
	"ErasePasses":  impl.ErasePasses,
	"SecureErase":  impl.SecureErase,
	"IsWiped":      impl.IsWiped,
	"ValidWipe":    impl.ValidWipe,
	"RunWipe":      impl.RunWipe,

	"EncodeHeader": impl.EncodeHeader,
	"DecodeHeader": impl.DecodeHeader,
	"ValidDevice":  impl.ValidDevice,
	"SameDevice":   impl.SameDevice,
	"NewDevice":    impl.NewDevice,
	"CapacityOf":   impl.CapacityOf,
	"AppendZone":   impl.AppendZone,
	"ReadZone":     impl.ReadZone,
	"SyncZone":     impl.SyncZone,
	"FinishZone":   impl.FinishZone,
	"ResetZone":    impl.ResetZone,
	"MountDevice":  impl.MountDevice,

	"ValidKey":    impl.ValidKey,
	"ValidRecord": impl.ValidRecord,
	"LessRecord":  impl.LessRecord,
	"ValidRun":    impl.ValidRun,
	"SortRecords": impl.SortRecords,
	"PutRecord":   impl.PutRecord,
	"GetRecord":   impl.GetRecord,
	"Affects":     impl.Affects,
	"RecordText":  impl.RecordText,
	"ReadRecord":  impl.ReadRecord,
	"ValidMem":    impl.ValidMem,
	"InsertMem":   impl.InsertMem,
	"LookMem":     impl.LookMem,
	"ScanMem":     impl.ScanMem,
	"SeqsOf":      impl.SeqsOf,
	"TruncateMem": impl.TruncateMem,
	"MemBytes":    impl.MemBytes,
}

// TestP1Total calls every function of the chapters that have landed with all edge values, twice.
func TestP1Total(t *testing.T) {
	for name, function := range landedFunctions {
		t.Run(name, func(t *testing.T) {
			t.Parallel()
			f := reflect.ValueOf(function)
			for _, args := range argumentLists(t, f.Type()) {
				callPurely(t, name, f, args)
			}
		})
	}
}

// TestP1Order checks that a result does not depend on the calls before it.
func TestP1Order(t *testing.T) {
	before, _ := impl.Keystream(4711, 32)
	sum := impl.Checksum("abc")
	check := impl.CheckByte("codeword")
	parity, _ := impl.ParityOf([]string{"ab", "cd"})
	f, _ := impl.NewFlash(impl.Geometry{Dies: 2, Blocks: 4, Pages: 8})
	table := impl.EncodeBadTable(exampleTable())
	faults, _ := impl.RandomFaults(smallGeometry, 7, 3)
	list := pagesOf(3, dataMeta(1, 4), atomicMeta(2, 5, 5, 2), atomicMeta(1, 6, 5, 2), trimMeta(0, 7))
	recovered, _ := impl.RecoverMap(list, 4, 3, 8)
	heat, _ := impl.NoteWrite(heatOf(15, 5, 6, 7, 1), 0)
	victim := impl.CostBenefitVictim(liveStats(9, 8, 3, 3), 8)
	layer := busyLayer(45, smallGeometry, 2, impl.ClGreedy)
	device, _ := impl.MountDevice(busyDevice(threeDies, 4).Flash, 4)
	mem, _ := impl.InsertMem(exampleMem(), putAt(4, "b", "z"))
	levelled, wiped := levelWear(goodWear(2, []int64{7, 1, 3}, []int64{0, 1, 0})), impl.WipeCells(cellsOf(255, 10))
	for page := range int64(50) {
		impl.Scramble(page, "other calls")
		impl.JumpLfsr(page+1, page)
		impl.Checksum(impl.EncodeUvarint(page))
		impl.DecodeErased("codeword", page, []int64{page})
		impl.Rebuild([]string{"xy", "z"}, "vw", 1)
		impl.ProgramPage(f, page%8, 0, impl.DestroyedPage())
		impl.EraseBlock(f, page%8)
		impl.RetireBlock(exampleTable(), page%8)
		impl.ApplyFault(f, impl.Fault{Kind: impl.FaultBlock, Block: page % 8})
		impl.RandomFaults(smallGeometry, page, 40)
		impl.SetPage(recovered, page%4, page%24, page%2 == 0)
		impl.RecoverMap(list[page%4:], 4, 3, 8)
		impl.RecoverFrom(impl.Checkpoint{Seq: page % 8, Map: recovered}, list[page%4:])
		impl.NoteWrite(heat, page%4)
		impl.DecayHeat(heat)
		impl.PickVictim(page%3, liveStats(page, page%8, 3, 1), 8)
		impl.PlayFTL(layer, randomActs(rand.New(rand.NewSource(page)), 8, 20, 1))
		impl.LevelWear(goodWear(1, []int64{page, 0, 3}, []int64{page % 3, 1, 0}))
		impl.RewriteHot(levelled.w, page%3)
		impl.EraseCells(wiped)
		impl.RunWipe(f, impl.Wipe{Blocks: []int64{page % 8}})
		impl.AppendZone(device, page%4, "other calls")
		impl.ResetZone(device, page%4)
		impl.MountDevice(f, 1+page%4)
		impl.SortRecords(slices.Concat(mem, damagedRecords, someRecords[page%4:]))
		impl.InsertMem(mem, putAt(page, "b", "other calls"))
		impl.TruncateMem(mem, page%6)
	}
	memAgain, _ := impl.InsertMem(exampleMem(), putAt(4, "b", "z"))
	expectRecords(t, "InsertMem after other calls", mem, memAgain)
	deviceAgain, _ := impl.MountDevice(busyDevice(threeDies, 4).Flash, 4)
	expect(t, "MountDevice after other calls", sameDevices(device, deviceAgain), true)
	expectWear(t, "LevelWear after other calls", levelWear(goodWear(2, []int64{7, 1, 3}, []int64{0, 1, 0})), levelled)
	expectCells(t, "WipeCells after other calls", cellOutcome{c: impl.WipeCells(cellsOf(255, 10))}, cellOutcome{c: wiped})
	if !sameLayers(layer, busyLayer(45, smallGeometry, 2, impl.ClGreedy)) {
		t.Error("a result depends on the calls before it")
	}
	noted, _ := impl.NoteWrite(heatOf(15, 5, 6, 7, 1), 0)
	if !sameHeats(heat, noted) || victim != impl.CostBenefitVictim(liveStats(9, 8, 3, 3), 8) {
		t.Error("a result depends on the calls before it")
	}
	recoveredAgain, _ := impl.RecoverMap(list, 4, 3, 8)
	if !sameMaps(recovered, recoveredAgain) {
		t.Error("a result depends on the calls before it")
	}
	again, _ := impl.RandomFaults(smallGeometry, 7, 3)
	if table != impl.EncodeBadTable(exampleTable()) || !slices.Equal(faults, again) {
		t.Error("a result depends on the calls before it")
	}
	after, _ := impl.Keystream(4711, 32)
	if before != after || sum != impl.Checksum("abc") {
		t.Error("a result depends on the calls before it")
	}
	afterwards, _ := impl.ParityOf([]string{"ab", "cd"})
	if parity != afterwards || check != impl.CheckByte("codeword") {
		t.Error("a result depends on the calls before it")
	}
	fresh, _ := impl.NewFlash(impl.Geometry{Dies: 2, Blocks: 4, Pages: 8})
	if !reflect.DeepEqual(f, fresh) {
		t.Error("a result depends on the calls before it")
	}
}
