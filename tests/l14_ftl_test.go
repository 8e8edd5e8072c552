package tests

import (
	"math"
	"math/rand"
	"reflect"
	"slices"
	"strings"
	"testing"

	"loop.example/g00905/impl"
)

// tornMeta stands for a page that cannot be opened, in the arrays of arrayOf.
var tornMeta = impl.PageMeta{Kind: -1}

// padMeta is the metadata of a pad.
var padMeta = impl.PageMeta{Kind: impl.MkPad}

// arrayOf returns an array whose first blocks have pages with the given metadata. The data contain the
// sequence numbers.
func arrayOf(g impl.Geometry, blocks ...[]impl.PageMeta) impl.Flash {
	f := emptyFlash(g)
	for i, metas := range blocks {
		b := &f.Blocks[i]
		for page, m := range metas {
			data := dataOf(int(m.Seq))
			if m.Kind == impl.MkTrim || m.Kind == impl.MkPad {
				data = zeroData
			}
			b.Pages[page] = sealedByDefinition(data, rawMeta(m), int64(i)*g.Pages+int64(page))
			if m == tornMeta {
				b.Pages[page] = impl.DestroyedPage()
			}
			b.Next++
		}
	}
	return f
}

// layerOf returns the layer that is recovered from an array of arrayOf, with any number of logical pages.
func layerOf(g impl.Geometry, logical int64, blocks ...[]impl.PageMeta) impl.FTL {
	fl := arrayOf(g, blocks...)
	list, _ := wantScan(fl, true)
	return recoveredLayer(fl, list, logical, 1, impl.ClGreedy).f
}

// filled returns the metadata of data with rising sequence numbers, for a list of logical pages.
func filled(seq int64, lpns ...int64) []impl.PageMeta {
	var list []impl.PageMeta
	for i, lpn := range lpns {
		list = append(list, dataMeta(lpn, seq+int64(i)))
	}
	return list
}

// groupOf returns the metadata of an atomic group of logical pages.
func groupOf(first int64, lpns ...int64) []impl.PageMeta {
	var list []impl.PageMeta
	for i, lpn := range lpns {
		list = append(list, atomicMeta(lpn, first+int64(i), first, int64(len(lpns))))
	}
	return list
}

// busyLayer returns a layer after random operations.
func busyLayer(seed int64, g impl.Geometry, bound, policy int64) impl.FTL {
	r := rand.New(rand.NewSource(seed))
	f, _ := impl.NewFTL(g, impl.CapacityFTL(g), bound, policy)
	for _, a := range randomActs(r, len(f.Map.Map), 80, 1) {
		if got := perform(f, a); got.code == impl.OK {
			f = got.f
		}
	}
	return f
}

// validLayers returns layers whose fields reach their bounds, and some that no operations lead to.
func validLayers() []layerSample {
	var list []layerSample
	add := func(what string, f impl.FTL, change func(*impl.FTL)) {
		list = append(list, layerSample{what, changedLayer(f, change), true})
	}
	for i, g := range someGeometries {
		f, _ := impl.NewFTL(g, impl.CapacityFTL(g), 1, impl.ClGreedy)
		add("new", f, func(f *impl.FTL) { f.Bound, f.Policy = 100, impl.ClCostBenefit })
		add("busy", busyLayer(int64(1400+i), g, 1, impl.ClCostBenefit), func(*impl.FTL) {})
	}
	busy := busyLayer(1405, smallGeometry, 2, impl.ClGreedy)
	add("one logical page", layerOf(smallGeometry, 1, filled(5, 0, 0)), func(*impl.FTL) {})
	add("as many logical pages as possible", layerOf(smallGeometry, 48, filled(1, 47, 46, 0)), func(*impl.FTL) {})
	for _, open := range [][]int64{{-1, -1}, {0, -1}, {-1, 0}, {7, -1}, {-1, 7}, {0, 7}, {7, 0}, {3, 4}} {
		add("open blocks", busy, func(f *impl.FTL) { f.Open = open })
	}
	for _, seq := range []int64{1, 2, 999997, 999998, 999999, 1000000, 1000001} {
		add("Seq", busy, func(f *impl.FTL) { f.Seq = seq })
	}
	add("Last", busy, func(f *impl.FTL) { f.Last = []int64{0, 1000000, 0, 1000000, 1, 999999, 0, 0} })
	add("hot counters", busy, func(f *impl.FTL) { f.Heat = heatOf(15, 1000000, 0, 0, 0, 0, 0, 0, 999999) })
	add("fuse", busy, func(f *impl.FTL) { f.Flash.Fuse, f.Flash.Keep = 0, 40 })
	add("last operation", busy, func(f *impl.FTL) { f.Flash.Ops = math.MaxInt64 })
	add("last but one operation", busy, func(f *impl.FTL) { f.Flash.Ops = math.MaxInt64 - 1 })
	add("off", busy, func(f *impl.FTL) { f.Flash.Off = true })
	add("off and full", busy, func(f *impl.FTL) { f.Flash.Off, f.Seq = true, 1000001 })
	return slices.Concat(list, wornLayers(busy), strangeLayers())
}

// wornLayers returns copies of a layer on small blocks with bad blocks and blocks at the bound of erases.
func wornLayers(f impl.FTL) []layerSample {
	var list []layerSample
	add := func(what string, change func(*impl.FTL)) {
		list = append(list, layerSample{what, changedLayer(f, change), true})
	}
	for i := range f.Flash.Blocks {
		add("bad block", func(f *impl.FTL) { f.Flash.Blocks[i].Bad = true })
		add("worn-out block", func(f *impl.FTL) { f.Flash.Blocks[i].Erases = 1000 })
		add("block before the bound of erases", func(f *impl.FTL) { f.Flash.Blocks[i].Erases = 999 })
	}
	add("bad blocks", func(f *impl.FTL) {
		for i := range f.Flash.Blocks {
			f.Flash.Blocks[i].Bad = true
		}
	})
	add("worn-out blocks", func(f *impl.FTL) {
		for i := range f.Flash.Blocks {
			f.Flash.Blocks[i].Erases = 1000
		}
	})
	return list
}

// strangeLayers returns valid layers whose maps refer to pages that do not hold what the map says.
func strangeLayers() []layerSample {
	var list []layerSample
	f := layerOf(smallGeometry, 4, append(filled(1, 0, 1, 2, 3, 0), padMeta, tornMeta, trimMeta(1, 9)), groupOf(10, 2, 3))
	add := func(what string, change func(*impl.FTL)) {
		list = append(list, layerSample{what, changedLayer(f, change), true})
	}
	add("several kinds of pages", func(*impl.FTL) {})
	for _, phys := range []int64{0, 1, 5, 6, 7, 8, 9, 10, 16, 24, 63} {
		for lpn := range int64(4) {
			if !slices.Contains(f.Map.Map, phys) {
				add("another physical page", func(f *impl.FTL) { f.Map.Map[lpn], f.Map.Trimmed[lpn] = phys, false })
				add("another physical page, open block", func(f *impl.FTL) {
					f.Map.Map[lpn], f.Map.Trimmed[lpn], f.Open[0] = phys, false, phys/8
				})
			}
		}
	}
	for lpn := range int64(4) {
		add("other trim mark", func(f *impl.FTL) { f.Map.Trimmed[lpn] = !f.Map.Trimmed[lpn] })
		add("no record", func(f *impl.FTL) { f.Map.Map[lpn], f.Map.Trimmed[lpn] = -1, false })
		add("exchanged pages", func(f *impl.FTL) {
			f.Map.Map[lpn], f.Map.Map[(lpn+1)%4] = f.Map.Map[(lpn+1)%4], f.Map.Map[lpn]
		})
	}
	return list
}

// invalidLayers returns layers that are invalid for one reason each.
func invalidLayers() []layerSample {
	list := []layerSample{{"zero", impl.FTL{}, false}}
	busy := busyLayer(1406, smallGeometry, 2, impl.ClGreedy)
	add := func(what string, change func(*impl.FTL)) {
		list = append(list, layerSample{what, changedLayer(busy, change), false})
	}
	for i, s := range invalidFlashes() {
		if i%9 == 0 {
			add("array: "+s.what, func(f *impl.FTL) { f.Flash = s.f })
		}
	}
	for i, s := range invalidMaps() {
		if i%9 == 0 {
			add("map: "+s.what, func(f *impl.FTL) { f.Map, f.Heat = s.m, evenHeat(max(1, min(48, len(s.m.Map))), 0, 0) })
		}
	}
	for i, s := range invalidHeats() {
		if i%9 == 0 {
			add("counters: "+s.what, func(f *impl.FTL) { f.Heat = s.h })
		}
	}
	add("map without logical pages", func(f *impl.FTL) { f.Map.Map, f.Map.Trimmed, f.Heat.Counts = nil, nil, nil })
	add("page of two logical pages", func(f *impl.FTL) { f.Map.Map[0], f.Map.Map[1] = 5, 5 })
	for _, size := range []mapSize{{7, 8}, {9, 8}, {8, 16}, {16, 4}, {4, 16}, {1, 64}, {64, 1}, {8, 7}, {80, 8}} {
		add("map of another size", func(f *impl.FTL) { f.Map = emptyMap(8, size) })
	}
	for _, n := range []int{1, 7, 9, 48} {
		add("other number of counters", func(f *impl.FTL) { f.Heat = evenHeat(n, 0, 0) })
	}
	for _, n := range []int64{math.MinInt64, -1 << 32, -1, 0, 1000002, 1<<32 + 1, math.MaxInt64} {
		add("Seq", func(f *impl.FTL) { f.Seq = n })
	}
	for _, open := range [][]int64{nil, {}, {-1}, {0}, {-1, -1, -1}, {0, 1, 2}, {0, 0}, {7, 7}, {-2, 0}, {0, -2}, {8, 0}, {0, 8}, {-2, -2}, {8, 8}, {math.MinInt64, -1}, {-1, math.MaxInt64}} {
		add("Open", func(f *impl.FTL) { f.Open = open })
	}
	for _, size := range []int{0, 1, 7, 9, 16} {
		add("size of Last", func(f *impl.FTL) { f.Last = make([]int64, size) })
	}
	for _, n := range slices.Concat(farInts, []int64{-1, 1000001}) {
		for _, i := range []int{0, 3, 7} {
			add("Last", func(f *impl.FTL) { f.Last[i] = n })
		}
	}
	for _, n := range slices.Concat(farInts, []int64{-1, 0, 101}) {
		add("Bound", func(f *impl.FTL) { f.Bound = n })
	}
	for _, n := range slices.Concat(farInts, []int64{-1, 0, 3, 1<<32 + 1}) {
		add("Policy", func(f *impl.FTL) { f.Policy = n })
	}
	add("invalid and off", func(f *impl.FTL) { f.Flash.Off, f.Seq = true, 0 })
	return list
}

// allLayers returns valid and invalid layers.
func allLayers() []layerSample {
	return append(validLayers(), invalidLayers()...)
}

func TestP23Constants(t *testing.T) {
	got := [6]int64{impl.FaWrite, impl.FaAtomic, impl.FaTrim, impl.FaSync, impl.FaClean, impl.FaLevel}
	expect(t, "kinds of operations", got, [6]int64{1, 2, 3, 4, 5, 6})
}

func TestP23ValidFTL(t *testing.T) {
	for _, s := range allLayers() {
		expect(t, "definition of a valid layer, "+s.what, layerIsValid(s.f), s.valid)
		expect(t, "ValidFTL, "+s.what, impl.ValidFTL(s.f), s.valid)
	}
}

// TestP23SameFTL compares layers with copies, with copies that differ in one value, and with each other.
func TestP23SameFTL(t *testing.T) {
	all := allLayers()
	for i, a := range all {
		expect(t, "SameFTL of a copy, "+a.what, impl.SameFTL(a.f, deepCopy(a.f)), true)
		for j := i % 5; j < len(all); j += 5 {
			expect(t, "SameFTL of "+a.what+" and "+all[j].what, impl.SameFTL(a.f, all[j].f), sameLayers(a.f, all[j].f))
		}
	}
	f := busyLayer(1407, smallGeometry, 2, impl.ClGreedy)
	for i, change := range []func(*impl.FTL){
		func(f *impl.FTL) { f.Flash.Ops++ }, func(f *impl.FTL) { f.Flash.Blocks[7].Erases++ }, func(f *impl.FTL) { f.Map.Map[7]++ },
		func(f *impl.FTL) { f.Map.Trimmed[0] = !f.Map.Trimmed[0] }, func(f *impl.FTL) { f.Heat.Counts[3]++ }, func(f *impl.FTL) { f.Heat.Writes++ },
		func(f *impl.FTL) { f.Seq++ }, func(f *impl.FTL) { f.Open[0]++ }, func(f *impl.FTL) { f.Open[1]++ }, func(f *impl.FTL) { f.Open = f.Open[:1] },
		func(f *impl.FTL) { f.Last[7]++ }, func(f *impl.FTL) { f.Last = f.Last[:7] }, func(f *impl.FTL) { f.Bound++ }, func(f *impl.FTL) { f.Policy++ },
	} {
		other := changedLayer(f, change)
		if impl.SameFTL(f, other) || impl.SameFTL(other, f) {
			t.Errorf("SameFTL does not see change %d", i)
		}
	}
	empty := impl.FTL{Flash: impl.Flash{Blocks: []impl.Block{}}, Open: []int64{}, Last: []int64{}}
	expect(t, "SameFTL of nil and empty slices", impl.SameFTL(impl.FTL{}, empty), true)
}

func TestP23CapacityFTL(t *testing.T) {
	expect(t, "CapacityFTL of the example", impl.CapacityFTL(smallGeometry), 8)
	expect(t, "CapacityFTL of 3 dies of 4 blocks", impl.CapacityFTL(impl.Geometry{Dies: 3, Blocks: 4, Pages: 8}), 24)
	expect(t, "CapacityFTL of 2 dies of 9 blocks", impl.CapacityFTL(impl.Geometry{Dies: 2, Blocks: 9, Pages: 8}), 48)
	expect(t, "CapacityFTL of the greatest geometry", impl.CapacityFTL(impl.Geometry{Dies: 3, Blocks: 12, Pages: 16}), 48)
	for dies := int64(-1); dies <= 5; dies++ {
		for blocks := int64(-1); blocks <= 14; blocks++ {
			for pages := int64(-1); pages <= 18; pages++ {
				g := impl.Geometry{Dies: dies, Blocks: blocks, Pages: pages}
				expect(t, "CapacityFTL", impl.CapacityFTL(g), wantCapacity(g))
			}
		}
	}
	for _, g := range append(edgeGeometries, badGeometries()...) {
		expect(t, "CapacityFTL", impl.CapacityFTL(g), wantCapacity(g))
	}
}

// TestP23NewFTL has numbers at and beside every bound.
func TestP23NewFTL(t *testing.T) {
	for _, g := range slices.Concat(someGeometries, badGeometries()[:3], []impl.Geometry{{}, {Dies: 2, Blocks: 4, Pages: 12}}) {
		capacity := wantCapacity(g)
		for _, logical := range []int64{math.MinInt64, -1, 0, 1, 2, capacity - 1, capacity, capacity + 1, 48, 49, math.MaxInt64} {
			for _, bound := range []int64{math.MinInt64, -1, 0, 1, 2, 99, 100, 101, math.MaxInt64} {
				for _, policy := range []int64{math.MinInt64, -1, 0, 1, 2, 3, 1<<32 + 1} {
					want := layerOutcome{code: impl.ErrInvalid}
					if impl.ValidGeometry(g) {
						want = wantMount(emptyFlash(g), logical, bound, policy)
					}
					f, code := impl.NewFTL(g, logical, bound, policy)
					expectLayer(t, "NewFTL", layerOutcome{f, code}, want)
				}
			}
		}
	}
	callLayer(t, "NewFTL", impl.NewFTL, smallGeometry, int64(8), int64(1), int64(2))
	f := newLayer(t, smallGeometry, 3, impl.ClCostBenefit)
	want := impl.FTL{
		Flash: emptyFlash(smallGeometry), Map: emptyMap(8, mapSize{8, 8}), Heat: evenHeat(8, 0, 0), Seq: 1,
		Open: []int64{-1, -1}, Last: make([]int64, 8), Bound: 3, Policy: impl.ClCostBenefit,
	}
	expect(t, "NewFTL", sameLayers(f, want), true)
}

// TestP23MountFTL mounts arrays that are off, invalid, full of pages that cannot be opened, or with records
// that the layer cannot have, with all kinds of other arguments.
func TestP23MountFTL(t *testing.T) {
	arrays := slices.Concat(validFlashes(), invalidFlashes())
	for _, g := range someGeometries {
		journal := journalFlash(g)
		arrays = append(arrays, flashSample{"journal", journal, true}, flashSample{"journal, off", changed(journal, func(f *impl.Flash) { f.Off = true }), true})
	}
	arrays = append(arrays, flashSample{"records at the bounds", arrayOf(smallGeometry, filled(999999, 7, 6), []impl.PageMeta{dataMeta(0, 1000000)}), true},
		flashSample{"record behind the logical pages", arrayOf(smallGeometry, filled(3, 0, 8)), true})
	for _, s := range validLayers() {
		arrays = append(arrays, flashSample{s.what, s.f.Flash, true})
	}
	codes := map[int64]int{}
	for i, s := range arrays {
		capacity := wantCapacity(s.f.Geo)
		for _, logical := range []int64{math.MinInt64, -1, 0, 1, 7, 8, capacity, capacity + 1, 48, 49} {
			codes[mount(t, s.f, logical, 1, impl.ClGreedy).code]++
		}
		for _, n := range []int64{math.MinInt64, -1, 0, 2, 3, 100, 101, math.MaxInt64} {
			mount(t, s.f, capacity, n, impl.ClCostBenefit)
			mount(t, s.f, capacity, 1, n)
			mount(t, s.f, 0, n, n)
		}
		if i%4 == 0 {
			callLayer(t, "MountFTL", impl.MountFTL, s.f, capacity, int64(5), int64(2))
		}
	}
	for _, code := range []int64{impl.OK, impl.ErrInvalid, impl.ErrPower, impl.ErrRange} {
		expect(t, "there are arrays with code "+impl.CodeName(code), codes[code] > 5, true)
	}
}

// TestP23MountState mounts an array with pages of all kinds.
func TestP23MountState(t *testing.T) {
	blocks := [][]impl.PageMeta{
		append(filled(3, 0, 1), tornMeta, padMeta, trimMeta(1, 9)), append(groupOf(20, 2, 3), dataMeta(0, 5)), {tornMeta, tornMeta}, {}, {atomicMeta(0, 31, 30, 2), padMeta},
	}
	fl := changed(arrayOf(smallGeometry, blocks...), func(f *impl.Flash) { f.Blocks[7].Bad, f.Blocks[2].Erases, f.Ops = true, 17, 99 })
	got := mount(t, fl, 4, 6, impl.ClCostBenefit)
	want := impl.FTL{
		Flash: fl, Map: impl.PageMap{Blocks: 8, Pages: 8, Map: []int64{10, 4, 8, 9}, Trimmed: []bool{false, true, false, false}},
		Heat: evenHeat(4, 0, 0), Seq: 32, Open: []int64{-1, -1}, Last: []int64{9, 21, 0, 0, 31, 0, 0, 0}, Bound: 6, Policy: impl.ClCostBenefit,
	}
	expectLayer(t, "MountFTL", got, layerOutcome{want, impl.OK})
	expectList(t, "FreeBlocks", impl.FreeBlocks(got.f), []int64{3, 5, 6})
	expect(t, "code of an array that is off, with wrong numbers", mount(t, changed(fl, func(f *impl.Flash) { f.Off = true }), 0, 0, 0).code, impl.ErrPower)
	expect(t, "code of an invalid array that is off", mount(t, changed(fl, func(f *impl.Flash) { f.Off, f.Keep = true, -1 }), 0, 0, 0).code, impl.ErrInvalid)
	expect(t, "code of too few logical pages", mount(t, fl, 3, 6, 1).code, impl.ErrRange)
}

func TestP23FreeBlocks(t *testing.T) {
	for _, s := range allLayers() {
		var want []int64
		if s.valid {
			want = wantFree(s.f)
		}
		expectList(t, "FreeBlocks, "+s.what, impl.FreeBlocks(s.f), want)
	}
	f := layerOf(smallGeometry, 4, filled(1, 0), nil, nil, nil, filled(2, 1, 2, 3, 0, 1, 2, 3, 0))
	f.Open = []int64{1, 7}
	f.Flash.Blocks[2].Bad, f.Flash.Blocks[3].Erases = true, 1000
	expectList(t, "FreeBlocks", impl.FreeBlocks(f), []int64{3, 5, 6})
}

// layerArgs returns arguments of the functions that write to a layer: logical pages and data at and beside
// their bounds.
func layerArgs(f impl.FTL) ([]int64, []string) {
	logical := int64(len(f.Map.Map))
	lpns := []int64{0, 1, logical - 1, logical, -1, 47, 48, math.MinInt64, math.MaxInt64}
	return lpns, []string{dataOf(9), strings.Repeat("\xff", 64), "", strings.Repeat("d", 63), strings.Repeat("d", 65), strings.Repeat("d", 128)}
}

// atomicArgs returns arguments of WriteAtomic with no, one, MaxAtomic and more pages, with other lengths,
// with pages that do not exist and with a page that occurs twice.
func atomicArgs(f impl.FTL) []impl.FtlAct {
	logical := int64(len(f.Map.Map))
	short := strings.Repeat("d", 63)
	list := []impl.FtlAct{{}, {Lpns: []int64{}, Data: []string{}}, {Data: []string{dataOf(1)}}, {Lpns: []int64{0}}, {Lpns: []int64{0}, Data: []string{short}},
		{Lpns: []int64{0, 1}, Data: []string{dataOf(1)}}, {Lpns: []int64{0}, Data: []string{dataOf(1), dataOf(2)}}, {Lpns: []int64{0, 1}, Data: []string{dataOf(1), short}},
		{Lpns: []int64{0, 0}, Data: []string{short, dataOf(1)}}, {Lpns: []int64{-1, 0}, Data: []string{dataOf(1), ""}}}
	for _, lpns := range [][]int64{
		{0}, {logical - 1}, {1, 0}, {2, 0, 1}, {3, 2, 1, 0}, {0, 1, 2, 3}, {0, 1, 2, 3, 4}, {0, 0, 0, 0, 0}, {logical}, {-1}, {0, logical}, {-1, -1}, {logical, logical, 0},
		{1, 1}, {0, 1, 0}, {0, 1, 2, 2}, {3, 1, 2, 3}, {math.MinInt64, 0}, {0, math.MaxInt64}, {48, 1, 1}, {1, 1, 48},
	} {
		list = append(list, atomicAct(50, lpns...))
	}
	return list
}

// checkLayer compares all functions of a layer with the model.
func checkLayer(t *testing.T, s layerSample) {
	t.Helper()
	lpns, data := layerArgs(s.f)
	for _, lpn := range lpns {
		text, code := impl.ReadPage(s.f, lpn)
		expect(t, "ReadPage, "+s.what, coded{text, code}, wantRead(s.f, lpn))
		expectLayer(t, "TrimPage, "+s.what, callLayer(t, "TrimPage", impl.TrimPage, s.f, lpn), wantTrim(s.f, lpn))
		for _, d := range data {
			expectLayer(t, "WritePage, "+s.what, callLayer(t, "WritePage", impl.WritePage, s.f, lpn, d), wantWrite(s.f, lpn, d))
		}
	}
	for _, a := range atomicArgs(s.f) {
		got := callLayer(t, "WriteAtomic", impl.WriteAtomic, s.f, a.Lpns, a.Data)
		expectLayer(t, "WriteAtomic, "+s.what, got, wantAtomic(s.f, a.Lpns, a.Data))
	}
	expectLayer(t, "SyncFTL, "+s.what, callLayer(t, "SyncFTL", impl.SyncFTL, s.f), wantSync(s.f))
	expectLayer(t, "CleanFTL, "+s.what, callLayer(t, "CleanFTL", impl.CleanFTL, s.f), wantClean(s.f))
	expectLayer(t, "LevelFTL, "+s.what, callLayer(t, "LevelFTL", impl.LevelFTL, s.f), wantLevel(s.f))
}

// TestP23Functions compares all functions with the model, for valid and invalid layers and arguments.
func TestP23Functions(t *testing.T) {
	for _, s := range allLayers() {
		t.Run("", func(t *testing.T) {
			t.Parallel()
			checkLayer(t, s)
		})
	}
}

// TestP23ErrorOrder has calls to which two errors apply, of which the first one in the order counts.
func TestP23ErrorOrder(t *testing.T) {
	f := busyLayer(1408, smallGeometry, 1, impl.ClGreedy)
	full := changedLayer(f, func(f *impl.FTL) { f.Seq = 1000001 })
	off := changedLayer(full, func(f *impl.FTL) { f.Flash.Off = true })
	invalid := changedLayer(off, func(f *impl.FTL) { f.Seq++ })
	worn := changedLayer(f, func(f *impl.FTL) {
		for i := range f.Flash.Blocks {
			f.Flash.Blocks[i].Erases, f.Flash.Blocks[i].Next = 1000, 8
		}
	})
	code := func(_ impl.FTL, code int64) int64 { return code }
	expect(t, "invalid, off, data, page", code(impl.WritePage(invalid, -1, "")), impl.ErrInvalid)
	expect(t, "off, data, page", code(impl.WritePage(off, -1, "")), impl.ErrPower)
	expect(t, "data, page, Seq", code(impl.WritePage(full, -1, "")), impl.ErrInvalid)
	expect(t, "page, Seq", code(impl.WritePage(full, 8, dataOf(1))), impl.ErrRange)
	expect(t, "Seq", code(impl.WritePage(full, 7, dataOf(1))), impl.ErrFull)
	expect(t, "off, sizes", code(impl.WriteAtomic(off, nil, nil)), impl.ErrPower)
	expect(t, "sizes, page", code(impl.WriteAtomic(full, []int64{8, 8}, []string{dataOf(1), "x"})), impl.ErrInvalid)
	expect(t, "page behind the pages that occur twice", code(impl.WriteAtomic(full, []int64{1, 1, 8}, atomicAct(1, 0, 1, 2).Data)), impl.ErrRange)
	expect(t, "page that occurs twice, Seq", code(impl.WriteAtomic(full, []int64{1, 1}, atomicAct(1, 0, 1).Data)), impl.ErrState)
	expect(t, "Seq of a group", code(impl.WriteAtomic(full, []int64{1, 2}, atomicAct(1, 0, 1).Data)), impl.ErrFull)
	expect(t, "off, page", code(impl.TrimPage(off, 8)), impl.ErrPower)
	expect(t, "page that does not exist", code(impl.TrimPage(full, 8)), impl.ErrRange)
	empty := changedLayer(full, func(f *impl.FTL) { f.Map = emptyMap(8, mapSize{8, 8}) })
	expect(t, "page without data, Seq", code(impl.TrimPage(empty, 7)), impl.ErrNotFound)
	expect(t, "off, nothing to level", code(impl.LevelFTL(off)), impl.ErrPower)
	expect(t, "nothing to level, no room", code(impl.LevelFTL(worn)), impl.ErrState)
	gap := changedLayer(worn, func(f *impl.FTL) {
		f.Flash.Blocks[0].Erases = 998
		f.Flash.Blocks[0].Bad = false
		f.Open = []int64{0, -1}
	})
	expect(t, "no room, nothing to clean", code(impl.LevelFTL(gap)), impl.ErrFull)
	expect(t, "nothing to clean", code(impl.CleanFTL(gap)), impl.ErrNotFound)
	_, read := impl.ReadPage(off, 8)
	expect(t, "off, page to read", read, impl.ErrPower)
	_, read = impl.ReadPage(invalid, 8)
	expect(t, "invalid, page to read", read, impl.ErrInvalid)
}

// TestP23Seq writes until the sequence numbers are used up.
func TestP23Seq(t *testing.T) {
	start := actOk(t, newLayer(t, smallGeometry, 1, impl.ClGreedy), writeAct(0, 1), writeAct(1, 2))
	at := func(seq int64) impl.FTL { return changedLayer(start, func(f *impl.FTL) { f.Seq = seq }) }
	last := expectAct(t, "last number", at(1000000), writeAct(0, 3), impl.OK).f
	expect(t, "Seq behind the last number", last.Seq, 1000001)
	expect(t, "Last of the block", last.Last[last.Map.Map[0]/8], 1000000)
	expectAct(t, "no number left", last, writeAct(0, 4), impl.ErrFull)
	expectAct(t, "no number left", last, trimAct(0), impl.ErrFull)
	expectAct(t, "no number left", last, atomicAct(4, 0), impl.ErrFull)
	actOk(t, last, syncAct)
	expectAct(t, "last number", at(1000000), trimAct(0), impl.OK)
	for count := int64(1); count <= 4; count++ {
		lpns := []int64{3, 2, 1, 0}[:count]
		expect(t, "Seq behind a group", expectAct(t, "last numbers", at(1000001-count), atomicAct(5, lpns...), impl.OK).f.Seq, 1000001)
		expectAct(t, "a number too few", at(1000002-count), atomicAct(5, lpns...), impl.ErrFull)
	}
	mounted := remounted(t, last)
	expect(t, "Seq of a layer with the last number", mounted.Seq, 1000001)
	expect(t, "newest record of page 0", contents(t, mounted)[0], dataOf(3))
}

// TestP23Examples has the examples of chapter 14.
func TestP23Examples(t *testing.T) {
	f := actOk(t, newLayer(t, smallGeometry, 1, impl.ClGreedy), writeAct(3, 1), writeAct(3, 2))
	expect(t, "page after two writes", contents(t, f)[3], dataOf(2))
	trimmed := actOk(t, f, trimAct(3))
	_, code := impl.ReadPage(trimmed, 3)
	expect(t, "code of a trimmed page", code, impl.ErrNotFound)
	expectAct(t, "trimmed twice", trimmed, trimAct(3), impl.ErrNotFound)
	expect(t, "page that is written again", contents(t, actOk(t, trimmed, writeAct(3, 5)))[3], dataOf(5))
	one := actOk(t, newLayer(t, smallGeometry, 1, impl.ClGreedy), writeAct(0, 1))
	synced := actOk(t, one, syncAct)
	expect(t, "operations of the synchronization", synced.Flash.Ops-one.Flash.Ops, 1)
	_, m, _ := openedAt(synced, 8*synced.Open[0]+1)
	expect(t, "metadata of the pad", m, padMeta)
	expect(t, "page after a power cut", contents(t, remounted(t, changedLayer(synced, func(f *impl.FTL) { f.Flash.Off = true })))[0], dataOf(1))
	outdated := layerOf(smallGeometry, 4, filled(1, 0, 1, 2, 3, 0, 1, 2, 3), filled(11, 0, 1, 2, 3))
	cleaned := actOk(t, outdated, cleanAct)
	expect(t, "operations of cleaning without live pages", cleaned.Flash.Ops-outdated.Flash.Ops, 1)
	expect(t, "the outdated block is erased", cleaned.Flash.Blocks[0].Next, 0)
}

// TestP23BitErrors reads and moves pages with bits that the code corrects, and one that it does not.
func TestP23BitErrors(t *testing.T) {
	f := layerOf(smallGeometry, 2, filled(1, 0, 1))
	script := []impl.Fault{bitFault(0, 0, 3), bitFault(0, 0, 70), bitFault(0, 0, 727), bitFault(0, 1, 600)}
	fl, _ := impl.ApplyFaults(f.Flash, script)
	bent := changedLayer(f, func(f *impl.FTL) { f.Flash = fl })
	expect(t, "page 0 with wrong bits", contents(t, bent)[0], dataOf(1))
	cleaned := actOk(t, bent, cleanAct)
	expect(t, "page 0, moved", contents(t, cleaned)[0], dataOf(1))
	fl, _ = impl.ApplyFault(fl, bitFault(0, 1, 601))
	torn := changedLayer(f, func(f *impl.FTL) { f.Flash = fl })
	_, code := impl.ReadPage(torn, 1)
	expect(t, "code of a page that cannot be opened", code, impl.ErrCorrupt)
	expectAct(t, "page that cannot be moved", torn, cleanAct, impl.ErrCorrupt)
}

// TestP23Sequences performs long sequences of operations, some on layers whose blocks go bad, and compares
// each outcome with the model.
func TestP23Sequences(t *testing.T) {
	for n := range 16 {
		t.Run("", func(t *testing.T) {
			t.Parallel()
			r := rand.New(rand.NewSource(int64(1420 + n)))
			f := newLayer(t, someGeometries[n%4], 1+int64(n%3), 1+int64(n/2%2))
			logical := min(len(f.Map.Map), 2+n)
			codes := map[string]int{}
			for i, a := range randomActs(r, logical, 250, 1) {
				got := act(t, f, a)
				codes[nameOf(a)+" "+impl.CodeName(got.code)]++
				if got.code == impl.OK {
					f = got.f
				}
				if block := r.Intn(len(f.Flash.Blocks)); n%2 == 0 && i%100 == 99 {
					f = changedLayer(f, func(f *impl.FTL) { f.Flash.Blocks[block].Bad = true })
				}
			}
			for _, what := range []string{"WritePage ok", "WriteAtomic ok", "TrimPage ok", "SyncFTL ok", "CleanFTL ok"} {
				expect(t, "often "+what, codes[what] > 5, true)
			}
		})
	}
}

// TestP23ValidFtlAct checks which operations are valid.
func TestP23ValidFtlAct(t *testing.T) {
	kinds := map[int64]int{}
	for _, a := range edgeActs() {
		if actIsValid(a) {
			kinds[a.Kind]++
		}
		expect(t, "ValidFtlAct", impl.ValidFtlAct(a), actIsValid(a))
	}
	for kind := int64(1); kind <= 6; kind++ {
		expect(t, "there are valid operations of the kind", kinds[kind] > 0, true)
	}
	expect(t, "ValidFtlAct of the last page", impl.ValidFtlAct(writeAct(47, 1)), true)
	expect(t, "ValidFtlAct of no page", impl.ValidFtlAct(writeAct(48, 1)), false)
	expect(t, "ValidFtlAct of a page twice", impl.ValidFtlAct(atomicAct(1, 5, 5)), true)
}

// edgeActs returns operations of all kinds and of no kind, with all numbers of pages and data.
func edgeActs() []impl.FtlAct {
	var list []impl.FtlAct
	for _, kind := range slices.Concat(farInts, []int64{-1, 0, 1, 2, 3, 4, 5, 6, 7, 257, 1<<32 + 1}) {
		for pages := range 6 {
			for data := range 6 {
				a := atomicAct(1, []int64{0, 47, 3, 5, 7}[:pages]...)
				a.Kind, a.Data = kind, atomicAct(1, 0, 0, 0, 0, 0).Data[:data]
				list = append(list, a)
			}
		}
	}
	for kind := range int64(7) {
		for _, lpn := range slices.Concat(farInts, []int64{-1, 0, 47, 48}) {
			for _, size := range []int{0, 63, 64, 65} {
				list = append(list, impl.FtlAct{Kind: kind, Lpns: []int64{lpn}, Data: []string{strings.Repeat("d", size)}})
				list = append(list, impl.FtlAct{Kind: kind, Lpns: []int64{0, lpn}, Data: []string{dataOf(1), strings.Repeat("d", size)}})
			}
			list = append(list, impl.FtlAct{Kind: kind, Lpns: []int64{lpn}})
		}
	}
	return list
}

// playOutcome is a result of PlayFTL.
type playOutcome struct {
	layer layerOutcome
	done  int64
}

// wantPlay returns the outcome that chapter 14 requires of PlayFTL.
func wantPlay(f impl.FTL, list []impl.FtlAct) playOutcome {
	for _, a := range list {
		if !actIsValid(a) {
			return playOutcome{layer: layerOutcome{code: impl.ErrInvalid}}
		}
	}
	switch {
	case !layerIsValid(f) || len(list) > 60:
		return playOutcome{layer: layerOutcome{code: impl.ErrInvalid}}
	case f.Flash.Off:
		return playOutcome{layer: layerOutcome{code: impl.ErrPower}}
	}
	want := playOutcome{layer: layerOutcome{f, impl.OK}}
	for _, a := range list {
		switch got := wantAct(want.layer.f, a); got.code {
		case impl.OK:
			want.layer.f = got.f
			want.done++
		case impl.ErrPower:
			want.layer = got
			return want
		}
	}
	return want
}

// play plays operations, checks promise 1 for the call, and compares the outcome with the model.
func play(t *testing.T, f impl.FTL, list []impl.FtlAct) playOutcome {
	t.Helper()
	args := []reflect.Value{reflect.ValueOf(f), reflect.ValueOf(list)}
	results := callPurely(t, "PlayFTL", reflect.ValueOf(impl.PlayFTL), args)
	got := playOutcome{layerOutcome{results[0].Interface().(impl.FTL), results[2].Interface().(int64)}, results[1].Interface().(int64)}
	want := wantPlay(f, list)
	expectLayer(t, "PlayFTL", got.layer, want.layer)
	if got.done != want.done {
		t.Fatalf("PlayFTL: %d operations returned OK, want %d", got.done, want.done)
	}
	return got
}

// TestP23PlayFTL plays operations that fail, too many, and invalid ones, on all layers.
func TestP23PlayFTL(t *testing.T) {
	r := rand.New(rand.NewSource(1430))
	for _, s := range allLayers() {
		logical := max(1, len(s.f.Map.Map))
		for _, size := range []int{0, 1, 20} {
			play(t, s.f, randomActs(r, logical, size, 1))
		}
	}
	f := busyLayer(1409, smallGeometry, 1, impl.ClGreedy)
	expect(t, "60 operations", play(t, f, slices.Repeat([]impl.FtlAct{syncAct}, 60)).done, 60)
	expect(t, "code of 61 operations", play(t, f, slices.Repeat([]impl.FtlAct{syncAct}, 61)).layer.code, impl.ErrInvalid)
	mixed := []impl.FtlAct{writeAct(1, 1), trimAct(1), trimAct(1), writeAct(40, 2), atomicAct(3, 5, 5), atomicAct(5, 5, 6), writeAct(2, 9)}
	got := play(t, f, mixed)
	expect(t, "operations of seven that return OK", got.done, 4)
	expect(t, "Seq after five writes", got.layer.f.Seq, f.Seq+5)
	off := changedLayer(f, func(f *impl.FTL) { f.Flash.Off = true })
	expect(t, "code of a layer that is off", play(t, off, mixed).layer.code, impl.ErrPower)
	expect(t, "code of a layer that is off, without operations", play(t, off, nil).layer.code, impl.ErrPower)
	expect(t, "code of an invalid operation on a layer that is off", play(t, off, []impl.FtlAct{syncAct, {}}).layer.code, impl.ErrInvalid)
	for _, a := range edgeActs() {
		play(t, f, []impl.FtlAct{syncAct, a, syncAct})
	}
}
