package tests

import (
	"fmt"
	"math/rand"
	"slices"
	"testing"

	"loop.example/g00905/impl"
)

// noData stands for the data of a logical page that has none.
const noData = ""

// someKeeps are numbers of bytes that an interrupted operation keeps: none, all, at and beside the bounds of
// the parts of a page, and at and beside the numbers of pages of a block.
var someKeeps = []int64{0, 1, 7, 8, 9, 15, 16, 17, 64, 80, 89, 90, 91}

// pageHistory is what was written to the logical pages of a layer since it was mounted. Each logical page
// has versions, the last of which is the present one; those before the durable one must not be recovered.
type pageHistory struct {
	versions [][]string
	durable  []int
	groups   []map[int64]int
}

// contents returns the data of all logical pages of a layer.
func contents(t *testing.T, f impl.FTL) []string {
	t.Helper()
	var list []string
	for lpn := range int64(len(f.Map.Map)) {
		data, code := impl.ReadPage(f, lpn)
		if want := wantRead(f, lpn); data != want.s || code != want.code || code != impl.OK && code != impl.ErrNotFound {
			t.Fatalf("ReadPage of page %d: got %q and code %d, want %q and code %d", lpn, data, code, want.s, want.code)
		}
		if code == impl.ErrNotFound {
			data = noData
		}
		list = append(list, data)
	}
	return list
}

// historyOf returns the history of a layer that was just mounted: all that it has is durable, because no
// block is open.
func historyOf(t *testing.T, f impl.FTL) *pageHistory {
	t.Helper()
	h := &pageHistory{durable: make([]int, len(f.Map.Map))}
	for _, data := range contents(t, f) {
		h.versions = append(h.versions, []string{data})
	}
	return h
}

// clone returns a copy of a history to which more can be added.
func (h *pageHistory) clone() *pageHistory {
	c := &pageHistory{durable: slices.Clone(h.durable), groups: slices.Clone(h.groups)}
	for _, list := range h.versions {
		c.versions = append(c.versions, slices.Clip(list))
	}
	return c
}

// synchronize makes the present versions durable.
func (h *pageHistory) synchronize() {
	for lpn, list := range h.versions {
		h.durable[lpn] = len(list) - 1
	}
}

// erasesOf returns the number of erase operations of all blocks.
func erasesOf(f impl.FTL) int64 {
	sum := int64(0)
	for _, b := range f.Flash.Blocks {
		sum += b.Erases
	}
	return sum
}

// note records an operation that led from one layer to another one with OK or ErrPower.
func (h *pageHistory) note(a impl.FtlAct, before impl.FTL, after layerOutcome) {
	// Before a block is erased, the layer is synchronized.
	if erasesOf(after.f) > erasesOf(before) {
		h.synchronize()
	}
	members := map[int64]int{}
	for i, lpn := range a.Lpns {
		data := noData
		if a.Kind != impl.FaTrim {
			data = a.Data[i]
		}
		members[lpn] = len(h.versions[lpn])
		h.versions[lpn] = append(h.versions[lpn], data)
	}
	h.groups = append(h.groups, members)
	if a.Kind == impl.FaSync && after.code == impl.OK {
		h.synchronize()
	}
}

// checkPresent checks that a layer has the present versions.
func (h *pageHistory) checkPresent(t *testing.T, f impl.FTL) {
	t.Helper()
	for lpn, data := range contents(t, f) {
		if list := h.versions[lpn]; data != list[len(list)-1] {
			t.Fatalf("page %d: got %q, want %q", lpn, data, list[len(list)-1])
		}
	}
}

// check checks promise 23 for a layer that was mounted after a power cut.
func (h *pageHistory) check(t *testing.T, what string, f impl.FTL) {
	t.Helper()
	got := contents(t, f)
	for lpn, data := range got {
		if allowed := h.versions[lpn][h.durable[lpn]:]; !slices.Contains(allowed, data) {
			t.Fatalf("%s: page %d: got %q, want one of %q", what, lpn, data, allowed)
		}
	}
	for _, members := range h.groups {
		applied := false
		for lpn, version := range members {
			applied = applied || got[lpn] == h.versions[lpn][version] && got[lpn] != noData
		}
		for lpn, version := range members {
			if applied && !slices.Contains(h.versions[lpn][version:], got[lpn]) {
				t.Fatalf("%s: a group is not complete: page %d: got %q, want one of %q", what, lpn, got[lpn], h.versions[lpn][version:])
			}
		}
	}
}

// armedLayer returns a layer whose power is cut in the operation behind the next ones.
func armedLayer(t *testing.T, f impl.FTL, fuse int64, keep int64) impl.FTL {
	t.Helper()
	fl, code := impl.ArmFuse(f.Flash, fuse, keep)
	if code != impl.OK {
		t.Fatal("ArmFuse", code)
	}
	f.Flash = fl
	return f
}

// cutAct performs an operation with a power cut and returns the layer that is mounted afterwards, its
// history, and whether the power was cut at all.
func cutAct(t *testing.T, h *pageHistory, f impl.FTL, a impl.FtlAct, fuse int64, keep int64) (impl.FTL, bool) {
	t.Helper()
	armed := armedLayer(t, f, fuse, keep)
	got := perform(armed, a)
	what := fmt.Sprintf("%s, cut after %d operations with %d bytes", nameOf(a), fuse, keep)
	expectLayer(t, what, got, wantAct(armed, a))
	if got.code != impl.ErrPower {
		return impl.FTL{}, false
	}
	if !layerIsValid(got.f) || !got.f.Flash.Off || got.f.Flash.Ops != f.Flash.Ops+fuse+1 {
		t.Fatalf("%s: valid %v, off %v, %d operations", what, layerIsValid(got.f), got.f.Flash.Off, got.f.Flash.Ops)
	}
	after := h.clone()
	after.note(a, f, got)
	mounted := remounted(t, got.f)
	after.check(t, what, mounted)
	return mounted, true
}

// cutEverywhere cuts the power in every flash operation of an operation and calls visit with the layers
// that are mounted afterwards.
func cutEverywhere(t *testing.T, h *pageHistory, f impl.FTL, a impl.FtlAct, keeps []int64, visit func(impl.FTL)) {
	t.Helper()
	for fuse := int64(0); ; fuse++ {
		for _, keep := range keeps {
			mounted, cut := cutAct(t, h, f, a, fuse, keep)
			if !cut {
				return
			}
			visit(mounted)
		}
	}
}

// playWithCuts performs operations one after the other, each after all power cuts in it were tried, and
// returns the layer after the last one.
func playWithCuts(t *testing.T, f impl.FTL, acts []impl.FtlAct, keeps []int64, visit func(impl.FTL)) impl.FTL {
	t.Helper()
	h := historyOf(t, f)
	for _, a := range acts {
		cutEverywhere(t, h, f, a, keeps, visit)
		if got := act(t, f, a); got.code == impl.OK {
			h.note(a, f, got)
			f = got.f
		}
		h.checkPresent(t, f)
	}
	h.check(t, "at the end", remounted(t, f))
	return f
}

// ignore is a visit that does nothing.
func ignore(impl.FTL) {}

// randomActs returns operations on so many logical pages, whose data contain different numbers from n on.
func randomActs(r *rand.Rand, logical int, size int, n int) []impl.FtlAct {
	var list []impl.FtlAct
	for range size {
		list = append(list, randomAct(r, logical, n))
		n += impl.MaxAtomic
	}
	return list
}

// filledLayer returns a layer that was mounted after random writes.
func filledLayer(t *testing.T, r *rand.Rand, g impl.Geometry, bound, policy int64, writes int) impl.FTL {
	t.Helper()
	f := newLayer(t, g, bound, policy)
	for n := range writes {
		f = actOk(t, f, writeAct(int64(r.Intn(len(f.Map.Map))), n+1))
	}
	return remounted(t, f)
}

// TestP23CutEverywhere cuts the power at every flash operation of random sequences.
func TestP23CutEverywhere(t *testing.T) {
	for n := range 24 {
		t.Run("", func(t *testing.T) {
			t.Parallel()
			r := rand.New(rand.NewSource(int64(1410 + n)))
			g := []impl.Geometry{smallGeometry, smallGeometry, {Dies: 3, Blocks: 4, Pages: 8}, {Dies: 2, Blocks: 4, Pages: 16}}[n%4]
			f := filledLayer(t, r, g, 1+int64(n%3), 1+int64(n/2%2), n*7)
			playWithCuts(t, f, randomActs(r, 2+r.Intn(len(f.Map.Map)-1), 60, 1000), someKeeps, ignore)
		})
	}
}

// TestP23CutEveryByte cuts the power at every flash operation of a sequence with operations of all kinds,
// with every number of bytes kept.
func TestP23CutEveryByte(t *testing.T) {
	var keeps []int64
	for keep := range int64(impl.RawSize + 1) {
		keeps = append(keeps, keep)
	}
	acts := []impl.FtlAct{
		writeAct(0, 10), syncAct, writeAct(1, 11), writeAct(0, 12), atomicAct(20, 2, 0, 3), trimAct(1), atomicAct(30, 1, 2), syncAct, cleanAct, levelAct,
		trimAct(3), writeAct(3, 40), cleanAct, atomicAct(50, 0, 1, 2, 3), writeAct(1, 60), cleanAct, levelAct, syncAct, trimAct(2), cleanAct, levelAct,
	}
	f := erasesAre(layerOf(smallGeometry, 4, filled(1, 0, 1), groupOf(3, 2, 3), filled(5, 1), filled(6, 0)), 5, 3, 0, 3, 3, 3, 3, 3)
	kinds, before := map[string]int64{}, f
	for _, a := range acts {
		if got := perform(before, a); got.code == impl.OK {
			kinds[nameOf(a)] += got.f.Flash.Ops - before.Flash.Ops
			before = got.f
		}
	}
	for kind := int64(1); kind <= 6; kind++ {
		name := nameOf(impl.FtlAct{Kind: kind})
		expect(t, "operations to interrupt in "+name, kinds[name] > 0, true)
	}
	playWithCuts(t, f, acts, keeps, ignore)
}

// TestP23CutTwice cuts the power a second time, at every flash operation of the first operations after
// each power cut.
func TestP23CutTwice(t *testing.T) {
	for n := range 12 {
		t.Run("", func(t *testing.T) {
			t.Parallel()
			r := rand.New(rand.NewSource(int64(1460 + n)))
			f := filledLayer(t, r, smallGeometry, 1, 1+int64(n%2), 10*n)
			next := 5000
			again := func(mounted impl.FTL) {
				acts := append([]impl.FtlAct{cleanAct}, randomActs(r, 8, 2, next)...)
				next += 2 * impl.MaxAtomic
				playWithCuts(t, mounted, acts, []int64{0, 3, 40, 91}, ignore)
			}
			playWithCuts(t, f, randomActs(r, 8, 10, 1000), []int64{0, 2, 8, 90, 91}, again)
		})
	}
}

// TestP23CutWalk cuts the power again and again in operations of long sequences.
func TestP23CutWalk(t *testing.T) {
	for n := range 24 {
		t.Run("", func(t *testing.T) {
			t.Parallel()
			r := rand.New(rand.NewSource(int64(1440 + n)))
			g := []impl.Geometry{smallGeometry, {Dies: 3, Blocks: 4, Pages: 8}, smallGeometry, {Dies: 3, Blocks: 4, Pages: 16}}[n%4]
			f := newLayer(t, g, 1+int64(n%4), 1+int64(n/2%2))
			h, cuts := historyOf(t, f), 0
			for i, a := range randomActs(r, len(f.Map.Map), 1000, 1000) {
				if r.Intn(1+n%3) == 0 {
					keep := someKeeps[r.Intn(len(someKeeps))]
					if mounted, cut := cutAct(t, h, f, a, r.Int63n([]int64{3, 8, 20}[i%3]), keep); cut {
						f, h = mounted, historyOf(t, mounted)
						cuts++
						continue
					}
				}
				if got := perform(f, a); got.code == impl.OK {
					h.note(a, f, got)
					f = got.f
				}
				h.checkPresent(t, f)
			}
			expect(t, "the power was cut often", cuts > 30, true)
		})
	}
}

// TestP23CutGroups cuts the power where members of groups were overwritten, trimmed or moved, and where blocks
// with members are cleaned.
func TestP23CutGroups(t *testing.T) {
	members := groupOf(5, 0, 1, 2, 3)
	layers := []impl.FTL{
		layerOf(smallGeometry, 4, members[:1], members[1:2], members[2:3], members[3:]),
		layerOf(smallGeometry, 4, members, filled(9, 0, 2)),
		layerOf(smallGeometry, 4, append(members[:2:2], dataMeta(2, 9)), append(members[2:], trimMeta(0, 10)), filled(1, 0, 1, 2, 3)),
		layerOf(smallGeometry, 4, filled(1, 0, 1, 2, 3), members[:3], filled(2, 1)),
		layerOf(smallGeometry, 4, append(filled(5, 0), members...), groupOf(9, 1, 2), groupOf(11, 2, 3)),
	}
	sequences := [][]impl.FtlAct{
		{cleanAct, cleanAct, cleanAct, cleanAct},
		{writeAct(1, 50), cleanAct, atomicAct(60, 2, 3), cleanAct, writeAct(2, 70), cleanAct, cleanAct},
		{atomicAct(50, 0, 1), atomicAct(60, 1, 2), atomicAct(70, 2, 3), cleanAct, trimAct(1), cleanAct, syncAct, cleanAct, cleanAct},
		{trimAct(0), atomicAct(50, 3, 2, 1, 0), writeAct(3, 60), cleanAct, writeAct(3, 61), cleanAct, writeAct(0, 62), cleanAct, cleanAct},
	}
	for _, f := range layers {
		for _, acts := range sequences {
			playWithCuts(t, f, acts, someKeeps, ignore)
		}
	}
}

// TestP23CutPair interrupts the operation behind a record, which destroys the record if both are in one pair
// of pages and the record was not synchronized.
func TestP23CutPair(t *testing.T) {
	for pairs := range 6 {
		for keep := range int64(impl.RawSize + 1) {
			for _, synced := range []bool{false, true} {
				f := newLayer(t, smallGeometry, 1, impl.ClGreedy)
				for range pairs {
					f = actOk(t, f, atomicAct(1, 0), trimAct(0))
				}
				f = actOk(t, f, atomicAct(50, 2))
				phys := f.Map.Map[2]
				if synced {
					f = actOk(t, f, syncAct)
				}
				cut := expectAct(t, "cut", armedLayer(t, f, 0, keep), atomicAct(60, 3), impl.ErrPower).f
				destroyed := !synced && keep > 0 && keep < impl.RawSize
				want := dataOf(50)
				if destroyed {
					want = noData
				}
				expect(t, "pair is even", phys%2, 0)
				expect(t, "record before the interrupted one", contents(t, remounted(t, cut))[2], want)
				_, _, ok := openedAt(cut, phys)
				expect(t, "the record can be opened", ok, !destroyed)
			}
		}
	}
}

// TestP23CutState checks how far a layer is updated when the power is cut.
func TestP23CutState(t *testing.T) {
	f := actOk(t, newLayer(t, smallGeometry, 1, impl.ClGreedy), atomicAct(10, 0, 1), syncAct)
	for keep := range int64(impl.RawSize + 1) {
		cut := expectAct(t, "first record of a group", armedLayer(t, f, 0, keep), atomicAct(20, 1, 0, 2), impl.ErrPower).f
		expectList(t, "Last", cut.Last, f.Last)
		cut = expectAct(t, "last record of a group", armedLayer(t, f, 2, keep), atomicAct(20, 1, 0, 2), impl.ErrPower).f
		expect(t, "Last of the open block", cut.Last[f.Open[0]], 4)
		expect(t, "Map", sameMaps(cut.Map, f.Map), true)
		expect(t, "Heat", sameHeats(cut.Heat, f.Heat), true)
		expect(t, "Seq", cut.Seq, f.Seq)
		want := []string{dataOf(10), dataOf(11), noData, noData, noData, noData, noData, noData}
		if keep == impl.RawSize {
			want = []string{dataOf(21), dataOf(20), dataOf(22), noData, noData, noData, noData, noData}
		}
		expectList(t, "pages after the power cut", indexesOf(contents(t, remounted(t, cut)), want), []int64{0, 1, 2, 3, 4, 5, 6, 7})
	}
	opened := expectAct(t, "first record in a new block", armedLayer(t, newLayer(t, smallGeometry, 1, 1), 0, 0), writeAct(0, 1), impl.ErrPower).f
	expectList(t, "open blocks", opened.Open, []int64{0, -1})
	moving := layerOf(smallGeometry, 4, filled(1, 0, 1, 2))
	cut := expectAct(t, "second record of a block", armedLayer(t, moving, 1, 5), cleanAct, impl.ErrPower).f
	expectList(t, "Map after one move", cut.Map.Map, []int64{8, 1, 2, -1})
	expect(t, "Last after one move", cut.Last[1], 1)
}

// indexesOf returns the indexes at which two lists are equal.
func indexesOf(a []string, b []string) []int64 {
	var list []int64
	for i := range min(len(a), len(b)) {
		if a[i] == b[i] {
			list = append(list, int64(i))
		}
	}
	return list
}

// TestP23PlayCut plays operations with a power cut in every flash operation.
func TestP23PlayCut(t *testing.T) {
	r := rand.New(rand.NewSource(1450))
	for n := range 6 {
		f := filledLayer(t, r, smallGeometry, 1, 1+int64(n%2), 12*n)
		h := historyOf(t, f)
		acts := append(randomActs(r, 8, 20, 1000), trimAct(47), writeAct(8, 1))
		uncut := play(t, f, acts)
		for fuse := range uncut.layer.f.Flash.Ops - f.Flash.Ops {
			for _, keep := range []int64{0, 5, 91} {
				got := play(t, armedLayer(t, f, fuse, keep), acts)
				expect(t, "code of PlayFTL", got.layer.code, impl.ErrPower)
				expect(t, "power is off", got.layer.f.Flash.Off, true)
				noted(h, f, acts, fuse, keep).check(t, "PlayFTL", remounted(t, got.layer.f))
			}
		}
		play(t, armedLayer(t, f, uncut.layer.f.Flash.Ops-f.Flash.Ops, 5), acts)
	}
}

// noted returns a history to which the operations are added that are performed until the power is cut.
func noted(h *pageHistory, f impl.FTL, acts []impl.FtlAct, fuse int64, keep int64) *pageHistory {
	after := h.clone()
	f.Flash.Fuse, f.Flash.Keep = fuse, keep
	for _, a := range acts {
		got := perform(f, a)
		if got.code == impl.OK || got.code == impl.ErrPower {
			after.note(a, f, got)
			f = got.f
		}
		if got.code == impl.ErrPower {
			break
		}
	}
	return after
}
