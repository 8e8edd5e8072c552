package tests

import (
	"math/rand"
	"reflect"
	"slices"
	"strings"
	"testing"

	"loop.example/g00905/impl"
)

// layerSample is a layer, whether it is valid, and what is special about it.
type layerSample struct {
	what  string
	f     impl.FTL
	valid bool
}

// layerOutcome is a result of a function that returns a layer and a code.
type layerOutcome struct {
	f    impl.FTL
	code int64
}

// modelStop ends an operation of the model with a code.
type modelStop int64

// layerModel performs operations as chapter 14 describes them, with the functions of other chapters.
type layerModel struct {
	f impl.FTL
}

// dataOf returns the data of a page with a number in it.
func dataOf(n int) string {
	return impl.EncodeFixed(int64(n), 8) + strings.Repeat("d", 56)
}

// zeroData is the data of trim records and pads.
var zeroData = strings.Repeat("\x00", 64)

// layerIsValid reports whether f is valid, by the definition of chapter 14.
func layerIsValid(f impl.FTL) bool {
	if !impl.ValidFlash(f.Flash) || !mapIsValid(f.Map) || !heatIsValid(f.Heat) {
		return false
	}
	blocks := f.Flash.Geo.Dies * f.Flash.Geo.Blocks
	if f.Map.Blocks != blocks || f.Map.Pages != f.Flash.Geo.Pages || len(f.Heat.Counts) != len(f.Map.Map) {
		return false
	}
	if len(f.Open) != 2 || int64(len(f.Last)) != blocks || f.Open[0] == f.Open[1] && f.Open[0] != -1 {
		return false
	}
	for _, block := range f.Open {
		if block < -1 || block >= blocks {
			return false
		}
	}
	for _, seq := range f.Last {
		if seq < 0 || seq > 1000000 {
			return false
		}
	}
	return f.Seq > 0 && f.Seq <= 1000001 && f.Bound > 0 && f.Bound <= 100 && (f.Policy == 1 || f.Policy == 2)
}

// wantCapacity returns the result that chapter 14 requires of CapacityFTL.
func wantCapacity(g impl.Geometry) int64 {
	if !impl.ValidGeometry(g) {
		return 0
	}
	return min(48, (g.Dies*g.Blocks-6)*g.Pages/2)
}

// wantMount returns the outcome that chapter 14 requires of MountFTL.
func wantMount(fl impl.Flash, logical, bound, policy int64) layerOutcome {
	list, code := wantScan(fl, impl.ValidFlash(fl))
	if code != impl.OK {
		return layerOutcome{code: code}
	}
	if logical < 1 || logical > wantCapacity(fl.Geo) || bound < 1 || bound > 100 || policy < 1 || policy > 2 {
		return layerOutcome{code: impl.ErrRange}
	}
	return recoveredLayer(fl, list, logical, bound, policy)
}

// recoveredLayer returns the layer with any number of logical pages that is recovered from the pages of an
// array, and the code of RecoverMap.
func recoveredLayer(fl impl.Flash, list []impl.Found, logical, bound, policy int64) layerOutcome {
	m := wantRecover(list, logical, fl.Geo.Dies*fl.Geo.Blocks, fl.Geo.Pages)
	if m.code != impl.OK {
		return layerOutcome{code: m.code}
	}
	f := impl.FTL{
		Flash: deepCopy(fl), Map: m.m, Heat: evenHeat(int(logical), 0, 0), Seq: wantNextSeq(list), Open: []int64{-1, -1},
		Last: make([]int64, m.m.Blocks), Bound: bound, Policy: policy,
	}
	for _, x := range list {
		f.Last[x.Phys/f.Map.Pages] = max(f.Last[x.Phys/f.Map.Pages], x.Meta.Seq)
	}
	return layerOutcome{f, impl.OK}
}

// blockIsFree reports whether a block is free, by the definition of chapter 14.
func blockIsFree(f impl.FTL, block int64) bool {
	b := f.Flash.Blocks[block]
	return b.Next == 0 && !b.Bad && block != f.Open[0] && block != f.Open[1]
}

// blockIsCandidate reports whether a block is a cleaning candidate, by the definition of chapter 14.
func blockIsCandidate(f impl.FTL, block int64) bool {
	b := f.Flash.Blocks[block]
	return !blockIsFree(f, block) && block != f.Open[0] && block != f.Open[1] && !b.Bad && b.Erases < 1000
}

// wantFree returns the result that chapter 14 requires of FreeBlocks for a valid layer.
func wantFree(f impl.FTL) []int64 {
	var list []int64
	for block := range f.Map.Blocks {
		if blockIsFree(f, block) {
			list = append(list, block)
		}
	}
	return list
}

// wearOf returns the erase counts of all blocks and their bad marks.
func wearOf(f impl.FTL) ([]int64, []bool) {
	var erases []int64
	var bad []bool
	for _, b := range f.Flash.Blocks {
		erases = append(erases, b.Erases)
		bad = append(bad, b.Bad)
	}
	return erases, bad
}

// livePages returns the pages of a block that occur in a map, in ascending order. The map may refer to a page
// several times.
func livePages(m impl.PageMap, block int64) []int64 {
	var list []int64
	for phys := block * m.Pages; phys < (block+1)*m.Pages; phys++ {
		if slices.Contains(m.Map, phys) {
			list = append(list, phys)
		}
	}
	return list
}

// layerStats returns the statistics of the blocks of a layer, by the definition of chapter 14.
func layerStats(f impl.FTL) []impl.BlockStat {
	var list []impl.BlockStat
	for block := range f.Map.Blocks {
		live := int64(len(livePages(f.Map, block)))
		age := min(max(f.Seq-f.Last[block], 0), 1000000)
		list = append(list, impl.BlockStat{Live: live, Age: age, Usable: blockIsCandidate(f, block)})
	}
	return list
}

// openedAt returns the data and the metadata of a physical page, and whether it can be opened and has
// metadata.
func openedAt(f impl.FTL, phys int64) (string, impl.PageMeta, bool) {
	raw := f.Flash.Blocks[phys/f.Map.Pages].Pages[phys%f.Map.Pages]
	data, spare, _, code := impl.OpenPage(raw, phys)
	m, ok := wantDecode(spare)
	return data, m, code == impl.OK && ok
}

// wantRead returns the result that chapter 14 requires of ReadPage.
func wantRead(f impl.FTL, lpn int64) coded {
	switch {
	case !layerIsValid(f):
		return coded{code: impl.ErrInvalid}
	case f.Flash.Off:
		return coded{code: impl.ErrPower}
	case lpn < 0 || lpn > int64(len(f.Map.Map))-1:
		return coded{code: impl.ErrRange}
	case f.Map.Map[lpn] == -1 || f.Map.Trimmed[lpn]:
		return coded{code: impl.ErrNotFound}
	}
	data, m, ok := openedAt(f, f.Map.Map[lpn])
	if !ok || m.Kind == impl.MkPad || m.Logical != lpn {
		return coded{code: impl.ErrCorrupt}
	}
	return coded{data, impl.OK}
}

// wantOperation returns the outcome that chapter 14 requires of an operation.
func wantOperation(f impl.FTL, operation func(m *layerModel)) (want layerOutcome) {
	switch {
	case !layerIsValid(f):
		return layerOutcome{code: impl.ErrInvalid}
	case f.Flash.Off:
		return layerOutcome{code: impl.ErrPower}
	}
	m := layerModel{deepCopy(f)}
	defer func() {
		switch stop := recover().(type) {
		case nil:
			want = layerOutcome{m.f, impl.OK}
		case modelStop:
			want = layerOutcome{code: int64(stop)}
			if want.code == impl.ErrPower {
				want.f = m.f
			}
		default:
			panic(stop)
		}
	}()
	operation(&m)
	return want
}

// require ends the operation with a code unless a condition holds.
func (m *layerModel) require(condition bool, code int64) {
	if !condition {
		panic(modelStop(code))
	}
}

// programNext programs the next page of a block and returns the physical page and the code.
func (m *layerModel) programNext(block int64, meta impl.PageMeta, data string) (int64, int64) {
	page := m.f.Flash.Blocks[block].Next
	phys := block*m.f.Flash.Geo.Pages + page
	after, code := impl.ProgramPage(m.f.Flash, block, page, sealedByDefinition(data, rawMeta(meta), phys))
	if code == impl.OK || code == impl.ErrPower {
		m.f.Flash = after
	}
	return phys, code
}

// program programs a record into a stream and returns the physical page.
func (m *layerModel) program(stream int64, meta impl.PageMeta, data string) int64 {
	block := m.f.Open[stream]
	if block == -1 || m.f.Flash.Blocks[block].Next == m.f.Flash.Geo.Pages || m.f.Flash.Blocks[block].Bad {
		erases, _ := wearOf(m.f)
		block = wantPickFree(erases, wantFree(m.f), stream == impl.StreamHot)
		m.require(block >= 0, impl.ErrFull)
		m.f.Open[stream] = block
	}
	phys, code := m.programNext(block, meta, data)
	m.require(code == impl.OK, code)
	m.f.Last[block] = meta.Seq
	return phys
}

// refer makes logical pages refer to new records. If the map named one of their pages before it was
// programmed, two logical pages refer to it then, and the operation goes on with this map. No layer that
// comes of operations has such a map.
func (m *layerModel) refer(metas []impl.PageMeta, phys []int64) {
	for i, meta := range metas {
		m.f.Map.Map[meta.Logical] = phys[i]
		m.f.Map.Trimmed[meta.Logical] = meta.Kind == impl.MkTrim
	}
}

// synchronize pads the open blocks.
func (m *layerModel) synchronize() {
	for _, block := range []int64{m.f.Open[impl.StreamCold], m.f.Open[impl.StreamHot]} {
		if block != -1 && !m.f.Flash.Blocks[block].Bad && m.f.Flash.Blocks[block].Next%2 == 1 {
			_, code := m.programNext(block, impl.PageMeta{Kind: impl.MkPad}, zeroData)
			m.require(code == impl.OK, code)
		}
	}
}

// move moves the live page of a logical page.
func (m *layerModel) move(lpn int64) {
	data, meta, ok := openedAt(m.f, m.f.Map.Map[lpn])
	m.require(ok && meta.Kind != impl.MkPad && meta.Logical == lpn, impl.ErrCorrupt)
	moved := dataMeta(lpn, meta.Seq)
	if meta.Kind == impl.MkTrim {
		moved = trimMeta(lpn, meta.Seq)
	}
	m.refer([]impl.PageMeta{moved}, []int64{m.program(impl.StreamCold, moved, data)})
}

// clean cleans a block.
func (m *layerModel) clean(block int64) {
	var list []int64
	for _, phys := range livePages(m.f.Map, block) {
		for lpn, live := range m.f.Map.Map {
			if live == phys {
				list = append(list, int64(lpn))
			}
		}
	}
	for _, lpn := range list {
		m.move(lpn)
	}
	pages := m.f.Flash.Geo.Pages
	for phys := block * pages; phys < (block+1)*pages; phys++ {
		_, member, ok := openedAt(m.f, phys)
		if !ok || member.Kind != impl.MkAtomic {
			continue
		}
		for lpn := range m.f.Map.Map {
			if m.f.Map.Map[lpn] == -1 {
				continue
			}
			_, live, ok := openedAt(m.f, m.f.Map.Map[lpn])
			if ok && live.Kind == impl.MkAtomic && live.First == member.First && live.Count == member.Count {
				m.move(int64(lpn))
			}
		}
	}
	m.synchronize()
	after, code := impl.EraseBlock(m.f.Flash, block)
	if code == impl.OK || code == impl.ErrPower {
		m.f.Flash = after
	}
	m.require(code == impl.OK, code)
}

// makeRoom makes room.
func (m *layerModel) makeRoom() {
	for n := int64(0); len(wantFree(m.f)) < 3; n++ {
		block := wantVictim(impl.ClGreedy, layerStats(m.f), m.f.Flash.Geo.Pages)
		m.require(block >= 0 && n < 2*m.f.Map.Blocks, impl.ErrFull)
		m.clean(block)
	}
}

// write programs records with the next sequence numbers, all of one kind.
func (m *layerModel) write(stream int64, data []string, metas []impl.PageMeta) {
	m.makeRoom()
	var phys []int64
	for i, meta := range metas {
		phys = append(phys, m.program(stream, meta, data[i]))
	}
	m.refer(metas, phys)
	for _, meta := range metas {
		if meta.Kind != impl.MkTrim {
			m.f.Heat = wantNote(m.f.Heat, meta.Logical).h
		}
		m.f.Seq++
	}
}

// hasLogical reports whether there is such a logical page.
func (m *layerModel) hasLogical(lpn int64) bool {
	return lpn >= 0 && lpn < int64(len(m.f.Map.Map))
}

func wantWrite(f impl.FTL, lpn int64, data string) layerOutcome {
	return wantOperation(f, func(m *layerModel) {
		m.require(len(data) == 64, impl.ErrInvalid)
		m.require(m.hasLogical(lpn), impl.ErrRange)
		m.require(m.f.Seq <= 1000000, impl.ErrFull)
		stream := int64(impl.StreamCold)
		if wantHot(m.f.Heat, lpn) {
			stream = impl.StreamHot
		}
		m.write(stream, []string{data}, []impl.PageMeta{dataMeta(lpn, m.f.Seq)})
	})
}

func wantAtomic(f impl.FTL, lpns []int64, data []string) layerOutcome {
	return wantOperation(f, func(m *layerModel) {
		m.require(len(lpns) > 0 && len(lpns) < 5 && len(lpns) == len(data), impl.ErrInvalid)
		for _, s := range data {
			m.require(len(s) == 64, impl.ErrInvalid)
		}
		for _, lpn := range lpns {
			m.require(m.hasLogical(lpn), impl.ErrRange)
		}
		var metas []impl.PageMeta
		for i, lpn := range lpns {
			m.require(!slices.Contains(lpns[:i], lpn), impl.ErrState)
			metas = append(metas, atomicMeta(lpn, m.f.Seq+int64(i), m.f.Seq, int64(len(lpns))))
		}
		m.require(m.f.Seq+int64(len(lpns))-1 <= 1000000, impl.ErrFull)
		m.write(impl.StreamCold, data, metas)
	})
}

func wantTrim(f impl.FTL, lpn int64) layerOutcome {
	return wantOperation(f, func(m *layerModel) {
		m.require(m.hasLogical(lpn), impl.ErrRange)
		m.require(wantPhysOf(m.f.Map, lpn).ok, impl.ErrNotFound)
		m.require(m.f.Seq <= 1000000, impl.ErrFull)
		m.write(impl.StreamCold, []string{zeroData}, []impl.PageMeta{trimMeta(lpn, m.f.Seq)})
	})
}

func wantSync(f impl.FTL) layerOutcome {
	return wantOperation(f, (*layerModel).synchronize)
}

func wantClean(f impl.FTL) layerOutcome {
	return wantOperation(f, func(m *layerModel) {
		policy := m.f.Policy
		if len(wantFree(m.f)) < 3 {
			policy = impl.ClGreedy
		}
		block := wantVictim(policy, layerStats(m.f), m.f.Flash.Geo.Pages)
		m.require(block >= 0, impl.ErrNotFound)
		m.clean(block)
	})
}

func wantLevel(f impl.FTL) layerOutcome {
	return wantOperation(f, func(m *layerModel) {
		erases, bad := wearOf(m.f)
		m.require(wantGap(erases, bad) > m.f.Bound, impl.ErrState)
		m.makeRoom()
		var exclude []int64
		for block := range m.f.Map.Blocks {
			if !blockIsCandidate(m.f, block) {
				exclude = append(exclude, block)
			}
		}
		erases, bad = wearOf(m.f)
		block := wantStatic(erases, bad, exclude)
		m.require(block >= 0, impl.ErrNotFound)
		m.clean(block)
	})
}

// actIsValid reports whether an operation is valid, by the definition of chapter 14.
func actIsValid(a impl.FtlAct) bool {
	for _, lpn := range a.Lpns {
		if lpn < 0 || lpn > 47 {
			return false
		}
	}
	for _, s := range a.Data {
		if len(s) != 64 {
			return false
		}
	}
	switch a.Kind {
	case 1:
		return len(a.Lpns) == 1 && len(a.Data) == 1
	case 2:
		return len(a.Lpns) > 0 && len(a.Lpns) < 5 && len(a.Lpns) == len(a.Data)
	case 3:
		return len(a.Lpns) == 1 && len(a.Data) == 0
	}
	return a.Kind > 3 && a.Kind < 7 && len(a.Lpns) == 0 && len(a.Data) == 0
}

// wantAct returns the outcome that chapter 14 requires of a valid operation.
func wantAct(f impl.FTL, a impl.FtlAct) layerOutcome {
	switch a.Kind {
	case impl.FaWrite:
		return wantWrite(f, a.Lpns[0], a.Data[0])
	case impl.FaAtomic:
		return wantAtomic(f, a.Lpns, a.Data)
	case impl.FaTrim:
		return wantTrim(f, a.Lpns[0])
	case impl.FaSync:
		return wantSync(f)
	case impl.FaClean:
		return wantClean(f)
	}
	return wantLevel(f)
}

// sameLayers reports whether two layers are deeply equal, without the package.
func sameLayers(a impl.FTL, b impl.FTL) bool {
	return reflect.DeepEqual(deepCopy(a), deepCopy(b))
}

// expectLayer ends the test if an outcome differs from the wanted one.
func expectLayer(t *testing.T, what string, got layerOutcome, want layerOutcome) {
	t.Helper()
	if got.code != want.code || !sameLayers(got.f, want.f) {
		got.f.Flash.Blocks, want.f.Flash.Blocks = nil, nil
		t.Fatalf("%s: got code %d, want %d, or the layers differ (without their blocks: got %+v, want %+v)", what, got.code, want.code, got.f, want.f)
	}
	// The number of operations may wrap, and then no array is valid. Two logical pages may refer to the same
	// page if the map named it before it was programmed, and then the map is not valid.
	if got.code == impl.OK && got.f.Flash.Ops >= 0 && mapIsValid(got.f.Map) && !layerIsValid(got.f) {
		t.Fatalf("%s: the layer is invalid", what)
	}
}

// callLayer calls a function that returns a layer and a code, and checks promise 1 for the call.
func callLayer(t *testing.T, name string, function any, args ...any) layerOutcome {
	t.Helper()
	var values []reflect.Value
	for _, arg := range args {
		values = append(values, reflect.ValueOf(arg))
	}
	results := callPurely(t, name, reflect.ValueOf(function), values)
	return layerOutcome{results[0].Interface().(impl.FTL), results[1].Interface().(int64)}
}

// nameOf returns the name of the function that performs an operation.
func nameOf(a impl.FtlAct) string {
	return []string{"WritePage", "WriteAtomic", "TrimPage", "SyncFTL", "CleanFTL", "LevelFTL"}[a.Kind-1]
}

// perform performs a valid operation.
func perform(f impl.FTL, a impl.FtlAct) layerOutcome {
	var out layerOutcome
	switch a.Kind {
	case impl.FaWrite:
		out.f, out.code = impl.WritePage(f, a.Lpns[0], a.Data[0])
	case impl.FaAtomic:
		out.f, out.code = impl.WriteAtomic(f, a.Lpns, a.Data)
	case impl.FaTrim:
		out.f, out.code = impl.TrimPage(f, a.Lpns[0])
	case impl.FaSync:
		out.f, out.code = impl.SyncFTL(f)
	case impl.FaClean:
		out.f, out.code = impl.CleanFTL(f)
	case impl.FaLevel:
		out.f, out.code = impl.LevelFTL(f)
	}
	return out
}

// act performs a valid operation, checks promise 1 for the call, and compares the outcome with the model.
func act(t *testing.T, f impl.FTL, a impl.FtlAct) layerOutcome {
	t.Helper()
	performed := func(f impl.FTL, a impl.FtlAct) (impl.FTL, int64) {
		out := perform(f, a)
		return out.f, out.code
	}
	got := callLayer(t, nameOf(a), performed, f, a)
	expectLayer(t, nameOf(a), got, wantAct(f, a))
	return got
}

// actOk performs operations that shall return OK, and returns the layer.
func actOk(t *testing.T, f impl.FTL, list ...impl.FtlAct) impl.FTL {
	t.Helper()
	for i, a := range list {
		got := act(t, f, a)
		if got.code != impl.OK {
			t.Fatalf("%s, operation %d: code %d", nameOf(a), i, got.code)
		}
		f = got.f
	}
	return f
}

// expectAct performs an operation and checks the code.
func expectAct(t *testing.T, what string, f impl.FTL, a impl.FtlAct, code int64) layerOutcome {
	t.Helper()
	got := act(t, f, a)
	expect(t, what+": code of "+nameOf(a), got.code, code)
	return got
}

// mount mounts an array and compares the outcome with the model.
func mount(t *testing.T, fl impl.Flash, logical, bound, policy int64) layerOutcome {
	t.Helper()
	var got layerOutcome
	got.f, got.code = impl.MountFTL(fl, logical, bound, policy)
	expectLayer(t, "MountFTL", got, wantMount(fl, logical, bound, policy))
	return got
}

// newLayer returns a new layer with as many logical pages as possible.
func newLayer(t *testing.T, g impl.Geometry, bound, policy int64) impl.FTL {
	t.Helper()
	f, code := impl.NewFTL(g, wantCapacity(g), bound, policy)
	expectLayer(t, "NewFTL", layerOutcome{f, code}, wantMount(emptyFlash(g), wantCapacity(g), bound, policy))
	return f
}

// remounted returns the layer that is mounted after the power was off.
func remounted(t *testing.T, f impl.FTL) impl.FTL {
	t.Helper()
	got := mount(t, impl.PowerOn(f.Flash), int64(len(f.Map.Map)), f.Bound, f.Policy)
	if got.code != impl.OK {
		t.Fatalf("MountFTL: code %d", got.code)
	}
	return got.f
}

// changedLayer returns a copy of a layer to which a change was made.
func changedLayer(f impl.FTL, change func(*impl.FTL)) impl.FTL {
	out := deepCopy(f)
	change(&out)
	return out
}

func writeAct(lpn int64, n int) impl.FtlAct {
	return impl.FtlAct{Kind: impl.FaWrite, Lpns: []int64{lpn}, Data: []string{dataOf(n)}}
}

// atomicAct returns an atomic write of logical pages with the numbers from n on.
func atomicAct(n int, lpns ...int64) impl.FtlAct {
	a := impl.FtlAct{Kind: impl.FaAtomic, Lpns: lpns}
	for i := range lpns {
		a.Data = append(a.Data, dataOf(n+i))
	}
	return a
}

func trimAct(lpn int64) impl.FtlAct {
	return impl.FtlAct{Kind: impl.FaTrim, Lpns: []int64{lpn}}
}

// syncAct, cleanAct and levelAct are the operations without logical pages.
var (
	syncAct  = impl.FtlAct{Kind: impl.FaSync}
	cleanAct = impl.FtlAct{Kind: impl.FaClean}
	levelAct = impl.FtlAct{Kind: impl.FaLevel}
)

// randomAct returns an operation on one of so many logical pages, the first ones more often. Data contain
// n or, in an atomic write, n and the numbers behind it.
func randomAct(r *rand.Rand, logical int, n int) impl.FtlAct {
	lpn := int64(r.Intn(logical))
	if r.Intn(2) == 0 {
		lpn = int64(r.Intn(min(2, logical)))
	}
	switch kind := r.Intn(20); {
	case kind < 9:
		return writeAct(lpn, n)
	case kind < 13:
		var lpns []int64
		for _, lpn := range r.Perm(logical)[:1+r.Intn(min(4, logical))] {
			lpns = append(lpns, int64(lpn))
		}
		return atomicAct(n, lpns...)
	case kind < 15:
		return trimAct(lpn)
	case kind < 17:
		return syncAct
	case kind < 19:
		return cleanAct
	}
	return levelAct
}
