package tests

import (
	"testing"

	"loop.example/g00905/impl"
)

// The layers of this file have maps that name a page which is not programmed yet. They are valid. After the
// page was programmed for another logical page both refer to it, and the layer is not valid any more.

// naming returns a copy of a layer whose map names a physical page for a logical page.
func naming(f impl.FTL, lpn, phys int64) impl.FTL {
	return changedLayer(f, func(f *impl.FTL) { f.Map.Map[lpn], f.Map.Trimmed[lpn] = phys, false })
}

// expectShared performs an operation that shall return OK on a valid layer, and checks the map.
func expectShared(t *testing.T, what string, f impl.FTL, a impl.FtlAct, want ...int64) impl.FTL {
	t.Helper()
	expect(t, what+": the layer is valid before "+nameOf(a), impl.ValidFTL(f), true)
	got := expectAct(t, what, f, a, impl.OK).f
	expectList(t, what+": map after "+nameOf(a), got.Map.Map, want)
	return got
}

// TestP23NamedWrites writes and trims logical pages: the record is programmed into the named page.
func TestP23NamedWrites(t *testing.T) {
	f := changedLayer(layerOf(smallGeometry, 3, filled(1, 0)), func(f *impl.FTL) { f.Open[0] = 0 })
	named := naming(f, 1, 1)
	got := expectShared(t, "next page", named, writeAct(0, 7), 1, 1, -1)
	expect(t, "Seq after a write", got.Seq, 3)
	expect(t, "Last after a write", got.Last[0], 2)
	expect(t, "writes that were counted", got.Heat.Counts[0], 1)
	data, meta, ok := openedAt(got, 1)
	expect(t, "the record can be opened", ok && data == dataOf(7), true)
	expect(t, "metadata of the record", meta, dataMeta(0, 2))
	expect(t, "ValidFTL after a write", impl.ValidFTL(got), false)
	got = expectShared(t, "next page", named, trimAct(0), 1, 1, -1)
	expect(t, "trim mark of the page", got.Map.Trimmed[0], true)
	expect(t, "trim mark of the other page", got.Map.Trimmed[1], false)
	expect(t, "writes that were counted", got.Heat.Writes, 0)
	expectShared(t, "next page", named, atomicAct(7, 0), 1, 1, -1)
	expectShared(t, "next page", named, atomicAct(7, 2, 0), 2, 1, 1)
	expectShared(t, "second page", naming(f, 1, 2), atomicAct(7, 2, 0), 2, 2, 1)
	expectShared(t, "page of the group itself", named, atomicAct(7, 0, 1), 1, 2, -1)
	expectShared(t, "both pages of the group", naming(named, 2, 2), atomicAct(7, 2, 1), 0, 2, 1)
	expectShared(t, "the page is named for itself", naming(named, 2, 2), writeAct(1, 7), 0, 1, 2)
	expectShared(t, "later page", naming(f, 1, 2), writeAct(0, 7), 1, 2, -1)
	closed := changedLayer(f, func(f *impl.FTL) { f.Open[0] = -1 })
	expectShared(t, "page of a free block", naming(closed, 1, 8), writeAct(0, 7), 8, 8, -1)
}

// TestP23NamedMoves moves pages into the named page while a block is cleaned.
func TestP23NamedMoves(t *testing.T) {
	f := layerOf(smallGeometry, 4, filled(1, 0, 2, 2), filled(5, 3))
	f.Flash.Blocks[1].Erases = 1000
	for _, a := range []impl.FtlAct{cleanAct, levelAct} {
		expectShared(t, "first moved page", naming(f, 1, 16), a, 16, 16, 17, 8)
		expectShared(t, "second moved page", naming(f, 1, 17), a, 16, 17, 17, 8)
		expectShared(t, "the pad behind the moved pages", naming(f, 1, 18), a, 16, 18, 17, 8)
		// Neither the pages behind the first one nor those of the other block are lost.
		got := expectShared(t, "first moved page", naming(f, 1, 16), a, 16, 16, 17, 8)
		want := contents(t, f)
		for lpn, data := range contents(t, remounted(t, got)) {
			expect(t, "page after a power cut", data, want[lpn])
		}
	}
	group := layerOf(smallGeometry, 4, groupOf(5, 0, 1)[:1], append(groupOf(5, 0, 1)[1:], filled(7, 2)...))
	group.Flash.Blocks[1].Erases = 1000
	expectShared(t, "member of a group that is moved", naming(group, 3, 17), cleanAct, 16, 17, 9, 17)
}

// TestP23NamedRoom moves pages into the named page while room is made. The blocks that are cleaned afterwards
// lose nothing, although the map is not valid any more.
func TestP23NamedRoom(t *testing.T) {
	f := layerOf(smallGeometry, 5, filled(1, 0, 1, 1), filled(11, 2, 3))
	for i := 3; i < 6; i++ {
		f.Flash.Blocks[i].Bad = true
	}
	f = changedLayer(f, func(f *impl.FTL) { f.Open[0] = 2 })
	two := naming(f, 4, 17)
	one := changedLayer(two, func(f *impl.FTL) { f.Flash.Blocks[6].Bad = true })
	for _, a := range []impl.FtlAct{writeAct(0, 7), trimAct(0), atomicAct(7, 0)} {
		expectShared(t, "one block is cleaned", two, a, 18, 17, 8, 9, 17)
		got := expectShared(t, "two blocks are cleaned", one, a, 20, 17, 18, 19, 17)
		want := contents(t, f)
		after := contents(t, remounted(t, got))
		for lpn := 1; lpn < 4; lpn++ {
			expect(t, "page after a power cut", after[lpn], want[lpn])
		}
	}
}

// TestP23NamedMovedOn cleans the block with the named page in the same operation: the other logical page that
// refers to the page cannot be moved, because the record is not its own.
func TestP23NamedMovedOn(t *testing.T) {
	f := layerOf(smallGeometry, 6, filled(1, 0, 1, 1), filled(31, 4, 2, 3), filled(20, 4, 4, 4, 4, 4, 4, 4))
	f.Open[0] = 2
	for i := 5; i < 8; i++ {
		f.Flash.Blocks[i].Bad = true
	}
	got := expectAct(t, "without a named page", f, writeAct(0, 7), impl.OK).f
	expect(t, "erases of the block that is full then", got.Flash.Blocks[2].Erases, 1)
	expectAct(t, "page that cannot be moved", naming(f, 5, 23), writeAct(0, 7), impl.ErrCorrupt)
	expectAct(t, "page behind it", naming(f, 5, 24), writeAct(0, 7), impl.OK)
}

// TestP23NamedLevel moves pages into the named page while room is made, and levels another block then.
func TestP23NamedLevel(t *testing.T) {
	f := layerOf(smallGeometry, 5, filled(1, 0, 0), filled(11, 2, 3, 1))
	for i := 3; i < 6; i++ {
		f.Flash.Blocks[i].Bad = true
	}
	f = erasesAre(changedLayer(f, func(f *impl.FTL) { f.Open[0] = 2 }), 5, 0, 5)
	got := expectShared(t, "a block is levelled after another one was cleaned", naming(f, 4, 16), levelAct, 16, 20, 18, 19, 16)
	want := contents(t, f)
	after := contents(t, remounted(t, got))
	for lpn := range 4 {
		expect(t, "page after a power cut", after[lpn], want[lpn])
	}
}

// TestP23NamedCuts cuts the power after a page was moved into the named page.
func TestP23NamedCuts(t *testing.T) {
	f := naming(layerOf(smallGeometry, 4, filled(1, 0, 2, 2)), 1, 8)
	for fuse := range int64(4) {
		for _, keep := range someKeeps {
			for _, a := range []impl.FtlAct{writeAct(3, 7), cleanAct, atomicAct(7, 0, 2, 3)} {
				act(t, armedLayer(t, f, fuse, keep), a)
			}
		}
	}
	cut := expectAct(t, "second move is cut", armedLayer(t, f, 1, 0), cleanAct, impl.ErrPower).f
	expectList(t, "map after the first move", cut.Map.Map, []int64{8, 8, 2, -1})
}

// TestP23NamedPlay plays operations: those behind the one that programs the named page have no effect.
func TestP23NamedPlay(t *testing.T) {
	f := changedLayer(layerOf(smallGeometry, 3, filled(1, 0)), func(f *impl.FTL) { f.Open[0] = 0 })
	got := play(t, naming(f, 1, 1), []impl.FtlAct{writeAct(0, 7), writeAct(2, 8), syncAct, trimAct(0)})
	expect(t, "operations that return OK", got.done, 1)
	expect(t, "code", got.layer.code, impl.OK)
	expectList(t, "map", got.layer.f.Map.Map, []int64{1, 1, -1})
	got = play(t, naming(f, 1, 2), []impl.FtlAct{writeAct(0, 7), writeAct(1, 8), syncAct, writeAct(2, 9)})
	expect(t, "operations that return OK if the page is named for itself", got.done, 4)
}
