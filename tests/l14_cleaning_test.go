package tests

import (
	"slices"
	"testing"

	"loop.example/g00905/impl"
)

// erasesAre returns a copy of a layer with other erase counts of its first blocks.
func erasesAre(f impl.FTL, counts ...int64) impl.FTL {
	return changedLayer(f, func(f *impl.FTL) {
		for i, n := range counts {
			f.Flash.Blocks[i].Erases = n
		}
	})
}

// nextsOf returns Next of all blocks.
func nextsOf(f impl.FTL) []int64 {
	var list []int64
	for _, b := range f.Flash.Blocks {
		list = append(list, b.Next)
	}
	return list
}

// metaOf returns the metadata of the live page of a logical page.
func metaOf(t *testing.T, f impl.FTL, lpn int64) impl.PageMeta {
	t.Helper()
	_, m, ok := openedAt(f, f.Map.Map[lpn])
	expect(t, "the live page can be opened", ok, true)
	return m
}

// TestP23OpenBlocks writes with open blocks that are -1, full or bad, and with free blocks that are more or
// less worn.
func TestP23OpenBlocks(t *testing.T) {
	f := erasesAre(layerOf(smallGeometry, 8, nil, filled(1, 0, 1, 2, 3, 4, 5, 6, 7), filled(9, 0), filled(10, 1)), 3, 9, 9, 9, 7, 2, 7, 2)
	hot := changedLayer(f, func(f *impl.FTL) { f.Heat.Counts[5] = 9 })
	cases := []struct {
		what string
		open []int64
		bad  int
		cold int64
		hot  int64
	}{
		{"no open blocks", []int64{-1, -1}, -1, 4, 5},
		{"open blocks", []int64{2, 3}, -1, 2, 3},
		{"other open blocks", []int64{3, 2}, -1, 3, 2},
		{"open block without pages", []int64{0, 7}, -1, 0, 7},
		{"full open block for cold data", []int64{1, 3}, -1, 4, 3},
		{"full open block for hot data", []int64{2, 1}, -1, 2, 5},
		{"best free block is open for the other stream", []int64{5, 4}, -1, 5, 4},
		{"best free block for cold data is open for hot data", []int64{-1, 4}, -1, 6, 4},
		{"best free block for hot data is open for cold data", []int64{5, -1}, -1, 5, 7},
		{"bad open block for cold data", []int64{2, 3}, 2, 4, 3},
		{"bad open block for hot data", []int64{2, 3}, 3, 2, 5},
		{"bad full block", []int64{1, 3}, 1, 4, 3},
		{"bad open block without pages", []int64{4, 5}, 4, 6, 5},
		{"bad free block for cold data", []int64{-1, -1}, 4, 6, 5},
		{"bad free block for hot data", []int64{-1, -1}, 5, 4, 7},
	}
	for _, c := range cases {
		before := changedLayer(hot, func(f *impl.FTL) {
			f.Open = c.open
			if c.bad >= 0 {
				f.Flash.Blocks[c.bad].Bad = true
			}
		})
		cold := expectAct(t, c.what, before, writeAct(0, 99), impl.OK).f
		expect(t, c.what+": open block for cold data", cold.Open[impl.StreamCold], c.cold)
		expect(t, c.what+": block of cold data", cold.Map.Map[0]/8, c.cold)
		expect(t, c.what+": the other open block", cold.Open[impl.StreamHot], c.open[impl.StreamHot])
		warm := expectAct(t, c.what, before, writeAct(5, 99), impl.OK).f
		expect(t, c.what+": open block for hot data", warm.Open[impl.StreamHot], c.hot)
		expect(t, c.what+": block of hot data", warm.Map.Map[5]/8, c.hot)
		expect(t, c.what+": the other open block", warm.Open[impl.StreamCold], c.open[impl.StreamCold])
		group := expectAct(t, c.what, before, atomicAct(99, 5), impl.OK).f
		expect(t, c.what+": block of a group", group.Map.Map[5]/8, c.cold)
		trimmed := expectAct(t, c.what, before, trimAct(5), impl.OK).f
		expect(t, c.what+": block of a trim record", trimmed.Map.Map[5]/8, c.cold)
	}
}

// TestP23GroupAcrossBlocks writes a group that fills the open block, whose other members are in the next one.
func TestP23GroupAcrossBlocks(t *testing.T) {
	for pages := range int64(9) {
		lpns := []int64{0, 1, 2, 3, 4, 5, 6, 7}[:pages]
		f := changedLayer(layerOf(smallGeometry, 8, filled(1, lpns...)), func(f *impl.FTL) { f.Open[0] = 0 })
		got := expectAct(t, "group", f, atomicAct(50, 3, 1, 0, 2), impl.OK).f
		var want []int64
		for i := range int64(4) {
			want = append(want, pages+i)
		}
		expectList(t, "pages of the group", []int64{got.Map.Map[3], got.Map.Map[1], got.Map.Map[0], got.Map.Map[2]}, want)
		for i, lpn := range []int64{3, 1, 0, 2} {
			expect(t, "metadata of a member", metaOf(t, got, lpn), atomicMeta(lpn, pages+1+int64(i), pages+1, 4))
		}
		expect(t, "writes that were counted", got.Heat.Writes, 4)
	}
}

// TestP23Sync synchronizes with open blocks at even and odd pages.
func TestP23Sync(t *testing.T) {
	lpns := []int64{0, 1, 2, 3, 4, 5, 6, 7}
	for cold := range 9 {
		for hot := range 9 {
			f := layerOf(smallGeometry, 8, filled(1, lpns[:cold]...), filled(20, lpns[:hot]...), filled(30, 0))
			for _, open := range [][]int64{{0, 1}, {1, 0}, {0, -1}, {-1, 1}, {-1, -1}} {
				before := changedLayer(f, func(f *impl.FTL) { f.Open = open })
				want := nextsOf(before)
				for _, block := range open {
					if block >= 0 {
						want[block] += want[block] % 2
					}
				}
				got := expectAct(t, "pads", before, syncAct, impl.OK).f
				expectList(t, "Next of the blocks", nextsOf(got), want)
				expectList(t, "Last of the blocks", got.Last, before.Last)
				expectList(t, "open blocks", got.Open, open)
				expect(t, "Seq", got.Seq, before.Seq)
				expect(t, "operations of another synchronization", actOk(t, got, syncAct).Flash.Ops, got.Flash.Ops)
			}
		}
	}
	odd := changedLayer(layerOf(smallGeometry, 8, filled(1, 0), filled(2, 1)), func(f *impl.FTL) { f.Open = []int64{1, 0} })
	bad := changedLayer(odd, func(f *impl.FTL) { f.Flash.Blocks[1].Bad = true })
	expectList(t, "Next of the blocks if one is bad", nextsOf(actOk(t, bad, syncAct))[:2], []int64{2, 1})
	cut := expectAct(t, "second pad is cut", armedLayer(t, odd, 1, 0), syncAct, impl.ErrPower).f
	expectList(t, "Next of the blocks after the first pad", nextsOf(cut)[:2], []int64{1, 2})
}

// TestP23Last checks that Last of a block is that of the record programmed last, also after an erase.
func TestP23Last(t *testing.T) {
	f := actOk(t, newLayer(t, smallGeometry, 1, impl.ClGreedy), writeAct(0, 1), writeAct(1, 2), atomicAct(3, 2, 3), syncAct)
	f = changedLayer(f, func(f *impl.FTL) { f.Open = []int64{-1, -1} })
	cold := f.Map.Map[2] / 8
	before := f.Last[cold]
	expect(t, "Last of the block with the group", before, 4)
	for _, lpn := range []int64{0, 1, 2, 3} {
		f = actOk(t, f, writeAct(lpn, 9))
	}
	for f.Flash.Blocks[cold].Erases == 0 {
		f = actOk(t, f, cleanAct)
	}
	expect(t, "Last of the erased block", f.Last[cold], before)
	moved := layerOf(smallGeometry, 4, filled(10, 0, 1), filled(1, 2, 3))
	moved.Open[0] = 0
	moved = actOk(t, moved, cleanAct)
	expect(t, "Last of the block with moved records", moved.Last[0], 2)
	expect(t, "Last of the block that was cleaned", moved.Last[1], 2)
}

// roomLayer returns a layer with so many free blocks, a candidate with six live pages, and a much newer one
// with four live pages. The remaining blocks are bad.
func roomLayer(free int, policy int64) impl.FTL {
	f := layerOf(smallGeometry, 10, filled(1, 0, 1, 2, 3, 4, 5, 6, 7), filled(1000, 6, 7, 8, 9, 6, 7, 8, 9))
	f.Policy = policy
	for i := 2 + free; i < 8; i++ {
		f.Flash.Blocks[i].Bad = true
	}
	return f
}

// TestP23MakeRoom writes with and without three free blocks.
func TestP23MakeRoom(t *testing.T) {
	acts := []impl.FtlAct{writeAct(0, 99), atomicAct(99, 0, 1, 2, 3), trimAct(0)}
	for _, policy := range []int64{impl.ClGreedy, impl.ClCostBenefit} {
		for _, a := range acts {
			roomy := roomLayer(3, policy)
			expect(t, "erases with three free blocks", erasesOf(expectAct(t, "room", roomy, a, impl.OK).f), 0)
			full := changedLayer(roomy, func(f *impl.FTL) { f.Flash.Blocks[1].Bad = true })
			expectAct(t, "three free blocks, one block to clean", full, a, impl.OK)
			for _, free := range []int{0, 1, 2} {
				// The blocks that cleaning frees are as many as it fills.
				expectAct(t, "too few blocks", roomLayer(free, policy), a, impl.ErrFull)
			}
		}
	}
	outdated := layerOf(smallGeometry, 4, filled(1, 0, 1, 2, 3), filled(5, 0, 1, 2, 3), filled(9, 0, 1, 2, 3), filled(13, 0, 1, 2, 3))
	for i := 4; i < 8; i++ {
		outdated.Flash.Blocks[i].Bad = true
	}
	for _, a := range acts {
		got := expectAct(t, "no free block, three outdated blocks", outdated, a, impl.OK).f
		expect(t, "erases", erasesOf(got), 3)
	}
}

// TestP23RoomPolicy makes room greedily whatever the policy is, and cleans by the policy if there is room.
func TestP23RoomPolicy(t *testing.T) {
	for _, policy := range []int64{impl.ClGreedy, impl.ClCostBenefit} {
		roomy := actOk(t, roomLayer(3, policy), cleanAct)
		oldest := int64(1)
		if policy == impl.ClGreedy {
			oldest = 0
		}
		expect(t, "erases of the older block with three free blocks", roomy.Flash.Blocks[0].Erases, oldest)
		expect(t, "erases of the newer block with three free blocks", roomy.Flash.Blocks[1].Erases, 1-oldest)
		tight := actOk(t, roomLayer(2, policy), cleanAct)
		expect(t, "erases of the older block with two free blocks", tight.Flash.Blocks[0].Erases, 0)
		expect(t, "erases of the newer block with two free blocks", tight.Flash.Blocks[1].Erases, 1)
		// Open blocks with room for the moved pages, so that cleaning frees a block.
		open := changedLayer(roomLayer(3, policy), func(f *impl.FTL) { f.Open[0] = 4 })
		written := actOk(t, open, writeAct(0, 99))
		expect(t, "erases of the older block in a write", written.Flash.Blocks[0].Erases, 0)
		expect(t, "erases of the newer block in a write", written.Flash.Blocks[1].Erases, 1)
	}
}

// TestP23NoRoom has blocks with seven live pages: cleaning one fills another one, again and again. It ends
// after twice as many cleanings as there are blocks.
func TestP23NoRoom(t *testing.T) {
	var blocks [][]impl.PageMeta
	for block := range int64(6) {
		lpn := 7 * block
		blocks = append(blocks, append(filled(10*block+1, lpn, lpn+1, lpn+2, lpn+3, lpn+4, lpn+5, lpn+6), padMeta))
	}
	f := layerOf(smallGeometry, 42, blocks...)
	for _, a := range []impl.FtlAct{writeAct(0, 1), atomicAct(1, 0, 41), trimAct(5)} {
		expectAct(t, "no room", f, a, impl.ErrFull)
		// Seven moved pages, a pad and an erase for each of 16 cleanings.
		cut := expectAct(t, "last operation", armedLayer(t, f, 16*9-1, 0), a, impl.ErrPower).f
		expect(t, "erases", erasesOf(cut), 16)
		expectAct(t, "no more operations", armedLayer(t, f, 16*9, 0), a, impl.ErrFull)
	}
	expect(t, "operations of one cleaning", actOk(t, f, cleanAct).Flash.Ops, 9)
	roomier := changedLayer(f, func(f *impl.FTL) { f.Map.Map[0] = -1 })
	expectAct(t, "one page less", roomier, writeAct(1, 1), impl.ErrFull)
}

// TestP23NoCandidate has layers without a block to clean.
func TestP23NoCandidate(t *testing.T) {
	lpns := []int64{0, 1, 2, 3, 4, 5, 6, 7}
	live := layerOf(smallGeometry, 48, filled(1, lpns...), filled(9, 8, 9, 10, 11, 12, 13, 14, 15), filled(17, 16, 17, 18, 19, 20, 21, 22, 23))
	bad := changedLayer(live, func(f *impl.FTL) {
		f.Flash.Blocks[3].Bad, f.Flash.Blocks[4].Bad, f.Flash.Blocks[5].Bad = true, true, true
	})
	open := changedLayer(live, func(f *impl.FTL) { f.Open, f.Flash.Blocks[3].Bad, f.Flash.Blocks[4].Bad = []int64{5, 6}, true, true })
	for _, f := range []impl.FTL{live, bad, open} {
		expectAct(t, "only live pages", f, cleanAct, impl.ErrNotFound)
	}
	for _, f := range []impl.FTL{bad, open} {
		for _, a := range []impl.FtlAct{writeAct(0, 1), atomicAct(1, 0), trimAct(0)} {
			expectAct(t, "only live pages, no room", f, a, impl.ErrFull)
		}
	}
	fresh := newLayer(t, smallGeometry, 1, impl.ClGreedy)
	expectAct(t, "new layer", fresh, cleanAct, impl.ErrNotFound)
	written := actOk(t, fresh, writeAct(0, 1), writeAct(0, 2))
	expectAct(t, "all pages in the open blocks", written, cleanAct, impl.ErrNotFound)
}

// TestP23Candidates cleans only blocks that are not free, open, bad or worn out.
func TestP23Candidates(t *testing.T) {
	f := layerOf(smallGeometry, 8, filled(1, 0), filled(2, 0, 1), filled(4, 0, 1, 2), filled(7, 0, 1, 2, 3))
	for i := range 4 {
		changes := []func(*impl.FTL){
			func(f *impl.FTL) { f.Open[0] = int64(i) }, func(f *impl.FTL) { f.Open[1] = int64(i) },
			func(f *impl.FTL) { f.Flash.Blocks[i].Bad = true }, func(f *impl.FTL) { f.Flash.Blocks[i].Erases = 1000 },
		}
		for _, change := range changes {
			got := expectAct(t, "candidates", changedLayer(f, change), cleanAct, impl.OK).f
			for j := range 4 {
				// The first three blocks have no live page.
				want := changedLayer(f, change).Flash.Blocks[j].Erases
				if j == 0 && i != 0 || j == 1 && i == 0 {
					want++
				}
				expect(t, "erases", got.Flash.Blocks[j].Erases, want)
			}
		}
	}
	worn := actOk(t, erasesAre(f, 999), cleanAct)
	expect(t, "erases at the bound", worn.Flash.Blocks[0].Erases, 1000)
	expectList(t, "free blocks with one at the bound", impl.FreeBlocks(worn), []int64{0, 4, 5, 6, 7})
	used := actOk(t, worn, writeAct(5, 1))
	expect(t, "block at the bound is written", used.Map.Map[5], 0)
	closed := changedLayer(used, func(f *impl.FTL) { f.Open, f.Map.Map[5] = []int64{-1, -1}, -1 })
	expect(t, "block at the bound is not erased", actOk(t, closed, cleanAct).Flash.Blocks[0].Erases, 1000)
}

// TestP23Ages chooses victims by age: blocks whose last record is newer than Seq have the age 0, and none is
// older than MaxAge.
func TestP23Ages(t *testing.T) {
	f := layerOf(smallGeometry, 8, filled(10, 0, 1, 0), filled(20, 2, 3, 2), filled(30, 4, 5, 4))
	f.Policy = impl.ClCostBenefit
	cases := []struct {
		seq    int64
		last   []int64
		victim int
	}{
		{50, []int64{12, 22, 32}, 0}, {50, []int64{32, 22, 12}, 2}, {50, []int64{32, 12, 12}, 1}, {50, []int64{50, 50, 50}, 0}, {50, []int64{60, 50, 49}, 2}, {50, []int64{60, 49, 70}, 1},
		{1000001, []int64{1, 0, 0}, 0}, {1000001, []int64{2, 1, 0}, 1}, {1000000, []int64{1, 0, 0}, 1}, {1000000, []int64{1000000, 1000000, 999999}, 2},
	}
	for _, c := range cases {
		aged := changedLayer(f, func(f *impl.FTL) {
			f.Seq = c.seq
			copy(f.Last, c.last)
		})
		got := expectAct(t, "ages", aged, cleanAct, impl.OK).f
		expect(t, "erases of the victim", got.Flash.Blocks[c.victim].Erases, 1)
	}
	// The ages count after the blocks were erased and used again.
	again := layerOf(smallGeometry, 8, filled(1, 0, 0), filled(3, 1, 1))
	again.Policy, again.Seq = impl.ClCostBenefit, 50
	cleaned := actOk(t, again, cleanAct)
	expect(t, "Last of the erased block", cleaned.Last[0], 2)
}

// TestP23CleanFull cleans without a free block: pages are moved if the open block has room for them.
func TestP23CleanFull(t *testing.T) {
	f := layerOf(smallGeometry, 8, filled(1, 0, 1, 2, 0), filled(11, 3, 4, 5, 6, 7))
	for i := 2; i < 8; i++ {
		f.Flash.Blocks[i].Bad = true
	}
	open := changedLayer(f, func(f *impl.FTL) { f.Open[0] = 1 })
	got := expectAct(t, "room for three pages", open, cleanAct, impl.OK).f
	expectList(t, "live pages", got.Map.Map[:3], []int64{10 + 5, 8 + 5, 8 + 6})
	expectAct(t, "room for two pages", changedLayer(open, func(f *impl.FTL) {
		f.Flash.Blocks[1].Next++
	}), cleanAct, impl.ErrFull)
	hot := changedLayer(f, func(f *impl.FTL) { f.Open[1] = 1 })
	expectAct(t, "no room for cold data", hot, cleanAct, impl.ErrFull)
	expectAct(t, "no open block", f, cleanAct, impl.ErrFull)
	empty := changedLayer(hot, func(f *impl.FTL) { f.Map.Map[0], f.Map.Map[1], f.Map.Map[2] = -1, -1, -1 })
	expectAct(t, "nothing to move", empty, cleanAct, impl.OK)
}

// TestP23Move moves records of all kinds: they keep their numbers, and no one is a member of a group.
func TestP23Move(t *testing.T) {
	metas := slices.Concat(filled(1, 0, 1), groupOf(3, 2, 3), []impl.PageMeta{trimMeta(4, 5)})
	f := layerOf(smallGeometry, 6, metas)
	want := []impl.PageMeta{dataMeta(0, 1), dataMeta(1, 2), dataMeta(2, 3), dataMeta(3, 4), trimMeta(4, 5)}
	got := actOk(t, f, cleanAct)
	for lpn, m := range want {
		expect(t, "moved page", got.Map.Map[lpn], int64(8+lpn))
		expect(t, "metadata of a moved page", metaOf(t, got, int64(lpn)), m)
	}
	expect(t, "page without a record", got.Map.Map[5], -1)
	expect(t, "trim mark of a moved trim record", got.Map.Trimmed[4], true)
	expect(t, "Seq", got.Seq, f.Seq)
	expect(t, "writes that were counted", got.Heat.Writes, 0)
	other := changedLayer(f, func(f *impl.FTL) { f.Map.Trimmed = []bool{true, false, true, false, false, false} })
	expect(t, "trim marks by the metadata", slices.Equal(actOk(t, other, cleanAct).Map.Trimmed, []bool{false, false, false, false, true, false}), true)
	// The order is that of the physical pages, not of the logical ones.
	mixed := layerOf(smallGeometry, 4, append(filled(1, 3, 1, 3, 0), trimMeta(2, 9)))
	expectList(t, "moved pages", actOk(t, mixed, cleanAct).Map.Map, []int64{10, 8, 11, 9})
}

// TestP23Groups cleans blocks with members of groups, some of which were overwritten or moved: no member of
// the group that is still needed remains a member.
func TestP23Groups(t *testing.T) {
	cases := []struct {
		what   string
		blocks [][]impl.PageMeta
		live   []int64
	}{
		{"members in another block", [][]impl.PageMeta{groupOf(5, 0, 1)[:1], groupOf(5, 0, 1)[1:]}, []int64{16, 17}},
		{"an overwritten member", [][]impl.PageMeta{groupOf(5, 0, 1)[:1], append(groupOf(5, 0, 1)[1:], dataMeta(0, 7))}, []int64{9, 16}},
		{"members in three blocks", [][]impl.PageMeta{groupOf(5, 3, 0, 2, 1)[1:2], slices.Concat(groupOf(5, 3, 0, 2, 1)[:1], groupOf(5, 3, 0, 2, 1)[2:3]), groupOf(5, 3, 0, 2, 1)[3:]}, []int64{24, 25, 26, 27}},
		{"all members but one overwritten", [][]impl.PageMeta{groupOf(5, 0, 1, 2, 3)[:3], append(groupOf(5, 0, 1, 2, 3)[3:], filled(9, 0, 1, 2)...)}, []int64{9, 10, 11, 16}},
		{"a trimmed member", [][]impl.PageMeta{groupOf(5, 0, 1)[:1], append(groupOf(5, 0, 1)[1:], trimMeta(0, 7))}, []int64{9, 16}},
		{"two groups", [][]impl.PageMeta{append(groupOf(8, 2, 3)[:1], groupOf(5, 1, 0)[0]), append(groupOf(5, 1, 0)[1:], groupOf(8, 2, 3)[1])}, []int64{19, 17, 16, 18}},
		{"a group of which a member was moved before", [][]impl.PageMeta{groupOf(5, 0, 1)[:1], append(filled(5, 0), groupOf(5, 0, 1)[1])}, []int64{16, 17}},
		{"an incomplete group", [][]impl.PageMeta{append(filled(1, 0), groupOf(5, 0, 1)[0]), filled(2, 1)}, []int64{16, 8}},
		{"two groups of the same logical pages", [][]impl.PageMeta{groupOf(5, 0, 1), groupOf(7, 0, 1)}, []int64{8, 9}},
		{"groups with the same First and another Count", [][]impl.PageMeta{{atomicMeta(0, 5, 5, 1)}, groupOf(5, 1, 2), {dataMeta(0, 9)}}, []int64{16, 8, 9}},
	}
	for _, c := range cases {
		logical := int64(len(c.live))
		f := layerOf(smallGeometry, logical, c.blocks...)
		// Block 0 is the only candidate.
		for i := 1; i < len(c.blocks); i++ {
			f.Flash.Blocks[i].Erases = 1000
		}
		got := expectAct(t, c.what, f, cleanAct, impl.OK).f
		expectList(t, c.what+": live pages", got.Map.Map, c.live)
		expect(t, c.what+": pages after a power cut", slices.Equal(contents(t, remounted(t, got)), contents(t, f)), true)
		playWithCuts(t, f, []impl.FtlAct{cleanAct}, someKeeps, ignore)
	}
}

// TestP23Levels levels blocks that are the least worn candidates.
func TestP23Levels(t *testing.T) {
	lpns := []int64{0, 1, 2, 3, 4, 5, 6, 7}
	f := layerOf(smallGeometry, 16, filled(1, lpns...), filled(11, 8, 9, 10), filled(21, 11, 12, 11))
	cases := []struct {
		what   string
		erases []int64
		change func(*impl.FTL)
		code   int64
		block  int
	}{
		{"no gap", []int64{2, 2, 2, 2, 2, 2, 2, 2}, nil, impl.ErrState, 0},
		{"a gap of the bound", []int64{2, 3, 3, 3, 3, 3, 3, 3}, nil, impl.ErrState, 0},
		{"a gap above the bound, all pages live", []int64{2, 4, 3, 3, 3, 3, 3, 3}, nil, impl.OK, 0},
		{"the greater bound", []int64{2, 4, 3, 3, 3, 3, 3, 3}, func(f *impl.FTL) { f.Bound = 2 }, impl.ErrState, 0},
		{"a gap to a free block", []int64{5, 4, 4, 0, 5, 5, 5, 5}, nil, impl.OK, 1},
		{"a gap to a bad block", []int64{5, 5, 5, 0, 5, 5, 5, 5}, func(f *impl.FTL) { f.Flash.Blocks[3].Bad = true }, impl.ErrState, 0},
		{"the least worn candidate is bad", []int64{0, 5, 4, 4, 4, 4, 4, 2}, func(f *impl.FTL) { f.Flash.Blocks[0].Bad = true }, impl.OK, 2},
		{"the least worn block is open", []int64{0, 5, 5, 4, 4, 4, 4, 4}, func(f *impl.FTL) { f.Open[1] = 0 }, impl.OK, 1},
		{"worn-out candidates", []int64{1000, 1000, 1000, 0, 0, 0, 0, 0}, nil, impl.ErrNotFound, 0},
		{"worn-out candidates but one", []int64{1000, 999, 1000, 0, 0, 0, 0, 0}, nil, impl.OK, 1},
		{"no good block to level", []int64{9, 9, 9, 0, 1, 2, 3, 4}, func(f *impl.FTL) {
			f.Flash.Blocks[0].Bad, f.Flash.Blocks[1].Bad, f.Flash.Blocks[2].Bad = true, true, true
		}, impl.ErrNotFound, 0},
	}
	for _, c := range cases {
		before := erasesAre(f, c.erases...)
		if c.change != nil {
			before = changedLayer(before, c.change)
		}
		got := expectAct(t, c.what, before, levelAct, c.code)
		if c.code != impl.OK {
			continue
		}
		c.erases[c.block]++
		erases, _ := wearOf(got.f)
		expectList(t, c.what+": erases", erases, c.erases)
		expect(t, c.what+": pages", slices.Equal(contents(t, got.f), contents(t, before)), true)
	}
}

// TestP23LevelRoom makes room before it levels: the least worn block may be cleaned and free then.
func TestP23LevelRoom(t *testing.T) {
	f := layerOf(smallGeometry, 8, filled(1, 0, 1, 2, 3), filled(11, 0, 1, 2, 3), filled(21, 4, 5, 6), filled(31, 7))
	f = erasesAre(f, 0, 3, 2, 3, 3, 3, 3, 3)
	for i := 6; i < 8; i++ {
		f.Flash.Blocks[i].Bad = true
	}
	got := expectAct(t, "two free blocks", f, levelAct, impl.OK).f
	erases, _ := wearOf(got)
	expectList(t, "erases", erases, []int64{1, 3, 3, 3, 3, 3, 3, 3})
	roomy := changedLayer(f, func(f *impl.FTL) { f.Flash.Blocks[6].Bad = false })
	erases, _ = wearOf(expectAct(t, "three free blocks", roomy, levelAct, impl.OK).f)
	expectList(t, "erases", erases, []int64{1, 3, 2, 3, 3, 3, 3, 3})
	full := changedLayer(f, func(f *impl.FTL) {
		f.Flash.Blocks[0].Bad, f.Flash.Blocks[1].Bad, f.Flash.Blocks[3].Bad = true, true, true
		f.Flash.Blocks[2].Erases = 1
	})
	expectAct(t, "one block to clean", full, levelAct, impl.ErrFull)
	corrupt := changedLayer(roomy, func(f *impl.FTL) { f.Flash.Blocks[2].Erases, f.Flash.Blocks[2].Pages[1] = 0, impl.DestroyedPage() })
	corrupt.Flash.Blocks[0].Erases = 3
	expectAct(t, "page that cannot be moved", corrupt, levelAct, impl.ErrCorrupt)
}

// TestP23LevelErased counts the erases of making room: a block that is erased and filled again then is not
// the least worn one any more.
func TestP23LevelErased(t *testing.T) {
	f := layerOf(smallGeometry, 23, filled(1, 0, 1, 2, 3, 4, 5, 6, 7), filled(11, 8, 9, 10, 11, 12, 13, 14, 15),
		filled(101, 0, 1, 2, 3), filled(111, 4, 5, 6, 7, 8), filled(121, 9, 10, 11, 12, 13, 14), filled(131, 15, 16, 17, 18, 19, 20, 21, 22))
	f = erasesAre(f, 5, 5, 2, 2, 2, 5)
	f.Flash.Blocks[6].Bad, f.Flash.Blocks[7].Bad = true, true
	got := expectAct(t, "five blocks are erased to make room", f, levelAct, impl.OK).f
	erases, _ := wearOf(got)
	expectList(t, "erases", erases, []int64{6, 6, 3, 3, 3, 6, 0, 0})
}

// first returns the first one of two results.
func first[A, B any](a A, _ B) A {
	return a
}

// TestP23Balance levels until it is not needed any more, in long sequences of writes.
func TestP23Balance(t *testing.T) {
	for _, policy := range []int64{impl.ClGreedy, impl.ClCostBenefit} {
		f := newLayer(t, smallGeometry, 3, policy)
		for lpn := range int64(8) {
			f = actOk(t, f, writeAct(lpn, int(lpn)+1))
		}
		for n := range 300 {
			f = actOk(t, f, writeAct(int64(n%2), 100+n))
			for moves := 0; impl.NeedsLevelling(first(wearOf(f)), nil, 3); moves++ {
				f = actOk(t, f, levelAct)
				expect(t, "levelling ends", moves < 20, true)
			}
		}
		expect(t, "blocks were erased", erasesOf(f) > 30, true)
		for lpn := int64(2); lpn < 8; lpn++ {
			expect(t, "page that was not written again", contents(t, f)[lpn], dataOf(int(lpn)+1))
		}
	}
}
