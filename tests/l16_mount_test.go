package tests

import (
	"fmt"
	"math/rand"
	"slices"
	"strings"
	"testing"

	"loop.example/g00905/impl"
)

// putRow programs the first pages of a row of a zone into blocks, as far as these are not -1. The other pages of
// the row remain as they are.
func putRow(f *impl.Flash, blocks []int64, z, row, first int64, programmed int, pages ...string) {
	headers, contents := rowOf(f.Geo.Dies, z, row, first, pages...)
	for k, die := range diesOfRow(row, f.Geo.Dies)[:programmed] {
		if block := blocks[die]; block != -1 {
			f.Blocks[block].Pages[row] = zonePage(f.Geo, block, row, headers[k], contents[k])
			f.Blocks[block].Next = max(f.Blocks[block].Next, row+1)
		}
	}
}

// arrayWithRows returns an array in which blocks contain the rows of a zone with the given numbers of pages, and
// the contents of these pages.
func arrayWithRows(g impl.Geometry, blocks []int64, z int64, rows ...int64) (impl.Flash, []string) {
	f := emptyFlash(g)
	var all []string
	for row, c := range rows {
		first := len(all)
		all = append(all, pagesFrom(first, int(c))...)
		putRow(&f, blocks, z, int64(row), int64(first), int(g.Dies), all[first:]...)
	}
	return f, all
}

// mounted mounts an array that is valid and has power.
func mounted(t *testing.T, f impl.Flash, zones int64) impl.Device {
	t.Helper()
	got := mountDevice(t, f, zones)
	if got.code != impl.OK {
		t.Fatalf("MountDevice: code %d", got.code)
	}
	if !sameArrays(got.d.Flash, f) {
		t.Fatal("MountDevice changes the array")
	}
	return got.d
}

// TestP27MountNew mounts new arrays, and arrays without pages of zones.
func TestP27MountNew(t *testing.T) {
	for _, g := range someGeometries {
		for zones := int64(1); zones <= g.Blocks; zones++ {
			expect(t, "mounted new array", sameDevices(mounted(t, emptyFlash(g), zones), emptyDevice(g, zones)), true)
		}
		for _, s := range []impl.Flash{busyFlash(g), sealedArray(g), journalFlash(g)} {
			for zones := int64(1); zones <= g.Blocks; zones++ {
				for _, zone := range mounted(t, s, zones).Zones {
					expect(t, "pages of a zone in an array of others", zone.Written, 0)
				}
			}
		}
	}
}

// TestP27MountPlayed mounts the arrays of devices that were used.
func TestP27MountPlayed(t *testing.T) {
	for _, s := range validDevices() {
		if s.d.Flash.Off {
			continue
		}
		mounted(t, s.d.Flash, int64(len(s.d.Zones)))
	}
	for _, g := range someGeometries {
		d := busyDevice(g, 4)
		m := mounted(t, d.Flash, 4)
		for z, zone := range d.Zones {
			expectList(t, "blocks", m.Zones[z].Blocks, zone.Blocks)
			expectList(t, "rows", m.Zones[z].Rows, zone.Rows)
			expect(t, "buffered pages are lost", m.Zones[z].Written, zone.Synced)
			expectContents(t, "mounted", m, int64(z), zoneContents(t, d, int64(z))[:zone.Synced])
		}
		// That a zone was finished is not recorded in the array.
		for z, state := range []int64{impl.ZnOpen, impl.ZnOpen, impl.ZnEmpty, impl.ZnFull} {
			expect(t, "State", m.Zones[z].State, state)
		}
	}
}

// TestP27MountRows mounts zones with every list of full and short rows, and appends to them.
func TestP27MountRows(t *testing.T) {
	for pattern := range 1 << 9 {
		var rows []int64
		for row := range pattern % 9 {
			rows = append(rows, 1+int64(pattern/9>>row&1))
		}
		f, pages := arrayWithRows(threeDies, []int64{2, 5, 11}, 1, rows...)
		d := mounted(t, f, 3)
		switch {
		case len(rows) == 0:
			expectNumbers(t, "no rows", d, 1, impl.ZnEmpty, nil, 0)
		case len(rows) == 8:
			expectNumbers(t, "all rows", d, 1, impl.ZnFull, rows, int64(len(pages)))
		default:
			expectNumbers(t, "rows", d, 1, impl.ZnOpen, rows, int64(len(pages)))
			d = onZoneOk(t, d, append(appends(1, "next"), syncOf(1))...)
			pages = append(pages, "next")
		}
		expectContents(t, "mounted", d, 1, pages)
	}
}

// TestP27MountInterrupted mounts zones whose last row was interrupted behind each number of pages, with and
// without a torn page behind them.
func TestP27MountInterrupted(t *testing.T) {
	for _, g := range zoneGeometries {
		for _, before := range []int{0, 1, 2, 3, int(g.Pages) - 1} {
			for c := 1; c < int(g.Dies); c++ {
				for programmed := 0; programmed <= int(g.Dies); programmed++ {
					rows := slices.Repeat([]int64{g.Dies - 1}, before)
					f, pages := arrayWithRows(g, []int64{1, 4 + 2, 8 + 3}[:g.Dies], 2, rows...)
					row, last := int64(before), pagesFrom(300, c)
					putRow(&f, []int64{1, 4 + 2, 8 + 3}, 2, row, int64(len(pages)), programmed, last...)
					whole := int64(min(programmed, c))
					if before == 0 && programmed < int(g.Dies)-1 {
						whole = 0
					}
					if programmed > 0 && whole == 0 && before > 0 {
						t.Fatal("a row with a data page must be counted")
					}
					want := rows
					if whole > 0 {
						want = append(want, whole)
					}
					all := append(pages, last[:whole]...)
					check := func(what string, f impl.Flash, complete bool) {
						d := mounted(t, f, 3)
						state := int64(impl.ZnFull)
						switch {
						case complete && len(want) == 0:
							state = impl.ZnEmpty
						case complete && len(want) < int(g.Pages):
							state = impl.ZnOpen
						}
						expectNumbers(t, what, d, 2, state, want, int64(len(all)))
						expectContents(t, what, d, 2, all)
					}
					what := fmt.Sprintf("%v, %d rows, %d pages, %d programmed", g, before, c, programmed)
					check(what, f, programmed == 0 || programmed == int(g.Dies))
					if programmed < int(g.Dies) {
						block := []int64{1, 4 + 2, 8 + 3}[diesOfRow(row, g.Dies)[programmed]]
						f.Blocks[block].Next = row + 1
						f.Blocks[block].Pages[row] = strings.Repeat("\xff", 91)
						// A torn first page names no zone, which then gets other blocks.
						check(what+", then torn", f, before == 0 && programmed == 0)
					}
				}
			}
		}
	}
}

// TestP27MountRowZero damages the pages of row 0 in every way.
func TestP27MountRowZero(t *testing.T) {
	blocks := []int64{0, 4, 8}
	for c := 1; c <= 2; c++ {
		rows := []int64{int64(c), 2}
		base, pages := arrayWithRows(threeDies, blocks, 0, rows...)
		headers, contents := rowOf(3, 0, 0, 0, pages[:c]...)
		for lost := range 1 << 3 {
			f := deepCopy(base)
			for k, die := range diesOfRow(0, 3) {
				if lost>>k&1 == 1 {
					f.Blocks[blocks[die]].Pages[0] = destroyedRaw
				}
			}
			d := mounted(t, f, 2)
			switch lost {
			case 0:
				expectNumbers(t, "nothing lost", d, 0, impl.ZnOpen, rows, int64(len(pages)))
			case 1, 2, 4:
				expectNumbers(t, "one page lost", d, 0, impl.ZnFull, rows, int64(len(pages)))
				expectContents(t, "one page lost", d, 0, pages)
			default:
				expectNumbers(t, "two pages lost", d, 0, impl.ZnFull, nil, 0)
			}
		}
		for k, h := range headers {
			for _, other := range otherHeaders(h) {
				f := deepCopy(base)
				block := blocks[diesOfRow(0, 3)[k]]
				f.Blocks[block].Pages[0] = zonePage(threeDies, block, 0, other, contents[k])
				for zones := int64(1); zones <= 4; zones++ {
					mounted(t, f, zones)
				}
				lost := (k + 1) % 3
				f.Blocks[blocks[diesOfRow(0, 3)[lost]]].Pages[0] = destroyedRaw
				mounted(t, f, 4)
			}
		}
	}
}

// TestP27MountOtherHeaders gives each page of rows behind row 0 another header.
func TestP27MountOtherHeaders(t *testing.T) {
	blocks := []int64{0, 4, 8}
	for _, rows := range [][]int64{{2, 2, 2, 1}, {1, 1, 2, 2}, {2, 1, 1, 2}} {
		base, pages := arrayWithRows(threeDies, blocks, 0, rows...)
		first := int64(0)
		for row, c := range rows {
			headers, contents := rowOf(3, 0, int64(row), first, pages[first:first+c]...)
			for k, h := range headers {
				for _, other := range otherHeaders(h) {
					f := deepCopy(base)
					block := blocks[diesOfRow(int64(row), 3)[k]]
					f.Blocks[block].Pages[row] = zonePage(threeDies, block, int64(row), other, contents[k])
					mounted(t, f, 3)
					for lost := range 3 {
						two := deepCopy(f)
						two.Blocks[blocks[lost]].Pages[row] = destroyedRaw
						mounted(t, two, 3)
					}
				}
			}
			first += c
		}
	}
}

// TestP27MountLost destroys every set of pages in a row behind row 0.
func TestP27MountLost(t *testing.T) {
	for _, g := range zoneGeometries[:2] {
		blocks := []int64{0, 4, 8}[:g.Dies]
		rows := slices.Repeat([]int64{g.Dies - 1}, 5)
		for _, short := range []int64{1, g.Dies - 1} {
			rows[2] = short
			base, pages := arrayWithRows(g, blocks, 0, rows...)
			for lost := range 1 << g.Dies {
				f := deepCopy(base)
				var units []int
				for k, die := range diesOfRow(2, g.Dies) {
					if lost>>k&1 == 1 {
						f.Blocks[blocks[die]].Pages[2] = destroyedRaw
					} else {
						units = append(units, k)
					}
				}
				d := mounted(t, f, 1)
				before := 2 * (g.Dies - 1)
				switch {
				case lost == 0:
					expectNumbers(t, "nothing lost", d, 0, impl.ZnOpen, rows, int64(len(pages)))
				case len(units) == int(g.Dies)-1:
					expectNumbers(t, "one page lost", d, 0, impl.ZnFull, rows, int64(len(pages)))
					expectContents(t, "one page lost", d, 0, pages)
				case slices.Contains(units, 0):
					// The first data page is all that is left.
					expectNumbers(t, "two pages lost", d, 0, impl.ZnFull, append(slices.Clone(rows[:2]), 1), before+1)
					expectContents(t, "two pages lost", d, 0, pages[:before+1])
				default:
					expectNumbers(t, "two pages lost, unit 0 too", d, 0, impl.ZnFull, rows[:2], before)
				}
			}
		}
	}
}

// TestP27MountFillers has rows with filler pages alone, which are not counted, between others.
func TestP27MountFillers(t *testing.T) {
	for _, g := range zoneGeometries[:2] {
		blocks := []int64{0, 4, 8}[:g.Dies]
		for row := range int64(3) {
			f, pages := arrayWithRows(g, blocks, 0, slices.Repeat([]int64{g.Dies - 1}, 4)...)
			first := row * (g.Dies - 1)
			for k, die := range diesOfRow(row, g.Dies) {
				h := impl.Header{Kind: impl.HdFiller, Row: row, Unit: int64(k), Index: first}
				if k == int(g.Dies)-1 {
					h = impl.Header{Kind: impl.HdParity, Row: row, Index: first}
				}
				f.Blocks[blocks[die]].Pages[row] = zonePage(g, blocks[die], row, h, "")
			}
			// What would be the next row if it did not have to have the same numbers.
			putRow(&f, blocks, 0, row+1, first, int(g.Dies), pages[first:first+g.Dies-1]...)
			expectNumbers(t, "fillers alone", mounted(t, f, 1), 0, impl.ZnFull, slices.Repeat([]int64{g.Dies - 1}, int(row)), first)
		}
	}
}

// TestP27MountOwners has several blocks of one die with headers of the same zone.
func TestP27MountOwners(t *testing.T) {
	for die := range int64(3) {
		for bad := range 1 << 3 {
			// Blocks 0, 2 and 3 of the die all have the pages of the zone.
			blocks := []int64{1, 5, 9}
			f := emptyFlash(threeDies)
			want := int64(-1)
			for i, b := range []int64{0, 2, 3} {
				blocks[die] = 4*die + b
				putRow(&f, blocks, 1, 0, 0, 3, "a", "b")
				f.Blocks[blocks[die]].Bad = bad>>i&1 == 1
				if !f.Blocks[blocks[die]].Bad && want == -1 {
					want = blocks[die]
				}
			}
			state := int64(impl.ZnOpen)
			if want == -1 {
				want, state = 4*die, impl.ZnFull
			}
			d := mounted(t, f, 2)
			expect(t, "block of the zone", d.Zones[1].Blocks[die], want)
			expectNumbers(t, "several blocks", d, 1, state, []int64{2}, 2)
			for other := range int64(3) {
				// The zone without rows gets none of these blocks as long as there is an erased one.
				lowest := 4 * other
				if other == die {
					lowest++
				}
				expect(t, "block of the other zone", d.Zones[0].Blocks[other], lowest)
			}
		}
	}
}

// TestP27MountFirstHeader has blocks in which several zones are named: the first header counts.
func TestP27MountFirstHeader(t *testing.T) {
	base := emptyFlash(threeDies)
	for block := range base.Blocks {
		base.Blocks[block].Next = 8
	}
	put := func(f *impl.Flash, block, page, z int64) {
		h := impl.Header{Kind: impl.HdFiller, Zone: z, Row: 15, Unit: 3, Index: 9, Size: 100}
		f.Blocks[block].Pages[page] = zonePage(threeDies, block, page, h, "")
	}
	for _, c := range []struct {
		zones []int64
		want  int64
	}{{[]int64{2, 0, 1}, 2}, {[]int64{0, 2}, 0}, {[]int64{-1, -1, 1, 2}, 1}, {[]int64{3, 1}, -1}, {[]int64{-1, 11, 0, 1}, -1}, {[]int64{-1, -1, -1, -1, -1, -1, -1, 2}, 2}} {
		f := deepCopy(base)
		for page, z := range c.zones {
			if z == -1 {
				f.Blocks[6].Pages[page] = rawSample(int64(page))
			} else {
				put(&f, 6, int64(page), z)
			}
		}
		d := mounted(t, f, 3)
		owner := int64(-1)
		for z, zone := range d.Zones {
			if zone.Blocks[1] == 6 {
				owner = int64(z)
			}
		}
		if c.want == -1 {
			// It belongs to no zone, and so it is the third of four blocks for three zones.
			c.want = 2
		}
		expect(t, "owner of the block", owner, c.want)
		expect(t, "pages", d.Zones[c.want].Written, 0)
	}
	// A header in a page with another address is not found there.
	f := deepCopy(base)
	f.Blocks[6].Pages[1] = zonePage(threeDies, 6, 2, impl.Header{Kind: impl.HdData, Zone: 0}, "")
	expect(t, "page at another address", mounted(t, f, 3).Zones[0].Blocks[1], 4)
}

// TestP27MountRemaining has zones without blocks and other blocks of each kind.
func TestP27MountRemaining(t *testing.T) {
	for kinds := range 4 * 4 * 4 * 4 {
		f := emptyFlash(threeDies)
		var ordered [3][]int64
		for i, n := 0, kinds; i < 4; i, n = i+1, n/4 {
			// Kinds: erased, programmed, bad and erased, bad and programmed.
			kind := n % 4
			b := &f.Blocks[4+i]
			b.Bad = kind > 1
			if kind%2 == 1 {
				b.Next, b.Pages[0] = 1, rawSample(int64(i))
			}
			rank := min(kind, 2)
			ordered[rank] = append(ordered[rank], int64(4+i))
		}
		want := slices.Concat(ordered[0], ordered[1], ordered[2])
		for zones := int64(1); zones <= 4; zones++ {
			d := mounted(t, f, zones)
			for z, zone := range d.Zones {
				// Once no erased block is left the lowest good one is taken, and then the lowest one of all.
				expectList(t, "blocks", zone.Blocks, []int64{int64(z), want[z], 8 + int64(z)})
				state := int64(impl.ZnEmpty)
				switch b := f.Blocks[want[z]]; {
				case b.Bad:
					state = impl.ZnOffline
				case b.Next > 0:
					state = impl.ZnFull
				}
				expect(t, "State", zone.State, state)
			}
		}
	}
}

// TestP27MountStates has zones with rows whose blocks are bad or have another Next, or whose pages are damaged.
func TestP27MountStates(t *testing.T) {
	blocks := []int64{1, 6, 10}
	rows := []int64{2, 1, 2}
	base, pages := arrayWithRows(threeDies, blocks, 0, rows...)
	for die, block := range blocks {
		for what, change := range map[string]func(f *impl.Flash){
			"bad block":            func(f *impl.Flash) { f.Blocks[block].Bad = true },
			"another page":         func(f *impl.Flash) { f.Blocks[block].Next, f.Blocks[block].Pages[3] = 4, rawSample(1) },
			"interrupted erase":    func(f *impl.Flash) { f.Blocks[block].Next = 8 },
			"programmed page less": func(f *impl.Flash) { f.Blocks[block].Next, f.Blocks[block].Pages[2] = 2, "" },
			"destroyed page":       func(f *impl.Flash) { f.Blocks[block].Pages[1] = destroyedRaw },
		} {
			d := mounted(t, changed(base, change), 2)
			if what == "programmed page less" && die == 0 {
				expect(t, "page of row 2 that is missing", diesOfRow(2, 3)[2], 0)
			}
			expectNumbers(t, what, d, 0, impl.ZnFull, rows, 5)
			expectContents(t, what, d, 0, pages)
			for _, a := range append(appends(0, "x"), syncOf(0), resetOf(0)) {
				onZone(t, d, a)
			}
		}
	}
	expectNumbers(t, "unchanged", mounted(t, base, 2), 0, impl.ZnOpen, rows, 5)
}

// TestP27MountMissingBlock has zones that have no block of one die.
func TestP27MountMissingBlock(t *testing.T) {
	for die := range 3 {
		for _, rows := range [][]int64{{2}, {1}, {2, 1, 1, 2, 2}, {1, 2, 1, 2, 1}, {2, 2, 2, 2, 2, 2, 2, 2}} {
			blocks := []int64{3, 7, 11}
			blocks[die] = -1
			f, pages := arrayWithRows(threeDies, blocks, 1, rows...)
			d := mounted(t, f, 3)
			expectNumbers(t, "one die is missing", d, 1, impl.ZnFull, rows, int64(len(pages)))
			expectContents(t, "one die is missing", d, 1, pages)
			expect(t, "block of the missing die", d.Zones[1].Blocks[die], int64(4*die+1))
			blocks[(die+1)%3] = -1
			f, _ = arrayWithRows(threeDies, blocks, 1, rows...)
			expectNumbers(t, "two dies are missing", mounted(t, f, 3), 1, impl.ZnFull, nil, 0)
		}
	}
}

// bend changes one thing in an array.
func bend(r *rand.Rand, f *impl.Flash) {
	block := r.Int63n(int64(len(f.Blocks)))
	b := &f.Blocks[block]
	page := r.Int63n(f.Geo.Pages)
	switch r.Intn(9) {
	case 0:
		b.Bad = !b.Bad
	case 1:
		b.Next = f.Geo.Pages
	case 2:
		b.Next, b.Pages = 0, make([]string, f.Geo.Pages)
	case 3:
		for p := range r.Int63n(f.Geo.Pages) {
			b.Pages[p] = ""
		}
	case 4:
		// The pages of another block of the same die, as if this one had been programmed instead.
		other := block/f.Geo.Blocks*f.Geo.Blocks + r.Int63n(f.Geo.Blocks)
		b.Next = f.Blocks[other].Next
		for p := range f.Geo.Pages {
			b.Pages[p] = f.Blocks[other].Pages[p]
			if data, h, ok := headedAt(*f, other, p); ok {
				b.Pages[p] = zonePage(f.Geo, block, p, h, data)
			}
		}
	case 5, 6:
		if page < b.Next {
			b.Pages[page] = destroyedRaw
		}
	default:
		if data, h, ok := headedAt(*f, block, page); ok {
			list := otherHeaders(h)
			b.Pages[page] = zonePage(f.Geo, block, page, list[r.Intn(len(list))], data)
		}
	}
}

// TestP27MountBent mounts arrays of devices that were changed at random, reads all pages, and goes on with the
// mounted devices.
func TestP27MountBent(t *testing.T) {
	for n := range 8 {
		t.Run("", func(t *testing.T) {
			t.Parallel()
			r := rand.New(rand.NewSource(int64(1610 + n)))
			g := zoneGeometries[n%4]
			for range 250 {
				f := busyDevice(g, 4).Flash
				for range 1 + r.Intn(6) {
					bend(r, &f)
				}
				zones := 1 + r.Int63n(4)
				d := mounted(t, f, zones)
				for z := range zones {
					for i := range d.Zones[z].Written + 1 {
						readZone(t, d, z, i)
					}
				}
				for range 8 {
					if got := onZone(t, d, randomZoneAct(r, zones, r.Intn(100))); got.code == impl.OK {
						d = got.d
					}
				}
				mounted(t, d.Flash, 1+r.Int63n(4))
			}
		})
	}
}

// randomZoneAct returns an operation on one of the zones, mostly an append.
func randomZoneAct(r *rand.Rand, zones int64, n int) zoneAct {
	z := r.Int63n(zones)
	switch r.Intn(12) {
	case 0, 1, 2:
		return syncOf(z)
	case 3:
		return finishOf(z)
	case 4:
		return resetOf(z)
	}
	return zoneAct{zaAppend, z, pageOf(n)}
}
