package tests

import (
	"fmt"
	"math/rand"
	"slices"
	"testing"

	"loop.example/g00905/impl"
)

// zoneHistory is what was appended to the zones of a device since it was mounted or they were reset. After a
// power cut each zone must have a prefix of its pages that contains the durable ones.
type zoneHistory struct {
	pages   [][]string
	durable []int64
}

// historyOfZones returns the history of a device that was just mounted: all that it has is durable.
func historyOfZones(t *testing.T, d impl.Device) *zoneHistory {
	t.Helper()
	h := &zoneHistory{}
	for z, zone := range d.Zones {
		h.pages = append(h.pages, zoneContents(t, d, int64(z)))
		h.durable = append(h.durable, zone.Synced)
	}
	return h
}

// clone returns a copy of a history to which more can be added.
func (h *zoneHistory) clone() *zoneHistory {
	c := &zoneHistory{durable: slices.Clone(h.durable)}
	for _, list := range h.pages {
		c.pages = append(c.pages, slices.Clip(list))
	}
	return c
}

// note records an operation that led to a device with OK or ErrPower.
func (h *zoneHistory) note(a zoneAct, after deviceOutcome) {
	switch {
	case a.kind == zaAppend:
		h.pages[a.z] = append(h.pages[a.z], a.data)
	case a.kind == zaReset && after.code == impl.OK:
		h.pages[a.z] = nil
	}
	if after.code == impl.OK || a.kind == zaReset {
		h.durable[a.z] = after.d.Zones[a.z].Synced
	}
}

// checkPresent checks that a device has all pages.
func (h *zoneHistory) checkPresent(t *testing.T, d impl.Device) {
	t.Helper()
	for z, pages := range h.pages {
		expectContents(t, "present pages", d, int64(z), pages)
	}
}

// check checks promise 27 for a device that was mounted after a power cut.
func (h *zoneHistory) check(t *testing.T, what string, d impl.Device) {
	t.Helper()
	for z, pages := range h.pages {
		got := zoneContents(t, d, int64(z))
		if len(got) > len(pages) || !slices.Equal(got, pages[:len(got)]) || int64(len(got)) < h.durable[z] {
			t.Fatalf("%s: zone %d: got %q, want a prefix of %q with at least %d pages", what, z, got, pages, h.durable[z])
		}
	}
}

// armedDevice returns a device whose power is cut in the operation behind the next ones.
func armedDevice(d impl.Device, fuse, keep int64) impl.Device {
	return changedDevice(d, func(d *impl.Device) { d.Flash.Fuse, d.Flash.Keep = fuse, keep })
}

// withPower returns a device whose array has power again, without mounting it.
func withPower(d impl.Device) impl.Device {
	return changedDevice(d, func(d *impl.Device) { d.Flash.Off, d.Flash.Fuse = false, -1 })
}

// cutZone performs an operation with a power cut and returns the device that is mounted afterwards, and whether
// the power was cut at all.
func cutZone(t *testing.T, h *zoneHistory, d impl.Device, a zoneAct, fuse, keep int64) (impl.Device, bool) {
	t.Helper()
	got := onZone(t, armedDevice(d, fuse, keep), a)
	if got.code != impl.ErrPower {
		return impl.Device{}, false
	}
	what := fmt.Sprintf("%v, cut after %d operations with %d bytes", a, fuse, keep)
	if !deviceIsValid(got.d) || !got.d.Flash.Off || got.d.Flash.Ops != d.Flash.Ops+fuse+1 || got.number != 0 {
		t.Fatalf("%s: valid %v, off %v, %d operations", what, deviceIsValid(got.d), got.d.Flash.Off, got.d.Flash.Ops)
	}
	if zone := got.d.Zones[a.z]; zone.State != impl.ZnFull || len(zone.Buffer) != 0 || a.kind == zaReset && len(zone.Rows) != 0 {
		t.Fatalf("%s: zone %+v", what, zone)
	}
	after := h.clone()
	after.note(a, got)
	m := mounted(t, impl.PowerOn(got.d.Flash), int64(len(d.Zones)))
	after.check(t, what, m)
	return m, true
}

// cutZoneEverywhere cuts the power in every flash operation of an operation and calls visit with the devices that
// are mounted afterwards.
func cutZoneEverywhere(t *testing.T, h *zoneHistory, d impl.Device, a zoneAct, keeps []int64, visit func(impl.Device)) {
	t.Helper()
	for fuse := int64(0); ; fuse++ {
		for _, keep := range keeps {
			m, cut := cutZone(t, h, d, a, fuse, keep)
			if !cut {
				return
			}
			visit(m)
		}
	}
}

// playZonesWithCuts performs operations one after the other, each after all power cuts in it were tried, and
// returns the device after the last one.
func playZonesWithCuts(t *testing.T, d impl.Device, acts []zoneAct, keeps []int64, visit func(impl.Device)) impl.Device {
	t.Helper()
	h := historyOfZones(t, d)
	for _, a := range acts {
		cutZoneEverywhere(t, h, d, a, keeps, visit)
		if got := onZone(t, d, a); got.code == impl.OK {
			h.note(a, got)
			d = got.d
		}
		h.checkPresent(t, d)
	}
	h.check(t, "at the end", mounted(t, d.Flash, int64(len(d.Zones))))
	return d
}

// randomZoneActs returns operations on zones, with different pages from number n on.
func randomZoneActs(r *rand.Rand, zones int64, size, n int) []zoneAct {
	var list []zoneAct
	for i := range size {
		list = append(list, randomZoneAct(r, zones, n+i))
	}
	return list
}

// ignoreDevice is a visit that does nothing.
func ignoreDevice(impl.Device) {}

// everyKeep returns all numbers of bytes that an interrupted operation may keep.
func everyKeep() []int64 {
	var list []int64
	for keep := range int64(impl.RawSize + 1) {
		list = append(list, keep)
	}
	return list
}

// TestP27CutEverywhere cuts the power at every flash operation of random sequences.
func TestP27CutEverywhere(t *testing.T) {
	for n := range 16 {
		t.Run("", func(t *testing.T) {
			t.Parallel()
			r := rand.New(rand.NewSource(int64(1620 + n)))
			zones := 1 + int64(n%3)
			d := emptyDevice(zoneGeometries[n%4], zones)
			if n%4 > 1 {
				d = markBadOf(d, int64(n/4), 4+int64(n/8))
			}
			playZonesWithCuts(t, d, randomZoneActs(r, zones, 60, 1000), someKeeps, ignoreDevice)
		})
	}
}

// TestP27CutEveryByte cuts the power at every flash operation of a sequence with operations of all kinds, with
// every number of bytes kept, and again after bad blocks were replaced.
func TestP27CutEveryByte(t *testing.T) {
	for g, operations := range map[impl.Geometry]int64{smallGeometry: 28, threeDies: 30} {
		acts := append(appends(0, pagesFrom(1, 5)...), syncOf(0))
		acts = append(append(acts, appends(1, pagesFrom(20, 3)...)...), finishOf(1), resetOf(0))
		acts = append(append(acts, appends(0, pagesFrom(30, 3)...)...), syncOf(0), resetOf(1), finishOf(0), resetOf(0))
		used := changedDevice(emptyDevice(g, 2), func(d *impl.Device) {
			useBlock(d, 2)
			useBlock(d, 3)
			useBlock(d, 6)
			useBlock(d, 7)
		})
		for _, d := range []impl.Device{emptyDevice(g, 2), markBadOf(used, 0, 5), markBadOf(used, 1, 4)} {
			t.Run("", func(t *testing.T) {
				t.Parallel()
				after := playZonesWithCuts(t, d, acts, everyKeep(), ignoreDevice)
				want := operations
				if d.Flash.Blocks[2].Next > 0 {
					// Two bad blocks are replaced by blocks that must be erased.
					want += 2
				}
				expect(t, "operations", after.Flash.Ops, want)
			})
		}
	}
}

// TestP27CutTwice cuts the power a second time, at every flash operation of the first operations after each
// power cut.
func TestP27CutTwice(t *testing.T) {
	for n := range 12 {
		t.Run("", func(t *testing.T) {
			t.Parallel()
			r := rand.New(rand.NewSource(int64(1640 + n)))
			d := emptyDevice(zoneGeometries[n%2], 2)
			for _, a := range randomZoneActs(r, 2, 3*n, 1) {
				if got := a.want(d); got.code == impl.OK {
					d = got.d
				}
			}
			d = mounted(t, d.Flash, 2)
			next := 5000
			again := func(m impl.Device) {
				next += 10
				acts := append([]zoneAct{resetOf(r.Int63n(2))}, randomZoneActs(r, 2, 5, next)...)
				playZonesWithCuts(t, m, acts, []int64{0, 3, 40, 91}, ignoreDevice)
			}
			playZonesWithCuts(t, d, randomZoneActs(r, 2, 12, 1000), []int64{0, 2, 8, 90, 91}, again)
		})
	}
}

// TestP27CutWalk cuts the power again and again in operations of long sequences, in which blocks go bad.
func TestP27CutWalk(t *testing.T) {
	for n := range 24 {
		t.Run("", func(t *testing.T) {
			t.Parallel()
			r := rand.New(rand.NewSource(int64(1660 + n)))
			g := []impl.Geometry{{Dies: 3, Blocks: 8, Pages: 8}, {Dies: 2, Blocks: 8, Pages: 8}, threeDies, {Dies: 3, Blocks: 12, Pages: 16}}[n%4]
			zones := 2 + int64(n%3)
			d := emptyDevice(g, zones)
			h, cuts, rows, bad := historyOfZones(t, d), 0, 0, int64(0)
			for i, a := range randomZoneActs(r, zones, 1200, 1000) {
				// With more bad blocks no zone could be used in the end.
				if bad < g.Blocks-zones-1 && r.Intn(150) == 0 {
					d = markBadOf(d, r.Int63n(int64(len(d.Flash.Blocks))))
					bad++
				}
				if r.Intn(2+n%3) == 0 {
					keep := someKeeps[r.Intn(len(someKeeps))]
					if m, cut := cutZone(t, h, d, a, r.Int63n([]int64{2, 3, 4}[i%3]), keep); cut {
						d, h = m, historyOfZones(t, m)
						cuts++
						continue
					}
				}
				if got := onZone(t, d, a); got.code == impl.OK {
					h.note(a, got)
					if len(got.d.Zones[a.z].Rows) > len(d.Zones[a.z].Rows) {
						rows++
					}
					d = got.d
				}
				if i%10 == 0 {
					h.checkPresent(t, d)
				}
			}
			if cuts < 15 || rows < 10 {
				t.Errorf("%d power cuts, %d rows", cuts, rows)
			}
		})
	}
}

// TestP27CutState checks what an interrupted operation leaves behind in its zone.
func TestP27CutState(t *testing.T) {
	base := played(emptyDevice(threeDies, 2), append(appends(0, pagesFrom(1, 5)...), appends(1, "other")...)...)
	for fuse := range int64(3) {
		for _, keep := range everyKeep() {
			d := armedDevice(base, fuse, keep)
			for _, a := range []zoneAct{{zaAppend, 0, "last"}, syncOf(0), finishOf(0)} {
				got := expectZone(t, "cut", d, a, impl.ErrPower).d
				expectNumbers(t, "cut", got, 0, impl.ZnFull, []int64{2, 2}, 4)
				expect(t, "the other zone", got.Zones[1].Buffer[0], "other")
				on := withPower(got)
				expectContents(t, "without mounting", on, 0, pagesFrom(1, 4))
				expectZone(t, "without mounting", on, zoneAct{zaAppend, 0, "x"}, impl.ErrState)
				expectNumbers(t, "without mounting", onZoneOk(t, on, resetOf(0)), 0, impl.ZnEmpty, nil, 0)
				onZoneOk(t, on, appends(1, "x")...)
			}
			got := expectZone(t, "cut", d, resetOf(0), impl.ErrPower).d
			expectNumbers(t, "cut in a reset", got, 0, impl.ZnFull, nil, 0)
			expectList(t, "blocks", got.Zones[0].Blocks, []int64{0, 4, 8})
			expectNumbers(t, "reset again", onZoneOk(t, withPower(got), resetOf(0)), 0, impl.ZnEmpty, nil, 0)
		}
	}
}

// TestP27CutRow checks how many pages of an interrupted row are mounted.
func TestP27CutRow(t *testing.T) {
	for _, rows := range []int64{0, 1, 2, 7} {
		base := played(emptyDevice(threeDies, 2), append(appends(0, pagesFrom(1, int(2*rows))...), appends(0, "a")...)...)
		for fuse := range int64(3) {
			for _, keep := range everyKeep() {
				cut := expectZone(t, "cut", armedDevice(base, fuse, keep), zoneAct{zaAppend, 0, "b"}, impl.ErrPower).d
				m := mounted(t, impl.PowerOn(cut.Flash), 2)
				// The last byte of a page is its mark, so it is complete only with this byte, but for one bit of it.
				programmed := fuse
				if keep == impl.RawSize {
					programmed++
				}
				whole := min(programmed, 2)
				if rows == 0 && programmed < 2 {
					whole = 0
				}
				want := append(pagesFrom(1, int(2*rows)), []string{"a", "b"}[:whole]...)
				expectContents(t, "interrupted row", m, 0, want)
				state := int64(impl.ZnFull)
				switch {
				case programmed == 3 && rows < 7:
					state = impl.ZnOpen
				case programmed == 0 && keep == 0 && rows > 0:
					state = impl.ZnOpen
				case programmed == 0 && rows == 0:
					state = impl.ZnEmpty
				}
				expect(t, "State of the mounted zone", m.Zones[0].State, state)
			}
		}
	}
}

// TestP27CutReset interrupts resets at each erase, and checks what is mounted.
func TestP27CutReset(t *testing.T) {
	for _, g := range zoneGeometries {
		for _, rows := range []int{1, 3, int(g.Pages)} {
			pages := pagesFrom(1, rows*int(g.Dies-1))
			base := played(emptyDevice(g, 1), appends(0, pages...)...)
			for fuse := range g.Dies {
				for _, keep := range everyKeep()[:20] {
					cut := expectZone(t, "cut", armedDevice(base, fuse, keep), resetOf(0), impl.ErrPower).d
					m := mounted(t, impl.PowerOn(cut.Flash), 1)
					// The pages can be read as long as only one block has lost its first page.
					want := pages
					if fuse > 1 || fuse == 1 && keep > 0 {
						want = nil
					}
					expectContents(t, "interrupted reset", m, 0, want)
					state := int64(impl.ZnFull)
					if fuse == g.Dies-1 && keep >= g.Pages || fuse == g.Dies-1 && keep >= int64(rows) {
						// No block has a page of the zone any more, and it gets erased blocks.
						state = impl.ZnEmpty
					}
					expect(t, "State of the mounted zone", m.Zones[0].State, state)
					if state != impl.ZnEmpty {
						m = onZoneOk(t, m, resetOf(0))
					}
					onZoneOk(t, m, appends(0, pages...)...)
				}
			}
		}
	}
}

// TestP27CutReplace interrupts the erase of a block that replaces a bad one, on each die.
func TestP27CutReplace(t *testing.T) {
	base := changedDevice(spareDevice(), func(d *impl.Device) {
		for _, block := range []int64{3, 7, 11} {
			useBlock(d, block)
		}
	})
	for _, c := range []struct {
		bad    []int64
		fuse   int64
		blocks []int64
	}{
		{[]int64{1}, 0, []int64{1, 5, 9}},
		{[]int64{1, 5, 9}, 0, []int64{1, 5, 9}},
		{[]int64{1, 5, 9}, 1, []int64{3, 5, 9}},
		{[]int64{1, 5, 9}, 2, []int64{3, 7, 9}},
		{[]int64{1, 5, 9}, 3, []int64{3, 7, 11}},
		{[]int64{1, 5, 9}, 5, []int64{3, 7, 11}},
		{[]int64{5, 9}, 1, []int64{1, 7, 9}},
		{[]int64{1, 9}, 0, []int64{1, 5, 9}},
		// The bad block of a later die cannot be replaced, but the erase is interrupted before that is found.
		{[]int64{1, 5, 7}, 0, []int64{1, 5, 9}},
		{[]int64{1, 9, 11}, 0, []int64{1, 5, 9}},
		{[]int64{1, 5, 9, 11}, 1, []int64{3, 5, 9}},
	} {
		for _, keep := range everyKeep() {
			for _, a := range append(appends(1, "x"), syncOf(1), finishOf(1)) {
				d := markBadOf(base, c.bad...)
				got := expectZone(t, "cut", armedDevice(d, c.fuse, keep), a, impl.ErrPower).d
				expectList(t, "blocks after the cut", got.Zones[1].Blocks, c.blocks)
				expectNumbers(t, "zone after the cut", got, 1, impl.ZnFull, nil, 0)
				m := mounted(t, impl.PowerOn(got.Flash), 3)
				expectContents(t, "the other zone", m, 0, pagesFrom(1, 4))
			}
		}
	}
	later := markBadOf(base, 1, 5, 7)
	expectZone(t, "without a cut", later, syncOf(1), impl.ErrBad)
	expectZone(t, "cut behind the erase", armedDevice(later, 1, 5), syncOf(1), impl.ErrBad)
	expectZone(t, "nothing is to be erased", armedDevice(markBadOf(base, 3, 1), 0, 5), syncOf(1), impl.ErrBad)
}

// TestP27CutAgain follows one zone through power cuts, mounts and appends.
func TestP27CutAgain(t *testing.T) {
	d := onZoneOk(t, emptyDevice(threeDies, 2), appends(0, "first", "second", "third")...)
	cut := expectZone(t, "first cut", armedDevice(d, 1, 20), zoneAct{zaAppend, 0, "fourth"}, impl.ErrPower).d
	expect(t, "MountDevice without power", mountDevice(t, cut.Flash, 2).code, impl.ErrPower)
	m := mounted(t, impl.PowerOn(cut.Flash), 2)
	expectNumbers(t, "after the first cut", m, 0, impl.ZnFull, []int64{2, 1}, 3)
	expectContents(t, "after the first cut", m, 0, []string{"first", "second", "third"})
	m = onZoneOk(t, m, append(appends(1, "fifth", "sixth", "seventh"), syncOf(1))...)
	cut = expectZone(t, "second cut", armedDevice(m, 0, 50), resetOf(0), impl.ErrPower).d
	m = mounted(t, impl.PowerOn(cut.Flash), 2)
	expectContents(t, "after the second cut", m, 1, []string{"fifth", "sixth", "seventh"})
	expectNumbers(t, "after the second cut", m, 1, impl.ZnOpen, []int64{2, 1}, 3)
	// The interrupted page of row 3 destroys the page of row 2 on its die, which is computed from the others.
	m = onZoneOk(t, m, append(appends(1, "eighth"), syncOf(1))...)
	cut = expectZone(t, "third cut", armedDevice(m, 0, 50), zoneAct{zaAppend, 1, "none"}, impl.OK).d
	cut = expectZone(t, "third cut", cut, zoneAct{zaAppend, 1, "ninth"}, impl.ErrPower).d
	m = mounted(t, impl.PowerOn(cut.Flash), 2)
	expectNumbers(t, "after the third cut", m, 1, impl.ZnFull, []int64{2, 1, 1}, 4)
	expectContents(t, "after the third cut", m, 1, []string{"fifth", "sixth", "seventh", "eighth"})
}
