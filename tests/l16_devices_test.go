package tests

import (
	"fmt"
	"math"
	"reflect"
	"slices"
	"strings"
	"testing"

	"loop.example/g00905/impl"
)

// deviceSample is a device, whether it is valid, and what is special about it.
type deviceSample struct {
	what  string
	d     impl.Device
	valid bool
}

// Kinds of operations on a zone.
const (
	zaAppend = iota
	zaSync
	zaFinish
	zaReset
)

// zoneAct is an operation on a zone.
type zoneAct struct {
	kind int
	z    int64
	data string
}

// threeDies is the least geometry with a buffer.
var threeDies = impl.Geometry{Dies: 3, Blocks: 4, Pages: 8}

// String describes an operation.
func (a zoneAct) String() string {
	return fmt.Sprintf("%s zone %d %q", []string{"append", "sync", "finish", "reset"}[a.kind], a.z, a.data)
}

// perform performs an operation on a zone.
func (a zoneAct) perform(d impl.Device) deviceOutcome {
	var got deviceOutcome
	switch a.kind {
	case zaAppend:
		got.d, got.number, got.code = impl.AppendZone(d, a.z, a.data)
	case zaSync:
		got.d, got.code = impl.SyncZone(d, a.z)
	case zaFinish:
		got.d, got.code = impl.FinishZone(d, a.z)
	default:
		got.d, got.code = impl.ResetZone(d, a.z)
	}
	return got
}

// want returns the outcome that chapter 16 requires of an operation on a zone.
func (a zoneAct) want(d impl.Device) deviceOutcome {
	switch a.kind {
	case zaAppend:
		return wantAppend(d, a.z, a.data)
	case zaSync:
		return wantSyncZone(d, a.z)
	case zaFinish:
		return wantFinish(d, a.z)
	}
	return wantReset(d, a.z)
}

// onZone performs an operation on a zone and compares the outcome with the model.
func onZone(t *testing.T, d impl.Device, a zoneAct) deviceOutcome {
	t.Helper()
	got := a.perform(d)
	expectDevice(t, a.String(), got, a.want(d))
	return got
}

// onZoneOk performs operations that return OK.
func onZoneOk(t *testing.T, d impl.Device, acts ...zoneAct) impl.Device {
	t.Helper()
	for _, a := range acts {
		got := onZone(t, d, a)
		if got.code != impl.OK {
			t.Fatalf("%v: code %d", a, got.code)
		}
		d = got.d
	}
	return d
}

// expectZone performs an operation that returns a code.
func expectZone(t *testing.T, what string, d impl.Device, a zoneAct, code int64) deviceOutcome {
	t.Helper()
	got := onZone(t, d, a)
	if got.code != code {
		t.Fatalf("%s, %v: got code %d, want %d", what, a, got.code, code)
	}
	return got
}

// appends returns operations that append pages to a zone.
func appends(z int64, list ...string) []zoneAct {
	var acts []zoneAct
	for _, data := range list {
		acts = append(acts, zoneAct{zaAppend, z, data})
	}
	return acts
}

// syncOf, finishOf and resetOf are the other operations on a zone.
func syncOf(z int64) zoneAct   { return zoneAct{kind: zaSync, z: z} }
func finishOf(z int64) zoneAct { return zoneAct{kind: zaFinish, z: z} }
func resetOf(z int64) zoneAct  { return zoneAct{kind: zaReset, z: z} }

// pageOf returns the contents of a page with a number in it, of a length that depends on the number.
func pageOf(n int) string {
	return strings.Repeat(string([]byte{byte('a' + n%26), byte(n)}), 40)[:1+(n*29+7)%64]
}

// pagesFrom returns the contents of a number of pages.
func pagesFrom(n, count int) []string {
	var list []string
	for i := range count {
		list = append(list, pageOf(n+i))
	}
	return list
}

// emptyDevice returns the device that NewDevice shall return.
func emptyDevice(g impl.Geometry, zones int64) impl.Device {
	d := impl.Device{Flash: emptyFlash(g)}
	for z := range zones {
		zone := impl.Zone{State: impl.ZnEmpty}
		for die := range g.Dies {
			zone.Blocks = append(zone.Blocks, die*g.Blocks+z)
		}
		d.Zones = append(d.Zones, zone)
	}
	return d
}

// played returns a device after operations of the model, which must return OK.
func played(d impl.Device, acts ...zoneAct) impl.Device {
	for _, a := range acts {
		got := a.want(d)
		if got.code != impl.OK {
			panic(fmt.Sprintf("%v: code %d", a, got.code))
		}
		d = got.d
	}
	return d
}

// changedDevice returns a copy of a device to which a change was made.
func changedDevice(d impl.Device, change func(*impl.Device)) impl.Device {
	out := deepCopy(d)
	change(&out)
	return out
}

// busyDevice returns a device with four zones, of which the first one is open with several rows, the next one
// is finished, one has as many pages as fit into the buffer, and the last one is full.
func busyDevice(g impl.Geometry, zones int64) impl.Device {
	units := int(g.Dies - 1)
	acts := append(appends(0, pagesFrom(1, 2*units)...), appends(0, pageOf(9))...)
	acts = append(acts, syncOf(0))
	acts = append(acts, appends(0, pagesFrom(20, 2*units-1)...)...)
	if zones > 1 {
		acts = append(append(acts, appends(1, pagesFrom(40, units+1)...)...), finishOf(1))
	}
	if zones > 2 {
		acts = append(acts, appends(2, pagesFrom(50, units-1)...)...)
	}
	if zones > 3 {
		acts = append(acts, appends(3, pagesFrom(60, units*int(g.Pages))...)...)
	}
	return played(emptyDevice(g, zones), acts...)
}

// spareDevice returns a device with three dies of four blocks and three zones, so that one block of each die
// belongs to no zone. Zone 1 has one buffered page.
func spareDevice() impl.Device {
	return played(emptyDevice(threeDies, 3), append(appends(0, pagesFrom(1, 5)...), appends(1, pageOf(9))...)...)
}

// markBadOf marks blocks as bad.
func markBadOf(d impl.Device, blocks ...int64) impl.Device {
	return changedDevice(d, func(d *impl.Device) {
		for _, block := range blocks {
			d.Flash.Blocks[block].Bad = true
		}
	})
}

// useBlock programs a block that belongs to no zone, so that it must be erased.
func useBlock(d *impl.Device, block int64) {
	d.Flash.Blocks[block].Next = 1
	d.Flash.Blocks[block].Pages[0] = rawSample(block)
}

// validDevices returns devices whose fields reach their limits exactly.
func validDevices() []deviceSample {
	var list []deviceSample
	for _, g := range someGeometries {
		most := min(12, g.Blocks)
		for _, zones := range []int64{1, most - 1, most} {
			list = append(list, deviceSample{"new", emptyDevice(g, zones), true}, deviceSample{"busy", busyDevice(g, zones), true})
		}
	}
	add := func(what string, d impl.Device, change func(*impl.Device)) {
		list = append(list, deviceSample{what, changedDevice(d, change), true})
	}
	for _, d := range []impl.Device{busyDevice(smallGeometry, 3), busyDevice(threeDies, 3), spareDevice()} {
		add("off", d, func(d *impl.Device) { d.Flash.Off = true })
		add("off, with a fuse", d, func(d *impl.Device) { d.Flash.Off, d.Flash.Fuse = true, 5 })
		for _, fuse := range []int64{0, 1, 2, 3, 1000000} {
			for _, keep := range []int64{0, 5, 8, 91} {
				add("fuse", d, func(d *impl.Device) { d.Flash.Fuse, d.Flash.Keep = fuse, keep })
			}
		}
		for _, ops := range []int64{math.MaxInt64 - 3, math.MaxInt64 - 2, math.MaxInt64 - 1, math.MaxInt64} {
			add("many operations", d, func(d *impl.Device) { d.Flash.Ops = ops })
			add("many operations, about to be cut", d, func(d *impl.Device) { d.Flash.Ops, d.Flash.Fuse, d.Flash.Keep = ops, 1, 5 })
		}
		add("bad blocks", d, func(d *impl.Device) { d.Flash.Blocks[0].Bad, d.Flash.Blocks[5].Bad = true, true })
		add("all blocks bad", d, func(d *impl.Device) {
			for i := range d.Flash.Blocks {
				d.Flash.Blocks[i].Bad = true
			}
		})
		add("worn block", d, func(d *impl.Device) { d.Flash.Blocks[0].Erases, d.Flash.Blocks[6].Erases = 999, 1000 })
		add("offline zone", d, func(d *impl.Device) { d.Zones[0] = impl.Zone{State: impl.ZnOffline, Blocks: d.Zones[0].Blocks} })
		add("full zone without rows", d, func(d *impl.Device) { d.Zones[0] = impl.Zone{State: impl.ZnFull, Blocks: d.Zones[0].Blocks} })
		add("full zone with rows that are not there", d, func(d *impl.Device) {
			d.Zones[1] = impl.Zone{State: impl.ZnFull, Blocks: d.Zones[1].Blocks, Written: 8, Synced: 8, Rows: []int64{1, 1, 1, 1, 1, 1, 1, 1}}
		})
		for i, block := range d.Zones[0].Blocks {
			for page := range 2 {
				add("destroyed page", d, func(d *impl.Device) { d.Flash.Blocks[block].Pages[page] = destroyedRaw })
				add("two destroyed pages", d, func(d *impl.Device) {
					d.Flash.Blocks[block].Pages[page] = destroyedRaw
					d.Flash.Blocks[d.Zones[0].Blocks[(i+1)%2]].Pages[page] = destroyedRaw
				})
			}
		}
	}
	return append(append(list, replaceableDevices()...), otherBlockDevices()...)
}

// replaceableDevices returns devices with bad blocks in zones without rows, and other blocks of each kind.
func replaceableDevices() []deviceSample {
	var list []deviceSample
	add := func(what string, change func(*impl.Device), bad ...int64) {
		list = append(list, deviceSample{what, markBadOf(changedDevice(spareDevice(), change), bad...), true})
	}
	for _, bad := range [][]int64{{1}, {5}, {9}, {1, 5}, {5, 9}, {1, 9}, {1, 5, 9}, {2}, {6, 10}, {2, 6, 10}, {1, 2}, {5, 6, 9, 10}} {
		add("erased blocks", func(*impl.Device) {}, bad...)
		add("blocks to be erased", func(d *impl.Device) { useBlock(d, 3); useBlock(d, 7); useBlock(d, 11) }, bad...)
		add("a block to be erased on one die", func(d *impl.Device) { useBlock(d, 7) }, bad...)
		add("blocks to be erased, about to be cut", func(d *impl.Device) {
			useBlock(d, 3)
			useBlock(d, 7)
			d.Flash.Fuse, d.Flash.Keep = 1, 3
		}, bad...)
		add("blocks to be erased, cut at once", func(d *impl.Device) {
			useBlock(d, 3)
			useBlock(d, 7)
			useBlock(d, 11)
			d.Flash.Fuse, d.Flash.Keep = 0, 1
		}, bad...)
		for _, worn := range []int64{3, 7, 11} {
			add("a worn-out block to be erased", func(d *impl.Device) {
				useBlock(d, 3)
				useBlock(d, 7)
				useBlock(d, 11)
				d.Flash.Blocks[worn].Erases = 1000
			}, bad...)
			add("a worn-out erased block", func(d *impl.Device) { d.Flash.Blocks[worn].Erases = 1000 }, bad...)
			add("one bad block more", func(d *impl.Device) { useBlock(d, (worn+4)%12) }, append([]int64{worn}, bad...)...)
			add("a worn block to be erased", func(d *impl.Device) { useBlock(d, worn); d.Flash.Blocks[worn].Erases = 999 }, bad...)
		}
	}
	return list
}

// otherBlockDevices returns devices with two zones that have other blocks than those of a new device, so that
// the blocks that belong to no zone are before, between and behind those of zones, with a bad block in zone 1.
func otherBlockDevices() []deviceSample {
	var list []deviceSample
	base := emptyDevice(impl.Geometry{Dies: 3, Blocks: 6, Pages: 8}, 2)
	base.Zones[0].Blocks = []int64{4, 9, 12}
	base.Zones[1].Blocks = []int64{2, 11, 14}
	base = played(markBadOf(base, 2, 11), append(appends(0, pagesFrom(1, 2)...), appends(1, pageOf(7))...)...)
	for used := range 1 << 4 {
		list = append(list, deviceSample{"other blocks", changedDevice(base, func(d *impl.Device) {
			for i, block := range []int64{0, 1, 3, 5} {
				if used>>i&1 == 1 {
					useBlock(d, block)
				}
			}
			if used%3 == 1 {
				d.Flash.Blocks[0].Bad, d.Flash.Blocks[1].Erases, d.Flash.Blocks[6].Bad = true, 1000, true
			}
		}), true})
	}
	return list
}

// invalidDevices returns devices that are invalid for one reason each.
func invalidDevices() []deviceSample {
	list := []deviceSample{{"zero", impl.Device{}, false}}
	add := func(what string, change func(*impl.Device)) {
		list = append(list, deviceSample{what, changedDevice(busyDevice(threeDies, 4), change), false})
	}
	for _, s := range invalidFlashes()[:12] {
		add("array: "+s.what, func(d *impl.Device) { d.Flash = deepCopy(s.f) })
	}
	add("Fuse", func(d *impl.Device) { d.Flash.Fuse = -2 })
	add("Ops", func(d *impl.Device) { d.Flash.Ops = -1 })
	add("no zones", func(d *impl.Device) { d.Zones = nil })
	add("too many zones", func(d *impl.Device) {
		d.Zones = append(d.Zones, impl.Zone{State: impl.ZnOffline, Blocks: []int64{0, 4, 8}})
	})
	for _, state := range append(farInts, -1, 0, 5, 6) {
		for z := range 4 {
			add("State", func(d *impl.Device) { d.Zones[z].State = state })
			add("State of a zone without pages", func(d *impl.Device) { d.Zones[z] = impl.Zone{State: state, Blocks: d.Zones[z].Blocks} })
		}
	}
	for z := range 4 {
		list = append(list, invalidZones(z)...)
	}
	for _, s := range misfitZones() {
		list = append(list, deviceSample{s.what, s.d, false}, deviceSample{s.what + ", off", changedDevice(s.d, func(d *impl.Device) { d.Flash.Off = true }), false})
	}
	for die := range 3 {
		for _, block := range []int64{3, 7, 11} {
			if block != int64(4*die+3) {
				// No zone has this block.
				d := changedDevice(spareDevice(), func(d *impl.Device) { d.Zones[2].Blocks[die] = block })
				list = append(list, deviceSample{"free block of another die", d, false})
			}
		}
	}
	add("block of two zones", func(d *impl.Device) { d.Zones[1].Blocks[1] = d.Zones[3].Blocks[1] })
	add("blocks of two zones", func(d *impl.Device) { d.Zones[1].Blocks = slices.Clone(d.Zones[3].Blocks) })
	add("two zones without rows with the same blocks", func(d *impl.Device) {
		d.Zones[0] = impl.Zone{State: impl.ZnOffline, Blocks: []int64{0, 4, 8}}
		d.Zones[3] = impl.Zone{State: impl.ZnOffline, Blocks: []int64{3, 7, 8}}
	})
	return list
}

// invalidZones returns devices with four zones of which one has invalid blocks, or pages that do not fit its
// numbers.
func invalidZones(z int) []deviceSample {
	var list []deviceSample
	add := func(what string, change func(zone *impl.Zone)) {
		d := changedDevice(busyDevice(threeDies, 4), func(d *impl.Device) { change(&d.Zones[z]) })
		list = append(list, deviceSample{what, d, false})
	}
	for die := range 3 {
		for _, block := range append(farInts, -1, 12, int64(4*die-1), int64(4*die+4), int64(4*die+4+z)%12) {
			add("block of another die", func(zone *impl.Zone) { zone.Blocks[die] = block })
		}
	}
	add("no blocks", func(zone *impl.Zone) { zone.Blocks = nil })
	add("a block too few", func(zone *impl.Zone) { zone.Blocks = zone.Blocks[:2] })
	add("a block too many", func(zone *impl.Zone) { zone.Blocks = append(zone.Blocks, 11) })
	add("blocks in another order", func(zone *impl.Zone) { slices.Reverse(zone.Blocks) })
	for _, n := range []int64{-1, 1, 1 << 32, math.MinInt64} {
		add("Written", func(zone *impl.Zone) { zone.Written += n })
		add("Synced", func(zone *impl.Zone) { zone.Synced += n })
		add("Written and Synced", func(zone *impl.Zone) { zone.Written += n; zone.Synced += n })
	}
	add("a page in the buffer that is not counted", func(zone *impl.Zone) { zone.Buffer = append(zone.Buffer, "") })
	add("a row that is not counted", func(zone *impl.Zone) { zone.Rows = append(zone.Rows, 1) })
	add("a row without pages", func(zone *impl.Zone) { zone.Rows = append(zone.Rows, 0) })
	return list
}

// misfitZones returns devices of which one zone has a State that does not fit its other fields, or rows or
// buffered pages beyond the limits.
func misfitZones() []deviceSample {
	var list []deviceSample
	add := func(what string, state int64, rows []int64, buffer []string, next ...int64) {
		d := emptyDevice(threeDies, 2)
		zone := &d.Zones[1]
		zone.State, zone.Rows, zone.Buffer = state, rows, buffer
		for _, c := range rows {
			zone.Synced += c
		}
		zone.Written = zone.Synced + int64(len(buffer))
		for die, n := range next {
			d.Flash.Blocks[zone.Blocks[die]].Next = n
		}
		list = append(list, deviceSample{what, d, false})
	}
	page, one, eight := []string{"x"}, []int64{1}, []int64{2, 2, 2, 2, 2, 2, 2, 2}
	add("empty with rows", impl.ZnEmpty, one, nil, 1, 1, 1)
	add("empty with rows, Next 0", impl.ZnEmpty, one, nil, 0, 0, 0)
	add("empty with a buffer", impl.ZnEmpty, nil, page, 0, 0, 0)
	add("offline with rows", impl.ZnOffline, one, nil, 1, 1, 1)
	add("offline with a buffer", impl.ZnOffline, nil, page, 0, 0, 0)
	add("full with a buffer", impl.ZnFull, nil, page, 0, 0, 0)
	add("full with rows and a buffer", impl.ZnFull, one, page, 1, 1, 1)
	add("open without pages", impl.ZnOpen, nil, nil, 0, 0, 0)
	add("open with all rows", impl.ZnOpen, eight, nil, 8, 8, 8)
	add("open with all rows and a buffer", impl.ZnOpen, eight, page, 8, 8, 8)
	add("too many rows", impl.ZnFull, append(eight, 2), nil, 8, 8, 8)
	add("too many rows, one page each", impl.ZnFull, slices.Repeat(one, 9), nil, 8, 8, 8)
	add("buffer as long as a row", impl.ZnOpen, one, []string{"x", "y"}, 1, 1, 1)
	add("buffer longer than a row", impl.ZnOpen, one, []string{"x", "y", "z"}, 1, 1, 1)
	add("long page in the buffer", impl.ZnOpen, one, []string{strings.Repeat("x", 65)}, 1, 1, 1)
	for _, c := range append(farInts, -1, 0, 3, 4) {
		add("number of pages in a row", impl.ZnFull, []int64{c}, nil, 1, 1, 1)
		add("number of pages in a later row", impl.ZnOpen, []int64{2, c, 1}, page, 3, 3, 3)
	}
	// The sum of these is valid.
	add("numbers that add up", impl.ZnFull, []int64{3, -1}, nil, 2, 2, 2)
	for die := range 3 {
		next := []int64{0, 0, 0}
		next[die] = 1
		add("empty with a programmed block", impl.ZnEmpty, nil, nil, next...)
		add("open with a programmed block without rows", impl.ZnOpen, nil, page, next...)
		next = []int64{2, 2, 2}
		next[die] = 1
		add("open with a row too few in a block", impl.ZnOpen, []int64{1, 2}, nil, next...)
		next[die] = 3
		add("open with a row too many in a block", impl.ZnOpen, []int64{1, 2}, page, next...)
	}
	return list
}

// allDevices returns valid and invalid devices.
func allDevices() []deviceSample {
	return append(validDevices(), invalidDevices()...)
}

// someData are contents of pages at and beside the limit.
func someData() []string {
	return []string{"", "x", "\x00", strings.Repeat("d", 63), strings.Repeat("\xff", 64), strings.Repeat("e", 65), strings.Repeat("f", 300)}
}

// zonesAround returns numbers of zones of a device, and some that it does not have.
func zonesAround(d impl.Device) []int64 {
	list := []int64{math.MinInt64, -1, int64(len(d.Zones)), int64(len(d.Zones)) + 1, 1 << 32, math.MaxInt64}
	for z := range min(len(d.Zones), 5) {
		list = append(list, int64(z))
	}
	return list
}

// readZone is the outcome of ReadZone, which is compared with the model.
func readZone(t *testing.T, d impl.Device, z, i int64) coded {
	t.Helper()
	data, code := impl.ReadZone(d, z, i)
	got := coded{data, code}
	if want := wantReadZone(d, z, i); got != want {
		t.Fatalf("ReadZone, zone %d, page %d: got %+v, want %+v", z, i, got, want)
	}
	return got
}

// mountDevice mounts a device and compares the outcome with the model.
func mountDevice(t *testing.T, f impl.Flash, zones int64) deviceOutcome {
	t.Helper()
	var got deviceOutcome
	got.d, got.code = impl.MountDevice(f, zones)
	expectDevice(t, "MountDevice", got, wantMountDevice(f, zones))
	if got.code == impl.OK && !deviceIsValid(got.d) {
		t.Fatalf("a mounted device is not valid: %+v", got.d.Zones)
	}
	return got
}

// zoneContents returns the contents of all pages of a zone, none of which is damaged beyond repair.
func zoneContents(t *testing.T, d impl.Device, z int64) []string {
	t.Helper()
	var list []string
	for i := range d.Zones[z].Written {
		got := readZone(t, d, z, i)
		if got.code != impl.OK {
			t.Fatalf("zone %d, page %d: code %d", z, i, got.code)
		}
		list = append(list, got.s)
	}
	return list
}

// expectContents ends the test if a zone has other pages than the given ones.
func expectContents(t *testing.T, what string, d impl.Device, z int64, want []string) {
	t.Helper()
	if got := zoneContents(t, d, z); !slices.Equal(got, want) {
		t.Fatalf("%s: zone %d: got %q, want %q", what, z, got, want)
	}
}

func TestP27Constants(t *testing.T) {
	got := [8]int64{impl.MaxZones, impl.ZnEmpty, impl.ZnOpen, impl.ZnFull, impl.ZnOffline, impl.HdData, impl.HdParity, impl.HdFiller}
	expect(t, "constants of chapter 16", got, [8]int64{12, 1, 2, 3, 4, 161, 162, 163})
}

func TestP27ValidDevice(t *testing.T) {
	for _, s := range allDevices() {
		expect(t, "the model, "+s.what, deviceIsValid(s.d), s.valid)
		expect(t, "ValidDevice, "+s.what, impl.ValidDevice(s.d), s.valid)
		capacity := int64(0)
		if s.valid {
			capacity = (s.d.Flash.Geo.Dies - 1) * s.d.Flash.Geo.Pages
		}
		expect(t, "CapacityOf, "+s.what, impl.CapacityOf(s.d), capacity)
	}
	expect(t, "the example", impl.CapacityOf(emptyDevice(threeDies, 1)), 16)
}

// TestP27SameDevice compares devices with copies, with other devices, and with copies that differ in one field.
func TestP27SameDevice(t *testing.T) {
	samples := allDevices()
	for i, a := range samples {
		expect(t, "SameDevice of a copy", impl.SameDevice(a.d, deepCopy(a.d)), true)
		for _, b := range samples[max(0, i-25):i] {
			want := sameDevices(a.d, b.d)
			expect(t, "SameDevice", impl.SameDevice(a.d, b.d), want)
			expect(t, "SameDevice", impl.SameDevice(b.d, a.d), want)
		}
	}
	changes := []func(*impl.Device){
		func(d *impl.Device) { d.Flash.Ops++ }, func(d *impl.Device) { d.Flash.Off = true }, func(d *impl.Device) { d.Flash.Blocks[11].Pages[7] = "x" },
		func(d *impl.Device) { d.Zones = nil }, func(d *impl.Device) { d.Zones = d.Zones[:2] }, func(d *impl.Device) { d.Zones = append(d.Zones, impl.Zone{}) },
		func(d *impl.Device) { slices.Reverse(d.Zones) },
	}
	for z := range 3 {
		zone := func(change func(*impl.Zone)) {
			changes = append(changes, func(d *impl.Device) { change(&d.Zones[z]) })
		}
		zone(func(zone *impl.Zone) { zone.State++ })
		zone(func(zone *impl.Zone) { zone.Blocks[2]++ })
		zone(func(zone *impl.Zone) { zone.Blocks = zone.Blocks[:2] })
		zone(func(zone *impl.Zone) { zone.Written++ })
		zone(func(zone *impl.Zone) { zone.Synced++ })
		zone(func(zone *impl.Zone) { zone.Rows = append(zone.Rows, 0) })
		zone(func(zone *impl.Zone) { zone.Buffer = append(zone.Buffer, "") })
	}
	changes = append(changes, func(d *impl.Device) { d.Zones[0].Rows[0] = 1 }, func(d *impl.Device) { d.Zones[1].Buffer[0] += "x" })
	d := spareDevice()
	for _, change := range changes {
		expect(t, "SameDevice of a changed copy", impl.SameDevice(d, changedDevice(d, change)), false)
		expect(t, "SameDevice of a changed copy", impl.SameDevice(changedDevice(d, change), d), false)
	}
	empty := impl.Device{Flash: impl.Flash{Blocks: []impl.Block{}}, Zones: []impl.Zone{}}
	expect(t, "SameDevice of nil and empty slices", impl.SameDevice(impl.Device{}, empty), true)
	a := impl.Device{Zones: []impl.Zone{{}}}
	b := impl.Device{Zones: []impl.Zone{{Blocks: []int64{}, Rows: []int64{}, Buffer: []string{}}}}
	expect(t, "SameDevice of nil and empty slices in a zone", impl.SameDevice(a, b) && impl.SameDevice(b, a), true)
}

func TestP27NewDevice(t *testing.T) {
	for dies := int64(2); dies <= 3; dies++ {
		for blocks := int64(4); blocks <= 12; blocks++ {
			for _, pages := range []int64{8, 16} {
				g := impl.Geometry{Dies: dies, Blocks: blocks, Pages: pages}
				for _, zones := range append(farInts, -1, 0, 1, 2, 3, 4, blocks-1, blocks, blocks+1, 11, 12, 13, 36) {
					want := deviceOutcome{code: impl.ErrRange}
					if zones >= 1 && zones <= blocks {
						want = deviceOutcome{d: emptyDevice(g, zones)}
					}
					var got deviceOutcome
					got.d, got.code = impl.NewDevice(g, zones)
					expectDevice(t, "NewDevice", got, want)
				}
			}
		}
	}
	for _, g := range append(badGeometries(), impl.Geometry{}) {
		for _, zones := range []int64{-1, 0, 1, 4, 13} {
			var got deviceOutcome
			got.d, got.code = impl.NewDevice(g, zones)
			expectDevice(t, "NewDevice, invalid geometry", got, deviceOutcome{code: impl.ErrInvalid})
		}
	}
}

// TestP27AllCalls calls all functions with all devices and compares the outcomes with the model.
func TestP27AllCalls(t *testing.T) {
	for _, s := range allDevices() {
		for _, z := range zonesAround(s.d) {
			for _, data := range someData() {
				onZone(t, s.d, zoneAct{zaAppend, z, data})
			}
			for _, kind := range []int{zaSync, zaFinish, zaReset} {
				onZone(t, s.d, zoneAct{kind: kind, z: z})
			}
			written := int64(40)
			if z >= 0 && z < int64(len(s.d.Zones)) {
				written = min(max(s.d.Zones[z].Written, 0), 40)
			}
			for _, i := range append(around(written), written+1) {
				readZone(t, s.d, z, i)
			}
		}
		for _, zones := range append(farInts, -1, 0, 1, 2, 3, 4, 5, 6, 11, 12, 13) {
			mountDevice(t, s.d.Flash, zones)
		}
	}
}

// TestP1Devices checks promise 1 for operations on all zones of all valid devices, whose slices have unused capacity.
func TestP1Devices(t *testing.T) {
	for i, s := range validDevices() {
		d := spareSlices(s.d)
		for z := range d.Zones {
			zone := int64(z)
			for name, call := range map[string][]any{
				"AppendZone": {impl.AppendZone, d, zone, pageOf(i)}, "ReadZone": {impl.ReadZone, d, zone, max(d.Zones[z].Written-1, 0)},
				"SyncZone": {impl.SyncZone, d, zone}, "FinishZone": {impl.FinishZone, d, zone}, "ResetZone": {impl.ResetZone, d, zone},
				"MountDevice": {impl.MountDevice, d.Flash, zone + 1}, "SameDevice": {impl.SameDevice, d, s.d},
			} {
				callPurely(t, name, reflect.ValueOf(call[0]), valuesOf(call[1:]))
			}
		}
	}
}

// TestP27ErrorOrder has calls to which several errors apply.
func TestP27ErrorOrder(t *testing.T) {
	long := strings.Repeat("x", 65)
	base := markBadOf(changedDevice(busyDevice(threeDies, 4), func(d *impl.Device) {
		d.Zones[3] = impl.Zone{State: impl.ZnOffline, Blocks: d.Zones[3].Blocks}
	}), 0, 4, 8, 1, 5, 9)
	off := changedDevice(base, func(d *impl.Device) { d.Flash.Off = true })
	cut := changedDevice(base, func(d *impl.Device) { d.Flash.Fuse = 0 })
	invalid := changedDevice(off, func(d *impl.Device) { d.Zones[2].Written++ })
	for z := int64(-1); z < 6; z++ {
		for kind, data := range map[int]string{zaAppend: long, zaSync: "", zaFinish: "", zaReset: ""} {
			expectZone(t, "invalid and off", invalid, zoneAct{kind, z, data}, impl.ErrInvalid)
			got := expectZone(t, "off", off, zoneAct{kind: kind, z: z}, impl.ErrPower)
			expect(t, "device is unchanged", sameDevices(got.d, off), true)
		}
		expectZone(t, "long page and off", off, zoneAct{zaAppend, z, long}, impl.ErrInvalid)
		expectZone(t, "long page", base, zoneAct{zaAppend, z, long}, impl.ErrInvalid)
		expect(t, "ReadZone, invalid and off", readZone(t, invalid, z, -1), coded{code: impl.ErrInvalid})
		expect(t, "ReadZone, off", readZone(t, off, z, -1), coded{code: impl.ErrPower})
	}
	for _, z := range []int64{-1, 4} {
		for kind := zaAppend; kind <= zaReset; kind++ {
			expectZone(t, "no zone", cut, zoneAct{kind: kind, z: z}, impl.ErrRange)
		}
		expect(t, "ReadZone, no zone", readZone(t, cut, z, 0), coded{code: impl.ErrRange})
	}
	for _, a := range []zoneAct{{zaAppend, 3, ""}, syncOf(3), finishOf(3), resetOf(3), {zaAppend, 1, ""}} {
		expectZone(t, "offline, or full with bad blocks", cut, a, impl.ErrState)
	}
	for _, a := range []zoneAct{{zaAppend, 0, ""}, syncOf(0), finishOf(0), resetOf(0), resetOf(1)} {
		expectZone(t, "bad blocks", cut, a, impl.ErrBad)
	}
	expectZone(t, "nothing is to be programmed", cut, syncOf(1), impl.OK)
	expectZone(t, "nothing is to be programmed", cut, finishOf(1), impl.OK)
	expect(t, "MountDevice, off", mountDevice(t, off.Flash, 0).code, impl.ErrPower)
	expect(t, "MountDevice, invalid and off", mountDevice(t, changed(off.Flash, func(f *impl.Flash) { f.Ops = -1 }), 0).code, impl.ErrInvalid)
	expect(t, "MountDevice, no zones", mountDevice(t, cut.Flash, 0).code, impl.ErrRange)
}
