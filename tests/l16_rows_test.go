package tests

import (
	"math/rand"
	"slices"
	"strings"
	"testing"

	"loop.example/g00905/impl"
)

// zoneGeometries are geometries with all numbers of dies and pages.
var zoneGeometries = []impl.Geometry{smallGeometry, threeDies, {Dies: 2, Blocks: 4, Pages: 16}, {Dies: 3, Blocks: 4, Pages: 16}}

// rowOf returns the headers and the contents of the pages of a row, the units and then the parity page.
func rowOf(dies, z, row, first int64, pages ...string) ([]impl.Header, []string) {
	var headers []impl.Header
	contents := slices.Clone(pages)
	sum, size := zeroData, 0
	for k, data := range pages {
		headers = append(headers, impl.Header{Kind: impl.HdData, Zone: z, Row: row, Unit: int64(k), Index: first + int64(k), Size: int64(len(data))})
		sum, size = sumOf([]string{sum, padded(data)}), size^len(data)
	}
	c := int64(len(pages))
	for k := c; k < dies-1; k++ {
		headers = append(headers, impl.Header{Kind: impl.HdFiller, Zone: z, Row: row, Unit: k, Index: first + c})
		contents = append(contents, "")
	}
	headers = append(headers, impl.Header{Kind: impl.HdParity, Zone: z, Row: row, Unit: c, Index: first, Size: int64(size)})
	return headers, append(contents, sum)
}

// diesOfRow returns the dies of the pages of a row, the units and then the parity page.
func diesOfRow(row, dies int64) []int64 {
	// The parity rotates downwards, and the units follow it.
	parity := (2*dies*16 - 1 - row) % dies
	var list []int64
	for k := range dies - 1 {
		list = append(list, (parity+1+k)%dies)
	}
	return append(list, parity)
}

// expectRow checks all bytes of a row in the array.
func expectRow(t *testing.T, d impl.Device, z, row, first int64, pages ...string) {
	t.Helper()
	g := d.Flash.Geo
	headers, contents := rowOf(g.Dies, z, row, first, pages...)
	for k, die := range diesOfRow(row, g.Dies) {
		block := d.Zones[z].Blocks[die]
		if got, want := d.Flash.Blocks[block].Pages[row], zonePage(g, block, row, headers[k], contents[k]); got != want {
			t.Fatalf("zone %d, row %d, page %d: got %q, want %q", z, row, k, got, want)
		}
	}
}

// expectNumbers checks the numbers and the State of a zone.
func expectNumbers(t *testing.T, what string, d impl.Device, z, state int64, rows []int64, written int64) {
	t.Helper()
	zone := d.Zones[z]
	synced := int64(0)
	for _, c := range rows {
		synced += c
	}
	if zone.State != state || !slices.Equal(zone.Rows, rows) || zone.Synced != synced || zone.Written != written || int64(len(zone.Buffer)) != written-synced {
		t.Fatalf("%s: got %+v, want State %d, rows %v, %d pages", what, zone, state, rows, written)
	}
}

// setZonePage programs another page into the place of page k of a row.
func setZonePage(d impl.Device, z, row int64, k int, h impl.Header, contents string) impl.Device {
	block := d.Zones[z].Blocks[diesOfRow(row, d.Flash.Geo.Dies)[k]]
	return changedDevice(d, func(d *impl.Device) {
		d.Flash.Blocks[block].Pages[row] = zonePage(d.Flash.Geo, block, row, h, contents)
	})
}

// destroyed returns a device in which pages of a row are destroyed.
func destroyed(d impl.Device, z, row int64, pages ...int) impl.Device {
	return changedDevice(d, func(d *impl.Device) {
		for _, k := range pages {
			d.Flash.Blocks[d.Zones[z].Blocks[diesOfRow(row, d.Flash.Geo.Dies)[k]]].Pages[row] = destroyedRaw
		}
	})
}

// TestP27Append appends pages until all zones are full.
func TestP27Append(t *testing.T) {
	for _, g := range zoneGeometries {
		d, units := emptyDevice(g, 4), g.Dies-1
		for _, z := range []int64{2, 0, 3, 1} {
			var rows []int64
			pages := pagesFrom(int(100*z), int(units*g.Pages))
			for i, data := range pages {
				number := int64(i)
				got := onZone(t, d, zoneAct{zaAppend, z, data})
				expect(t, "code", got.code, impl.OK)
				expect(t, "number of the page", got.number, number)
				state := int64(impl.ZnOpen)
				if last := number%units == units-1; last {
					row := number / units
					rows = append(rows, units)
					expectRow(t, got.d, z, row, row*units, pages[row*units:number+1]...)
					expect(t, "operations", got.d.Flash.Ops, d.Flash.Ops+g.Dies)
					if row == g.Pages-1 {
						state = impl.ZnFull
					}
				} else {
					expect(t, "array is unchanged", sameArrays(got.d.Flash, d.Flash), true)
				}
				d = got.d
				expectNumbers(t, "append", d, z, state, rows, number+1)
			}
			expectContents(t, "full zone", d, z, pages)
			expectZone(t, "full zone", d, zoneAct{zaAppend, z, "x"}, impl.ErrState)
		}
		expect(t, "operations in all", d.Flash.Ops, 4*g.Dies*g.Pages)
	}
}

// TestP27PageSizes appends pages of all lengths.
func TestP27PageSizes(t *testing.T) {
	for _, g := range zoneGeometries[2:] {
		for start := 0; start <= 64; start += 8 {
			d, units := emptyDevice(g, 1), int(g.Dies-1)
			var pages []string
			for size := start; size <= min(start+8, 64); size++ {
				pages = append(pages, strings.Repeat("\xf7", size), strings.Repeat("\x00", 64-size))
			}
			pages = pages[:min(len(pages), units*16)]
			d = onZoneOk(t, d, append(appends(0, pages...), syncOf(0))...)
			expectContents(t, "pages of all lengths", d, 0, pages)
			for row := range d.Zones[0].Rows {
				first := row * units
				expectRow(t, d, 0, int64(row), int64(first), pages[first:min(first+units, len(pages))]...)
			}
			for _, size := range []int{65, 66, 128, 1000} {
				expectZone(t, "long page", d, zoneAct{zaAppend, 0, strings.Repeat("x", size)}, impl.ErrInvalid)
			}
		}
	}
}

// TestP27ShortRows syncs after each number of pages, in all rows of a zone.
func TestP27ShortRows(t *testing.T) {
	for _, g := range zoneGeometries {
		for pattern := range 1 << g.Pages {
			if g.Pages == 16 && pattern%1021 != 3 {
				continue
			}
			d := emptyDevice(g, 2)
			var all []string
			var rows []int64
			for row := range g.Pages {
				c := min(1+int64(pattern>>row&1), g.Dies-1)
				pages := pagesFrom(len(all)+pattern, int(c))
				d = played(d, append(appends(1, pages...), syncOf(1))...)
				first := int64(len(all))
				all, rows = append(all, pages...), append(rows, c)
				if pattern%37 == 0 {
					expectRow(t, d, 1, row, first, pages...)
				}
			}
			if pattern%7 == 0 {
				d = onZoneOk(t, emptyDevice(g, 2), replayActs(1, all, rows)...)
			}
			expectNumbers(t, "short rows", d, 1, impl.ZnFull, rows, int64(len(all)))
			expectContents(t, "short rows", d, 1, all)
		}
	}
}

// replayActs returns operations that append pages to a zone in rows with the given numbers of pages.
func replayActs(z int64, pages []string, rows []int64) []zoneAct {
	var acts []zoneAct
	for _, c := range rows {
		acts = append(append(acts, appends(z, pages[:c]...)...), syncOf(z))
		pages = pages[c:]
	}
	return acts
}

// TestP27Example follows the examples of chapter 16.
func TestP27Example(t *testing.T) {
	d := onZoneOk(t, emptyDevice(threeDies, 2), appends(0, "a", "b", "c")...)
	expectNumbers(t, "third page is buffered", d, 0, impl.ZnOpen, []int64{2}, 3)
	expect(t, "operations", d.Flash.Ops, 3)
	expectContents(t, "buffered page", d, 0, []string{"a", "b", "c"})
	d = onZoneOk(t, d, syncOf(0))
	expectNumbers(t, "after a sync", d, 0, impl.ZnOpen, []int64{2, 1}, 3)
	expectRow(t, d, 0, 0, 0, "a", "b")
	expectRow(t, d, 0, 1, 2, "c")
	expect(t, "a sync without buffered pages", sameDevices(onZoneOk(t, d, syncOf(0)), d), true)
	full := onZoneOk(t, d, finishOf(0))
	expectNumbers(t, "after finishing", full, 0, impl.ZnFull, []int64{2, 1}, 3)
	expect(t, "operations", full.Flash.Ops, 6)
	empty := onZoneOk(t, full, resetOf(0))
	expectNumbers(t, "after a reset", empty, 0, impl.ZnEmpty, nil, 0)
	expect(t, "operations", empty.Flash.Ops, 9)
	expect(t, "an empty zone is unchanged", sameDevices(onZoneOk(t, empty, resetOf(0)), empty), true)
}

// TestP27LastRow fills the last row of a zone in each way.
func TestP27LastRow(t *testing.T) {
	d := played(emptyDevice(threeDies, 1), appends(0, pagesFrom(1, 14)...)...)
	rows := slices.Repeat([]int64{2}, 7)
	expectNumbers(t, "before the last row", d, 0, impl.ZnOpen, rows, 14)
	one := onZoneOk(t, d, appends(0, "x")...)
	expectNumbers(t, "one page for the last row", one, 0, impl.ZnOpen, rows, 15)
	for _, a := range []zoneAct{syncOf(0), finishOf(0)} {
		got := onZoneOk(t, one, a)
		expectNumbers(t, "short last row", got, 0, impl.ZnFull, append(rows, 1), 15)
		expectRow(t, got, 0, 7, 14, "x")
		expectZone(t, "full", got, zoneAct{kind: zaAppend}, impl.ErrState)
		expect(t, "sync of a full zone", sameDevices(onZoneOk(t, got, syncOf(0), finishOf(0)), got), true)
	}
	two := onZoneOk(t, one, appends(0, "y")...)
	expectNumbers(t, "full last row", two, 0, impl.ZnFull, append(rows, 2), 16)
	expectNumbers(t, "reset", onZoneOk(t, two, resetOf(0)), 0, impl.ZnEmpty, nil, 0)
}

// TestP27States syncs, finishes and resets zones in every state.
func TestP27States(t *testing.T) {
	base := emptyDevice(threeDies, 4)
	row := appends(0, "a", "b")
	states := map[string]impl.Device{
		"empty": base, "buffer": played(base, appends(0, "a")...), "rows": played(base, row...),
		"rows and a buffer": played(base, append(row, appends(0, "c")...)...), "full": played(base, append(row, finishOf(0))...),
		"full without rows": played(base, finishOf(0)),
		"offline":           changedDevice(base, func(d *impl.Device) { d.Zones[0].State = impl.ZnOffline }),
	}
	type result struct {
		code, state, ops int64
		written          int64
	}
	results := func(d impl.Device, a zoneAct) result {
		got := onZone(t, d, a)
		if got.code != impl.OK {
			return result{code: got.code}
		}
		return result{0, got.d.Zones[0].State, got.d.Flash.Ops - d.Flash.Ops, got.d.Zones[0].Written}
	}
	refused := result{code: impl.ErrState}
	reset := result{state: impl.ZnEmpty, ops: 3}
	for what, want := range map[string][3]result{
		"empty":             {{state: impl.ZnEmpty}, {state: impl.ZnFull}, {state: impl.ZnEmpty}},
		"buffer":            {{0, impl.ZnOpen, 3, 1}, {0, impl.ZnFull, 3, 1}, reset},
		"rows":              {{0, impl.ZnOpen, 0, 2}, {0, impl.ZnFull, 0, 2}, reset},
		"rows and a buffer": {{0, impl.ZnOpen, 3, 3}, {0, impl.ZnFull, 3, 3}, reset},
		"full":              {{0, impl.ZnFull, 0, 2}, {0, impl.ZnFull, 0, 2}, reset},
		"full without rows": {{state: impl.ZnFull}, {state: impl.ZnFull}, reset},
		"offline":           {refused, refused, refused},
	} {
		for i, a := range []zoneAct{syncOf(0), finishOf(0), resetOf(0)} {
			expect(t, what+", "+a.String(), results(states[what], a), want[i])
		}
		code := int64(impl.OK)
		if what == "offline" || strings.HasPrefix(what, "full") {
			code = impl.ErrState
		}
		expectZone(t, what, states[what], zoneAct{zaAppend, 0, "z"}, code)
	}
}

// TestP27ResetBad resets zones with bad blocks and with blocks at the bound of erases.
func TestP27ResetBad(t *testing.T) {
	base := emptyDevice(threeDies, 4)
	for what, d := range map[string]impl.Device{
		"buffer": played(base, appends(0, "a")...), "rows": played(base, appends(0, "a", "b")...), "full": played(base, append(appends(0, "a"), finishOf(0))...),
	} {
		for _, block := range []int64{0, 4, 8} {
			worn := func(n int64) impl.Device {
				return changedDevice(d, func(d *impl.Device) { d.Flash.Blocks[block].Erases = n })
			}
			expectZone(t, what+", bad", markBadOf(d, block), resetOf(0), impl.ErrBad)
			expectZone(t, what+", worn out", worn(1000), resetOf(0), impl.ErrBad)
			// Nothing is erased, so no erase can be interrupted.
			expectZone(t, what+", worn out, about to be cut", armedDevice(worn(1000), 0, 5), resetOf(0), impl.ErrBad)
			expectZone(t, what+", bad, about to be cut", armedDevice(markBadOf(d, block), 0, 5), resetOf(0), impl.ErrBad)
			got := expectZone(t, what+", worn", worn(999), resetOf(0), impl.OK)
			expect(t, "erases", got.d.Flash.Blocks[block].Erases, 1000)
			expectZone(t, what+", other zones are bad", markBadOf(d, block+1, 7, 11), resetOf(0), impl.OK)
			empty := markBadOf(changedDevice(base, func(d *impl.Device) { d.Flash.Blocks[8].Erases = 1000 }), block)
			expect(t, "empty zone with bad blocks", sameDevices(onZoneOk(t, empty, resetOf(0)), empty), true)
		}
	}
	d := played(base, append(appends(0, pagesFrom(1, 7)...), appends(1, "other")...)...)
	got := onZoneOk(t, d, resetOf(0))
	for _, block := range got.Zones[0].Blocks {
		expect(t, "erased block", got.Flash.Blocks[block].Next, 0)
	}
}

// TestP27Replace replaces bad blocks before the first row of a zone, and checks which blocks are taken.
func TestP27Replace(t *testing.T) {
	g := impl.Geometry{Dies: 3, Blocks: 6, Pages: 8}
	base := played(emptyDevice(g, 2), appends(0, "a")...)
	used := func(d impl.Device, blocks ...int64) impl.Device {
		return changedDevice(d, func(d *impl.Device) {
			for _, block := range blocks {
				useBlock(d, block)
			}
		})
	}
	worn := changedDevice(used(markBadOf(base, 6, 8), 9, 10, 11), func(d *impl.Device) { d.Flash.Blocks[9].Erases, d.Flash.Blocks[10].Erases = 1000, 999 })
	for _, c := range []struct {
		what   string
		d      impl.Device
		blocks []int64
		erases int64
	}{
		{"no bad block", base, []int64{0, 6, 12}, 0},
		{"bad block of another zone", markBadOf(base, 1, 7), []int64{0, 6, 12}, 0},
		{"lowest erased blocks", markBadOf(base, 0, 6, 12), []int64{2, 8, 14}, 0},
		{"lowest good blocks", markBadOf(base, 0, 2, 6, 8, 9, 12, 13), []int64{3, 10, 14}, 0},
		{"erased blocks behind others", used(markBadOf(base, 0, 6), 2, 3, 8), []int64{4, 9, 12}, 0},
		{"blocks that must be erased", used(markBadOf(base, 0, 6, 8), 2, 3, 4, 5, 9, 10, 11), []int64{2, 9, 12}, 2},
		{"worn-out block that need not be erased", changedDevice(markBadOf(base, 0), func(d *impl.Device) { d.Flash.Blocks[2].Erases = 1000 }), []int64{2, 6, 12}, 0},
		{"worn-out block that must be erased", worn, []int64{0, 10, 12}, 1},
	} {
		for _, a := range append(appends(0, "b"), syncOf(0), finishOf(0)) {
			got := onZoneOk(t, c.d, a)
			expectList(t, c.what, got.Zones[0].Blocks, c.blocks)
			expect(t, c.what+", operations", got.Flash.Ops-c.d.Flash.Ops, c.erases+3)
			expect(t, c.what+", first page", readZone(t, got, 0, 0), coded{s: "a"})
		}
	}
	for what, d := range map[string]impl.Device{
		"all other blocks are bad":                     markBadOf(base, 0, 2, 3, 4, 5),
		"all other blocks of the second die are bad":   markBadOf(base, 0, 6, 8, 9, 10, 11),
		"all other blocks of the last die are bad":     markBadOf(used(base, 2, 3, 4, 5), 0, 12, 14, 15, 16, 17),
		"all other blocks are bad or cannot be erased": markBadOf(worn, 10, 11),
	} {
		for _, a := range append(appends(0, "b"), syncOf(0), finishOf(0)) {
			expectZone(t, what, d, a, impl.ErrBad)
		}
	}
	onZoneOk(t, markBadOf(emptyDevice(g, 2), 0, 2, 3, 4, 5), appends(0, "no row is programmed")...)
	started := played(emptyDevice(g, 2), appends(0, "a", "b", "c")...)
	for _, block := range []int64{0, 6, 12} {
		for _, a := range append(appends(0, "d"), syncOf(0), finishOf(0)) {
			expectZone(t, "bad block behind the first row", markBadOf(started, block), a, impl.ErrBad)
		}
	}
}

// TestP27Lost destroys each page of each row, and every two pages of a row.
func TestP27Lost(t *testing.T) {
	for _, g := range zoneGeometries {
		pages := pagesFrom(1, int(g.Dies)*3)
		d := played(emptyDevice(g, 2), replayActs(1, pages, lostRows(g))...)
		d = played(d, appends(1, pagesFrom(50, int(g.Dies-2))...)...)
		written := d.Zones[1].Written
		first := int64(0)
		for row, c := range d.Zones[1].Rows {
			for a := range int(g.Dies) {
				one := destroyed(d, 1, int64(row), a)
				for i := range written {
					expect(t, "one page is destroyed", readZone(t, one, 1, i), readZone(t, d, 1, i))
				}
				for b := range a {
					two := destroyed(d, 1, int64(row), a, b)
					for i := range written {
						want := readZone(t, d, 1, i)
						if i == first+int64(a) && int64(a) < c || i == first+int64(b) && int64(b) < c {
							want = coded{code: impl.ErrCorrupt}
						}
						expect(t, "two pages are destroyed", readZone(t, two, 1, i), want)
					}
				}
			}
			first += c
		}
		for _, i := range []int64{-1, written, written + 1} {
			expect(t, "no such page", readZone(t, d, 1, i), coded{code: impl.ErrRange})
		}
	}
}

// lostRows returns numbers of pages in rows, full and short ones.
func lostRows(g impl.Geometry) []int64 {
	if g.Dies == 2 {
		return []int64{1, 1, 1, 1, 1, 1}
	}
	return []int64{2, 1, 1, 2, 1, 2}
}

// TestP27LostEverywhere destroys one page of each row, which is any one.
func TestP27LostEverywhere(t *testing.T) {
	r := rand.New(rand.NewSource(1602))
	for n := range 300 {
		g := zoneGeometries[n%4]
		var rows []int64
		sum := int64(0)
		for range r.Int63n(g.Pages + 1) {
			rows = append(rows, 1+r.Int63n(g.Dies-1))
			sum += rows[len(rows)-1]
		}
		pages := pagesFrom(n, int(sum))
		d := played(emptyDevice(g, 3), replayActs(1, pages, rows)...)
		for row := range rows {
			d = destroyed(d, 1, int64(row), r.Intn(int(g.Dies)))
		}
		expectContents(t, "one page of each row is destroyed", d, 1, pages)
		mounted := mountDevice(t, d.Flash, 3).d
		expectList(t, "rows of the mounted zone", mounted.Zones[1].Rows, rows)
		expectContents(t, "mounted", mounted, 1, pages)
	}
}

// otherHeaders returns headers that differ from a header in one field.
func otherHeaders(h impl.Header) []impl.Header {
	var list []impl.Header
	for _, field := range headerFields() {
		for _, n := range []int64{field.low, field.low + 1, field.low + 2, 3, 4, 5, 64, 65, 127, field.high} {
			other := h
			*field.of(&other) = n
			if headerIsValid(other) && other != h {
				list = append(list, other)
			}
		}
	}
	return list
}

// TestP27NotIntact has pages that open, but with another header than the expected one.
func TestP27NotIntact(t *testing.T) {
	base := played(emptyDevice(threeDies, 2), replayActs(1, []string{"ab", "cde", "f", "gh", "ijk"}, []int64{2, 1, 2})...)
	first := int64(0)
	for row, c := range base.Zones[1].Rows {
		pages := zoneContents(t, base, 1)[first : first+c]
		headers, contents := rowOf(3, 1, int64(row), first, pages...)
		for k, h := range headers {
			for _, other := range otherHeaders(h) {
				d := setZonePage(base, 1, int64(row), k, other, contents[k])
				length := other.Size
				other.Size = h.Size
				if other == h && (h.Kind == impl.HdParity || h.Kind == impl.HdData && length <= 64) {
					// Any Size is accepted here, so the page is intact.
					for i, data := range pages {
						want := coded{s: data}
						if i == k {
							want.s = contents[k] + zeroData[len(data):]
							want.s = want.s[:length]
						}
						expect(t, "another Size", readZone(t, d, 1, first+int64(i)), want)
					}
					continue
				}
				for i, data := range pages {
					expect(t, "one page is not intact", readZone(t, d, 1, first+int64(i)), coded{s: data})
					if i != k {
						lost := destroyed(d, 1, int64(row), i)
						expect(t, "two pages are not intact", readZone(t, lost, 1, first+int64(i)), coded{code: impl.ErrCorrupt})
					}
				}
			}
		}
		first += c
	}
}

// TestP27ComputedLength has parity pages whose lengths give more than DataSize, or less.
func TestP27ComputedLength(t *testing.T) {
	for size := range int64(128) {
		d := played(emptyDevice(smallGeometry, 1), appends(0, "abc")...)
		headers, contents := rowOf(2, 0, 0, 0, "abc")
		headers[1].Size = size
		d = setZonePage(d, 0, 0, 1, headers[1], contents[1])
		expect(t, "page that is intact", readZone(t, d, 0, 0), coded{s: "abc"})
		want := coded{code: impl.ErrCorrupt}
		if size <= 64 {
			want = coded{s: contents[1][:size]}
		}
		expect(t, "page that is computed from the parity page alone", readZone(t, destroyed(d, 0, 0, 0), 0, 0), want)
		for other := range int64(65) {
			second := strings.Repeat("x", int(other))
			d = played(emptyDevice(threeDies, 1), appends(0, "abc", second)...)
			headers, contents = rowOf(3, 0, 0, 0, "abc", second)
			headers[2].Size = size
			d = setZonePage(d, 0, 0, 2, headers[2], contents[2])
			want = coded{code: impl.ErrCorrupt}
			if length := size ^ other; length <= 64 {
				want = coded{s: padded("abc")[:length]}
			}
			expect(t, "page that is computed", readZone(t, destroyed(d, 0, 0, 0), 0, 0), want)
		}
	}
}

// TestP27BitErrors has bit errors that are corrected, in every row.
func TestP27BitErrors(t *testing.T) {
	r := rand.New(rand.NewSource(1603))
	d := busyDevice(threeDies, 4)
	bent := changedDevice(d, func(d *impl.Device) {
		for i := range d.Flash.Blocks {
			for page, raw := range d.Flash.Blocks[i].Pages {
				if raw != "" {
					d.Flash.Blocks[i].Pages[page] = invertBits(raw, 64*r.Intn(10)+r.Intn(64), markBits+r.Intn(8))
				}
			}
		}
	})
	for z := range int64(4) {
		expectContents(t, "bit errors", bent, z, zoneContents(t, d, z))
	}
	mounted := mountDevice(t, bent.Flash, 4).d
	expectList(t, "rows", mounted.Zones[0].Rows, d.Zones[0].Rows)
}
