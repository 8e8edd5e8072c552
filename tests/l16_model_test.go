package tests

import (
	"reflect"
	"slices"
	"strings"
	"testing"

	"loop.example/g00905/impl"
)

// deviceOutcome is a result of a function that returns a device, the number of a page, and a code. Functions that
// return no number have the number 0.
type deviceOutcome struct {
	d      impl.Device
	number int64
	code   int64
}

// headerIsValid reports whether a header has a binary form, by the definition of chapter 16.
func headerIsValid(h impl.Header) bool {
	return h.Kind > 160 && h.Kind < 164 && h.Zone >= 0 && h.Zone < 12 && h.Row >= 0 && h.Row < 16 &&
		h.Unit >= 0 && h.Unit < 4 && h.Index >= 0 && h.Index < 65536 && h.Size >= 0 && h.Size < 128
}

// rawHeader returns the binary form of a header that is put together from the definition of chapter 16, also of
// a header that has no binary form.
func rawHeader(h impl.Header, data string) string {
	fields := string([]byte{byte(h.Kind), byte(h.Zone), byte(h.Row), byte(h.Unit)}) +
		littleEndian(h.Index, 4) + string([]byte{byte(h.Size), 0, 0, 0})
	return fields + littleEndian(impl.Checksum(data+fields), 4)
}

// wantDecodeHeader returns what chapter 16 requires of DecodeHeader.
func wantDecodeHeader(spare string, data string) (impl.Header, bool) {
	if len(spare) != 16 || len(data) != 64 {
		return impl.Header{}, false
	}
	index := int64(spare[4]) + int64(spare[5])<<8 + int64(spare[6])<<16 + int64(spare[7])<<24
	h := impl.Header{Kind: int64(spare[0]), Zone: int64(spare[1]), Row: int64(spare[2]), Unit: int64(spare[3]), Index: index, Size: int64(spare[8])}
	if !headerIsValid(h) || rawHeader(h, data) != spare {
		return impl.Header{}, false
	}
	return h, true
}

// padded returns contents with zero bytes behind them.
func padded(s string) string {
	return s + strings.Repeat("\x00", 64-len(s))
}

// zonePage returns the raw page with a header and contents in a page of a block.
func zonePage(g impl.Geometry, block, page int64, h impl.Header, contents string) string {
	data := padded(contents)
	return sealedByDefinition(data, rawHeader(h, data), block*g.Pages+page)
}

// numberOfZonesIsValid reports whether a device on an array may have so many zones.
func numberOfZonesIsValid(g impl.Geometry, zones int64) bool {
	return zones >= 1 && zones <= 12 && zones <= g.Blocks
}

// deviceIsValid reports whether d is valid, by the definition of chapter 16.
func deviceIsValid(d impl.Device) bool {
	if !impl.ValidFlash(d.Flash) || !numberOfZonesIsValid(d.Flash.Geo, int64(len(d.Zones))) {
		return false
	}
	var all []int64
	for _, zone := range d.Zones {
		if !zoneIsValid(d.Flash, zone) {
			return false
		}
		all = append(all, zone.Blocks...)
	}
	slices.Sort(all)
	return len(slices.Compact(slices.Clone(all))) == len(all)
}

// zoneIsValid reports whether a zone fits a valid array, by the definition of chapter 16.
func zoneIsValid(f impl.Flash, zone impl.Zone) bool {
	if int64(len(zone.Blocks)) != f.Geo.Dies || int64(len(zone.Rows)) > f.Geo.Pages || int64(len(zone.Buffer)) > f.Geo.Dies-2 {
		return false
	}
	for die, block := range zone.Blocks {
		if block < int64(die)*f.Geo.Blocks || block > int64(die+1)*f.Geo.Blocks-1 {
			return false
		}
	}
	sum := int64(0)
	for _, c := range zone.Rows {
		if c < 1 || c > f.Geo.Dies-1 {
			return false
		}
		sum += c
	}
	for _, data := range zone.Buffer {
		if len(data) > 64 {
			return false
		}
	}
	rows, buffered := int64(len(zone.Rows)), int64(len(zone.Buffer))
	if zone.Synced != sum || zone.Written != sum+buffered || buffered > 0 && zone.State != impl.ZnOpen {
		return false
	}
	switch zone.State {
	case impl.ZnEmpty:
		return rows == 0 && allNextsAre(f, zone, 0)
	case impl.ZnOpen:
		return rows+buffered > 0 && rows < f.Geo.Pages && allNextsAre(f, zone, rows)
	case impl.ZnOffline:
		return rows == 0
	}
	return zone.State == impl.ZnFull
}

// allNextsAre reports whether Next of all blocks of a zone is a number.
func allNextsAre(f impl.Flash, zone impl.Zone, next int64) bool {
	for _, block := range zone.Blocks {
		if f.Blocks[block].Next != next {
			return false
		}
	}
	return true
}

// rowModel is where the pages of a row of a zone are. A die on which the zone has no block has the block -1.
type rowModel struct {
	f                impl.Flash
	blocks           []int64
	zone, row, first int64
}

// headedAt returns the data bytes and the header of a page, and whether it opens and has a header.
func headedAt(f impl.Flash, block, page int64) (string, impl.Header, bool) {
	if block == -1 {
		return "", impl.Header{}, false
	}
	data, spare, _, code := impl.OpenPage(f.Blocks[block].Pages[page], block*f.Geo.Pages+page)
	h, ok := wantDecodeHeader(spare, data)
	return data, h, code == impl.OK && ok
}

// unit returns the data bytes and the length of unit k in a row with c data pages, and whether it is intact.
func (r rowModel) unit(k, c int64) (string, int64, bool) {
	data, h, ok := headedAt(r.f, r.blocks[impl.DataDie(r.row, k, r.f.Geo.Dies)], r.row)
	want := impl.Header{Kind: impl.HdFiller, Zone: r.zone, Row: r.row, Unit: k, Index: r.first + c}
	if k < c {
		want = impl.Header{Kind: impl.HdData, Zone: r.zone, Row: r.row, Unit: k, Index: r.first + k, Size: h.Size}
	}
	return data, h.Size, ok && h == want && h.Size <= 64
}

// parity returns the data bytes and the Size of the parity page in a row with c data pages, and whether it is
// intact.
func (r rowModel) parity(c int64) (string, int64, bool) {
	data, h, ok := headedAt(r.f, r.blocks[impl.ParityDie(r.row, r.f.Geo.Dies)], r.row)
	want := impl.Header{Kind: impl.HdParity, Zone: r.zone, Row: r.row, Unit: c, Index: r.first, Size: h.Size}
	return data, h.Size, ok && h == want
}

// intactUnits returns the number of units that are intact in a row with c data pages.
func (r rowModel) intactUnits(c int64) int64 {
	n := int64(0)
	for k := range r.f.Geo.Dies - 1 {
		if _, _, ok := r.unit(k, c); ok {
			n++
		}
	}
	return n
}

// count returns the number of data pages with which step 2 of mounting counts a row, 0 if it does not count it,
// and whether reading continues.
func (r rowModel) count() (int64, bool) {
	units := r.f.Geo.Dies - 1
	for c := int64(1); c <= units; c++ {
		if _, _, ok := r.parity(c); ok && r.intactUnits(c) >= units-1 {
			return c, true
		}
	}
	c := int64(0)
	for c < units {
		if _, _, ok := r.unit(c, units); !ok {
			break
		}
		c++
	}
	return c, c > 0 && r.intactUnits(c) == units
}

// begins reports whether the block of the zone on a die begins with a page of row 0 of the zone.
func (r rowModel) begins(die int64) bool {
	_, h, ok := headedAt(r.f, r.blocks[die], 0)
	if !ok || h.Zone != r.zone || h.Row != 0 {
		return false
	}
	dies := r.f.Geo.Dies
	switch h.Kind {
	case impl.HdData:
		return impl.DataDie(0, h.Unit, dies) == die && h.Index == h.Unit && h.Size <= 64
	case impl.HdFiller:
		return impl.DataDie(0, h.Unit, dies) == die && h.Index >= 1 && h.Index <= h.Unit && h.Size == 0
	}
	return impl.ParityDie(0, dies) == die && h.Index == 0 && h.Unit >= 1 && h.Unit <= dies-1
}

// rows returns the rows of a zone by step 2 of mounting.
func (r rowModel) rows() []int64 {
	begun := int64(0)
	for die := range r.f.Geo.Dies {
		if r.begins(die) {
			begun++
		}
	}
	if begun < r.f.Geo.Dies-1 {
		return nil
	}
	var list []int64
	for more := true; more && r.row < r.f.Geo.Pages; r.row++ {
		var c int64
		c, more = r.count()
		if c > 0 {
			list = append(list, c)
			r.first += c
		}
	}
	return list
}

// allIntact reports whether all pages of the rows of a zone are intact.
func (r rowModel) allIntact(rows []int64) bool {
	for row, c := range rows {
		r.row = int64(row)
		if _, _, ok := r.parity(c); !ok || r.intactUnits(c) < r.f.Geo.Dies-1 {
			return false
		}
		r.first += c
	}
	return true
}

// ownedBlocks returns the blocks that belong to a zone by step 1 of mounting, with -1 for the other dies.
func ownedBlocks(f impl.Flash, z int64) []int64 {
	var list []int64
	for die := range f.Geo.Dies {
		good, any := int64(-1), int64(-1)
		// Downwards, so that the lowest number remains.
		for block := (die+1)*f.Geo.Blocks - 1; block >= die*f.Geo.Blocks; block-- {
			if ownerAt(f, block) == z {
				any = block
				if !f.Blocks[block].Bad {
					good = block
				}
			}
		}
		if good == -1 {
			good = any
		}
		list = append(list, good)
	}
	return list
}

// ownerAt returns the zone that the first header in a block names, or -1 if there is none.
func ownerAt(f impl.Flash, block int64) int64 {
	for page := range f.Geo.Pages {
		if _, h, ok := headedAt(f, block, page); ok {
			return h.Zone
		}
	}
	return -1
}

// lowestFree returns the lowest-numbered block of a die that belongs to no zone and fulfils a condition, or -1.
func lowestFree(d impl.Device, die int64, condition func(b impl.Block) bool) int64 {
	for block := die * d.Flash.Geo.Blocks; block < (die+1)*d.Flash.Geo.Blocks; block++ {
		owned := false
		for _, zone := range d.Zones {
			owned = owned || slices.Contains(zone.Blocks, block)
		}
		if !owned && condition(d.Flash.Blocks[block]) {
			return block
		}
	}
	return -1
}

// goodErased, goodBlock and anyBlock are conditions for blocks.
func goodErased(b impl.Block) bool { return !b.Bad && b.Next == 0 }
func goodBlock(b impl.Block) bool  { return !b.Bad }
func anyBlock(impl.Block) bool     { return true }

// wantMountDevice returns the outcome that chapter 16 requires of MountDevice.
func wantMountDevice(f impl.Flash, zones int64) deviceOutcome {
	switch {
	case !impl.ValidFlash(f):
		return deviceOutcome{code: impl.ErrInvalid}
	case f.Off:
		return deviceOutcome{code: impl.ErrPower}
	case !numberOfZonesIsValid(f.Geo, zones):
		return deviceOutcome{code: impl.ErrRange}
	}
	d := impl.Device{Flash: deepCopy(f)}
	for z := range zones {
		blocks := ownedBlocks(f, z)
		rows := rowModel{f, blocks, z, 0, 0}.rows()
		sum := int64(0)
		for _, c := range rows {
			sum += c
		}
		d.Zones = append(d.Zones, impl.Zone{Blocks: blocks, Written: sum, Synced: sum, Rows: rows})
	}
	for _, zone := range d.Zones {
		for die := range f.Geo.Dies {
			for _, condition := range []func(impl.Block) bool{goodErased, goodBlock, anyBlock} {
				if zone.Blocks[die] == -1 {
					zone.Blocks[die] = lowestFree(d, die, condition)
				}
			}
		}
	}
	for z := range d.Zones {
		d.Zones[z].State = wantState(d, int64(z))
	}
	return deviceOutcome{d: d}
}

// wantState returns the state of a zone by step 4 of mounting.
func wantState(d impl.Device, z int64) int64 {
	zone := d.Zones[z]
	bad := false
	for _, block := range zone.Blocks {
		bad = bad || d.Flash.Blocks[block].Bad
	}
	rows := int64(len(zone.Rows))
	if rows == 0 {
		switch {
		case bad:
			return impl.ZnOffline
		case allNextsAre(d.Flash, zone, 0):
			return impl.ZnEmpty
		}
		return impl.ZnFull
	}
	if !bad && allNextsAre(d.Flash, zone, rows) && rows < d.Flash.Geo.Pages && (rowModel{d.Flash, zone.Blocks, z, 0, 0}).allIntact(zone.Rows) {
		return impl.ZnOpen
	}
	return impl.ZnFull
}

// zoneModel performs operations on a zone as chapter 16 describes them, with the functions of other chapters.
type zoneModel struct {
	d    impl.Device
	z    int64
	zone *impl.Zone
}

// commonError returns the first of the errors that all functions of a zone have in common, or OK.
func commonError(d impl.Device, z int64) int64 {
	switch {
	case !deviceIsValid(d):
		return impl.ErrInvalid
	case d.Flash.Off:
		return impl.ErrPower
	case z < 0 || z > int64(len(d.Zones))-1:
		return impl.ErrRange
	}
	return impl.OK
}

// wantZone returns the outcome that chapter 16 requires of an operation on a zone.
func wantZone(d impl.Device, z int64, operation func(m *zoneModel) int64) (want deviceOutcome) {
	if code := commonError(d, z); code == impl.ErrPower {
		return deviceOutcome{d: deepCopy(d), code: code}
	} else if code != impl.OK {
		return deviceOutcome{code: code}
	}
	m := zoneModel{d: deepCopy(d), z: z}
	m.zone = &m.d.Zones[z]
	defer func() {
		switch stop := recover().(type) {
		case nil:
		case modelStop:
			want = deviceOutcome{code: int64(stop)}
			if want.code == impl.ErrPower {
				m.zone.State, m.zone.Buffer, m.zone.Written = impl.ZnFull, nil, m.zone.Synced
				want.d = m.d
			}
		default:
			panic(stop)
		}
	}()
	number := operation(&m)
	return deviceOutcome{m.d, number, impl.OK}
}

// require ends the operation with a code unless a condition holds.
func (m *zoneModel) require(condition bool, code int64) {
	if !condition {
		panic(modelStop(code))
	}
}

// keep keeps the array after an operation on it.
func (m *zoneModel) keep(f impl.Flash, code int64) {
	if code == impl.OK || code == impl.ErrPower {
		m.d.Flash = f
	}
	m.require(code == impl.OK, code)
}

// replaceBad replaces the bad blocks of the zone.
func (m *zoneModel) replaceBad() {
	for die, block := range m.zone.Blocks {
		if !m.d.Flash.Blocks[block].Bad {
			continue
		}
		m.require(len(m.zone.Rows) == 0, impl.ErrBad)
		other := lowestFree(m.d, int64(die), goodErased)
		if other == -1 {
			other = lowestFree(m.d, int64(die), func(b impl.Block) bool { return !b.Bad && b.Erases <= 999 })
			m.require(other != -1, impl.ErrBad)
			m.keep(impl.EraseBlock(m.d.Flash, other))
		}
		m.zone.Blocks[die] = other
	}
}

// programRow programs the buffered pages as a row.
func (m *zoneModel) programRow() {
	m.replaceBad()
	dies, row, first := m.d.Flash.Geo.Dies, int64(len(m.zone.Rows)), m.zone.Synced
	c := int64(len(m.zone.Buffer))
	program := func(die int64, h impl.Header, contents string) {
		block := m.zone.Blocks[die]
		h.Zone, h.Row = m.z, row
		m.keep(impl.ProgramPage(m.d.Flash, block, row, zonePage(m.d.Flash.Geo, block, row, h, contents)))
	}
	sum, size := zeroData, int64(0)
	for k := range dies - 1 {
		h, contents := impl.Header{Kind: impl.HdFiller, Unit: k, Index: first + c}, ""
		if k < c {
			contents = m.zone.Buffer[k]
			h = impl.Header{Kind: impl.HdData, Unit: k, Index: first + k, Size: int64(len(contents))}
		}
		program(impl.DataDie(row, k, dies), h, contents)
		sum, size = sumOf([]string{sum, padded(contents)}), size^h.Size
	}
	program(impl.ParityDie(row, dies), impl.Header{Kind: impl.HdParity, Unit: c, Index: first, Size: size}, sum)
	m.zone.Rows = append(m.zone.Rows, c)
	m.zone.Synced, m.zone.Buffer = m.zone.Written, nil
	if row == m.d.Flash.Geo.Pages-1 {
		m.zone.State = impl.ZnFull
	}
}

func wantAppend(d impl.Device, z int64, data string) deviceOutcome {
	if len(data) > 64 {
		return deviceOutcome{code: impl.ErrInvalid}
	}
	return wantZone(d, z, func(m *zoneModel) int64 {
		m.require(m.zone.State != impl.ZnFull && m.zone.State != impl.ZnOffline, impl.ErrState)
		number := m.zone.Written
		m.zone.State = impl.ZnOpen
		m.zone.Buffer = append(m.zone.Buffer, data)
		m.zone.Written++
		if int64(len(m.zone.Buffer)) == m.d.Flash.Geo.Dies-1 {
			m.programRow()
		}
		return number
	})
}

// synchronize programs the buffered pages, if there are any.
func (m *zoneModel) synchronize() {
	m.require(m.zone.State != impl.ZnOffline, impl.ErrState)
	if len(m.zone.Buffer) > 0 {
		m.programRow()
	}
}

func wantSyncZone(d impl.Device, z int64) deviceOutcome {
	return wantZone(d, z, func(m *zoneModel) int64 {
		m.synchronize()
		return 0
	})
}

func wantFinish(d impl.Device, z int64) deviceOutcome {
	return wantZone(d, z, func(m *zoneModel) int64 {
		m.synchronize()
		m.zone.State = impl.ZnFull
		return 0
	})
}

func wantReset(d impl.Device, z int64) deviceOutcome {
	return wantZone(d, z, func(m *zoneModel) int64 {
		m.require(m.zone.State != impl.ZnOffline, impl.ErrState)
		if m.zone.State == impl.ZnEmpty {
			return 0
		}
		for _, block := range m.zone.Blocks {
			m.require(!m.d.Flash.Blocks[block].Bad && m.d.Flash.Blocks[block].Erases < 1000, impl.ErrBad)
		}
		m.zone.Rows, m.zone.Synced = nil, 0
		for _, block := range m.zone.Blocks {
			m.keep(impl.EraseBlock(m.d.Flash, block))
		}
		m.zone.State, m.zone.Buffer, m.zone.Written = impl.ZnEmpty, nil, 0
		return 0
	})
}

// wantReadZone returns the result that chapter 16 requires of ReadZone.
func wantReadZone(d impl.Device, z, i int64) coded {
	if code := commonError(d, z); code != impl.OK {
		return coded{code: code}
	}
	zone := d.Zones[z]
	switch {
	case i < 0 || i > zone.Written-1:
		return coded{code: impl.ErrRange}
	case i >= zone.Synced:
		return coded{s: zone.Buffer[i-zone.Synced]}
	}
	r := rowModel{d.Flash, zone.Blocks, z, 0, 0}
	for i >= r.first+zone.Rows[r.row] {
		r.first += zone.Rows[r.row]
		r.row++
	}
	return r.read(i-r.first, zone.Rows[r.row])
}

// read returns the contents of data page k in a row with c data pages.
func (r rowModel) read(k, c int64) coded {
	if data, size, ok := r.unit(k, c); ok {
		return coded{s: data[:size]}
	}
	data, size, ok := r.parity(c)
	for other := range r.f.Geo.Dies - 1 {
		if other != k {
			otherData, otherSize, otherOk := r.unit(other, c)
			ok = ok && otherOk
			if ok {
				data, size = sumOf([]string{data, otherData}), size^otherSize
			}
		}
	}
	if !ok || size > 64 {
		return coded{code: impl.ErrCorrupt}
	}
	return coded{s: data[:size]}
}

// sameDevices reports whether two devices are deeply equal, without the package.
func sameDevices(a impl.Device, b impl.Device) bool {
	return reflect.DeepEqual(deepCopy(a), deepCopy(b))
}

// expectDevice ends the test if an outcome differs from the wanted one.
func expectDevice(t *testing.T, what string, got deviceOutcome, want deviceOutcome) {
	t.Helper()
	if got.code != want.code || got.number != want.number || !sameDevices(got.d, want.d) {
		t.Fatalf("%s: got %+v, number %d and code %d, want %+v, number %d and code %d, or the arrays differ",
			what, got.d.Zones, got.number, got.code, want.d.Zones, want.number, want.code)
	}
}
