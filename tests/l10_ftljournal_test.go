package tests

import (
	"encoding/binary"
	"hash/crc32"
	"math"
	"math/rand"
	"reflect"
	"slices"
	"strings"
	"testing"

	"loop.example/g00905/impl"
)

// pageFound is a result of NewestOf.
type pageFound struct {
	x  impl.Found
	ok bool
}

// listSample is a list of pages, whether it is valid, and what is special about it.
type listSample struct {
	what  string
	list  []impl.Found
	valid bool
}

func dataMeta(lpn int64, seq int64) impl.PageMeta {
	return impl.PageMeta{Kind: impl.MkData, Logical: lpn, Seq: seq}
}

func trimMeta(lpn int64, seq int64) impl.PageMeta {
	return impl.PageMeta{Kind: impl.MkTrim, Logical: lpn, Seq: seq}
}

func atomicMeta(lpn int64, seq int64, first int64, count int64) impl.PageMeta {
	return impl.PageMeta{Kind: impl.MkAtomic, Logical: lpn, Seq: seq, First: first, Count: count}
}

// metaIsValid reports whether metadata are valid, by the definition of chapter 10.
func metaIsValid(m impl.PageMeta) bool {
	if m.Kind == 4 {
		return m.Logical == 0 && m.Seq == 0 && m.First == 0 && m.Count == 0
	}
	if m.Logical < 0 || m.Logical > 47 || m.Seq < 1 || m.Seq > 1000000 {
		return false
	}
	switch m.Kind {
	case 1, 3:
		return m.First == 0 && m.Count == 0
	case 2:
		return m.Count >= 1 && m.Count <= 4 && m.First >= 1 && m.First <= m.Seq && m.Seq <= m.First+m.Count-1
	}
	return false
}

// rawMeta returns the spare bytes for metadata that need not be valid, without the package.
func rawMeta(m impl.PageMeta) string {
	out := []byte{byte(m.Kind)}
	out = binary.LittleEndian.AppendUint16(out, uint16(m.Logical))
	out = binary.LittleEndian.AppendUint32(out, uint32(m.Seq))
	out = binary.LittleEndian.AppendUint32(out, uint32(m.First))
	out = append(out, byte(m.Count))
	return string(binary.LittleEndian.AppendUint32(out, crc32.ChecksumIEEE(out)))
}

// wantDecode returns the metadata that chapter 10 requires of DecodeMeta, and whether there are any.
func wantDecode(spare string) (impl.PageMeta, bool) {
	if len(spare) != 16 {
		return impl.PageMeta{}, false
	}
	b := []byte(spare)
	m := impl.PageMeta{
		Kind: int64(b[0]), Logical: int64(binary.LittleEndian.Uint16(b[1:])), Seq: int64(binary.LittleEndian.Uint32(b[3:])),
		First: int64(binary.LittleEndian.Uint32(b[7:])), Count: int64(b[11]),
	}
	if binary.LittleEndian.Uint32(b[12:]) != crc32.ChecksumIEEE(b[:12]) || !metaIsValid(m) {
		return impl.PageMeta{}, false
	}
	return m, true
}

// expectDecode checks DecodeMeta for one string.
func expectDecode(t *testing.T, what string, spare string) bool {
	t.Helper()
	m, ok := impl.DecodeMeta(spare)
	want, wantOk := wantDecode(spare)
	if m != want || ok != wantOk {
		t.Fatalf("%s: DecodeMeta(%x) = %+v, %v", what, spare, m, ok)
	}
	return ok
}

// edgeMetas returns metadata with all combinations of values at and beside the bounds of the fields.
func edgeMetas() []impl.PageMeta {
	var list []impl.PageMeta
	far := []int64{math.MinInt64, -1 << 32, -1, 1 << 32, 1<<32 + 1, math.MaxInt64}
	for _, kind := range append(far, 0, 1, 2, 3, 4, 5, 257, 258) {
		for _, lpn := range append(far, 0, 1, 46, 47, 48, 65536) {
			for _, seq := range append(far, 0, 1, 2, 3, 4, 5, 999996, 999997, 999999, 1000000, 1000001) {
				for _, first := range append(far, 0, 1, 2, 4, 5, 999997, 999999, 1000000, 1000001) {
					for _, count := range append(far, 0, 1, 2, 3, 4, 5, 256, 260) {
						list = append(list, impl.PageMeta{Kind: kind, Logical: lpn, Seq: seq, First: first, Count: count})
					}
				}
			}
		}
	}
	return list
}

// someMetas are valid metadata of all kinds with the least and the greatest fields.
var someMetas = []impl.PageMeta{
	dataMeta(0, 1), dataMeta(47, 1000000), dataMeta(3, 7), trimMeta(0, 1), trimMeta(47, 1000000), trimMeta(3, 7), {Kind: impl.MkPad},
	atomicMeta(0, 1, 1, 1), atomicMeta(47, 1000000, 1000000, 4), atomicMeta(47, 1000000, 999997, 4), atomicMeta(5, 4, 1, 4), atomicMeta(5, 258, 257, 3),
}

// damagedMetas are metadata with one field beside its bounds.
var damagedMetas = []impl.PageMeta{
	{}, dataMeta(-1, 1), dataMeta(48, 1), dataMeta(0, 0), dataMeta(0, -1), dataMeta(0, 1000001), trimMeta(-1, 1), trimMeta(48, 1), trimMeta(0, 0), trimMeta(0, 1000001),
	{Kind: impl.MkData, Seq: 1, First: 1}, {Kind: impl.MkData, Seq: 1, Count: 1}, {Kind: impl.MkTrim, Seq: 1, First: 1}, {Kind: impl.MkTrim, Seq: 1, Count: 1},
	{Kind: impl.MkData, Seq: 1, First: 1, Count: 1}, {Kind: impl.MkPad, Logical: 1}, {Kind: impl.MkPad, Seq: 1}, {Kind: impl.MkPad, First: 1}, {Kind: impl.MkPad, Count: 1},
	{Kind: 5, Seq: 1}, {Kind: 0, Seq: 1}, {Kind: 5}, {Kind: -1}, atomicMeta(-1, 1, 1, 1), atomicMeta(48, 1, 1, 1), atomicMeta(0, 0, 1, 1), atomicMeta(0, 0, 0, 1), atomicMeta(0, 1, 0, 2),
	atomicMeta(0, 1000001, 1000000, 2), atomicMeta(0, 1000001, 1000001, 1), atomicMeta(0, 4, 5, 2), atomicMeta(0, 7, 5, 2), atomicMeta(0, 5, 5, 0), atomicMeta(0, 5, 5, 5), atomicMeta(0, 5, 5, -1),
	atomicMeta(0, 5, math.MaxInt64, 4), atomicMeta(0, 5, math.MinInt64, 4), atomicMeta(0, 5, math.MinInt64, math.MaxInt64), atomicMeta(0, 5, 5, math.MaxInt64), atomicMeta(0, 5, 3, 2),
}

func TestP17Constants(t *testing.T) {
	expect(t, "MaxAtomic", impl.MaxAtomic, 4)
	expect(t, "MaxWrites", impl.MaxWrites, 1000000)
	expect(t, "MkData", impl.MkData, 1)
	expect(t, "MkAtomic", impl.MkAtomic, 2)
	expect(t, "MkTrim", impl.MkTrim, 3)
	expect(t, "MkPad", impl.MkPad, 4)
}

// TestP17AllMetas checks and encodes metadata with fields at and beside their bounds; what is invalid
// has no encoding and is not decoded either.
func TestP17AllMetas(t *testing.T) {
	valid := map[int64]int{}
	for _, m := range append(edgeMetas(), append(someMetas, damagedMetas...)...) {
		ok, want := metaIsValid(m), ""
		if impl.ValidMeta(m) != ok {
			t.Fatalf("ValidMeta(%+v) = %v", m, !ok)
		}
		if ok {
			want = rawMeta(m)
			valid[m.Kind]++
		}
		if got := impl.EncodeMeta(m); got != want {
			t.Fatalf("EncodeMeta(%+v) = %x, want %x", m, got, want)
		}
		if expectDecode(t, "fields", rawMeta(m)) && ok {
			if back, _ := impl.DecodeMeta(want); back != m {
				t.Fatalf("DecodeMeta(EncodeMeta(%+v)) = %+v", m, back)
			}
		}
	}
	for kind := int64(1); kind <= 4; kind++ {
		expect(t, "valid metadata of the kind exist", valid[kind] > 0, true)
	}
	for _, m := range someMetas {
		expect(t, "ValidMeta", impl.ValidMeta(m), true)
	}
	for _, m := range damagedMetas {
		expect(t, "ValidMeta of damaged metadata", impl.ValidMeta(m), false)
	}
}

// TestP17Groups checks every member of the groups of all sizes, and the pages beside them.
func TestP17Groups(t *testing.T) {
	for count := int64(-1); count <= 6; count++ {
		for _, first := range []int64{1, 5, 255, 256, 999996, 999997, 999998, 1000000} {
			for seq := first - 2; seq <= first+6; seq++ {
				want := count >= 1 && count <= 4 && seq >= first && seq < first+count && seq <= 1000000
				m := atomicMeta(9, seq, first, count)
				expect(t, "ValidMeta of a member", impl.ValidMeta(m), want)
				back, ok := impl.DecodeMeta(impl.EncodeMeta(m))
				expect(t, "DecodeMeta of a member", ok, want)
				expect(t, "DecodeMeta of a member", !ok || back == m, true)
			}
		}
	}
}

func TestP17Encoding(t *testing.T) {
	want := "\x02\x2f\x00\x40\x42\x0f\x00\x3d\x42\x0f\x00\x04"
	want += impl.EncodeFixed(impl.Checksum(want), 4)
	expect(t, "EncodeMeta", impl.EncodeMeta(atomicMeta(47, 1000000, 999997, 4)), want)
	expect(t, "size of a trim record's metadata", len(impl.EncodeMeta(trimMeta(3, 7))), impl.SpareSize)
	pad := "\x04" + strings.Repeat("\x00", 11)
	expect(t, "EncodeMeta of a pad", impl.EncodeMeta(impl.PageMeta{Kind: impl.MkPad}), pad+impl.EncodeFixed(impl.Checksum(pad), 4))
}

// TestP17OneByte changes each byte of encoded metadata to every other value.
func TestP17OneByte(t *testing.T) {
	for _, m := range someMetas {
		spare := []byte(impl.EncodeMeta(m))
		for i, b := range spare {
			for n := range 255 {
				spare[i] = b + 1 + byte(n)
				if back, ok := impl.DecodeMeta(string(spare)); ok || back != (impl.PageMeta{}) {
					t.Fatalf("%+v: byte %d changed to %d leads to %+v, %v", m, i, spare[i], back, ok)
				}
				if i < 12 {
					expectDecode(t, "changed byte with its checksum", withSum(string(spare[:12])))
				}
			}
			spare[i] = b
		}
	}
}

// TestP17OtherSizes cuts encoded metadata short and lengthens them, with and without a checksum that
// fits.
func TestP17OtherSizes(t *testing.T) {
	for _, m := range someMetas {
		spare := impl.EncodeMeta(m)
		for i := range len(spare) {
			for _, s := range []string{
				spare[:i], spare[i+1:], spare[:i] + spare[i+1:], spare[:i] + "\x00" + spare[i:], spare + spare[:i+1], withSum(spare[i+1:]), withSum(spare[:min(i, 11)]),
				spare[i:] + strings.Repeat("\x00", i+1), strings.Repeat("\x00", i+1) + spare,
			} {
				expect(t, "DecodeMeta of another size", expectDecode(t, "another size", s), false)
			}
		}
		body := spare[:12]
		for _, s := range []string{withSum(body + "\x00"), withSum(spare), withSum(body[:11]), withSum("\x00" + body), body + impl.EncodeFixed(impl.Checksum(body), 8), spare + strings.Repeat("\x00", 70000)} {
			expect(t, "DecodeMeta of another size with its checksum", expectDecode(t, "another size", s), false)
		}
	}
	r := rand.New(rand.NewSource(101))
	for range 2000 {
		expectDecode(t, "random", randomString(r, r.Intn(18)))
		expectDecode(t, "random with its checksum", withSum(string([]byte{byte(r.Intn(5))})+randomString(r, r.Intn(13))))
		small := []byte{byte(1 + r.Intn(4)), byte(r.Intn(50)), 0, byte(r.Intn(6)), 0, 0, 0, byte(r.Intn(6)), 0, 0, 0, byte(r.Intn(6))}
		expectDecode(t, "small numbers", withSum(string(small)))
	}
}

// sealedMeta returns a sealed page with metadata.
func sealedMeta(m impl.PageMeta, phys int64) string {
	return sealedByDefinition(strings.Repeat("codeword", 8), rawMeta(m), phys)
}

// wantScan returns what chapter 10 requires of ScanPages.
func wantScan(f impl.Flash, valid bool) ([]impl.Found, int64) {
	switch {
	case !valid:
		return nil, impl.ErrInvalid
	case f.Off:
		return nil, impl.ErrPower
	}
	var list []impl.Found
	for block := range f.Geo.Dies * f.Geo.Blocks {
		for page := range f.Geo.Pages {
			phys := block*f.Geo.Pages + page
			_, spare, _, code := impl.OpenPage(f.Blocks[block].Pages[page], phys)
			if m, ok := wantDecode(spare); code == impl.OK && ok && m.Kind != impl.MkPad {
				list = append(list, impl.Found{Phys: phys, Meta: m})
			}
		}
	}
	return list, impl.OK
}

// scan scans an array and checks the result and promise 1 for the call.
func scan(t *testing.T, s flashSample) []impl.Found {
	t.Helper()
	results := callPurely(t, "ScanPages", reflect.ValueOf(impl.ScanPages), []reflect.Value{reflect.ValueOf(s.f)})
	got, code := results[0].Interface().([]impl.Found), results[1].Interface().(int64)
	want, wantCode := wantScan(s.f, s.valid)
	if code != wantCode || !slices.Equal(got, want) {
		t.Fatalf("ScanPages, %s: got %+v and code %d, want %+v and code %d", s.what, got, code, want, wantCode)
	}
	return got
}

// journalFlash returns an array whose pages are sealed with metadata of all kinds, except for an
// empty block.
func journalFlash(g impl.Geometry) impl.Flash {
	f := emptyFlash(g)
	for i := range f.Blocks[1:] {
		b := &f.Blocks[i]
		b.Next = g.Pages - int64(i%3)
		for page := range b.Next {
			phys := int64(i)*g.Pages + page
			b.Pages[page] = sealedMeta(someMetas[phys%int64(len(someMetas))], phys)
		}
	}
	return f
}

func TestP17ScanArrays(t *testing.T) {
	for _, s := range append(validFlashes(), invalidFlashes()...) {
		scan(t, s)
	}
	for _, g := range someGeometries {
		expect(t, "number of pages in a new array", len(scan(t, flashSample{"new", emptyFlash(g), true})), 0)
		f := journalFlash(g)
		list := scan(t, flashSample{"journal", f, true})
		expect(t, "pages are found", len(list) > 20, true)
		for _, x := range list {
			want := someMetas[x.Phys%int64(len(someMetas))]
			expect(t, "Meta of a page", x.Meta, want)
		}
		bad := changed(f, func(f *impl.Flash) { f.Blocks[0].Bad, f.Blocks[3].Bad, f.Blocks[2].Erases = true, true, 1000 })
		expect(t, "pages of bad blocks are found", slices.Equal(scan(t, flashSample{"bad blocks", bad, true}), list), true)
		armed := changed(f, func(f *impl.Flash) { f.Fuse, f.Keep = 0, 5 })
		expect(t, "pages of an array about to be cut are found", slices.Equal(scan(t, flashSample{"fuse", armed, true}), list), true)
		scan(t, flashSample{"off", changed(f, func(f *impl.Flash) { f.Off = true }), true})
		scan(t, flashSample{"invalid", changed(f, func(f *impl.Flash) { f.Fuse = -2 }), false})
		scan(t, flashSample{"off and invalid", changed(f, func(f *impl.Flash) { f.Off, f.Ops = true, -1 }), false})
		scan(t, flashSample{"a block too few", changed(f, func(f *impl.Flash) { f.Blocks = f.Blocks[1:] }), false})
	}
}

// TestP17ScanPages scans arrays with one page of each kind that is not found, between two that are.
func TestP17ScanPages(t *testing.T) {
	phys := int64(17)
	good := sealedMeta(dataMeta(4, 9), phys)
	word := good[:16] + string([]byte{good[16] ^ 1}) + good[17:]
	torn, _ := impl.TornPage(good, 90)
	data := strings.Repeat("codeword", 8)
	spare := rawMeta(dataMeta(4, 9))
	for _, c := range []struct {
		what string
		raw  string
		want bool
	}{
		{"good", good, true}, {"one bit error", word, true}, {"one bit error in each word", invertBits(good, 0, 64, 128, 192, 256, 320, 384, 448, 512, 576, 727), true},
		{"two bit errors in a word", invertBits(good, 513, 514), false}, {"two bit errors in the data", invertBits(good, 0, 1), false}, {"two bit errors in the mark", invertBits(good, 720, 721), false},
		{"torn", torn, false}, {"destroyed", impl.DestroyedPage(), false}, {"erased bytes", impl.ErasedPage(), false}, {"empty", "", false}, {"one byte", rawSample(90), false},
		{"another address", sealedMeta(dataMeta(4, 9), phys+1), false}, {"address of the page in its block", sealedMeta(dataMeta(4, 9), 1), false},
		{"pad", sealedMeta(impl.PageMeta{Kind: impl.MkPad}, phys), false}, {"changed checksum", sealedByDefinition(data, spare[:15]+string([]byte{spare[15] ^ 1}), phys), false},
		{"changed kind", sealedByDefinition(data, "\x03"+spare[1:], phys), false}, {"text", sealedByDefinition(data, "spare bytes 0123", phys), false},
		{"zero spare bytes", sealedByDefinition(data, strings.Repeat("\x00", 16), phys), false}, {"spare bytes ff", sealedByDefinition(data, strings.Repeat("\xff", 16), phys), false},
		{"other data", sealedByDefinition(strings.Repeat("\x00", 64), spare, phys), true},
		{"trim record", sealedMeta(trimMeta(4, 9), phys), true}, {"member of a group", sealedMeta(atomicMeta(4, 9, 7, 4), phys), true},
	} {
		f := emptyFlash(smallGeometry)
		f.Blocks[2].Next = 3
		f.Blocks[2].Pages[0], f.Blocks[2].Pages[1], f.Blocks[2].Pages[2] = sealedMeta(dataMeta(1, 3), 16), c.raw, sealedMeta(trimMeta(2, 8), 18)
		list := scan(t, flashSample{c.what, f, true})
		want := []impl.Found{{Phys: 16, Meta: dataMeta(1, 3)}, {Phys: 18, Meta: trimMeta(2, 8)}}
		if c.want {
			expect(t, "number of pages, "+c.what, len(list), 3)
			list = slices.Delete(list, 1, 2)
		}
		expect(t, "pages found, "+c.what, slices.Equal(list, want), true)
	}
	for _, m := range damagedMetas {
		f := emptyFlash(smallGeometry)
		f.Blocks[0].Next, f.Blocks[0].Pages[0] = 1, sealedMeta(m, 0)
		scan(t, flashSample{"damaged metadata", f, true})
	}
}

// TestP17ScanCut programs pages with metadata and cuts the power during program and erase operations.
func TestP17ScanCut(t *testing.T) {
	before := flashSample{"", emptyFlash(smallGeometry), true}
	for page := range int64(3) {
		before.f = program(t, before, 5, page, sealedMeta(dataMeta(page, page+1), 40+page)).f
	}
	expect(t, "number of pages", len(scan(t, before)), 3)
	for _, keep := range []int64{0, 1, 50, 90, 91} {
		cut := program(t, armed(t, before.f, keep), 5, 3, sealedMeta(dataMeta(3, 4), 43))
		scan(t, flashSample{"off after a cut", cut.f, true})
		list := scan(t, flashSample{"cut", impl.PowerOn(cut.f), true})
		want := 2
		if keep == 0 {
			want = 3
		} else if keep == 91 {
			want = 4
		}
		expect(t, "number of pages after an interrupted operation", len(list), want)
	}
	for _, keep := range []int64{0, 1, 2, 3, 8} {
		cut := erase(t, armed(t, before.f, keep), 5)
		list := scan(t, flashSample{"cut", impl.PowerOn(cut.f), true})
		expect(t, "number of pages after an interrupted erase", int64(len(list)), max(0, 3-keep))
	}
}

// listIsValid reports whether a list of pages is valid, by the definition of chapter 10.
func listIsValid(list []impl.Found) bool {
	for i, x := range list {
		if x.Phys < 0 || x.Phys > 639 || i > 0 && x.Phys <= list[i-1].Phys || !metaIsValid(x.Meta) || x.Meta.Kind == 4 {
			return false
		}
	}
	return len(list) <= 640
}

// wantComplete returns what chapter 10 requires of GroupComplete.
func wantComplete(list []impl.Found, first int64, count int64) bool {
	if !listIsValid(list) || count < 1 || count > 4 || first < 1 || first > 1000000 {
		return false
	}
	for seq := first; seq < first+count; seq++ {
		if !slices.ContainsFunc(list, func(x impl.Found) bool {
			return x.Meta.Kind == 2 && x.Meta.First == first && x.Meta.Count == count && x.Meta.Seq == seq
		}) {
			return false
		}
	}
	return true
}

// wantNewestAbove returns the newest committed page of a logical page in a valid list whose sequence
// number is above seq.
func wantNewestAbove(list []impl.Found, lpn int64, seq int64) pageFound {
	var committed []impl.Found
	for _, x := range list {
		if x.Meta.Logical == lpn && x.Meta.Seq > seq && (x.Meta.Kind != 2 || wantComplete(list, x.Meta.First, x.Meta.Count)) {
			committed = append(committed, x)
		}
	}
	if len(committed) == 0 {
		return pageFound{}
	}
	slices.SortFunc(committed, func(a, b impl.Found) int {
		if a.Meta.Seq != b.Meta.Seq {
			return int(b.Meta.Seq - a.Meta.Seq)
		}
		return int(a.Phys - b.Phys)
	})
	return pageFound{committed[0], true}
}

// wantNewest returns what chapter 10 requires of NewestOf.
func wantNewest(list []impl.Found, lpn int64) pageFound {
	if !listIsValid(list) {
		return pageFound{}
	}
	return wantNewestAbove(list, lpn, 0)
}

// updated returns the map in which the newest committed pages above seq are set.
func updated(m impl.PageMap, list []impl.Found, seq int64) impl.PageMap {
	out := deepCopy(m)
	for lpn := range int64(len(out.Map)) {
		if x := wantNewestAbove(list, lpn, seq); x.ok {
			out.Map[lpn], out.Trimmed[lpn] = x.x.Phys, x.x.Meta.Kind == 3
		}
	}
	return out
}

// covers reports whether the pages of a list whose sequence numbers are above seq are in a map of the
// given sizes.
func covers(list []impl.Found, seq int64, logical int64, physical int64) bool {
	return !slices.ContainsFunc(list, func(x impl.Found) bool {
		return x.Meta.Seq > seq && (x.Meta.Logical >= logical || x.Phys >= physical)
	})
}

// wantRecover returns what chapter 10 requires of RecoverMap.
func wantRecover(list []impl.Found, logical int64, blocks int64, pages int64) mapOutcome {
	switch {
	case !listIsValid(list):
		return mapOutcome{code: impl.ErrInvalid}
	case logical < 1 || logical > 48 || !sizeIsValid(blocks, pages) || !covers(list, 0, logical, blocks*pages):
		return mapOutcome{code: impl.ErrRange}
	}
	return mapOutcome{updated(emptyMap(logical, mapSize{blocks, pages}), list, 0), impl.OK}
}

// wantNextSeq returns what chapter 10 requires of NextSeq.
func wantNextSeq(list []impl.Found) int64 {
	greatest := int64(0)
	for _, x := range list {
		greatest = max(greatest, x.Meta.Seq)
	}
	if !listIsValid(list) {
		return 1
	}
	return greatest + 1
}

// checkpointIsValid reports whether a checkpoint is valid, by the definition of chapter 10.
func checkpointIsValid(c impl.Checkpoint) bool {
	return c.Seq >= 0 && c.Seq <= 1000000 && mapIsValid(c.Map)
}

// wantRecoverFrom returns what chapter 10 requires of RecoverFrom.
func wantRecoverFrom(c impl.Checkpoint, list []impl.Found) mapOutcome {
	switch {
	case !checkpointIsValid(c) || !listIsValid(list):
		return mapOutcome{code: impl.ErrInvalid}
	case !covers(list, c.Seq, int64(len(c.Map.Map)), c.Map.Blocks*c.Map.Pages):
		return mapOutcome{code: impl.ErrRange}
	}
	m := updated(c.Map, list, c.Seq)
	if !mapIsValid(m) {
		return mapOutcome{code: impl.ErrState}
	}
	return mapOutcome{m, impl.OK}
}

func newestOf(list []impl.Found, lpn int64) pageFound {
	x, ok := impl.NewestOf(list, lpn)
	return pageFound{x, ok}
}

// recoverMap recovers a map and checks the outcome.
func recoverMap(t *testing.T, list []impl.Found, logical int64, blocks int64, pages int64) mapOutcome {
	t.Helper()
	m, code := impl.RecoverMap(list, logical, blocks, pages)
	got := mapOutcome{m, code}
	expectMap(t, "RecoverMap", got, wantRecover(list, logical, blocks, pages))
	return got
}

// recoverFrom recovers a map from a checkpoint and checks the outcome.
func recoverFrom(t *testing.T, c impl.Checkpoint, list []impl.Found) mapOutcome {
	t.Helper()
	m, code := impl.RecoverFrom(c, list)
	got := mapOutcome{m, code}
	expectMap(t, "RecoverFrom", got, wantRecoverFrom(c, list))
	return got
}

// pagesOf returns a list with metadata in successive pages from a number on.
func pagesOf(phys int64, metas ...impl.PageMeta) []impl.Found {
	var list []impl.Found
	for i, m := range metas {
		list = append(list, impl.Found{Phys: phys + int64(i), Meta: m})
	}
	return list
}

// randomList returns a valid list of at most so many pages with few logical pages, sequence numbers and
// groups, so that many are equal. Some groups are complete.
func randomList(r *rand.Rand, size int, logical int64, seqs int64) []impl.Found {
	var metas []impl.PageMeta
	for len(metas) < size {
		m := dataMeta(r.Int63n(logical), 1+r.Int63n(seqs))
		switch r.Intn(5) {
		case 0:
			m.Kind = impl.MkTrim
		case 1:
			m.Kind, m.Count = impl.MkAtomic, 1+r.Int63n(4)
			m.First = max(1, m.Seq-r.Int63n(m.Count))
		case 2:
			count := 1 + r.Int63n(4)
			for i := range count - 1 {
				if m.Seq+i < 1000000 {
					metas = append(metas, atomicMeta(r.Int63n(logical), m.Seq+i, m.Seq, count))
				}
			}
			m = atomicMeta(m.Logical, min(m.Seq+count-1, 1000000), m.Seq, count)
		}
		metas = append(metas, m)
	}
	var list []impl.Found
	phys := int64(r.Intn(3))
	for _, i := range r.Perm(len(metas))[:size] {
		if phys <= 639 {
			list = append(list, impl.Found{Phys: phys, Meta: metas[i]})
		}
		phys += 1 + int64(r.Intn(3))
	}
	return list
}

// validLists returns lists with groups that are complete, incomplete, in several copies, overlapping
// and different in one number, with equal sequence numbers, trim records, and the greatest sizes.
func validLists() []listSample {
	r := rand.New(rand.NewSource(102))
	full := randomList(r, 1000, 48, 1000000)
	for i := range full {
		full[i].Phys = int64(i)
	}
	for len(full) < 640 {
		full = append(full, impl.Found{Phys: int64(len(full)), Meta: dataMeta(r.Int63n(48), 1+r.Int63n(1000000))})
	}
	one, two := atomicMeta(1, 5, 5, 2), atomicMeta(2, 6, 5, 2)
	old, newer := dataMeta(1, 1), dataMeta(1, 9)
	list := []listSample{
		{"nil", nil, true}, {"empty", []impl.Found{}, true}, {"all pages", full, true},
		{"complete group", pagesOf(3, old, one, two), true}, {"incomplete group", pagesOf(3, old, one), true}, {"other member", pagesOf(3, old, two), true},
		{"group in another order", pagesOf(3, two, one, old), true}, {"member twice", pagesOf(3, one, one, two, one), true}, {"member twice and other missing", pagesOf(3, one, one), true},
		{"group before newer data", pagesOf(3, one, two, newer), true}, {"group after newer data", pagesOf(3, newer, one, two), true},
		{"group of one", pagesOf(0, atomicMeta(0, 3, 3, 1)), true}, {"same First, other Count", pagesOf(0, atomicMeta(1, 5, 5, 2), atomicMeta(2, 6, 5, 3)), true},
		{"same First and other Count, one complete", pagesOf(0, atomicMeta(1, 5, 5, 2), atomicMeta(2, 6, 5, 3), atomicMeta(3, 6, 5, 2)), true},
		{"same First and both complete", pagesOf(0, atomicMeta(1, 5, 5, 1), atomicMeta(1, 5, 5, 2), atomicMeta(3, 6, 5, 2)), true},
		{"other First, same numbers", pagesOf(0, atomicMeta(1, 5, 5, 2), atomicMeta(2, 6, 6, 2), atomicMeta(3, 6, 4, 3)), true},
		{"data with the numbers of a group", pagesOf(0, atomicMeta(1, 5, 5, 2), dataMeta(2, 6), trimMeta(2, 6)), true},
		{"two versions of a member", pagesOf(0, atomicMeta(1, 5, 5, 2), atomicMeta(3, 5, 5, 2), atomicMeta(2, 6, 5, 2)), true},
		{"logical page twice in a group", pagesOf(0, atomicMeta(1, 5, 5, 2), atomicMeta(1, 6, 5, 2)), true},
		{"group of four", pagesOf(0, atomicMeta(0, 1, 1, 4), atomicMeta(1, 2, 1, 4), atomicMeta(2, 3, 1, 4), atomicMeta(3, 4, 1, 4)), true},
		{"group of four without a member", pagesOf(0, atomicMeta(0, 1, 1, 4), atomicMeta(1, 2, 1, 4), atomicMeta(3, 4, 1, 4)), true},
		{"group behind the greatest number", pagesOf(0, dataMeta(2, 7), atomicMeta(2, 1000000, 1000000, 2)), true},
		{"group up to the greatest number", pagesOf(0, dataMeta(2, 7), atomicMeta(2, 1000000, 999999, 2), atomicMeta(4, 999999, 999999, 2)), true},
		{"equal numbers", pagesOf(7, dataMeta(1, 4), dataMeta(1, 4), dataMeta(2, 4)), true}, {"equal numbers, trim record first", pagesOf(7, trimMeta(1, 4), dataMeta(1, 4)), true},
		{"equal numbers, data first", pagesOf(7, dataMeta(1, 4), trimMeta(1, 4)), true}, {"equal numbers, group first", pagesOf(7, atomicMeta(1, 4, 4, 1), dataMeta(1, 4)), true},
		{"equal numbers, incomplete group first", pagesOf(7, atomicMeta(1, 4, 4, 2), dataMeta(1, 4), dataMeta(1, 3)), true},
		{"newer trim record", pagesOf(7, dataMeta(1, 4), trimMeta(1, 5)), true}, {"older trim record", pagesOf(7, trimMeta(1, 4), dataMeta(1, 5)), true},
		{"newer trim record first", pagesOf(7, trimMeta(1, 5), dataMeta(1, 4)), true}, {"only a trim record", pagesOf(7, trimMeta(1, 5)), true},
		{"last pages", pagesOf(638, dataMeta(47, 1000000), trimMeta(46, 999999)), true}, {"first page", pagesOf(0, dataMeta(0, 1)), true},
		{"first and last page", []impl.Found{{Phys: 0, Meta: dataMeta(0, 1)}, {Phys: 639, Meta: dataMeta(0, 2)}}, true},
	}
	for _, size := range []int{2, 5, 20, 100, 400} {
		list = append(list, listSample{"random, few numbers", randomList(r, size, 3, 6), true}, listSample{"random", randomList(r, size, 48, 200), true})
	}
	return list
}

// invalidLists returns lists that are invalid for one reason each.
func invalidLists() []listSample {
	long := make([]impl.Found, 641)
	for i := range long {
		long[i] = impl.Found{Phys: int64(i), Meta: dataMeta(0, 1)}
	}
	twice := slices.Clone(long)
	twice[640].Phys = 639
	list := []listSample{
		{"too long", long, false}, {"too long, page twice", twice, false}, {"zero", make([]impl.Found, 1), false}, {"many zeros", make([]impl.Found, 1000), false},
		{"page twice", []impl.Found{{Phys: 3, Meta: dataMeta(0, 1)}, {Phys: 3, Meta: dataMeta(1, 2)}}, false},
		{"descending", []impl.Found{{Phys: 4, Meta: dataMeta(0, 1)}, {Phys: 3, Meta: dataMeta(1, 2)}}, false},
		{"descending at the end", []impl.Found{{Phys: 4, Meta: dataMeta(0, 1)}, {Phys: 9, Meta: dataMeta(0, 1)}, {Phys: 8, Meta: dataMeta(1, 2)}}, false},
		{"pad", pagesOf(3, dataMeta(0, 1), impl.PageMeta{Kind: impl.MkPad}), false}, {"only a pad", pagesOf(3, impl.PageMeta{Kind: impl.MkPad}), false},
		{"pad first", pagesOf(3, impl.PageMeta{Kind: impl.MkPad}, dataMeta(0, 1)), false},
		{"complete group and a pad", pagesOf(3, atomicMeta(1, 5, 5, 2), atomicMeta(2, 6, 5, 2), impl.PageMeta{Kind: impl.MkPad}), false},
	}
	for _, n := range append(farInts, -1, 640, 641) {
		list = append(list, listSample{"page out of range", pagesOf(n, dataMeta(0, 1)), false})
		both := []impl.Found{{Phys: 3, Meta: dataMeta(0, 1)}, {Phys: n, Meta: dataMeta(1, 2)}}
		list = append(list, listSample{"second page out of range", both, false})
	}
	for _, m := range damagedMetas {
		list = append(list, listSample{"damaged metadata", pagesOf(3, m), false}, listSample{"damaged metadata at the end", pagesOf(3, dataMeta(0, 1), m), false})
	}
	return list
}

// allLists returns valid and invalid lists.
func allLists() []listSample {
	return append(validLists(), invalidLists()...)
}

// checkList compares all results for a list with the definitions.
func checkList(t *testing.T, s listSample) {
	t.Helper()
	expect(t, "ValidFound, "+s.what, impl.ValidFound(s.list), s.valid)
	expect(t, "NextSeq, "+s.what, impl.NextSeq(s.list), wantNextSeq(s.list))
	groups := map[[2]int64]bool{{1, 1}: true, {5, 2}: true}
	pages := map[int64]bool{0: true, 1: true, -1: true, 47: true, 48: true}
	for _, x := range s.list {
		groups[[2]int64{x.Meta.First, x.Meta.Count}] = true
		groups[[2]int64{x.Meta.First, x.Meta.Count + 1}] = true
		groups[[2]int64{x.Meta.First - 1, x.Meta.Count}] = true
		pages[x.Meta.Logical] = true
	}
	for g := range groups {
		expect(t, "GroupComplete, "+s.what, impl.GroupComplete(s.list, g[0], g[1]), wantComplete(s.list, g[0], g[1]))
	}
	for lpn := range pages {
		expect(t, "NewestOf, "+s.what, newestOf(s.list, lpn), wantNewest(s.list, lpn))
	}
	for _, n := range farInts {
		expect(t, "NewestOf, "+s.what, newestOf(s.list, n), pageFound{})
		expect(t, "GroupComplete, "+s.what, impl.GroupComplete(s.list, n, 1), false)
		expect(t, "GroupComplete, "+s.what, impl.GroupComplete(s.list, 5, n), false)
	}
	recoverMap(t, s.list, 48, 40, 16)
}

func TestP17Lists(t *testing.T) {
	for _, s := range allLists() {
		expect(t, "definition of a valid list, "+s.what, listIsValid(s.list), s.valid)
		checkList(t, s)
	}
}

// TestP17SmallLists recovers maps from all lists of at most three pages with few different metadata.
func TestP17SmallLists(t *testing.T) {
	metas := []impl.PageMeta{
		dataMeta(0, 1), dataMeta(0, 2), dataMeta(1, 2), dataMeta(1, 3), trimMeta(0, 2), trimMeta(1, 1), atomicMeta(0, 1, 1, 1), atomicMeta(1, 2, 2, 1),
		atomicMeta(0, 1, 1, 2), atomicMeta(1, 1, 1, 2), atomicMeta(0, 2, 1, 2), atomicMeta(1, 2, 1, 2), atomicMeta(0, 2, 2, 2), atomicMeta(0, 3, 2, 2), atomicMeta(1, 3, 2, 2), atomicMeta(0, 3, 1, 3),
	}
	checkSmall := func(list []impl.Found) {
		for lpn := int64(-1); lpn < 3; lpn++ {
			expect(t, "NewestOf", newestOf(list, lpn), wantNewest(list, lpn))
		}
		recoverMap(t, list, 2, 1, 8)
	}
	for _, a := range metas {
		checkSmall(pagesOf(4, a))
		for _, b := range metas {
			checkSmall(pagesOf(4, a, b))
			for _, c := range metas {
				checkSmall(pagesOf(4, a, b, c))
			}
		}
	}
}

// TestP17RandomLists recovers maps from random lists.
func TestP17RandomLists(t *testing.T) {
	r := rand.New(rand.NewSource(103))
	complete, incomplete := 0, 0
	for range 300 {
		list := randomList(r, r.Intn(40), 1+r.Int63n(8), 1+r.Int63n(30))
		checkList(t, listSample{"random", list, true})
		for _, x := range list {
			if x.Meta.Kind == impl.MkAtomic && impl.GroupComplete(list, x.Meta.First, x.Meta.Count) {
				complete++
			} else if x.Meta.Kind == impl.MkAtomic {
				incomplete++
			}
		}
	}
	expect(t, "complete and incomplete groups", complete > 100 && incomplete > 100, true)
}

// TestP17Examples checks single cases against numbers that are written out.
func TestP17Examples(t *testing.T) {
	one, two := atomicMeta(1, 5, 5, 2), atomicMeta(2, 6, 5, 2)
	expect(t, "GroupComplete of both members", impl.GroupComplete(pagesOf(3, one, two), 5, 2), true)
	expect(t, "GroupComplete of one member", impl.GroupComplete(pagesOf(3, one), 5, 2), false)
	expect(t, "GroupComplete of one member twice", impl.GroupComplete(pagesOf(3, one, one), 5, 2), false)
	expect(t, "GroupComplete of another Count", impl.GroupComplete(pagesOf(3, one, two), 5, 1), false)
	expect(t, "GroupComplete of a group behind MaxWrites", impl.GroupComplete(pagesOf(3, atomicMeta(2, 1000000, 1000000, 2)), 1000000, 2), false)
	expect(t, "GroupComplete of a group up to MaxWrites", impl.GroupComplete(pagesOf(3, atomicMeta(2, 1000000, 1000000, 1)), 1000000, 1), true)
	expect(t, "GroupComplete of no pages", impl.GroupComplete(nil, 1, 1), false)
	expect(t, "GroupComplete of data", impl.GroupComplete(pagesOf(3, dataMeta(1, 5), dataMeta(1, 6)), 5, 2), false)
	m := recoverMap(t, pagesOf(3, dataMeta(1, 1), atomicMeta(1, 2, 2, 2)), 4, 3, 8)
	expectList(t, "Map with an incomplete group", m.m.Map, []int64{-1, 3, -1, -1})
	m = recoverMap(t, pagesOf(3, dataMeta(1, 1), one, two), 4, 3, 8)
	expectList(t, "Map with a complete group", m.m.Map, []int64{-1, 4, 5, -1})
	m = recoverMap(t, pagesOf(3, dataMeta(1, 4), dataMeta(1, 4)), 2, 3, 8)
	expectList(t, "Map with equal numbers", m.m.Map, []int64{-1, 3})
	m = recoverMap(t, pagesOf(3, dataMeta(1, 4), trimMeta(1, 5)), 2, 3, 8)
	expectList(t, "Map with a newer trim record", m.m.Map, []int64{-1, 4})
	expect(t, "Trimmed with a newer trim record", m.m.Trimmed[1], true)
	m = recoverMap(t, pagesOf(3, trimMeta(1, 4), dataMeta(1, 5)), 2, 3, 8)
	expect(t, "Trimmed with an older trim record", m.m.Trimmed[1], false)
	expect(t, "NextSeq of an incomplete group", impl.NextSeq(pagesOf(3, dataMeta(1, 1), one)), 6)
	expect(t, "NextSeq of no pages", impl.NextSeq(nil), 1)
	expect(t, "NextSeq of the greatest number", impl.NextSeq(pagesOf(3, dataMeta(1, 1000000), one)), 1000001)
	expect(t, "NextSeq of an invalid list", impl.NextSeq(pagesOf(3, dataMeta(1, 7), impl.PageMeta{})), 1)
}

// TestP17RecoverErrors combines the reasons of errors: the first one of them is returned.
func TestP17RecoverErrors(t *testing.T) {
	small := pagesOf(6, dataMeta(2, 1), dataMeta(3, 2))
	lists := []listSample{{"small", small, true}, {"incomplete group", pagesOf(7, atomicMeta(3, 2, 2, 2)), true}, {"old page", pagesOf(1, dataMeta(3, 1), dataMeta(0, 2)), true}}
	for _, s := range append(lists, allLists()...) {
		for _, logical := range append(farInts, -1, 0, 1, 3, 4, 47, 48, 49) {
			for _, size := range append(wrongSizes[:12:12], mapSize{1, 7}, mapSize{7, 1}, mapSize{1, 8}, mapSize{2, 4}, mapSize{40, 16}, mapSize{213, 3}) {
				recoverMap(t, s.list, logical, size.blocks, size.pages)
			}
		}
	}
	for _, size := range wrongSizes {
		expect(t, "code of RecoverMap for no pages", recoverMap(t, nil, 4, size.blocks, size.pages).code, impl.ErrRange)
		expect(t, "code of RecoverMap for pages", recoverMap(t, small, 4, size.blocks, size.pages).code, impl.ErrRange)
		invalid := pagesOf(6, impl.PageMeta{})
		expect(t, "code of RecoverMap for an invalid list", recoverMap(t, invalid, 4, size.blocks, size.pages).code, impl.ErrInvalid)
	}
	expect(t, "code of RecoverMap", recoverMap(t, small, 4, 2, 4).code, impl.OK)
	expect(t, "code of RecoverMap for a logical page too few", recoverMap(t, small, 3, 2, 4).code, impl.ErrRange)
	expect(t, "code of RecoverMap for a physical page too few", recoverMap(t, small, 4, 1, 7).code, impl.ErrRange)
	expect(t, "code of RecoverMap for an uncommitted page out of range", recoverMap(t, pagesOf(0, atomicMeta(9, 3, 3, 2)), 9, 8, 8).code, impl.ErrRange)
	old := pagesOf(7, dataMeta(0, 1), dataMeta(0, 2))
	old[1].Phys, old[0].Phys = 9, 8
	expect(t, "code of RecoverMap for an outdated page out of range", recoverMap(t, append(pagesOf(7, dataMeta(0, 3)), old...), 1, 1, 8).code, impl.ErrRange)
}

// TestP17RecoverPurely checks promise 1 for the functions of lists.
func TestP17RecoverPurely(t *testing.T) {
	for _, s := range allLists() {
		got := callMap(t, "RecoverMap", impl.RecoverMap, s.list, int64(48), int64(40), int64(16))
		expectMap(t, "RecoverMap, "+s.what, got, wantRecover(s.list, 48, 40, 16))
		c := impl.Checkpoint{Seq: 3, Map: emptyMap(48, mapSize{40, 16})}
		got = callMap(t, "RecoverFrom", impl.RecoverFrom, c, s.list)
		expectMap(t, "RecoverFrom, "+s.what, got, wantRecoverFrom(c, s.list))
	}
}

// TestP17Newest checks by what is written that the recovered map refers to the newest committed page
// of each logical page: groups are written completely, or not at all before a power cut.
func TestP17Newest(t *testing.T) {
	r := rand.New(rand.NewSource(104))
	for range 100 {
		want := emptyMap(8, mapSize{40, 16})
		var list []impl.Found
		seq := int64(1)
		write := func(m impl.PageMeta) int64 {
			phys := int64(len(list))
			list = append(list, impl.Found{Phys: phys, Meta: m})
			return phys
		}
		for range 60 {
			lpn := r.Int63n(8)
			switch r.Intn(4) {
			case 0:
				want.Map[lpn], want.Trimmed[lpn] = write(trimMeta(lpn, seq)), true
				seq++
			case 1:
				count, first := 1+r.Int63n(4), seq
				written := count
				if r.Intn(2) == 0 {
					written = r.Int63n(count)
				}
				for i := range written {
					page := (lpn + i) % 8
					phys := write(atomicMeta(page, first+i, first, count))
					if written == count {
						want.Map[page], want.Trimmed[page] = phys, false
					}
				}
				seq += count
			default:
				want.Map[lpn], want.Trimmed[lpn] = write(dataMeta(lpn, seq)), false
				seq++
			}
		}
		expectMap(t, "RecoverMap of what was written", recoverMap(t, list, 8, 40, 16), mapOutcome{want, impl.OK})
	}
}

// numbersOfCheckpoint returns the numbers of a checkpoint in the order of the binary form.
func numbersOfCheckpoint(c impl.Checkpoint) []int64 {
	numbers := []int64{c.Seq, int64(len(c.Map.Map)), c.Map.Blocks, c.Map.Pages}
	for i, phys := range c.Map.Map {
		n := int64(0)
		if phys != -1 {
			n = 2*phys + 1
		}
		if i < len(c.Map.Trimmed) && c.Map.Trimmed[i] {
			n++
		}
		numbers = append(numbers, n)
	}
	return numbers
}

// checkpointOfNumbers returns the checkpoint with the given numbers, and whether there is a valid one.
func checkpointOfNumbers(numbers []int64) (impl.Checkpoint, bool) {
	if numbers[1] != int64(len(numbers))-4 {
		return impl.Checkpoint{}, false
	}
	c := impl.Checkpoint{Seq: numbers[0], Map: impl.PageMap{Blocks: numbers[2], Pages: numbers[3]}}
	for _, n := range numbers[4:] {
		phys, trim := int64(-1), false
		if n > 0 {
			phys, trim = (n-1)/2, (n-1)%2 == 1
		}
		c.Map.Map, c.Map.Trimmed = append(c.Map.Map, phys), append(c.Map.Trimmed, trim)
	}
	return c, checkpointIsValid(c)
}

// sameCheckpoints reports whether two checkpoints are deeply equal, without the package.
func sameCheckpoints(a impl.Checkpoint, b impl.Checkpoint) bool {
	return a.Seq == b.Seq && sameMaps(a.Map, b.Map)
}

// isRejected reports a string that is accepted as the binary form of a checkpoint.
func isRejected(t *testing.T, what string, s string) {
	t.Helper()
	c, ok := impl.DecodeCheckpoint(s)
	if ok || !sameCheckpoints(c, impl.Checkpoint{}) {
		t.Fatalf("%s: DecodeCheckpoint(%x) = %+v, %v", what, s, c, ok)
	}
}

// someCheckpoints returns checkpoints with maps of all kinds, with the least and the greatest Seq and
// some between.
func someCheckpoints() []impl.Checkpoint {
	var list []impl.Checkpoint
	for i, s := range validMaps() {
		seqs := []int64{0, 1, 127, 128, 16383, 16384, 999999, 1000000}
		list = append(list, impl.Checkpoint{Seq: seqs[i%len(seqs)], Map: s.m})
	}
	return list
}

// fewCheckpoints returns some checkpoints for tests with many changes of each.
func fewCheckpoints() []impl.Checkpoint {
	m := changedMap(emptyMap(6, mapSize{40, 16}), func(m *impl.PageMap) { m.Map, m.Trimmed[4] = []int64{63, 64, -1, 0, 639, 1}, true })
	return []impl.Checkpoint{
		{Seq: 0, Map: exampleMap()}, {Seq: 1000000, Map: trimmedMap()}, {Seq: 200, Map: m},
		{Seq: 5, Map: emptyMap(1, mapSize{1, 1})}, {Seq: 300, Map: randomMap(rand.New(rand.NewSource(105)), 48, mapSize{36, 16})},
	}
}

func TestP17CheckpointRoundTrip(t *testing.T) {
	check := func(what string, c impl.Checkpoint) {
		form, formed := formOf(numbersOfCheckpoint(c))
		if !checkpointIsValid(c) {
			expect(t, "EncodeCheckpoint, "+what, impl.EncodeCheckpoint(c), "")
			if formed {
				isRejectedUnlessSame(t, what, form, c)
			}
			return
		}
		expect(t, "EncodeCheckpoint, "+what, impl.EncodeCheckpoint(c), form)
		back, ok := impl.DecodeCheckpoint(form)
		if !ok || !sameCheckpoints(back, c) {
			t.Fatalf("%s: DecodeCheckpoint(EncodeCheckpoint(%+v)) = %+v, %v", what, c, back, ok)
		}
	}
	for _, s := range allMaps() {
		for _, seq := range append(farInts, -1, 0, 1, 127, 128, 300, 999999, 1000000) {
			check(s.what, impl.Checkpoint{Seq: seq, Map: s.m})
		}
	}
	c := impl.Checkpoint{Seq: 300, Map: changedMap(exampleMap(), func(m *impl.PageMap) { m.Map[0], m.Trimmed[0] = 0, true })}
	expect(t, "EncodeCheckpoint", impl.EncodeCheckpoint(c), withSum("\xac\x02\x04\x03\x08\x02\x00\x13\x00"))
	expect(t, "EncodeCheckpoint of the zero checkpoint", impl.EncodeCheckpoint(impl.Checkpoint{}), "")
}

// isRejectedUnlessSame reports a form of an invalid checkpoint that is accepted, unless the form is
// also that of a valid one: the encoding of a trim record that does not exist may be that of data.
func isRejectedUnlessSame(t *testing.T, what string, form string, c impl.Checkpoint) {
	t.Helper()
	if other, ok := checkpointOfNumbers(numbersOfCheckpoint(c)); ok {
		back, ok := impl.DecodeCheckpoint(form)
		expect(t, "DecodeCheckpoint, "+what, ok && sameCheckpoints(back, other), true)
		return
	}
	isRejected(t, what, form)
}

// TestP17CheckpointOneByte changes each byte of binary forms to every other value.
func TestP17CheckpointOneByte(t *testing.T) {
	for _, c := range fewCheckpoints() {
		form := []byte(impl.EncodeCheckpoint(c))
		for i, b := range form {
			for n := range 255 {
				form[i] = b + 1 + byte(n)
				if _, ok := impl.DecodeCheckpoint(string(form)); ok {
					t.Fatalf("%+v: byte %d changed to %d is accepted", c, i, form[i])
				}
			}
			form[i] = b
		}
	}
}

// TestP17CheckpointSizes cuts binary forms short and lengthens them, at the end and inside, with and
// without a checksum that fits.
func TestP17CheckpointSizes(t *testing.T) {
	isRejected(t, "nothing", "")
	isRejected(t, "checksum of nothing", withSum(""))
	isRejected(t, "zeros", strings.Repeat("\x00", 16))
	isRejected(t, "ones", strings.Repeat("\xff", 16))
	for _, c := range someCheckpoints() {
		form := impl.EncodeCheckpoint(c)
		body := form[:len(form)-4]
		for i := range len(form) {
			isRejected(t, "cut form", form[:i])
			isRejected(t, "end of a form", form[i+1:])
			isRejected(t, "form without a byte", form[:i]+form[i+1:])
			isRejected(t, "form with one byte more", form[:i]+"\x00"+form[i:])
		}
		for i := range len(body) {
			isRejected(t, "cut form with its checksum", withSum(body[:i]))
		}
		for _, tail := range []string{"\x00", "\x01", "\xff", body, form, form[len(body):], strings.Repeat("\x00", 70000)} {
			isRejected(t, "lengthened form", form+tail)
			isRejected(t, "lengthened form with its checksum", withSum(body+tail))
		}
		isRejected(t, "longer checksum", body+impl.EncodeFixed(impl.Checksum(body), 8))
		isRejected(t, "shorter checksum", body+impl.EncodeFixed(impl.Checksum(body), 3))
	}
}

// TestP17CheckpointNumbers encodes single numbers of checkpoints with more bytes than necessary, and
// replaces them with others; the checksum always fits.
func TestP17CheckpointNumbers(t *testing.T) {
	others := []int64{0, 1, 2, 3, 4, 5, 7, 8, 9, 16, 17, 40, 41, 47, 48, 49, 50, 127, 128, 640, 641, 1278, 1279, 1280, 1281, 1282, 999999, 1000000, 1000001, 1 << 32, 1<<32 + 4, 1 << 62, math.MaxInt64 - 1, math.MaxInt64}
	for _, c := range fewCheckpoints() {
		numbers := numbersOfCheckpoint(c)
		for i, n := range numbers {
			before, _ := formOf(numbers[:i])
			after, _ := formOf(numbers[i+1:])
			before, after = before[:len(before)-4], after[:len(after)-4]
			own := impl.EncodeUvarint(n)
			last := own[len(own)-1] | 0x80
			for zeros := range 10 {
				long := own[:len(own)-1] + string([]byte{last}) + strings.Repeat("\x80", zeros) + "\x00"
				isRejected(t, "form that is not minimal", withSum(before+long+after))
			}
			isRejected(t, "number that is too long", withSum(before+strings.Repeat("\xff", 9)+"\x01"+after))
			for _, other := range others {
				changed := slices.Clone(numbers)
				changed[i] = other
				form, _ := formOf(changed)
				want, ok := checkpointOfNumbers(changed)
				if !ok {
					isRejected(t, "changed number", form)
					continue
				}
				if back, ok := impl.DecodeCheckpoint(form); !ok || !sameCheckpoints(back, want) {
					t.Fatalf("DecodeCheckpoint(%x) = %+v, %v, want %+v", form, back, ok, want)
				}
			}
		}
	}
}

// straddles reports whether an atomic group has numbers up to seq and above it.
func straddles(list []impl.Found, seq int64) bool {
	return slices.ContainsFunc(list, func(x impl.Found) bool {
		return x.Meta.Kind == impl.MkAtomic && x.Meta.First <= seq && x.Meta.First+x.Meta.Count-1 > seq
	})
}

// TestP17FromCheckpoint recovers maps from checkpoints of all sequence numbers and from all pages, and
// from the pages above the checkpoint alone.
func TestP17FromCheckpoint(t *testing.T) {
	r := rand.New(rand.NewSource(106))
	equal, beyond, different := 0, 0, 0
	for range 150 {
		list := randomList(r, r.Intn(30), 1+r.Int63n(6), 1+r.Int63n(25))
		all := recoverMap(t, list, 6, 40, 16)
		expect(t, "code of RecoverMap", all.code, impl.OK)
		for seq := int64(0); seq <= 27; seq++ {
			below := slices.DeleteFunc(slices.Clone(list), func(x impl.Found) bool { return x.Meta.Seq > seq })
			above := slices.DeleteFunc(slices.Clone(list), func(x impl.Found) bool { return x.Meta.Seq <= seq })
			c := impl.Checkpoint{Seq: seq, Map: recoverMap(t, below, 6, 40, 16).m}
			got := recoverFrom(t, c, list)
			if straddles(list, seq) {
				beyond++
				if got.code != impl.OK || !sameMaps(got.m, all.m) {
					different++
				}
				continue
			}
			expectMap(t, "RecoverFrom of all pages", got, all)
			expectMap(t, "RecoverFrom of the pages above the checkpoint", recoverFrom(t, c, above), all)
			back, ok := impl.DecodeCheckpoint(impl.EncodeCheckpoint(c))
			expect(t, "DecodeCheckpoint", ok && sameCheckpoints(back, c), true)
			equal++
		}
	}
	if equal < 100 || beyond < 100 || different < 10 {
		t.Errorf("%d checkpoints between groups, %d inside of groups, %d of these with another map", equal, beyond, different)
	}
}

// TestP17FromStrange recovers maps from checkpoints that do not fit to the pages.
func TestP17FromStrange(t *testing.T) {
	r := rand.New(rand.NewSource(107))
	codes := map[int64]int{}
	for range 3000 {
		size := []mapSize{{1, 8}, {2, 4}, {3, 8}, {40, 16}}[r.Intn(4)]
		c := impl.Checkpoint{Seq: r.Int63n(12), Map: randomMap(r, 1+r.Int63n(6), size)}
		codes[recoverFrom(t, c, randomList(r, r.Intn(7), 1+r.Int63n(7), 12)).code]++
	}
	if codes[impl.OK] < 100 || codes[impl.ErrRange] < 100 || codes[impl.ErrState] < 100 {
		t.Errorf("codes of RecoverFrom: %v", codes)
	}
	for _, s := range allMaps() {
		for _, seq := range append(farInts, -1, 0, 4, 5, 6, 999999, 1000000) {
			c := impl.Checkpoint{Seq: seq, Map: s.m}
			for _, list := range [][]impl.Found{nil, pagesOf(3, dataMeta(0, 5)), pagesOf(3, dataMeta(0, 5), dataMeta(0, 1000000)), pagesOf(639, dataMeta(47, 5)), pagesOf(3, impl.PageMeta{})} {
				recoverFrom(t, c, list)
			}
		}
	}
	for _, s := range allLists() {
		for _, seq := range []int64{0, 4, 5, 6, 999999, 1000000} {
			recoverFrom(t, impl.Checkpoint{Seq: seq, Map: exampleMap()}, s.list)
			recoverFrom(t, impl.Checkpoint{Seq: seq, Map: emptyMap(48, mapSize{40, 16})}, s.list)
		}
	}
}

// TestP17FromExamples checks single cases against numbers that are written out.
func TestP17FromExamples(t *testing.T) {
	m := changedMap(emptyMap(3, mapSize{1, 8}), func(m *impl.PageMap) { m.Map, m.Trimmed[1] = []int64{0, 1, -1}, true })
	c := impl.Checkpoint{Seq: 5, Map: m}
	for _, x := range []struct {
		what string
		list []impl.Found
		want []int64
		code int64
	}{
		{"no pages", nil, []int64{0, 1, -1}, impl.OK},
		{"page below the checkpoint", pagesOf(4, dataMeta(2, 4)), []int64{0, 1, -1}, impl.OK},
		{"page at the checkpoint", pagesOf(4, dataMeta(2, 5)), []int64{0, 1, -1}, impl.OK},
		{"page above the checkpoint", pagesOf(4, dataMeta(2, 6)), []int64{0, 1, 4}, impl.OK},
		{"equal numbers above the checkpoint", pagesOf(4, dataMeta(2, 6), dataMeta(2, 6)), []int64{0, 1, 4}, impl.OK},
		{"incomplete group above the checkpoint", pagesOf(4, atomicMeta(2, 6, 6, 2)), []int64{0, 1, -1}, impl.OK},
		{"group with a member at the checkpoint", pagesOf(4, atomicMeta(0, 5, 5, 2), atomicMeta(2, 6, 5, 2)), []int64{0, 1, 5}, impl.OK},
		{"group whose member at the checkpoint is lost", pagesOf(4, atomicMeta(2, 6, 5, 2)), []int64{0, 1, -1}, impl.OK},
		{"logical page out of range", pagesOf(4, dataMeta(3, 6)), nil, impl.ErrRange},
		{"physical page out of range", pagesOf(8, dataMeta(0, 6)), nil, impl.ErrRange},
		{"uncommitted page out of range", pagesOf(8, atomicMeta(0, 6, 6, 2)), nil, impl.ErrRange},
		{"outdated page out of range", []impl.Found{{Phys: 7, Meta: dataMeta(0, 7)}, {Phys: 8, Meta: dataMeta(0, 6)}}, nil, impl.ErrRange},
		{"logical page out of range at the checkpoint", pagesOf(4, dataMeta(3, 5)), []int64{0, 1, -1}, impl.OK},
		{"physical page out of range at the checkpoint", pagesOf(8, dataMeta(0, 5)), []int64{0, 1, -1}, impl.OK},
		{"page of another logical page", pagesOf(0, dataMeta(2, 6)), nil, impl.ErrState},
		{"page of a trimmed logical page", pagesOf(1, dataMeta(2, 6)), nil, impl.ErrState},
		{"uncommitted page of another logical page", pagesOf(0, atomicMeta(2, 6, 6, 2)), []int64{0, 1, -1}, impl.OK},
		{"page at the checkpoint of another logical page", pagesOf(0, dataMeta(2, 5)), []int64{0, 1, -1}, impl.OK},
		{"pages exchanged", pagesOf(0, dataMeta(1, 6), dataMeta(0, 7)), []int64{1, 0, -1}, impl.OK},
		{"pages handed on", pagesOf(0, dataMeta(2, 6), dataMeta(0, 7), dataMeta(1, 8)), []int64{1, 2, 0}, impl.OK},
		{"page of another logical page and one out of range", pagesOf(0, dataMeta(2, 6), dataMeta(3, 7)), nil, impl.ErrRange},
		{"page out of range and a pad", pagesOf(0, dataMeta(3, 7), impl.PageMeta{Kind: impl.MkPad}), nil, impl.ErrInvalid},
		{"page of another logical page and a pad", pagesOf(0, dataMeta(2, 7), impl.PageMeta{Kind: impl.MkPad}), nil, impl.ErrInvalid},
	} {
		got := recoverFrom(t, c, x.list)
		expect(t, "code of RecoverFrom, "+x.what, got.code, x.code)
		expectList(t, "Map of RecoverFrom, "+x.what, got.m.Map, x.want)
	}
	trimmed := recoverFrom(t, c, pagesOf(2, trimMeta(0, 6), dataMeta(1, 7))).m
	expect(t, "Trimmed after a trim record", trimmed.Trimmed[0], true)
	expect(t, "Trimmed after data", trimmed.Trimmed[1], false)
	for _, seq := range append(farInts, -1, 1000001) {
		c.Seq = seq
		expect(t, "code of RecoverFrom with an invalid Seq", recoverFrom(t, c, pagesOf(4, dataMeta(3, 6))).code, impl.ErrInvalid)
	}
}

// TestP17Array writes pages to an array, scans it and recovers the map.
func TestP17Array(t *testing.T) {
	s := flashSample{"", emptyFlash(smallGeometry), true}
	metas := []impl.PageMeta{dataMeta(0, 1), dataMeta(1, 2), {Kind: impl.MkPad}, atomicMeta(0, 3, 3, 2), atomicMeta(2, 4, 3, 2), trimMeta(1, 5), atomicMeta(3, 6, 6, 2)}
	for i, m := range metas {
		s.f = program(t, s, 6, int64(i), sealedMeta(m, 48+int64(i))).f
	}
	list := scan(t, s)
	expect(t, "number of pages", len(list), 6)
	got := recoverMap(t, list, 4, 8, 8)
	want := impl.PageMap{Blocks: 8, Pages: 8, Map: []int64{51, 53, 52, -1}, Trimmed: []bool{false, true, false, false}}
	expectMap(t, "RecoverMap of an array", got, mapOutcome{want, impl.OK})
	expect(t, "NextSeq of an array", impl.NextSeq(list), 7)
}
