package tests

import (
	"math/rand"
	"slices"
	"strings"
	"testing"

	"loop.example/g00905/impl"
)

// headerField is a field of a header with its bounds and the greatest number that its bytes can hold.
type headerField struct {
	of        func(h *impl.Header) *int64
	low, high int64
	most      int64
}

// headerFields returns the fields of headers.
func headerFields() []headerField {
	return []headerField{
		{func(h *impl.Header) *int64 { return &h.Kind }, 161, 163, 255},
		{func(h *impl.Header) *int64 { return &h.Zone }, 0, 11, 255},
		{func(h *impl.Header) *int64 { return &h.Row }, 0, 15, 255},
		{func(h *impl.Header) *int64 { return &h.Unit }, 0, 3, 255},
		{func(h *impl.Header) *int64 { return &h.Index }, 0, 65535, 1<<32 - 1},
		{func(h *impl.Header) *int64 { return &h.Size }, 0, 127, 255},
	}
}

// someHeaders returns headers whose fields are at their bounds and beside them.
func someHeaders() []impl.Header {
	base := impl.Header{Kind: impl.HdData, Zone: 1, Row: 2, Unit: 1, Index: 5, Size: 3}
	list := []impl.Header{{}, base, {Kind: impl.HdFiller}, {Kind: impl.HdParity, Zone: 11, Row: 15, Unit: 3, Index: 65535, Size: 127}}
	for _, field := range headerFields() {
		wrong := []int64{field.low - 1, field.high + 1, field.most, field.most + 1, field.low + field.most + 1, field.high - field.most - 1}
		for _, n := range slices.Concat(farInts, wrong, []int64{field.low, field.low + 1, field.high - 1, field.high}) {
			h := base
			*field.of(&h) = n
			list = append(list, h)
			*headerFields()[0].of(&h) = impl.HdParity
			*field.of(&h) = n
			list = append(list, h)
		}
	}
	return list
}

// headerData returns data bytes for headers, some of a wrong length.
func headerData() []string {
	return []string{zeroData, strings.Repeat("\xff", 64), dataOf(7), "", "x", zeroData[1:], zeroData + "\x00", strings.Repeat("x", 128)}
}

// encodeHeader encodes a header and compares the outcome with the definition.
func encodeHeader(t *testing.T, h impl.Header, data string) string {
	t.Helper()
	got, want := impl.EncodeHeader(h, data), ""
	if headerIsValid(h) && len(data) == 64 {
		want = rawHeader(h, data)
	}
	if got != want {
		t.Fatalf("EncodeHeader(%+v, %q): got %q, want %q", h, data, got, want)
	}
	return got
}

// decodeHeader decodes a header, compares the outcome with the definition, and reports whether there is one.
func decodeHeader(t *testing.T, what string, spare string, data string) bool {
	t.Helper()
	h, ok := impl.DecodeHeader(spare, data)
	want, wantOk := wantDecodeHeader(spare, data)
	if h != want || ok != wantOk {
		t.Fatalf("DecodeHeader, %s (%q, %q): got %+v, %v, want %+v, %v", what, spare, data, h, ok, want, wantOk)
	}
	return ok
}

// TestP27HeaderExample has a binary form that is written out.
func TestP27HeaderExample(t *testing.T) {
	h := impl.Header{Kind: impl.HdParity, Zone: 11, Row: 9, Unit: 2, Index: 0x1234, Size: 127}
	data := dataOf(3)
	fields := "\xa2\x0b\x09\x02\x34\x12\x00\x00\x7f\x00\x00\x00"
	spare := fields + littleEndian(impl.Checksum(data+fields), 4)
	expect(t, "EncodeHeader", impl.EncodeHeader(h, data), spare)
	got, ok := impl.DecodeHeader(spare, data)
	expect(t, "DecodeHeader", got, h)
	expect(t, "there is a header", ok, true)
	expect(t, "first byte of a data page", impl.EncodeHeader(impl.Header{Kind: impl.HdData}, data)[0], 161)
	expect(t, "first byte of a filler page", impl.EncodeHeader(impl.Header{Kind: impl.HdFiller}, data)[0], 163)
}

// TestP27EncodeHeader encodes headers with each field at its bounds and beside them, and reads them back.
func TestP27EncodeHeader(t *testing.T) {
	encoded := 0
	for _, h := range someHeaders() {
		for _, data := range headerData() {
			spare := encodeHeader(t, h, data)
			if spare != "" {
				encoded++
				expect(t, "length of a binary form", len(spare), 16)
				expect(t, "DecodeHeader of a binary form", decodeHeader(t, "binary form", spare, data), true)
			}
			// What looks like the binary form of a header that has none must not be accepted, nor must other data.
			decodeHeader(t, "any header", rawHeader(h, data), data)
			decodeHeader(t, "other data", rawHeader(h, data), dataOf(8))
		}
	}
	expect(t, "headers with binary forms", encoded > 60, true)
	r := rand.New(rand.NewSource(1601))
	for range 2000 {
		var h impl.Header
		for _, field := range headerFields() {
			*field.of(&h) = field.low + r.Int63n(field.high-field.low+1)
		}
		data := randomString(r, 64)
		expect(t, "random header", decodeHeader(t, "random header", encodeHeader(t, h, data), data), true)
	}
}

// TestP27HeaderBounds has fields beyond their bounds that fit into their bytes, with the right checksum.
func TestP27HeaderBounds(t *testing.T) {
	for i, field := range headerFields() {
		for _, n := range []int64{0, 1, 3, 4, 11, 12, 15, 16, 127, 128, 160, 161, 163, 164, 255, 256, 65535, 65536, 1 << 24, 1<<31 - 1, 1 << 31, 1<<32 - 1} {
			if n > field.most {
				continue
			}
			h := impl.Header{Kind: impl.HdFiller}
			*field.of(&h) = n
			want := n >= field.low && n <= field.high
			expect(t, "EncodeHeader", encodeHeader(t, h, zeroData) != "", want)
			if got := decodeHeader(t, "bounds", rawHeader(h, zeroData), zeroData); got != want {
				t.Errorf("field %d: a header with %d is accepted: %v", i, n, got)
			}
		}
	}
}

// TestP27DamagedHeader changes every byte of binary forms and of the data, and their lengths.
func TestP27DamagedHeader(t *testing.T) {
	for _, h := range []impl.Header{{Kind: impl.HdData}, {Kind: impl.HdParity, Zone: 3, Row: 7, Unit: 2, Index: 300, Size: 99}, {Kind: impl.HdFiller, Zone: 11, Row: 15, Unit: 3, Index: 65535, Size: 127}} {
		data := dataOf(int(h.Index))
		spare := rawHeader(h, data)
		for i := range spare {
			for change := 1; change < 256; change++ {
				bent := spare[:i] + string([]byte{spare[i] ^ byte(change)}) + spare[i+1:]
				expect(t, "header with a changed byte", decodeHeader(t, "changed byte", bent, data), false)
			}
		}
		for i := range data {
			bent := data[:i] + string([]byte{data[i] ^ 1<<(i%8)}) + data[i+1:]
			expect(t, "header of changed data", decodeHeader(t, "changed data", spare, bent), false)
		}
		for _, other := range []string{"", spare[:15], spare[1:], spare + "\x00", spare + spare, strings.Repeat("\x00", 16), strings.Repeat("\xff", 16)} {
			expect(t, "another spare string", decodeHeader(t, "another spare string", other, data), false)
		}
		for _, other := range []string{"", data[:63], data[1:], data + "\x00", data + data} {
			expect(t, "data of another length", decodeHeader(t, "data of another length", spare, other), false)
			expect(t, "data of another length, which fit the checksum", decodeHeader(t, "fitting", rawHeader(h, other), other), false)
		}
	}
}

// TestP27HeaderZeros has bytes other than zero bytes where zero bytes are asked, with the right checksum.
func TestP27HeaderZeros(t *testing.T) {
	spare := rawHeader(impl.Header{Kind: impl.HdData, Index: 1, Size: 1}, zeroData)
	for i := 9; i < 12; i++ {
		for _, b := range []string{"\x01", "\x80", "\xff"} {
			fields := spare[:i] + b + spare[i+1:12]
			bent := fields + littleEndian(impl.Checksum(zeroData+fields), 4)
			expect(t, "header without zero bytes", decodeHeader(t, "zero bytes", bent, zeroData), false)
		}
	}
}
