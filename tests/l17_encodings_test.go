package tests

import (
	"encoding/hex"
	"math/rand"
	"regexp"
	"slices"
	"strconv"
	"strings"
	"testing"

	"loop.example/g00905/impl"
)

// gotRecord is a result of GetRecord.
type gotRecord struct {
	r    impl.Record
	used int64
	ok   bool
}

// readText is a result of ReadRecord.
type readText struct {
	r  impl.Record
	ok bool
}

// rawRecord returns the encoding of a record that need not be valid, without the package.
func rawRecord(r impl.Record) string {
	last := r.Value
	if r.Kind == 3 {
		last = r.End
	}
	return littleEndian(r.Kind, 1) + littleEndian(r.Seq, 3) + littleEndian(int64(len(r.Key)), 1) + r.Key + littleEndian(int64(len(last)), 1) + last
}

// wantGet returns the result that chapter 17 requires of GetRecord, reading field by field.
func wantGet(s string) gotRecord {
	rest := s
	take := func(size int) string {
		if size > len(rest) {
			rest = ""
			return ""
		}
		field := rest[:size]
		rest = rest[size:]
		return field
	}
	takeString := func() (string, bool) {
		head := take(1)
		if head == "" || int(head[0]) > len(rest) {
			return "", false
		}
		return take(int(head[0])), true
	}
	head := take(4)
	if head == "" {
		return gotRecord{}
	}
	r := impl.Record{Kind: int64(head[0]), Seq: int64(head[1]) + 256*int64(head[2]) + 65536*int64(head[3])}
	key, hasKey := takeString()
	last, hasLast := takeString()
	r.Key, r.Value = key, last
	if r.Kind == 3 {
		r.Value, r.End = "", last
	}
	if !hasKey || !hasLast || !recordIsValid(r) {
		return gotRecord{}
	}
	return gotRecord{r, int64(len(s) - len(rest)), true}
}

// expectGet checks GetRecord for one string and returns whether there is a record.
func expectGet(t *testing.T, s string) bool {
	t.Helper()
	var got gotRecord
	got.r, got.used, got.ok = impl.GetRecord(s)
	if got != wantGet(s) {
		t.Fatalf("GetRecord(%x) = %+v, want %+v", s, got, wantGet(s))
	}
	return got.ok
}

// recordForm is the text of a record, apart from the bounds of its fields.
var recordForm = regexp.MustCompile(`^(put|delete|range) ([1-9][0-9]{0,6}) ((?:[0-9a-f]{2}){1,8})(?: (-|(?:[0-9a-f]{2}){1,16}))?$`)

// wantRecordOf returns the result that chapter 17 requires of ReadRecord.
func wantRecordOf(s string) readText {
	parts := recordForm.FindStringSubmatch(s)
	if parts == nil || (parts[1] == "delete") != (parts[4] == "") {
		return readText{}
	}
	seq, _ := strconv.Atoi(parts[2])
	key, _ := hex.DecodeString(parts[3])
	last, _ := hex.DecodeString(strings.TrimPrefix(parts[4], "-"))
	r := impl.Record{Key: string(key), Seq: int64(seq)}
	switch parts[1] {
	case "put":
		r.Kind, r.Value = 1, string(last)
	case "delete":
		r.Kind = 2
	case "range":
		r.Kind, r.End = 3, string(last)
	}
	if !recordIsValid(r) {
		return readText{}
	}
	return readText{r, true}
}

// expectRead checks ReadRecord for one string and returns whether there is a record.
func expectRead(t *testing.T, s string) bool {
	t.Helper()
	var got readText
	got.r, got.ok = impl.ReadRecord(s)
	if got != wantRecordOf(s) {
		t.Fatalf("ReadRecord(%q) = %+v, want %+v", s, got, wantRecordOf(s))
	}
	return got.ok
}

// rawText returns the text of a record that need not be valid, without the package.
func rawText(r impl.Record) string {
	word := func(s string) string {
		if s == "" {
			return "-"
		}
		return hex.EncodeToString([]byte(s))
	}
	out := map[int64]string{1: "put", 2: "delete", 3: "range"}[r.Kind] + " " + strconv.FormatInt(r.Seq, 10) + " " + word(r.Key)
	switch r.Kind {
	case 1:
		return out + " " + word(r.Value)
	case 3:
		return out + " " + word(r.End)
	}
	return out
}

func TestP28PutRecord(t *testing.T) {
	expect(t, "example", impl.PutRecord(putAt(5, "k", "v")), "\x01\x05\x00\x00\x01\x6b\x01\x76")
	expect(t, "delete", impl.PutRecord(deleteAt(1000000, "ab")), "\x02\x40\x42\x0f\x02ab\x00")
	expect(t, "range", impl.PutRecord(rangeAt(70000, "a", "bc")), "\x03\x70\x11\x01\x01a\x02bc")
	for _, r := range slices.Concat(someRecords, edgeRecords()) {
		want := ""
		if recordIsValid(r) {
			want = rawRecord(r)
		}
		if impl.PutRecord(r) != want {
			t.Fatalf("PutRecord(%+v) = %x, want %x", r, impl.PutRecord(r), want)
		}
	}
	for i, r := range damagedRecords {
		if s := impl.PutRecord(r); s != "" {
			t.Errorf("damaged record %d: PutRecord %x", i, s)
		}
	}
}

// TestP28GetRecord checks that every valid record is recovered from its encoding, whatever follows it, and
// from no part of it.
func TestP28GetRecord(t *testing.T) {
	for _, r := range slices.Concat(someRecords, edgeRecords()) {
		if !recordIsValid(r) {
			continue
		}
		s := impl.PutRecord(r)
		for _, tail := range []string{"", "\x00", "\xff", s, strings.Repeat("\x01", 300)} {
			var got gotRecord
			got.r, got.used, got.ok = impl.GetRecord(s + tail)
			expect(t, "GetRecord of an encoding and other bytes", got, gotRecord{r, int64(len(s)), true})
		}
		for size := range len(s) {
			expect(t, "GetRecord of a part of an encoding", expectGet(t, s[:size]), false)
		}
	}
}

// TestP28GetDamaged checks strings that are encodings of invalid records or of no records at all.
func TestP28GetDamaged(t *testing.T) {
	for _, r := range damagedRecords {
		if r.Kind >= 0 && r.Kind < 4 && r.Seq >= 0 && (r.Kind == impl.KdRange && r.Value == "" || r.Kind != impl.KdRange && r.End == "") {
			expect(t, "GetRecord of an invalid record", expectGet(t, rawRecord(r)), false)
		}
	}
	for _, s := range []string{
		"", "\x01", "\x01\x05\x00\x00", "\x01\x05\x00\x00\x01", "\x01\x05\x00\x00\x01k", "\x01\x05\x00\x00\x01k\x01", "\x01\x05\x00\x00\x00\x01v", "\x01\x00\x00\x00\x01k\x01v",
		"\x00\x05\x00\x00\x01k\x01v", "\x04\x05\x00\x00\x01k\x00", "\xff\x05\x00\x00\x01k\x00", "\x81\x05\x00\x00\x01k\x01v", "\x02\x05\x00\x00\x01k\x01v", "\x03\x05\x00\x00\x01k\x00",
		"\x03\x05\x00\x00\x01k\x01k", "\x03\x05\x00\x00\x01k\x01j", "\x01\x41\x42\x0f\x01k\x01v", "\x01\xff\xff\xff\x01k\x01v", "\x01\x05\x00\x00\x09abcdefghi\x01v",
		"\x03\x05\x00\x00\x01k\x09lllllllll", "\x01\x05\x00\x00\x01k\x11seventeen bytes!!", "\x01\x05\x00\x00\xffk\x01v", "\x01\x05\x00\x00\x01k\xffv",
		"\x01\x05\x00\x00\x81\x00k\x01v" + strings.Repeat("v", 200), "\x01\x05\x00\x00\x01k\x81\x00v" + strings.Repeat("v", 200), "\x01\x05\x00\x00\x80" + strings.Repeat("v", 200),
	} {
		expect(t, "GetRecord", expectGet(t, s), false)
	}
	for size := range 256 {
		body := strings.Repeat("v", size)
		expect(t, "GetRecord with a long value", expectGet(t, "\x01\x05\x00\x00\x01k"+string([]byte{byte(size)})+body), size <= 16)
		expect(t, "GetRecord with a long key", expectGet(t, "\x02\x05\x00\x00"+string([]byte{byte(size)})+body+"\x00"), size >= 1 && size <= 8)
		expect(t, "GetRecord with a long end", expectGet(t, "\x03\x05\x00\x00\x01k"+string([]byte{byte(size)})+body), size >= 1 && size <= 8)
	}
	for _, r := range someRecords {
		s := []byte(rawRecord(r) + "tail")
		for i := range s {
			for b := range 256 {
				damaged := slices.Clone(s)
				damaged[i] = byte(b)
				expectGet(t, string(damaged))
			}
		}
	}
}

func TestP28RecordText(t *testing.T) {
	expect(t, "example", impl.RecordText(putAt(5, "k", "v")), "put 5 6b 76")
	expect(t, "empty value", impl.RecordText(putAt(1000000, "\x00", "")), "put 1000000 00 -")
	expect(t, "delete", impl.RecordText(deleteAt(7, "-\xff")), "delete 7 2dff")
	expect(t, "range", impl.RecordText(rangeAt(10, "a", "\xab\xcd\xef")), "range 10 61 abcdef")
	for _, r := range slices.Concat(someRecords, edgeRecords()) {
		want := ""
		if recordIsValid(r) {
			want = rawText(r)
		}
		if impl.RecordText(r) != want {
			t.Fatalf("RecordText(%+v) = %q, want %q", r, impl.RecordText(r), want)
		}
		if got, ok := impl.ReadRecord(want); ok != (want != "") || ok && got != r {
			t.Fatalf("ReadRecord(%q) = %+v, %v, want %+v", want, got, ok, r)
		}
	}
	for b := range 256 {
		r := putAt(3, string([]byte{byte(b)}), string([]byte{byte(255 - b), byte(b)}))
		expect(t, "RecordText", impl.RecordText(r), rawText(r))
		expect(t, "ReadRecord", expectRead(t, rawText(r)), true)
	}
}

// TestP28ReadDamaged checks texts that are no text of a record in one way each.
func TestP28ReadDamaged(t *testing.T) {
	for _, s := range []string{
		"", " ", "  ", "   ", "-", "put", "put ", "put 5", "put 5 ", "put 5 6b", "put 5 6b ", "put  5 6b 76", "put 5  6b 76", "put 5 6b  76", " put 5 6b 76", "put 5 6b 76 ",
		"put 5 6b 76\n", "put 5 6b\t76", "put\t5 6b 76", "put 5 6b 76 76", "put 5 6b 76 -", "put 5 6b - ", "put 5 6b --", "put 5 6b -76", "put 5 6b 76-", "put 5 - 76", "put 5 - -", "put 5 6B 76",
		"put 5 6b 7A", "put 5 6 76", "put 5 6b 7", "put 5 6b 767", "put 5 6b6 76", "put 5 0x6b 76", "put 5 6b 0x76", "put 5 6g 76", "put 5 6b 7g", "put 5 6b +7", "put 5 +6 76", "put 5 6_ 76",
		"put 05 6b 76", "put 005 6b 76", "put +5 6b 76", "put -5 6b 76", "put 0 6b 76", "put 00 6b 76", "put 5. 6b 76", "put 5e0 6b 76", "put 0x5 6b 76", "put 1_0 6b 76", "put x 6b 76", "put - 6b 76",
		"put 1000001 6b 76", "put 9999999 6b 76", "put 12345678 6b 76", "put 9223372036854775807 6b 76", "put 9223372036854775808 6b 76", "put 18446744073709551621 6b 76",
		"put 5 616263646566676869 76", "put 5 6b " + strings.Repeat("76", 17), "PUT 5 6b 76", "Put 5 6b 76", "puts 5 6b 76", "pu 5 6b 76", "5 6b 76", "1 5 6b 76", "delete 7", "delete 7 ", "delete 7 -",
		"delete 7 6b ", "delete 7 6b -", "delete 7 6b 76", "delete 0 6b", "delete 07 6b", "delete 1000001 6b", "deleted 7 6b", "range 2 61", "range 2 61 -", "range 2 61 61", "range 2 62 61", "range 2 - 61", "range 2 61 62 63",
		"range 2 61 6", "range 2 61 626364656667686970", "range 0 61 62", "ranges 2 61 62", "put 5 6b 76" + strings.Repeat(" ", 1000), strings.Repeat("put 5 6b 76", 1000), strings.Repeat("6b", 5000),
		"put 5 zz 76", "put 5 6b zz", "put 5 6bzz 76", "put 5 6b 76zz", "put 5 6b\x00 76", "\x00put 5 6b 76", "put 5 6b 76\x00", "put\u00a05 6b 76", "put ５ 6b 76",
	} {
		expect(t, "ReadRecord of "+s, expectRead(t, s), false)
	}
}

// TestP28ReadChanged compares ReadRecord with its definition for texts with a changed, an inserted or a
// missing byte.
func TestP28ReadChanged(t *testing.T) {
	letters := []byte(" -+0159abfgAFputdelrange\n\x00\xff")
	for _, r := range someRecords {
		s := []byte(rawText(r))
		expect(t, "ReadRecord", expectRead(t, string(s)), true)
		for i := range s {
			expectRead(t, string(s[:i]))
			expectRead(t, string(slices.Delete(slices.Clone(s), i, i+1)))
			for _, b := range letters {
				damaged := slices.Clone(s)
				damaged[i] = b
				expectRead(t, string(damaged))
				expectRead(t, string(slices.Insert(slices.Clone(s), i, b)))
			}
		}
	}
	r := rand.New(rand.NewSource(174))
	words := []string{"put", "delete", "range", "", "-", "5", "05", "61", "62", "6", "6B", "1000000", "1000001", "6162636465666768"}
	for range 20000 {
		var text []string
		for range 1 + r.Intn(5) {
			text = append(text, words[r.Intn(len(words))])
		}
		expectRead(t, strings.Join(text, " "))
	}
}

// TestP28EncodingsDiffer checks that different records have different encodings and texts.
func TestP28EncodingsDiffer(t *testing.T) {
	owners := map[string]impl.Record{}
	for _, r := range slices.Concat(someRecords, edgeRecords(), fieldVariants()) {
		if !recordIsValid(r) {
			continue
		}
		for _, s := range []string{"binary " + impl.PutRecord(r), "text " + impl.RecordText(r)} {
			if owner, taken := owners[s]; taken && owner != r {
				t.Fatalf("%+v and %+v have the same encoding %q", owner, r, s)
			}
			owners[s] = r
		}
	}
}
