package tests

import (
	"bytes"
	"math"
	"math/rand"
	"reflect"
	"slices"
	"strings"
	"testing"

	"loop.example/g00905/impl"
)

// memOutcome is a result of a function that returns records and a code.
type memOutcome struct {
	list []impl.Record
	code int64
}

// foundRecord is a result of LookMem.
type foundRecord struct {
	r  impl.Record
	ok bool
}

// seqPair is a result of SeqsOf.
type seqPair struct {
	least, greatest int64
}

// memIsValid reports whether a list is a memtable, by the definition of chapter 18.
func memIsValid(m []impl.Record) bool {
	return len(m) <= 24 && isRunByDefinition(m)
}

// wantInsert returns the outcome that chapter 18 requires of InsertMem: all records sorted anew.
func wantInsert(m []impl.Record, r impl.Record) memOutcome {
	if !memIsValid(m) || !recordIsValid(r) {
		return memOutcome{code: impl.ErrInvalid}
	}
	for _, other := range m {
		if other.Seq == r.Seq {
			return memOutcome{code: impl.ErrState}
		}
	}
	if len(m) >= 24 {
		return memOutcome{code: impl.ErrFull}
	}
	return memOutcome{wantSorted(append([]impl.Record{r}, m...)), impl.OK}
}

// wantLook returns the result that chapter 18 requires of LookMem.
func wantLook(m []impl.Record, key string, seq int64) foundRecord {
	best := foundRecord{}
	if !memIsValid(m) {
		return best
	}
	for _, r := range m {
		if affectsKey(r, key) && r.Seq <= seq && (!best.ok || r.Seq > best.r.Seq) {
			best = foundRecord{r, true}
		}
	}
	return best
}

// boundsAreValid reports whether bounds are valid, by the definition of chapter 18.
func boundsAreValid(low string, high string) bool {
	if low != "" && !keyIsValid(low) || high != "" && !keyIsValid(high) {
		return false
	}
	return high == "" || bytes.Compare([]byte(low), []byte(high)) < 0
}

// isWithin reports whether valid bounds denote a key.
func isWithin(key string, low string, high string) bool {
	return bytes.Compare([]byte(key), []byte(low)) >= 0 && (high == "" || bytes.Compare([]byte(key), []byte(high)) < 0)
}

// affectsWithin reports whether a valid record affects one of the keys. If it affects any key within
// bounds then it affects its own key or the lower bound there.
func affectsWithin(r impl.Record, low string, high string, keys ...string) bool {
	affected := func(key string) bool { return affectsKey(r, key) && isWithin(key, low, high) }
	return slices.ContainsFunc(keys, affected)
}

// wantScanMem returns the outcome that chapter 18 requires of ScanMem.
func wantScanMem(m []impl.Record, low string, high string) memOutcome {
	if !memIsValid(m) {
		return memOutcome{code: impl.ErrInvalid}
	}
	if !boundsAreValid(low, high) {
		return memOutcome{code: impl.ErrRange}
	}
	out := memOutcome{}
	for _, r := range m {
		if affectsWithin(r, low, high, r.Key, low) {
			out.list = append(out.list, r)
		}
	}
	return out
}

// wantTruncate returns the outcome that chapter 18 requires of TruncateMem.
func wantTruncate(m []impl.Record, seq int64) memOutcome {
	if !memIsValid(m) {
		return memOutcome{code: impl.ErrInvalid}
	}
	out := memOutcome{}
	for _, r := range m {
		if r.Seq > seq {
			out.list = append(out.list, r)
		}
	}
	return out
}

// wantSeqs returns the result that chapter 18 requires of SeqsOf.
func wantSeqs(m []impl.Record) seqPair {
	if !memIsValid(m) || len(m) == 0 {
		return seqPair{}
	}
	var seqs []int64
	for _, r := range m {
		seqs = append(seqs, r.Seq)
	}
	return seqPair{slices.Min(seqs), slices.Max(seqs)}
}

// wantBytes returns the result that chapter 18 requires of MemBytes.
func wantBytes(m []impl.Record) int64 {
	all := ""
	if memIsValid(m) {
		for _, r := range m {
			all += rawRecord(r)
		}
	}
	return int64(len(all))
}

// exampleMem returns the memtable of the examples of chapter 18.
func exampleMem() []impl.Record {
	return []impl.Record{rangeAt(2, "a", "c"), putAt(3, "b", "y"), putAt(1, "b", "x")}
}

// fullRun returns a run of so many records under keys of their own with the sequence numbers 2, 4, 6 and
// so on.
func fullRun(size int) []impl.Record {
	var list []impl.Record
	for i := range size {
		list = append(list, putAt(2+2*int64(i), string([]byte{'b', byte(i)}), "value"))
	}
	return list
}

// memSamples returns runs that are memtables or too long, and lists that are no runs.
func memSamples() []runSample {
	list := append(runSamples(), runSample{"example", exampleMem(), true})
	for _, size := range []int{1, 23, 24, 25, 26, 200} {
		list = append(list, runSample{"records with keys of their own", fullRun(size), true})
	}
	r := rand.New(rand.NewSource(181))
	for i := range list {
		list[i].isRun = list[i].isRun && len(list[i].list) <= 24
	}
	for _, size := range []int{2, 5, 12, 24} {
		list = append(list, runSample{"random", randomRun(r, size), true})
	}
	return list
}

// callMem calls a function that changes or searches a list of records, and checks promise 1 for the call.
func callMem(t *testing.T, name string, function any, m []impl.Record, args ...any) memOutcome {
	t.Helper()
	list, rest := callRecords(t, name, function, append([]any{withSpare(m, putAt(9, "spare", ""))}, args...)...)
	return memOutcome{list, rest[0].Int()}
}

// insertMem is the outcome of InsertMem.
func insertMem(t *testing.T, m []impl.Record, r impl.Record) memOutcome {
	t.Helper()
	return callMem(t, "InsertMem", impl.InsertMem, m, r)
}

// scanMem is the outcome of ScanMem.
func scanMem(t *testing.T, m []impl.Record, low string, high string) memOutcome {
	t.Helper()
	return callMem(t, "ScanMem", impl.ScanMem, m, low, high)
}

// truncateMem is the outcome of TruncateMem.
func truncateMem(t *testing.T, m []impl.Record, seq int64) memOutcome {
	t.Helper()
	return callMem(t, "TruncateMem", impl.TruncateMem, m, seq)
}

// expectMem ends the test if an outcome differs from the wanted one.
func expectMem(t *testing.T, what string, got memOutcome, want memOutcome) {
	t.Helper()
	if got.code != want.code || !slices.Equal(got.list, want.list) {
		t.Fatalf("%s: got %+v, want %+v", what, got, want)
	}
}

// lookMem is the result of LookMem.
func lookMem(m []impl.Record, key string, seq int64) foundRecord {
	r, ok := impl.LookMem(m, key, seq)
	return foundRecord{r, ok}
}

// expectLook ends the test if a lookup does not return what chapter 18 requires.
func expectLook(t *testing.T, m []impl.Record, key string, seq int64) foundRecord {
	t.Helper()
	got := lookMem(m, key, seq)
	if want := wantLook(m, key, seq); got != want {
		t.Fatalf("LookMem(%+v, %q, %d) = %+v, want %+v", m, key, seq, got, want)
	}
	return got
}

func TestP29ValidMem(t *testing.T) {
	for _, s := range memSamples() {
		values := []reflect.Value{reflect.ValueOf(withSpare(s.list, putAt(9, "spare", "")))}
		expect(t, "ValidMem, "+s.what, callPurely(t, "ValidMem", reflect.ValueOf(impl.ValidMem), values)[0].Bool(), s.isRun)
		expect(t, "definition, "+s.what, memIsValid(s.list), s.isRun)
	}
	expect(t, "ValidMem of 24 records", impl.ValidMem(fullRun(24)), true)
	expect(t, "ValidMem of 25 records", impl.ValidMem(fullRun(25)), false)
	expect(t, "ValidRun of 25 records", impl.ValidRun(fullRun(25)), true)
}

func TestP29InsertMem(t *testing.T) {
	m := []impl.Record{}
	for _, r := range []impl.Record{putAt(1, "b", "x"), rangeAt(2, "a", "c"), putAt(3, "b", "y")} {
		got := insertMem(t, m, r)
		expectMem(t, "InsertMem", got, wantInsert(m, r))
		m = got.list
	}
	expectRecords(t, "example", m, exampleMem())
	inserted := []impl.Record{
		putAt(9, "\x00", ""), putAt(9, "a", "new"), putAt(9, "b", "z"), putAt(1001, "\xff", ""), deleteAt(9, "b"), deleteAt(999, "b\x00"), rangeAt(999, "b", "c"),
		rangeAt(1, "a", "b"), putAt(1, "a", ""), putAt(1, "z", ""), putAt(2, "b", "x"), putAt(48, "b\x0b", ""), putAt(49, "b\x0b", ""), putAt(1, "b\x0b", ""),
	}
	for _, s := range memSamples() {
		for _, r := range slices.Concat(inserted, someRecords, damagedRecords) {
			expectMem(t, "InsertMem, "+s.what, insertMem(t, s.list, r), wantInsert(s.list, r))
		}
	}
}

// TestP29InsertPlaces checks that a record is inserted at the beginning, at the end, and at each place
// between.
func TestP29InsertPlaces(t *testing.T) {
	whole := fullRun(24)
	for i, r := range whole {
		m := slices.Delete(slices.Clone(whole), i, i+1)
		expectMem(t, "InsertMem of a missing record", insertMem(t, m, r), memOutcome{whole, impl.OK})
	}
	versions := []impl.Record{putAt(9, "a", ""), rangeAt(7, "a", "c"), deleteAt(5, "a"), putAt(3, "a", "x"), rangeAt(1, "a", "z")}
	for i, r := range versions {
		m := slices.Delete(slices.Clone(versions), i, i+1)
		expectMem(t, "InsertMem of a missing version", insertMem(t, m, r), memOutcome{versions, impl.OK})
	}
	expectMem(t, "InsertMem into an empty memtable", insertMem(t, nil, putAt(1, "a", "")), memOutcome{[]impl.Record{putAt(1, "a", "")}, impl.OK})
}

// TestP29InsertErrors checks the order of the errors: each case has all errors that come later.
func TestP29InsertErrors(t *testing.T) {
	full := fullRun(24)
	swapped := slices.Clone(full)
	swapped[0], swapped[1] = full[1], full[0]
	taken, free, broken := putAt(2, "a", ""), putAt(1, "a", ""), putAt(2, "", "")
	for _, s := range []struct {
		what string
		m    []impl.Record
		r    impl.Record
		code int64
	}{
		{"too many records", fullRun(25), taken, impl.ErrInvalid}, {"too many records, new number", fullRun(25), free, impl.ErrInvalid}, {"no run", swapped, taken, impl.ErrInvalid},
		{"no run, new number", swapped, free, impl.ErrInvalid}, {"no run and an invalid record", swapped, broken, impl.ErrInvalid}, {"invalid record", full, broken, impl.ErrInvalid},
		{"invalid record, empty", nil, broken, impl.ErrInvalid}, {"zero record", full, impl.Record{}, impl.ErrInvalid}, {"taken number, full", full, taken, impl.ErrState},
		{"the same record, full", full, full[7], impl.ErrState}, {"taken number", full[:23], taken, impl.ErrState}, {"taken number at the end", full[:23], putAt(46, "a", ""), impl.ErrState},
		{"taken by another kind", exampleMem(), deleteAt(2, "z"), impl.ErrState}, {"full", full, free, impl.ErrFull}, {"full, at the end", full, putAt(99, "z", ""), impl.ErrFull},
		{"almost full", full[:23], free, impl.OK},
	} {
		got := insertMem(t, s.m, s.r)
		expect(t, "code of InsertMem, "+s.what, got.code, s.code)
		expectMem(t, "InsertMem, "+s.what, got, wantInsert(s.m, s.r))
	}
}

// TestP29Histories inserts the records of random runs in random orders, and checks that the memtables
// contain exactly the inserted records in internal order.
func TestP29Histories(t *testing.T) {
	r := rand.New(rand.NewSource(182))
	for range 200 {
		run := randomRun(r, 1+r.Intn(24))
		order := slices.Clone(run)
		r.Shuffle(len(order), func(i, j int) { order[i], order[j] = order[j], order[i] })
		m := []impl.Record{}
		for i, x := range order {
			next, code := impl.InsertMem(m, x)
			expect(t, "code of InsertMem", code, impl.OK)
			expectRecords(t, "records after an insertion", next, wantSorted(order[:i+1]))
			m = next
		}
		expectRecords(t, "memtable", m, run)
		for _, x := range run {
			expectMem(t, "insertion of a record that is there", insertMem(t, m, x), memOutcome{code: impl.ErrState})
		}
	}
}

func TestP29LookExample(t *testing.T) {
	m := exampleMem()
	for _, s := range []struct {
		key  string
		seq  int64
		want foundRecord
	}{
		{"b", 3, foundRecord{m[1], true}}, {"b", 4, foundRecord{m[1], true}}, {"b", math.MaxInt64, foundRecord{m[1], true}}, {"b", 2, foundRecord{m[0], true}}, {"b", 1, foundRecord{m[2], true}},
		{"b", 0, foundRecord{}}, {"b", -1, foundRecord{}}, {"b", math.MinInt64, foundRecord{}}, {"a", 3, foundRecord{m[0], true}}, {"a", 1, foundRecord{}}, {"b\x00", 9, foundRecord{m[0], true}},
		{"c", 9, foundRecord{}}, {"a\x00", 9, foundRecord{m[0], true}}, {"\xff", 9, foundRecord{}}, {"", 9, foundRecord{}}, {"bbbbbbbbb", 9, foundRecord{}},
	} {
		expect(t, "LookMem of "+s.key, lookMem(m, s.key, s.seq), s.want)
	}
}

// TestP29LookVersions looks for a key with point records and range deletions at several sequence numbers.
func TestP29LookVersions(t *testing.T) {
	m := []impl.Record{
		rangeAt(8, "a", "c"), rangeAt(4, "a", "b"), rangeAt(2, "a", "b\x00"), rangeAt(9, "b", "b\x00"), putAt(7, "b", "z"), deleteAt(6, "b"), rangeAt(5, "b", "d"), putAt(3, "b", "y"), putAt(1, "b", "x"),
	}
	newest := []int64{0, 1, 2, 3, 3, 5, 6, 7, 8, 9, 9, 9}
	for seq, want := range newest {
		got := expectLook(t, m, "b", int64(seq))
		expect(t, "sequence number of the newest record", got.r.Seq, want)
	}
	expect(t, "newest record of a", expectLook(t, m, "a", 7).r, rangeAt(4, "a", "b"))
	expect(t, "newest record of c", expectLook(t, m, "c", 9).r, rangeAt(5, "b", "d"))
	expect(t, "newest record of d", expectLook(t, m, "d", 9).ok, false)
}

func TestP29LookMem(t *testing.T) {
	seqs := append(slices.Clone(farInts), -1, 0, 1, 2, 3, 4, 5, 7, 12, 23, 24, 25, 47, 48, 49, 999999, 1000000, 1000001)
	for _, s := range memSamples() {
		keys := slices.Clone(edgeKeys)
		for _, r := range s.list {
			keys = append(keys, r.Key, r.Key+"\x00", r.End)
		}
		for _, key := range keys {
			for _, seq := range seqs {
				expectLook(t, s.list, key, seq)
			}
		}
		if !s.isRun {
			expect(t, "LookMem in what is no memtable, "+s.what, lookMem(s.list, "b", 1000000), foundRecord{})
		}
	}
}

func TestP29ScanExample(t *testing.T) {
	m := exampleMem()
	for _, s := range []struct {
		low, high string
		want      memOutcome
	}{
		{"bb", "", memOutcome{m[:1], impl.OK}}, {"", "", memOutcome{m, impl.OK}}, {"b", "ba", memOutcome{m, impl.OK}}, {"b", "b\x00", memOutcome{m, impl.OK}}, {"", "a", memOutcome{nil, impl.OK}},
		{"", "a\x00", memOutcome{m[:1], impl.OK}}, {"", "b", memOutcome{m[:1], impl.OK}}, {"a", "b", memOutcome{m[:1], impl.OK}}, {"b\xff", "c", memOutcome{m[:1], impl.OK}}, {"c", "", memOutcome{nil, impl.OK}},
		{"c", "z", memOutcome{nil, impl.OK}}, {"b", "", memOutcome{m, impl.OK}}, {"b\x00", "", memOutcome{m[:1], impl.OK}}, {"\x00", "a", memOutcome{nil, impl.OK}}, {"", "\x00", memOutcome{nil, impl.OK}},
		{"b", "b", memOutcome{nil, impl.ErrRange}}, {"c", "b", memOutcome{nil, impl.ErrRange}}, {"b\x00", "b", memOutcome{nil, impl.ErrRange}}, {"bbbbbbbbb", "", memOutcome{nil, impl.ErrRange}},
		{"", "bbbbbbbbb", memOutcome{nil, impl.ErrRange}}, {"b", "bbbbbbbbb", memOutcome{nil, impl.ErrRange}}, {"bbbbbbbbb", "c", memOutcome{nil, impl.ErrRange}},
		{"aaaaaaaaa", "bbbbbbbbb", memOutcome{nil, impl.ErrRange}}, {"bbbbbbbb", "c", memOutcome{m[:1], impl.OK}}, {"", "bbbbbbbb", memOutcome{m, impl.OK}},
	} {
		expectMem(t, "ScanMem from "+s.low+" to "+s.high, scanMem(t, m, s.low, s.high), s.want)
		expectMem(t, "ScanMem in an empty memtable", scanMem(t, nil, s.low, s.high), memOutcome{nil, s.want.code})
		expectMem(t, "ScanMem in what is no run", scanMem(t, m[1:], s.low, s.high), wantScanMem(m[1:], s.low, s.high))
		expectMem(t, "ScanMem in what is no run", scanMem(t, []impl.Record{m[1], m[0]}, s.low, s.high), memOutcome{nil, impl.ErrInvalid})
	}
}

func TestP29ScanMem(t *testing.T) {
	bounds := []string{"", "\x00", "a", "a\x00", "ab", "b", "b\x0b", "b\x0b\x00", "c", "abcdefgh", "abcdefghi", "\xff", strings.Repeat("\xff", 8), strings.Repeat("\xff", 9)}
	for _, s := range memSamples() {
		for _, low := range bounds {
			for _, high := range bounds {
				expectMem(t, "ScanMem, "+s.what, scanMem(t, s.list, low, high), wantScanMem(s.list, low, high))
			}
		}
	}
}

// TestP29ScanUniverse compares scans with a search through all keys of at most three letters, where the
// records and the bounds have at most two.
func TestP29ScanUniverse(t *testing.T) {
	extended := func(keys []string) []string {
		out := []string{""}
		for _, key := range keys {
			out = append(out, key+"\x00", key+"m", key+"\xff")
		}
		slices.Sort(out)
		return slices.Compact(out)
	}
	short := extended(extended([]string{""}))
	universe := extended(short)
	var records []impl.Record
	for _, key := range short {
		records = append(records, putAt(1, key, ""))
		for _, end := range short {
			records = append(records, rangeAt(1, key, end))
		}
	}
	for _, r := range records {
		for _, low := range short {
			for _, high := range short {
				if recordIsValid(r) && boundsAreValid(low, high) {
					list, code := impl.ScanMem([]impl.Record{r}, low, high)
					if want := affectsWithin(r, low, high, universe...); code != impl.OK || (len(list) == 1) != want {
						t.Fatalf("ScanMem of %+v from %q to %q: %v, %d", r, low, high, list, code)
					}
				}
			}
		}
	}
}

func TestP29SeqsOf(t *testing.T) {
	seqs := func(m []impl.Record) seqPair {
		least, greatest := impl.SeqsOf(m)
		return seqPair{least, greatest}
	}
	expect(t, "SeqsOf of the example", seqs(exampleMem()), seqPair{1, 3})
	expect(t, "SeqsOf of an empty memtable", seqs(nil), seqPair{})
	expect(t, "SeqsOf of one record", seqs([]impl.Record{putAt(1000000, "a", "")}), seqPair{1000000, 1000000})
	for _, order := range [][]int64{{1, 2, 3}, {3, 2, 1}, {2, 3, 1}, {2, 1, 3}} {
		m := []impl.Record{putAt(order[0], "a", ""), putAt(order[1], "b", ""), putAt(order[2], "c", "")}
		expect(t, "SeqsOf of three records", seqs(m), seqPair{1, 3})
	}
	for _, s := range memSamples() {
		expect(t, "SeqsOf, "+s.what, seqs(s.list), wantSeqs(s.list))
	}
}

func TestP29TruncateMem(t *testing.T) {
	m := exampleMem()
	expectMem(t, "TruncateMem below all", truncateMem(t, m, 0), memOutcome{m, impl.OK})
	expectMem(t, "TruncateMem at the least", truncateMem(t, m, 1), memOutcome{m[:2], impl.OK})
	expectMem(t, "TruncateMem between", truncateMem(t, m, 2), memOutcome{m[1:2], impl.OK})
	expectMem(t, "TruncateMem at the greatest", truncateMem(t, m, 3), memOutcome{nil, impl.OK})
	expectMem(t, "TruncateMem of what is no run", truncateMem(t, []impl.Record{m[1], m[0]}, 0), memOutcome{nil, impl.ErrInvalid})
	for _, s := range memSamples() {
		seqs := append(slices.Clone(farInts), -1, 0, 1, 999999, 1000000, 1000001)
		for _, r := range s.list[:min(len(s.list), 30)] {
			seqs = append(seqs, r.Seq-1, r.Seq, r.Seq+1)
		}
		for _, seq := range seqs {
			got := truncateMem(t, s.list, seq)
			expectMem(t, "TruncateMem, "+s.what, got, wantTruncate(s.list, seq))
			expect(t, "ValidMem after TruncateMem, "+s.what, impl.ValidMem(got.list), true)
		}
	}
}

func TestP29MemBytes(t *testing.T) {
	expect(t, "MemBytes of the example", impl.MemBytes(exampleMem()), 24)
	expect(t, "MemBytes of an empty memtable", impl.MemBytes(nil), 0)
	expect(t, "MemBytes of the greatest record", impl.MemBytes([]impl.Record{putAt(1, "abcdefgh", "sixteen bytes ok")}), 30)
	expect(t, "MemBytes of 24 records", impl.MemBytes(fullRun(24)), 24*13)
	expect(t, "MemBytes of 25 records", impl.MemBytes(fullRun(25)), 0)
	for _, s := range memSamples() {
		expect(t, "MemBytes, "+s.what, impl.MemBytes(s.list), wantBytes(s.list))
	}
}

// TestP29Results checks that later changes of a result do not change a memtable, and the reverse.
func TestP29Results(t *testing.T) {
	m := withSpare(exampleMem(), putAt(9, "spare", ""))
	inserted, _ := impl.InsertMem(m, putAt(4, "d", ""))
	scanned, _ := impl.ScanMem(m, "", "")
	truncated, _ := impl.TruncateMem(m, 0)
	for _, list := range [][]impl.Record{inserted, scanned, truncated} {
		clear(list[:cap(list)])
	}
	expectRecords(t, "memtable after changes of results", m, exampleMem())
	expect(t, "spare element", m[:4][3], putAt(9, "spare", ""))
	scanned, _ = impl.ScanMem(m, "", "")
	clear(m)
	expectRecords(t, "result after changes of the memtable", scanned, exampleMem())
}
