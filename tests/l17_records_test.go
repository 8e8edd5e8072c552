package tests

import (
	"bytes"
	"math/rand"
	"reflect"
	"slices"
	"strings"
	"testing"

	"loop.example/g00905/impl"
)

// runSample is a list of records, whether it is a run, and what is special about it.
type runSample struct {
	what  string
	list  []impl.Record
	isRun bool
}

func putAt(seq int64, key string, value string) impl.Record {
	return impl.Record{Key: key, Seq: seq, Kind: impl.KdPut, Value: value}
}

func deleteAt(seq int64, key string) impl.Record {
	return impl.Record{Key: key, Seq: seq, Kind: impl.KdDelete}
}

func rangeAt(seq int64, key string, end string) impl.Record {
	return impl.Record{Key: key, Seq: seq, Kind: impl.KdRange, End: end}
}

// edgeKeys are strings that are keys, and some that are too short or too long, with bytes at and beside
// the bounds.
var edgeKeys = []string{
	"", "\x00", "\x01", "\x7f", "\x80", "\xff", "a", "b", "c", "k", "a\x00", "aa", "ab", "a\xff", "\x00\x00", "\xff\xff", " ", "-", "\n", "é",
	"abcdefg", "abcdefgh", "abcdefgi", "abcdefghi", "abcdefgh\x00", strings.Repeat("\x00", 8), strings.Repeat("\x00", 9), strings.Repeat("\xff", 8),
	strings.Repeat("\xff", 9), strings.Repeat("a", 127), strings.Repeat("a", 128), strings.Repeat("a", 256), strings.Repeat("a", 257), strings.Repeat("a", 264),
}

// keyIsValid reports whether a string is a key, by the definition of chapter 17.
func keyIsValid(key string) bool {
	return len(key) >= 1 && len(key) <= 8
}

// recordIsValid reports whether a record is valid, by the definition of chapter 17.
func recordIsValid(r impl.Record) bool {
	if !keyIsValid(r.Key) || r.Seq < 1 || r.Seq > 1000000 {
		return false
	}
	return r.Kind == 1 && len(r.Value) <= 16 && r.End == "" || r.Kind == 2 && r.Value == "" && r.End == "" ||
		r.Kind == 3 && r.Value == "" && keyIsValid(r.End) && bytes.Compare([]byte(r.Key), []byte(r.End)) < 0
}

// wantOrder returns a negative number if chapter 17 requires that a precedes b, 0 if they are equal, and
// a positive number otherwise.
func wantOrder(a impl.Record, b impl.Record) int {
	numbers := func(x int64, y int64) int {
		switch {
		case x < y:
			return -1
		case x > y:
			return 1
		}
		return 0
	}
	for _, result := range []int{
		bytes.Compare([]byte(a.Key), []byte(b.Key)), numbers(b.Seq, a.Seq), numbers(a.Kind, b.Kind),
		bytes.Compare([]byte(a.Value), []byte(b.Value)), bytes.Compare([]byte(a.End), []byte(b.End)),
	} {
		if result != 0 {
			return result
		}
	}
	return 0
}

// isRunByDefinition reports whether a list is a run, by the definition of chapter 17.
func isRunByDefinition(list []impl.Record) bool {
	for i, r := range list {
		if !recordIsValid(r) || i > 0 && wantOrder(list[i-1], r) >= 0 {
			return false
		}
		for _, other := range list[:i] {
			if other.Seq == r.Seq {
				return false
			}
		}
	}
	return true
}

// wantSorted returns the result that chapter 17 requires of SortRecords: each time the least of the valid
// records that follows the ones before.
func wantSorted(list []impl.Record) []impl.Record {
	var sorted []impl.Record
	for {
		least := impl.Record{}
		for _, r := range list {
			follows := len(sorted) == 0 || wantOrder(sorted[len(sorted)-1], r) < 0
			if recordIsValid(r) && follows && (least.Kind == 0 || wantOrder(r, least) < 0) {
				least = r
			}
		}
		if least.Kind == 0 {
			return sorted
		}
		sorted = append(sorted, least)
	}
}

// affectsKey reports whether a record affects a key, by the definition of chapter 17.
func affectsKey(r impl.Record, key string) bool {
	if !recordIsValid(r) || !keyIsValid(key) {
		return false
	}
	if r.Kind != 3 {
		return key == r.Key
	}
	return bytes.Compare([]byte(key), []byte(r.Key)) >= 0 && bytes.Compare([]byte(key), []byte(r.End)) < 0
}

// edgeRecords returns records with all combinations of fields at and beside their bounds.
func edgeRecords() []impl.Record {
	var list []impl.Record
	texts := append([]string{"v", strings.Repeat("v", 15), strings.Repeat("\x00", 16), strings.Repeat("\xff", 17)}, edgeKeys...)
	for _, kind := range append(slices.Clone(farInts), -1, 0, 1, 2, 3, 4, 257, 258, 259) {
		for _, seq := range append(slices.Clone(farInts), -1, 0, 1, 2, 255, 256, 65535, 65536, 999999, 1000000, 1000001, 1<<24, 1<<24+1, 1<<32+1) {
			for _, key := range []string{"", "\x00", "a", "b", "abcdefgh", "abcdefghi", strings.Repeat("\xff", 8)} {
				for _, text := range texts {
					list = append(list, impl.Record{Key: key, Seq: seq, Kind: kind, Value: text}, impl.Record{Key: key, Seq: seq, Kind: kind, End: text})
				}
				list = append(list, impl.Record{Key: key, Seq: seq, Kind: kind, Value: "v", End: "c"})
			}
		}
	}
	return list
}

// someRecords are valid records of each kind with fields at their bounds.
var someRecords = []impl.Record{
	putAt(5, "k", "v"), putAt(1, "\x00", ""), putAt(1000000, strings.Repeat("\xff", 8), strings.Repeat("\xff", 16)), putAt(256, "abcdefgh", "\x00"),
	putAt(65536, "a", "sixteen bytes ok"), putAt(70000, "-", "-"), putAt(255, " ", " \n"), deleteAt(1, "\x00"), deleteAt(1000000, "abcdefgh"),
	deleteAt(999999, "a"), deleteAt(7, "k"), rangeAt(1, "\x00", "\x01"), rangeAt(1000000, "abcdefgh", "abcdefgi"), rangeAt(2, "a", "a\x00"),
	rangeAt(2, "a", "bc"), rangeAt(300, "a", strings.Repeat("\xff", 8)), rangeAt(65535, "\x7f", "\x80"), rangeAt(65537, "abcdefg", "abcdefgh"),
}

// damagedRecords are records that are invalid for one reason each.
var damagedRecords = []impl.Record{
	{}, putAt(5, "", "v"), putAt(5, "abcdefghi", "v"), putAt(0, "k", "v"), putAt(-1, "k", "v"), putAt(1000001, "k", "v"), putAt(5, "k", "seventeen bytes!!"),
	{Key: "k", Seq: 5, Kind: impl.KdPut, Value: "v", End: "l"}, {Key: "k", Seq: 5, Kind: impl.KdPut, End: "l"}, {Key: "k", Seq: 5, Value: "v"}, {Key: "k", Seq: 5},
	{Key: "k", Seq: 5, Kind: 4}, {Key: "k", Seq: 5, Kind: -1}, {Key: "k", Seq: 5, Kind: 257, Value: "v"}, {Key: "k", Seq: 5, Kind: impl.KdDelete, Value: "v"},
	{Key: "k", Seq: 5, Kind: impl.KdDelete, End: "l"}, rangeAt(5, "k", ""), rangeAt(5, "k", "k"), rangeAt(5, "k", "j"), rangeAt(5, "kk", "k"), rangeAt(5, "k", "lllllllll"),
	{Key: "k", Seq: 5, Kind: impl.KdRange, Value: "v", End: "l"}, rangeAt(0, "k", "l"), rangeAt(1000001, "k", "l"), deleteAt(0, "k"), deleteAt(1000001, "k"), deleteAt(5, ""),
}

// fieldVariants returns records that differ in one field, in both directions, and in pairs of fields.
func fieldVariants() []impl.Record {
	list := []impl.Record{}
	for _, key := range []string{"", "a", "ab", "b"} {
		for _, seq := range []int64{0, 2, 5} {
			for _, kind := range []int64{0, 1, 3} {
				for _, value := range []string{"", "x", "\xff"} {
					list = append(list, impl.Record{Key: key, Seq: seq, Kind: kind, Value: value}, impl.Record{Key: key, Seq: seq, Kind: kind, Value: value, End: "c"},
						impl.Record{Key: key, Seq: seq, Kind: kind, Value: value, End: "\x80"})
				}
			}
		}
	}
	return list
}

// randomRecord returns a valid record of a few keys, with a sequence number of at most seqs.
func randomRecord(r *rand.Rand, seqs int64) impl.Record {
	keys := []string{"\x00", "a", "a\x00", "aa", "ab", "b", "b\xff", "c", "\xff"}
	x := r.Intn(len(keys) - 1)
	seq := 1 + r.Int63n(seqs)
	switch r.Intn(3) {
	case 0:
		return deleteAt(seq, keys[x])
	case 1:
		return rangeAt(seq, keys[x], keys[x+1+r.Intn(len(keys)-1-x)])
	}
	return putAt(seq, keys[r.Intn(len(keys))], []string{"", "x", "yy"}[r.Intn(3)])
}

// randomRun returns a run of so many records with sequence numbers up to twice this number.
func randomRun(r *rand.Rand, size int) []impl.Record {
	var list []impl.Record
	for _, seq := range r.Perm(2 * size)[:size] {
		x := randomRecord(r, 1)
		x.Seq = int64(seq) + 1
		list = append(list, x)
	}
	return wantSorted(list)
}

// runSamples returns lists that are runs, and lists that are none for one reason each.
func runSamples() []runSample {
	r := rand.New(rand.NewSource(171))
	list := []runSample{
		{"empty", nil, true},
		{"example of the order", []impl.Record{putAt(5, "a", ""), putAt(2, "a", ""), putAt(1, "b", "")}, true},
		{"a key and its extension", []impl.Record{putAt(1, "a", ""), putAt(2, "a\x00", "")}, true},
		{"bytes above 127", []impl.Record{putAt(1, "\x7f", ""), putAt(2, "\x80", "")}, true},
		{"range deletions that overlap", []impl.Record{rangeAt(9, "a", "c"), rangeAt(3, "a", "z"), rangeAt(1, "b", "c")}, true},
		{"sequence numbers in the wrong order", []impl.Record{putAt(2, "a", ""), putAt(5, "a", "")}, false},
		{"keys in the wrong order", []impl.Record{putAt(2, "b", ""), putAt(1, "a", "")}, false},
		{"wrong order behind a right one", []impl.Record{putAt(3, "a", ""), putAt(2, "c", ""), putAt(1, "b", "")}, false},
		{"equal records", []impl.Record{putAt(2, "a", ""), putAt(2, "a", "")}, false},
		{"equal sequence numbers", []impl.Record{putAt(2, "a", ""), putAt(2, "b", "")}, false},
		{"equal sequence numbers apart", []impl.Record{putAt(2, "a", ""), putAt(3, "b", ""), deleteAt(2, "c")}, false},
		{"equal keys and sequence numbers", []impl.Record{putAt(2, "a", "x"), putAt(2, "a", "y")}, false},
	}
	for _, x := range someRecords {
		list = append(list, runSample{"one record", []impl.Record{x}, true})
	}
	for _, x := range damagedRecords {
		list = append(list, runSample{"invalid record", []impl.Record{x}, false}, runSample{"invalid record at the end", []impl.Record{putAt(9, "\x00", ""), x}, false},
			runSample{"invalid record at the beginning", []impl.Record{x, putAt(9, "z", "")}, false})
	}
	for _, size := range []int{2, 3, 8, 23, 24, 25, 61} {
		run := randomRun(r, size)
		list = append(list, runSample{"random", run, true})
		swapped := slices.Clone(run)
		swapped[size-1], swapped[size-2] = run[size-2], run[size-1]
		list = append(list, runSample{"swapped at the end", swapped, false}, runSample{"with a record twice", slices.Insert(slices.Clone(run), size/2, run[size/2]), false})
		again := slices.Clone(run)
		again[0].Seq = again[size-1].Seq
		list = append(list, runSample{"the first and the last sequence number are equal", again, false})
	}
	return list
}

// callRecords calls a function that returns records, and checks promise 1 for the call. It returns the
// records and the other results.
func callRecords(t *testing.T, name string, function any, args ...any) ([]impl.Record, []reflect.Value) {
	t.Helper()
	var values []reflect.Value
	for _, arg := range args {
		values = append(values, reflect.ValueOf(arg))
	}
	results := callPurely(t, name, reflect.ValueOf(function), values)
	return results[0].Interface().([]impl.Record), results[1:]
}

// expectRecords ends the test if lists of records differ.
func expectRecords(t *testing.T, what string, got []impl.Record, want []impl.Record) {
	t.Helper()
	if !slices.Equal(got, want) {
		t.Fatalf("%s: got %+v, want %+v", what, got, want)
	}
}

func TestP28ValidKey(t *testing.T) {
	for _, key := range edgeKeys {
		expect(t, "ValidKey of "+key, impl.ValidKey(key), keyIsValid(key))
	}
	for b := range 256 {
		expect(t, "ValidKey of one byte", impl.ValidKey(string([]byte{byte(b)})), true)
	}
	for size := range 300 {
		expect(t, "ValidKey of some bytes", impl.ValidKey(strings.Repeat("\x00", size)), size >= 1 && size <= 8)
	}
}

func TestP28ValidRecord(t *testing.T) {
	counts := map[bool]int{}
	for _, r := range edgeRecords() {
		want := recordIsValid(r)
		if impl.ValidRecord(r) != want || (impl.PutRecord(r) != "") != want || (impl.RecordText(r) != "") != want {
			t.Fatalf("%+v: ValidRecord %v, PutRecord %x, RecordText %q", r, impl.ValidRecord(r), impl.PutRecord(r), impl.RecordText(r))
		}
		counts[want]++
	}
	if counts[true] < 100 || counts[false] < 100 {
		t.Errorf("the samples do not contain both kinds: %v", counts)
	}
	for _, r := range someRecords {
		expect(t, "ValidRecord of "+r.Key, impl.ValidRecord(r), true)
	}
	for i, r := range damagedRecords {
		if impl.ValidRecord(r) {
			t.Errorf("damaged record %d is valid: %+v", i, r)
		}
	}
}

// TestP28RangeBounds checks range deletions with all pairs of ends.
func TestP28RangeBounds(t *testing.T) {
	for _, key := range edgeKeys {
		for _, end := range edgeKeys {
			r := rangeAt(7, key, end)
			if impl.ValidRecord(r) != (keyIsValid(key) && keyIsValid(end) && key < end) {
				t.Errorf("%+v: ValidRecord %v", r, impl.ValidRecord(r))
			}
		}
	}
}

// TestP28TotalOrder checks for all pairs of records, valid or not, that exactly one of them precedes the
// other one unless they are equal, and for all triples that the order is transitive.
func TestP28TotalOrder(t *testing.T) {
	list := fieldVariants()
	for _, a := range list {
		for _, b := range list {
			if impl.LessRecord(a, b) != (wantOrder(a, b) < 0) {
				t.Fatalf("LessRecord(%+v, %+v) = %v", a, b, impl.LessRecord(a, b))
			}
			if impl.LessRecord(a, b) && impl.LessRecord(b, a) || a != b && !impl.LessRecord(a, b) && !impl.LessRecord(b, a) || a == b && impl.LessRecord(a, b) {
				t.Fatalf("not a strict total order: %+v and %+v", a, b)
			}
		}
	}
	few := slices.Concat(someRecords, damagedRecords)
	for _, a := range few {
		for _, b := range few {
			for _, c := range few {
				if impl.LessRecord(a, b) && impl.LessRecord(b, c) && !impl.LessRecord(a, c) {
					t.Fatalf("not transitive: %+v, %+v and %+v", a, b, c)
				}
			}
		}
	}
}

func TestP28LessRecord(t *testing.T) {
	x := impl.Record{Key: "b", Seq: 5, Kind: 2, Value: "b", End: "b"}
	change := func(edit func(*impl.Record)) impl.Record {
		y := x
		edit(&y)
		return y
	}
	for i, s := range []struct{ a, b impl.Record }{
		{change(func(r *impl.Record) { r.Key, r.Seq, r.Kind, r.Value, r.End = "a", 1, 3, "c", "c" }), x},
		{change(func(r *impl.Record) { r.Key, r.Seq = "", -1 }), x},
		{x, change(func(r *impl.Record) { r.Key, r.Seq, r.Kind, r.Value, r.End = "b\x00", 9, 1, "a", "a" })},
		{x, change(func(r *impl.Record) { r.Key, r.Seq = "\xff", 9 })},
		{change(func(r *impl.Record) { r.Seq, r.Kind, r.Value, r.End = 6, 3, "c", "c" }), x},
		{change(func(r *impl.Record) { r.Seq = 1 << 62 }), change(func(r *impl.Record) { r.Seq = -1 << 63 })},
		{change(func(r *impl.Record) { r.Kind, r.Value, r.End = 1, "c", "c" }), x},
		{change(func(r *impl.Record) { r.Kind = -1 << 63 }), change(func(r *impl.Record) { r.Kind = 1 << 62 })},
		{change(func(r *impl.Record) { r.Value, r.End = "a", "c" }), x},
		{change(func(r *impl.Record) { r.Value, r.End = "", "c" }), x},
		{change(func(r *impl.Record) { r.End = "a" }), x},
		{x, change(func(r *impl.Record) { r.End = "bb" })},
	} {
		if !impl.LessRecord(s.a, s.b) || impl.LessRecord(s.b, s.a) {
			t.Errorf("pair %d: %+v does not precede %+v only", i, s.a, s.b)
		}
	}
	expect(t, "LessRecord of a record and itself", impl.LessRecord(x, x), false)
}

func TestP28ValidRun(t *testing.T) {
	for _, s := range runSamples() {
		if isRunByDefinition(s.list) != s.isRun {
			t.Fatalf("the sample itself is wrong: %s: %+v", s.what, s.list)
		}
		values := []reflect.Value{reflect.ValueOf(withSpare(s.list, putAt(9, "spare", "")))}
		expect(t, "ValidRun, "+s.what, callPurely(t, "ValidRun", reflect.ValueOf(impl.ValidRun), values)[0].Bool(), s.isRun)
	}
	r := rand.New(rand.NewSource(172))
	for range 3000 {
		list := randomRun(r, 1+r.Intn(6))
		list[r.Intn(len(list))] = randomRecord(r, 12)
		expect(t, "ValidRun of a run with a changed record", impl.ValidRun(list), isRunByDefinition(list))
	}
}

// sortRecords sorts records and checks the result.
func sortRecords(t *testing.T, what string, list []impl.Record) []impl.Record {
	t.Helper()
	sorted, _ := callRecords(t, "SortRecords", impl.SortRecords, withSpare(list, putAt(9, "spare", "")))
	expectRecords(t, "SortRecords, "+what, sorted, wantSorted(list))
	return sorted
}

// permute calls visit with every permutation of a list.
func permute(list []impl.Record, visit func([]impl.Record)) {
	var place func(n int)
	place = func(n int) {
		if n == len(list) {
			visit(list)
			return
		}
		for i := n; i < len(list); i++ {
			list[n], list[i] = list[i], list[n]
			place(n + 1)
			list[n], list[i] = list[i], list[n]
		}
	}
	place(0)
}

func TestP28SortRecords(t *testing.T) {
	example := []impl.Record{putAt(2, "a", ""), putAt(5, "a", ""), putAt(1, "b", "")}
	expectRecords(t, "example", sortRecords(t, "example", example), []impl.Record{putAt(5, "a", ""), putAt(2, "a", ""), putAt(1, "b", "")})
	expect(t, "records of an empty list", len(sortRecords(t, "empty", nil)), 0)
	expect(t, "records of a list of invalid ones", len(sortRecords(t, "invalid", damagedRecords)), 0)
	sortRecords(t, "all kinds", slices.Concat(someRecords, damagedRecords, someRecords))
	same := []impl.Record{putAt(2, "b", "x"), putAt(2, "a", "y"), putAt(2, "a", "x"), deleteAt(2, "a"), rangeAt(2, "a", "c"), rangeAt(2, "a", "b")}
	sorted := sortRecords(t, "one sequence number", same)
	expectRecords(t, "one sequence number", sorted, []impl.Record{putAt(2, "a", "x"), putAt(2, "a", "y"), deleteAt(2, "a"), rangeAt(2, "a", "b"), rangeAt(2, "a", "c"), putAt(2, "b", "x")})
	for _, s := range runSamples() {
		got := sortRecords(t, s.what, s.list)
		if s.isRun {
			expectRecords(t, "a run, "+s.what, got, s.list)
		}
	}
}

// TestP28SortPermutations checks that sorting does not depend on the order of the list.
func TestP28SortPermutations(t *testing.T) {
	for _, list := range [][]impl.Record{
		{putAt(2, "a", ""), putAt(5, "a", ""), putAt(1, "b", ""), rangeAt(4, "a", "c"), deleteAt(3, "b"), putAt(6, "ab", "x")},
		{putAt(2, "a", "x"), putAt(2, "a", "x"), putAt(2, "a", "y"), deleteAt(2, "a"), {}, putAt(0, "a", "")},
		{rangeAt(1, "a", "c"), rangeAt(1, "a", "b"), rangeAt(1, "b", "a"), rangeAt(1, "a", "c"), putAt(1, "a", ""), putAt(1, "\x80", "")},
	} {
		want := wantSorted(list)
		permute(list, func(list []impl.Record) {
			expectRecords(t, "SortRecords of a permutation", impl.SortRecords(list), want)
		})
	}
	r := rand.New(rand.NewSource(173))
	for range 300 {
		var list []impl.Record
		for range r.Intn(40) {
			list = append(list, randomRecord(r, 10), damagedRecords[r.Intn(len(damagedRecords))])
		}
		want := sortRecords(t, "random", list)
		r.Shuffle(len(list), func(i, j int) { list[i], list[j] = list[j], list[i] })
		expectRecords(t, "SortRecords after a shuffle", impl.SortRecords(list), want)
	}
}

func TestP28Affects(t *testing.T) {
	for _, s := range []struct {
		r    impl.Record
		key  string
		want bool
	}{
		{putAt(1, "b", ""), "b", true}, {putAt(1, "b", ""), "b\x00", false}, {putAt(1, "b", ""), "a", false}, {deleteAt(1, "b"), "b", true}, {deleteAt(1, "b"), "c", false},
		{rangeAt(1, "b", "d"), "b", true}, {rangeAt(1, "b", "d"), "b\x00", true}, {rangeAt(1, "b", "d"), "c", true}, {rangeAt(1, "b", "d"), "c\xff\xff\xff\xff\xff\xff\xff", true},
		{rangeAt(1, "b", "d"), "d", false}, {rangeAt(1, "b", "d"), "a\xff", false}, {rangeAt(1, "b", "d"), "d\x00", false}, {rangeAt(1, "b", "b\x00"), "b", true},
		{rangeAt(1, "b", "b\x00"), "b\x00", false}, {rangeAt(1, "b", "d"), "ccccccccc", false}, {rangeAt(1, "b", "d"), "", false}, {rangeAt(1, "d", "b"), "c", false},
		{rangeAt(0, "b", "d"), "c", false}, {putAt(0, "b", ""), "b", false}, {putAt(1, "", ""), "", false}, {putAt(1, "abcdefghi", ""), "abcdefghi", false},
	} {
		expect(t, "Affects of "+s.r.Key+" and "+s.key, impl.Affects(s.r, s.key), s.want)
	}
	records := slices.Concat(someRecords, damagedRecords)
	for _, key := range edgeKeys {
		for _, end := range edgeKeys {
			records = append(records, rangeAt(7, key, end))
		}
		records = append(records, putAt(7, key, "x"), deleteAt(7, key))
	}
	for _, r := range records {
		for _, key := range edgeKeys {
			if impl.Affects(r, key) != affectsKey(r, key) {
				t.Fatalf("Affects(%+v, %q) = %v", r, key, impl.Affects(r, key))
			}
		}
	}
}
