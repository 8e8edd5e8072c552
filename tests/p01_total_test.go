package tests

import (
	"math"
	"reflect"
	"strings"
	"testing"

	"loop.example/g00905/impl"
)

// edgeInts are integers at and around the limits of the chapters, and the extreme ones.
var edgeInts = []int64{
	math.MinInt64, math.MinInt64 + 1, -65536, -256, -2, -1, 0, 1, 2, 7, 8, 9, 10, 11, 12, 63, 64,
	127, 128, 255, 256, 257, 300, 16383, 16384, 65533, 65534, 65535, 65536, 65537, 1 << 31, 1 << 32,
	math.MaxInt64 - 1, math.MaxInt64,
}

// edgeStrings are strings that are empty, malformed, not UTF-8, or at and around the limits of the
// chapters.
func edgeStrings() []string {
	list := []string{
		"", "\x00", "\x80", "\xff", "\x80\x00", "\xac\x02z", "\x03abcd", "\x03ab", "é世\xff\xfe",
		"123456789", "\xff\xff\xff\xff\xff\xff\xff\xff\x7f", "\xff\xff\xff\xff\xff\xff\xff\xff\x7fabc",
		"\x80\x80\x80\x80\x80\x80\x80\x80\x80\x01",
	}
	for _, size := range []int{7, 8, 9, 10, 127, 128, 255, 256, 257, 70000} {
		list = append(list, strings.Repeat("\xff", size), strings.Repeat("\x80", size))
	}
	return list
}

// resultsOf calls f and returns its results, or fails the test if f panics.
func resultsOf(t *testing.T, name string, f reflect.Value, args []reflect.Value) []any {
	t.Helper()
	defer func() {
		if r := recover(); r != nil {
			t.Fatalf("%s%v panics: %v", name, args, r)
		}
	}()
	var out []any
	for _, v := range f.Call(args) {
		out = append(out, v.Interface())
	}
	return out
}

// argumentLists returns all lists of edge values for the parameters of a function.
func argumentLists(t *testing.T, f reflect.Type) [][]reflect.Value {
	t.Helper()
	lists := [][]reflect.Value{nil}
	for i := range f.NumIn() {
		var values []reflect.Value
		switch f.In(i).Kind() {
		case reflect.Int64:
			for _, n := range edgeInts {
				values = append(values, reflect.ValueOf(n))
			}
		case reflect.String:
			for _, s := range edgeStrings() {
				values = append(values, reflect.ValueOf(s))
			}
		default:
			t.Fatalf("no edge values for parameters of type %v", f.In(i))
		}
		var longer [][]reflect.Value
		for _, list := range lists {
			for _, v := range values {
				longer = append(longer, append(list[:len(list):len(list)], v))
			}
		}
		lists = longer
	}
	return lists
}

// TestP1Total calls every function of the chapters that have landed with all edge values, twice.
func TestP1Total(t *testing.T) {
	functions := map[string]any{
		"CodeName":      impl.CodeName,
		"EncodeUvarint": impl.EncodeUvarint,
		"DecodeUvarint": impl.DecodeUvarint,
		"EncodeFixed":   impl.EncodeFixed,
		"DecodeFixed":   impl.DecodeFixed,
		"EncodeString":  impl.EncodeString,
		"DecodeString":  impl.DecodeString,
		"Checksum":      impl.Checksum,
		"ValidState":    impl.ValidState,
		"StepLfsr":      impl.StepLfsr,
		"BackLfsr":      impl.BackLfsr,
		"JumpLfsr":      impl.JumpLfsr,
		"Keystream":     impl.Keystream,
		"SeedFor":       impl.SeedFor,
		"Scramble":      impl.Scramble,
		"CountOnes":     impl.CountOnes,
	}
	for name, function := range functions {
		f := reflect.ValueOf(function)
		for _, args := range argumentLists(t, f.Type()) {
			first := resultsOf(t, name, f, args)
			again := resultsOf(t, name, f, args)
			if !reflect.DeepEqual(first, again) {
				t.Errorf("%s%v: %v, then %v", name, args, first, again)
			}
		}
	}
}

// TestP1Order checks that a result does not depend on the calls before it.
func TestP1Order(t *testing.T) {
	before, _ := impl.Keystream(4711, 32)
	sum := impl.Checksum("abc")
	for page := range int64(50) {
		impl.Scramble(page, "other calls")
		impl.JumpLfsr(page+1, page)
		impl.Checksum(impl.EncodeUvarint(page))
	}
	after, _ := impl.Keystream(4711, 32)
	if before != after || sum != impl.Checksum("abc") {
		t.Error("a result depends on the calls before it")
	}
}
