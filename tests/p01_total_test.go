package tests

import (
	"fmt"
	"math"
	"reflect"
	"slices"
	"strings"
	"testing"

	"loop.example/g00905/impl"
)

// edgeInts are integers at and around the limits of the chapters, and the extreme ones.
var edgeInts = []int64{
	math.MinInt64, math.MinInt64 + 1, -65536, -256, -2, -1, 0, 1, 2, 3, 6, 7, 8, 9, 10, 11, 12, 63, 64,
	70, 71, 72, 73, 127, 128, 255, 256, 257, 300, 16383, 16384, 65533, 65534, 65535, 65536, 65537,
	1 << 31, 1 << 32, math.MaxInt64 - 1, math.MaxInt64,
}

// edgeStrings are strings that are empty, malformed, not UTF-8, or at and around the limits of the
// chapters.
func edgeStrings() []string {
	list := []string{
		"", "\x00", "\x80", "\xff", "\x80\x00", "\xac\x02z", "\x03abcd", "\x03ab", "é世\xff\xfe",
		"123456789", "codeword", "\xff\xff\xff\xff\xff\xff\xff\xff\x7f",
		"\xff\xff\xff\xff\xff\xff\xff\xff\x7fabc", "\x80\x80\x80\x80\x80\x80\x80\x80\x80\x01",
	}
	for _, size := range []int{7, 8, 9, 10, 16, 127, 128, 255, 256, 257, 264, 70000} {
		list = append(list, strings.Repeat("\xff", size), strings.Repeat("\x80", size))
	}
	return list
}

// edgeIntLists are lists that are empty, not increasing, with elements out of every bound, or too
// long.
var edgeIntLists = [][]int64{
	nil, {}, {0}, {71}, {72}, {-1}, {math.MinInt64}, {math.MaxInt64}, {0, 71}, {3, 40, 66}, {66, 40, 3},
	{5, 5}, {64, 65, 66}, {69, 70, 71}, {70, 71, 72}, {0, 1, 2, 3}, {math.MinInt64, 0, math.MaxInt64},
	make([]int64, 1000),
}

// edgeStringLists are lists of strings that are empty, too long, or of equal or different lengths.
func edgeStringLists() [][]string {
	long := strings.Repeat("u", 256)
	return [][]string{
		nil, {}, {""}, {"a"}, {"ab", "cd", "ef"}, {"", "", ""}, {"ab", "c"}, {"a", "bc"}, {long},
		{long, long}, {long + "u"}, {"ab", long + "u"}, slices.Repeat([]string{"codeword"}, 8),
		slices.Repeat([]string{"codeword"}, 9), slices.Repeat([]string{long}, 8), make([]string, 1000),
	}
}

// withSpare returns a slice of the same elements with unused capacity that is not zero.
func withSpare[T any](list []T, spare T) []T {
	room := append(slices.Clone(list), spare, spare, spare)
	return room[:len(list)]
}

// edgeValues returns the edge values of a type of parameters. Each call returns new memory.
func edgeValues(t *testing.T, kind reflect.Type) []reflect.Value {
	t.Helper()
	var values []reflect.Value
	switch kind {
	case reflect.TypeFor[int64]():
		for _, n := range edgeInts {
			values = append(values, reflect.ValueOf(n))
		}
	case reflect.TypeFor[string]():
		for _, s := range edgeStrings() {
			values = append(values, reflect.ValueOf(s))
		}
	case reflect.TypeFor[[]int64]():
		for _, list := range edgeIntLists {
			values = append(values, reflect.ValueOf(withSpare(list, 12345)))
		}
	case reflect.TypeFor[[]string]():
		for _, list := range edgeStringLists() {
			values = append(values, reflect.ValueOf(withSpare(list, "spare")))
		}
	default:
		t.Fatalf("no edge values for parameters of type %v", kind)
	}
	return values
}

// argumentLists returns all lists of edge values for the parameters of a function.
func argumentLists(t *testing.T, f reflect.Type) [][]reflect.Value {
	t.Helper()
	lists := [][]reflect.Value{nil}
	for i := range f.NumIn() {
		values := edgeValues(t, f.In(i))
		var longer [][]reflect.Value
		for _, list := range lists {
			for _, v := range values {
				longer = append(longer, append(list[:len(list):len(list)], v))
			}
		}
		lists = longer
	}
	return lists
}

// whole returns a slice with its unused capacity, and any other value as it is.
func whole(v reflect.Value) reflect.Value {
	if v.Kind() == reflect.Slice {
		return v.Slice(0, v.Cap())
	}
	return v
}

// copies returns copies of values; a copy of a slice has its unused capacity too.
func copies(values []reflect.Value) []any {
	var out []any
	for _, v := range values {
		v = whole(v)
		if v.Kind() == reflect.Slice {
			all := reflect.MakeSlice(v.Type(), v.Len(), v.Len())
			reflect.Copy(all, v)
			v = all
		}
		out = append(out, v.Interface())
	}
	return out
}

// overwrite clears the slices among results, with their unused capacity, so that memory that they
// share with an argument or with a later result shows.
func overwrite(results []reflect.Value) {
	for _, v := range results {
		if v.Kind() == reflect.Slice {
			whole(v).Clear()
		}
	}
}

// resultsOf calls f and returns copies of its results, or fails the test if f panics.
func resultsOf(t *testing.T, name string, f reflect.Value, args []reflect.Value) []any {
	t.Helper()
	defer func() {
		if r := recover(); r != nil {
			t.Fatalf("%s%v panics: %v", name, args, r)
		}
	}()
	results := f.Call(args)
	var out []any
	for _, v := range results {
		if v.Kind() == reflect.Slice {
			out = append(out, fmt.Sprint(v.Interface()))
		} else {
			out = append(out, v.Interface())
		}
	}
	overwrite(results)
	return out
}

// TestP1Total calls every function of the chapters that have landed with all edge values, twice.
func TestP1Total(t *testing.T) {
	functions := map[string]any{
		"CodeName":      impl.CodeName,
		"EncodeUvarint": impl.EncodeUvarint,
		"DecodeUvarint": impl.DecodeUvarint,
		"EncodeFixed":   impl.EncodeFixed,
		"DecodeFixed":   impl.DecodeFixed,
		"EncodeString":  impl.EncodeString,
		"DecodeString":  impl.DecodeString,
		"Checksum":      impl.Checksum,
		"ValidState":    impl.ValidState,
		"StepLfsr":      impl.StepLfsr,
		"BackLfsr":      impl.BackLfsr,
		"JumpLfsr":      impl.JumpLfsr,
		"Keystream":     impl.Keystream,
		"SeedFor":       impl.SeedFor,
		"Scramble":      impl.Scramble,
		"CountOnes":     impl.CountOnes,
		"CheckByte":     impl.CheckByte,
		"Syndrome":      impl.Syndrome,
		"DecodeWord":    impl.DecodeWord,
		"FlipCodeBit":   impl.FlipCodeBit,
		"DecodeErased":  impl.DecodeErased,
		"EncodeEcc":     impl.EncodeEcc,
		"DecodeEcc":     impl.DecodeEcc,
		"DiffBits":      impl.DiffBits,
		"XorBytes":      impl.XorBytes,
		"ParityOf":      impl.ParityOf,
		"ValidStripe":   impl.ValidStripe,
		"Rebuild":       impl.Rebuild,
		"UpdateParity":  impl.UpdateParity,
		"ParityDie":     impl.ParityDie,
		"DataDie":       impl.DataDie,
		"UnitOn":        impl.UnitOn,
	}
	for name, function := range functions {
		f := reflect.ValueOf(function)
		for _, args := range argumentLists(t, f.Type()) {
			before := copies(args)
			first := resultsOf(t, name, f, args)
			again := resultsOf(t, name, f, args)
			if !reflect.DeepEqual(first, again) {
				t.Errorf("%s%v: %v, then %v", name, before, first, again)
			}
			if !reflect.DeepEqual(copies(args), before) {
				t.Errorf("%s%v modifies its arguments", name, before)
			}
		}
	}
}

// TestP1Order checks that a result does not depend on the calls before it.
func TestP1Order(t *testing.T) {
	before, _ := impl.Keystream(4711, 32)
	sum := impl.Checksum("abc")
	check := impl.CheckByte("codeword")
	parity, _ := impl.ParityOf([]string{"ab", "cd"})
	for page := range int64(50) {
		impl.Scramble(page, "other calls")
		impl.JumpLfsr(page+1, page)
		impl.Checksum(impl.EncodeUvarint(page))
		impl.DecodeErased("codeword", page, []int64{page})
		impl.Rebuild([]string{"xy", "z"}, "vw", 1)
	}
	after, _ := impl.Keystream(4711, 32)
	if before != after || sum != impl.Checksum("abc") {
		t.Error("a result depends on the calls before it")
	}
	afterwards, _ := impl.ParityOf([]string{"ab", "cd"})
	if parity != afterwards || check != impl.CheckByte("codeword") {
		t.Error("a result depends on the calls before it")
	}
}
