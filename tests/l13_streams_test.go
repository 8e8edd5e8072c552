package tests

import (
	"math"
	"math/rand"
	"reflect"
	"slices"
	"testing"

	"loop.example/g00905/impl"
)

// heatSample is a value of write counters, whether it is valid, and what is special about it.
type heatSample struct {
	what  string
	h     impl.Heat
	valid bool
}

// heatOutcome is a result of a function that returns counters and a code.
type heatOutcome struct {
	h    impl.Heat
	code int64
}

// heatOf returns counters after so many writes.
func heatOf(writes int64, counts ...int64) impl.Heat {
	return impl.Heat{Counts: counts, Writes: writes}
}

// evenHeat returns counters of so many logical pages with the same count.
func evenHeat(logical int, count int64, writes int64) impl.Heat {
	return heatOf(writes, slices.Repeat([]int64{count}, logical)...)
}

// heatIsValid reports whether h is valid, by the definition of chapter 13.
func heatIsValid(h impl.Heat) bool {
	for _, count := range h.Counts {
		if count < 0 || count > 1000000 {
			return false
		}
	}
	return len(h.Counts) > 0 && len(h.Counts) <= 48 && h.Writes >= 0 && h.Writes <= 15
}

// wantHot reports whether chapter 13 requires that a logical page is hot.
func wantHot(h impl.Heat, lpn int64) bool {
	if !heatIsValid(h) || lpn < 0 || lpn > int64(len(h.Counts))-1 {
		return false
	}
	bound := int64(0)
	for _, count := range h.Counts {
		bound += 2 * count
	}
	return h.Counts[lpn]*int64(len(h.Counts)) > bound
}

// wantHotPages returns the result that chapter 13 requires of HotPages.
func wantHotPages(h impl.Heat) []int64 {
	var list []int64
	for lpn := range int64(len(h.Counts)) {
		if wantHot(h, lpn) {
			list = append(list, lpn)
		}
	}
	return list
}

// wantDecay returns the result that chapter 13 requires of DecayHeat.
func wantDecay(h impl.Heat) impl.Heat {
	if !heatIsValid(h) {
		return impl.Heat{}
	}
	var out impl.Heat
	for _, count := range h.Counts {
		out.Counts = append(out.Counts, count>>1)
	}
	return out
}

// wantNote returns the outcome that chapter 13 requires of NoteWrite.
func wantNote(h impl.Heat, lpn int64) heatOutcome {
	switch {
	case !heatIsValid(h):
		return heatOutcome{code: impl.ErrInvalid}
	case lpn < 0 || lpn > int64(len(h.Counts))-1:
		return heatOutcome{code: impl.ErrRange}
	}
	out := deepCopy(h)
	if out.Counts[lpn] != 1000000 {
		out.Counts[lpn]++
	}
	if out.Writes++; out.Writes == 16 {
		out = wantDecay(heatOf(0, out.Counts...))
	}
	return heatOutcome{out, impl.OK}
}

// sameHeats reports whether two values are deeply equal, without the package.
func sameHeats(a impl.Heat, b impl.Heat) bool {
	return reflect.DeepEqual(deepCopy(a), deepCopy(b))
}

// expectHeat ends the test if an outcome differs from the wanted one.
func expectHeat(t *testing.T, what string, got heatOutcome, want heatOutcome) {
	t.Helper()
	if got.code != want.code || !sameHeats(got.h, want.h) {
		t.Fatalf("%s: got %+v, want %+v", what, got, want)
	}
}

// note counts a write and checks the outcome.
func note(t *testing.T, h impl.Heat, lpn int64) heatOutcome {
	t.Helper()
	out, code := impl.NoteWrite(h, lpn)
	got := heatOutcome{out, code}
	expectHeat(t, "NoteWrite", got, wantNote(h, lpn))
	return got
}

// checkHot compares which pages are hot with the definitions, and checks promise 22.
func checkHot(t *testing.T, what string, h impl.Heat) {
	t.Helper()
	logical := int64(len(h.Counts))
	list := impl.HotPages(h)
	if want := wantHotPages(h); !slices.Equal(list, want) {
		t.Fatalf("HotPages, %s: got %v, want %v: %+v", what, list, want, h)
	}
	if heatIsValid(h) && 2*int64(len(list)) >= logical {
		t.Fatalf("%s: not fewer than half of the pages are hot: %v of %+v", what, list, h)
	}
	for _, lpn := range slices.Concat(around(logical), []int64{logical + 1, 47, 48, 49}) {
		want, stream := wantHot(h, lpn), int64(impl.StreamCold)
		if want {
			stream = impl.StreamHot
		}
		if impl.IsHot(h, lpn) != want || impl.StreamOf(h, lpn) != stream {
			t.Fatalf("%s: page %d: IsHot %v, StreamOf %d: %+v", what, lpn, !want, impl.StreamOf(h, lpn), h)
		}
	}
}

// randomHeat returns valid counters, often with few different counts.
func randomHeat(r *rand.Rand, logical int) impl.Heat {
	h := evenHeat(logical, 0, r.Int63n(16))
	greatest := []int64{1, 3, 40, 1000000}[r.Intn(4)]
	for i := range h.Counts {
		h.Counts[i] = max(0, r.Int63n(2*greatest+1)-greatest)
	}
	return h
}

// validHeats returns counters of the least and the greatest numbers of pages, with counts and writes
// at their bounds.
func validHeats() []heatSample {
	r := rand.New(rand.NewSource(131))
	list := []heatSample{
		{"example of HotPages", heatOf(4, 3, 1, 0, 0), true},
		{"exactly at the bound", heatOf(4, 2, 1, 1, 0), true},
		{"just above the bound", heatOf(4, 3, 1, 1, 0), true},
		{"one page", heatOf(0, 0), true},
		{"one page with the greatest count", heatOf(15, 1000000), true},
		{"two pages", heatOf(15, 1000000, 0), true},
		{"two other pages", heatOf(15, 0, 999999), true},
		{"odd and even counts", heatOf(15, 0, 1, 2, 3, 4, 5, 999998, 999999, 1000000), true},
	}
	for _, logical := range []int{1, 2, 3, 4, 47, 48} {
		for _, writes := range []int64{0, 1, 7, 14, 15} {
			list = append(list, heatSample{"no counts", evenHeat(logical, 0, writes), true}, heatSample{"greatest counts", evenHeat(logical, 1000000, writes), true})
			last := evenHeat(logical, 0, writes)
			last.Counts[logical-1] = 1000000
			list = append(list, heatSample{"last page", last, true}, heatSample{"random", randomHeat(r, logical), true})
		}
	}
	return list
}

// invalidHeats returns counters that are invalid for one reason each.
func invalidHeats() []heatSample {
	list := []heatSample{{"zero", impl.Heat{}, false}, {"no pages", heatOf(3, []int64{}...), false}}
	for _, logical := range []int{49, 50, 96, 640, 1000} {
		list = append(list, heatSample{"too many pages", evenHeat(logical, 0, 0), false}, heatSample{"too many pages with counts", evenHeat(logical, 5, 15), false})
	}
	for _, n := range slices.Concat(farInts, []int64{-1, 1000001}) {
		for i := range 4 {
			h := heatOf(4, 3, 1, 0, 0)
			h.Counts[i] = n
			list = append(list, heatSample{"count", h, false})
		}
		list = append(list, heatSample{"count of the only page", heatOf(0, n), false})
	}
	for _, n := range slices.Concat(farInts, []int64{-16, -1, 16, 17, 31, 32, 256}) {
		list = append(list, heatSample{"writes", heatOf(n, 3, 1, 0, 0), false}, heatSample{"writes without counts", evenHeat(48, 0, n), false})
	}
	return list
}

// allHeats returns valid and invalid counters.
func allHeats() []heatSample {
	return append(validHeats(), invalidHeats()...)
}

func TestP22Constants(t *testing.T) {
	got := [4]int64{impl.HeatPeriod, impl.MaxHeat, impl.StreamCold, impl.StreamHot}
	expect(t, "constants of chapter 13", got, [4]int64{16, 1000000, 0, 1})
}

func TestP22ValidHeat(t *testing.T) {
	for _, s := range allHeats() {
		expect(t, "definition of valid counters, "+s.what, heatIsValid(s.h), s.valid)
		expect(t, "ValidHeat, "+s.what, impl.ValidHeat(s.h), s.valid)
	}
}

// TestP22ValidChanges changes each field of valid counters.
func TestP22ValidChanges(t *testing.T) {
	check := func(h impl.Heat) {
		if got, want := impl.ValidHeat(h), heatIsValid(h); got != want {
			t.Fatalf("ValidHeat(%+v) = %v", h, got)
		}
	}
	for _, s := range validHeats() {
		for _, n := range append(around(50), 999999, 1000000, 1000001) {
			check(heatOf(n, s.h.Counts...))
			check(heatOf(s.h.Writes, append(slices.Clone(s.h.Counts), n)...))
			for i := range s.h.Counts {
				h := deepCopy(s.h)
				h.Counts[i] = n
				check(h)
			}
		}
		for size := range len(s.h.Counts) {
			check(heatOf(s.h.Writes, s.h.Counts[:size]...))
		}
	}
	for logical := range 60 {
		check(evenHeat(logical, 0, 0))
	}
}

func TestP22SameHeat(t *testing.T) {
	samples := allHeats()
	for i, a := range samples {
		expect(t, "SameHeat of a copy", impl.SameHeat(a.h, deepCopy(a.h)), true)
		for _, b := range samples[:i] {
			want := sameHeats(a.h, b.h)
			expect(t, "SameHeat", impl.SameHeat(a.h, b.h), want)
			expect(t, "SameHeat", impl.SameHeat(b.h, a.h), want)
		}
	}
	h := heatOf(4, 3, 1, 0, 0)
	for _, other := range []impl.Heat{heatOf(5, 3, 1, 0, 0), heatOf(0, 3, 1, 0, 0), heatOf(4, 1, 3, 0, 0), heatOf(4, 3, 1, 0), heatOf(4, 3, 1, 0, 0, 0), heatOf(4, 3, 1, 0, 1), heatOf(4, 4, 1, 0, 0), heatOf(4)} {
		expect(t, "SameHeat of other counters", impl.SameHeat(h, other), false)
		expect(t, "SameHeat of other counters", impl.SameHeat(other, h), false)
	}
	expect(t, "SameHeat of nil and empty counts", impl.SameHeat(heatOf(3), impl.Heat{Counts: []int64{}, Writes: 3}), true)
	expect(t, "SameHeat of empty and nil counts", impl.SameHeat(impl.Heat{Counts: []int64{}, Writes: 3}, heatOf(3)), true)
}

func TestP22NewHeat(t *testing.T) {
	for _, logical := range append(around(60), 96, 640) {
		want := heatOutcome{code: impl.ErrRange}
		if logical >= 1 && logical <= 48 {
			want = heatOutcome{evenHeat(int(logical), 0, 0), impl.OK}
		}
		h, code := impl.NewHeat(logical)
		expectHeat(t, "NewHeat", heatOutcome{h, code}, want)
		expect(t, "ValidHeat of NewHeat", impl.ValidHeat(h), code == impl.OK)
		expectList(t, "HotPages of NewHeat", impl.HotPages(h), nil)
	}
}

func TestP22NoteWrite(t *testing.T) {
	for _, s := range allHeats() {
		logical := int64(len(s.h.Counts))
		for _, lpn := range slices.Concat(around(min(logical, 60)), []int64{logical + 1, 47, 48, 49}) {
			got := note(t, s.h, lpn)
			expect(t, "ValidHeat of NoteWrite, "+s.what, impl.ValidHeat(got.h), got.code == impl.OK)
		}
	}
	for _, s := range validHeats()[:12] {
		for lpn := range int64(5) {
			callPurely(t, "NoteWrite", reflect.ValueOf(impl.NoteWrite), []reflect.Value{reflect.ValueOf(s.h), reflect.ValueOf(lpn)})
		}
	}
}

// TestP22NoteErrors combines the reasons of errors: the first one of them is returned.
func TestP22NoteErrors(t *testing.T) {
	for _, n := range append(farInts, -1, 4, 5, 48) {
		expect(t, "code of NoteWrite of no page", note(t, heatOf(4, 3, 1, 0, 0), n).code, impl.ErrRange)
		expect(t, "code of NoteWrite of no page as the sixteenth write", note(t, heatOf(15, 3, 1, 0, 0), n).code, impl.ErrRange)
		for _, s := range invalidHeats() {
			expect(t, "code of NoteWrite of no page with invalid counters", note(t, s.h, n).code, impl.ErrInvalid)
		}
	}
	for _, s := range invalidHeats() {
		expect(t, "code of NoteWrite with invalid counters, "+s.what, note(t, s.h, 0).code, impl.ErrInvalid)
	}
	expect(t, "code of NoteWrite of the last page", note(t, evenHeat(48, 0, 0), 47).code, impl.OK)
	expect(t, "code of NoteWrite behind the last page", note(t, evenHeat(48, 0, 0), 48).code, impl.ErrRange)
	expect(t, "code of NoteWrite behind the only page", note(t, heatOf(0, 0), 1).code, impl.ErrRange)
}

// TestP22Period writes a page as often as a period has writes, and some times more.
func TestP22Period(t *testing.T) {
	h, _ := impl.NewHeat(4)
	want := []int64{1, 2, 3, 4, 5, 6, 7, 8, 9, 10, 11, 12, 13, 14, 15, 8, 9, 10, 11, 12, 13, 14, 15, 16, 17, 18, 19, 20, 21, 22, 23, 12, 13}
	for i, count := range want {
		h = note(t, h, 0).h
		expectHeat(t, "counters of a page that is written again and again", heatOutcome{h, impl.OK}, heatOutcome{heatOf(int64(i+1)%16, count, 0, 0, 0), impl.OK})
	}
	// Rounding down keeps the count at 15 from some decay on: the half of 31.
	for range 200 * 16 {
		h = note(t, h, 0).h
	}
	expectHeat(t, "counters after many writes", heatOutcome{h, impl.OK}, heatOutcome{heatOf(1, 16, 0, 0, 0), impl.OK})
}

// TestP22Sixteenth makes the sixteenth write with even and odd counts and with greatest ones.
func TestP22Sixteenth(t *testing.T) {
	cases := []struct {
		lpn           int64
		before, after []int64
	}{
		{0, []int64{4, 6, 7, 1, 0}, []int64{2, 3, 3, 0, 0}},
		{0, []int64{5, 6, 7, 1, 0}, []int64{3, 3, 3, 0, 0}},
		{4, []int64{5, 6, 7, 1, 0}, []int64{2, 3, 3, 0, 0}},
		{3, []int64{5, 6, 7, 1, 0}, []int64{2, 3, 3, 1, 0}},
		{0, []int64{1000000, 1000000, 999999}, []int64{500000, 500000, 499999}},
		{2, []int64{1000000, 1000000, 999999}, []int64{500000, 500000, 500000}},
		{2, []int64{1000000, 1, 999998}, []int64{500000, 0, 499999}},
		{0, []int64{0}, []int64{0}},
		{0, []int64{1}, []int64{1}},
		{0, []int64{1000000}, []int64{500000}},
	}
	for _, c := range cases {
		got := note(t, heatOf(15, c.before...), c.lpn)
		expectHeat(t, "counters after the sixteenth write", got, heatOutcome{heatOf(0, c.after...), impl.OK})
		got = note(t, heatOf(14, c.before...), c.lpn)
		expect(t, "Writes after the fifteenth write", got.h.Writes, 15)
	}
}

// TestP22Greatest writes a page with the greatest count: the write is counted, but not for the page.
func TestP22Greatest(t *testing.T) {
	for writes := range int64(15) {
		got := note(t, heatOf(writes, 1000000, 5, 999999), 0)
		expectHeat(t, "write of a page with the greatest count", got, heatOutcome{heatOf(writes+1, 1000000, 5, 999999), impl.OK})
		got = note(t, heatOf(writes, 1000000, 5, 999999), 2)
		expectHeat(t, "write of a page with almost the greatest count", got, heatOutcome{heatOf(writes+1, 1000000, 5, 1000000), impl.OK})
	}
}

// TestP22Walk writes random pages, some of them more often than others.
func TestP22Walk(t *testing.T) {
	r := rand.New(rand.NewSource(132))
	for _, logical := range []int64{1, 2, 3, 8, 47, 48} {
		h, _ := impl.NewHeat(logical)
		for step := range 600 {
			lpn := r.Int63n(1 + r.Int63n(logical))
			h = note(t, h, lpn).h
			expect(t, "Writes of a walk", h.Writes, int64(step+1)%16)
			checkHot(t, "walk", h)
		}
	}
}

func TestP22DecayHeat(t *testing.T) {
	for _, s := range allHeats() {
		results := callPurely(t, "DecayHeat", reflect.ValueOf(impl.DecayHeat), []reflect.Value{reflect.ValueOf(s.h)})
		got := results[0].Interface().(impl.Heat)
		expectHeat(t, "DecayHeat, "+s.what, heatOutcome{got, impl.OK}, heatOutcome{wantDecay(s.h), impl.OK})
		expect(t, "ValidHeat of DecayHeat, "+s.what, impl.ValidHeat(got), s.valid)
	}
	cases := [][2]impl.Heat{
		{heatOf(4, 8, 7, 1, 0), heatOf(0, 4, 3, 0, 0)}, {heatOf(15, 1000000, 999999), heatOf(0, 500000, 499999)}, {heatOf(0, 1), heatOf(0, 0)},
		{heatOf(15, 0, 0), heatOf(0, 0, 0)}, {heatOf(16, 8, 7), {}}, {heatOf(-1, 8, 7), {}}, {heatOf(3, 8, -1), {}}, {heatOf(3, 1000001, 8), {}}, {heatOf(3), {}},
	}
	for _, c := range cases {
		expectHeat(t, "DecayHeat", heatOutcome{impl.DecayHeat(c[0]), impl.OK}, heatOutcome{c[1], impl.OK})
	}
}

func TestP22Hot(t *testing.T) {
	for _, s := range allHeats() {
		checkHot(t, s.what, s.h)
	}
	h := heatOf(4, 3, 1, 0, 0)
	expectList(t, "HotPages of the example", impl.HotPages(h), []int64{0})
	expect(t, "StreamOf of the hot page", impl.StreamOf(h, 0), impl.StreamHot)
	expect(t, "StreamOf of a cold page", impl.StreamOf(h, 1), impl.StreamCold)
	for _, lpn := range []int64{math.MinInt64, -1, 4, 5, 48, 1 << 32, math.MaxInt64} {
		expect(t, "IsHot of no page", impl.IsHot(h, lpn), false)
		expect(t, "StreamOf of no page", impl.StreamOf(h, lpn), impl.StreamCold)
	}
	for _, s := range invalidHeats() {
		expect(t, "IsHot with invalid counters, "+s.what, impl.IsHot(s.h, 0), false)
		expectList(t, "HotPages with invalid counters, "+s.what, impl.HotPages(s.h), nil)
	}
}

// TestP22SmallCounts compares which pages are hot for all small counts of up to five pages.
func TestP22SmallCounts(t *testing.T) {
	all := 1
	for logical := 1; logical <= 5; logical++ {
		all *= 6
		for n := range all {
			h := evenHeat(logical, 0, 0)
			for i := range h.Counts {
				h.Counts[i] = int64(n % 6)
				n /= 6
			}
			checkHot(t, "small counts", h)
		}
	}
}

// TestP22Bound has pages exactly at the bound of being hot, and a write above and below it.
func TestP22Bound(t *testing.T) {
	for logical := int64(3); logical <= 48; logical++ {
		for _, half := range []int64{1, 5, 1000000 / logical / 2} {
			h := evenHeat(int(logical), 0, 0)
			h.Counts[0], h.Counts[logical-1] = 2*half, half*(logical-2)
			expect(t, "count at the bound", h.Counts[0]*logical, 2*(h.Counts[0]+h.Counts[logical-1]))
			checkHot(t, "at the bound", h)
			expect(t, "IsHot at the bound", impl.IsHot(h, 0), false)
			h.Counts[0]++
			checkHot(t, "above the bound", h)
			expect(t, "IsHot above the bound", impl.IsHot(h, 0), true)
			h.Counts[0] -= 2
			checkHot(t, "below the bound", h)
			expect(t, "IsHot below the bound", impl.IsHot(h, 0), false)
		}
	}
}

// TestP22Most makes as many pages hot as can be: one more would be half of them, and then none is hot.
func TestP22Most(t *testing.T) {
	for logical := 1; logical <= 48; logical++ {
		for _, count := range []int64{1, 7, 1000000} {
			for hot := 0; hot <= logical; hot++ {
				h := evenHeat(logical, 0, 0)
				for i := range hot {
					h.Counts[logical-1-i] = count
				}
				want := hot
				if 2*hot >= logical {
					want = 0
				}
				checkHot(t, "equally often written pages", h)
				expect(t, "number of hot pages", len(impl.HotPages(h)), want)
			}
		}
	}
}

func TestP22RandomHot(t *testing.T) {
	r := rand.New(rand.NewSource(133))
	for range 5000 {
		checkHot(t, "random counts", randomHeat(r, 1+r.Intn(48)))
	}
}
