package tests

import (
	"math"
	"math/rand"
	"reflect"
	"slices"
	"strings"
	"testing"

	"loop.example/g00905/impl"
)

// destroyedRaw is the content of a destroyed page.
var destroyedRaw = strings.Repeat("\x00", 91)

// wipeOutcome is a result of RunWipe.
type wipeOutcome struct {
	f    impl.Flash
	w    impl.Wipe
	code int64
}

// wipeOf returns a Wipe of which nothing is done.
func wipeOf(blocks ...int64) impl.Wipe {
	return impl.Wipe{Blocks: blocks}
}

// canBeWiped reports whether a block is neither bad nor worn out.
func canBeWiped(b impl.Block) bool {
	return !b.Bad && b.Erases <= 998
}

// wantSecure returns the outcome that chapter 15 requires of SecureErase.
func wantSecure(s flashSample, block int64) outcome {
	switch {
	case !s.valid:
		return outcome{code: impl.ErrInvalid}
	case s.f.Off:
		return outcome{code: impl.ErrPower}
	case block < 0 || block >= s.f.Geo.Dies*s.f.Geo.Blocks:
		return outcome{code: impl.ErrRange}
	case !canBeWiped(s.f.Blocks[block]):
		return outcome{code: impl.ErrBad}
	}
	got := outcome{s.f, impl.OK}
	// The number of operations may wrap, and then the array is not valid any more.
	now := func() flashSample { return flashSample{s.what, got.f, got.f.Ops >= 0} }
	for page := s.f.Blocks[block].Next; page < s.f.Geo.Pages && got.code == impl.OK; page++ {
		got = wantProgram(now(), block, page, destroyedRaw)
	}
	for n := 0; n < 2 && got.code == impl.OK; n++ {
		got = wantErase(now(), block)
	}
	return got
}

// wipeIsValid reports whether w is valid for an array, by the definition of chapter 15.
func wipeIsValid(s flashSample, w impl.Wipe) bool {
	if !s.valid || w.Done < 0 || w.Done > int64(len(w.Blocks)) {
		return false
	}
	for i, block := range w.Blocks {
		if block < 0 || block > int64(len(s.f.Blocks))-1 || i > 0 && block <= w.Blocks[i-1] {
			return false
		}
	}
	return true
}

// wantRunWipe returns the outcome that chapter 15 requires of RunWipe.
func wantRunWipe(s flashSample, w impl.Wipe) wipeOutcome {
	switch {
	case !wipeIsValid(s, w):
		return wipeOutcome{code: impl.ErrInvalid}
	case s.f.Off:
		return wipeOutcome{s.f, w, impl.ErrPower}
	}
	got := wipeOutcome{s.f, w, impl.OK}
	for _, block := range w.Blocks[w.Done:] {
		next := wantSecure(flashSample{s.what, got.f, got.f.Ops >= 0}, block)
		switch next.code {
		case impl.OK, impl.ErrPower:
			got.f = next.f
		case impl.ErrInvalid:
			return wipeOutcome{code: impl.ErrInvalid}
		}
		if next.code == impl.ErrPower {
			got.code = impl.ErrPower
			return got
		}
		got.w.Done++
	}
	return got
}

// secure erases a block securely, checks promise 1 for the call, and compares the outcome with the model.
func secure(t *testing.T, s flashSample, block int64) outcome {
	t.Helper()
	got := callFlash(t, "SecureErase", impl.SecureErase, s.f, block)
	expectOutcome(t, "SecureErase, "+s.what, got, wantSecure(s, block))
	return got
}

// runWipe runs a Wipe and compares the outcome with the model.
func runWipe(t *testing.T, s flashSample, w impl.Wipe) wipeOutcome {
	t.Helper()
	var got wipeOutcome
	got.f, got.w, got.code = impl.RunWipe(s.f, w)
	want := wantRunWipe(s, w)
	if got.code != want.code || !sameArrays(got.f, want.f) || !reflect.DeepEqual(deepCopy(got.w), deepCopy(want.w)) {
		t.Fatalf("RunWipe, %s, %v: got %v and code %d, want %v and code %d, or the arrays differ", s.what, w, got.w, got.code, want.w, want.code)
	}
	return got
}

// checkWiped checks promise 26 for an array before and after a Wipe that returned OK, without a power cut
// if cuts is 0. A power cut may have worn a block out.
func checkWiped(t *testing.T, before impl.Flash, after impl.Flash, w impl.Wipe, cuts int64) {
	t.Helper()
	for i, b := range after.Blocks {
		at := slices.Index(w.Blocks, int64(i))
		switch old := before.Blocks[i]; {
		case at < int(w.Done) || !canBeWiped(old):
			if !reflect.DeepEqual(b, old) {
				t.Fatalf("block %d has changed, Wipe %v", i, w)
			}
		case old.Erases+2*cuts <= 998:
			erased := impl.Block{Erases: b.Erases, Pages: make([]string, before.Geo.Pages)}
			if !impl.IsWiped(after, int64(i)) || !reflect.DeepEqual(b, erased) || b.Erases < old.Erases+2 || b.Erases > old.Erases+2+2*cuts {
				t.Fatalf("block %d is not wiped, Wipe %v", i, w)
			}
		case !impl.IsWiped(after, int64(i)) && canBeWiped(b):
			t.Fatalf("block %d is not wiped and not worn out, Wipe %v", i, w)
		}
	}
}

// filledArray returns an array with blocks in which all numbers of pages are programmed, two bad blocks and
// blocks at the bounds of erases.
func filledArray(g impl.Geometry) impl.Flash {
	return changed(busyFlash(g), func(f *impl.Flash) {
		f.Blocks[1].Bad, f.Blocks[len(f.Blocks)-1].Bad = true, true
		for i, count := range []int64{997, 998, 999, 1000} {
			f.Blocks[2+i].Erases = count
		}
	})
}

// allFlashes returns valid and invalid arrays.
func allFlashes() []flashSample {
	list := append(validFlashes(), invalidFlashes()...)
	for _, g := range someGeometries {
		list = append(list, flashSample{"filled", filledArray(g), true})
	}
	return list
}

// someWipes are lists of blocks with numbers of blocks that are done, valid and invalid ones.
func someWipes() []impl.Wipe {
	list := []impl.Wipe{{}, {Blocks: []int64{}}, {Done: 1}, {Done: -1}}
	for _, blocks := range [][]int64{
		{0}, {7}, {8}, {-1}, {35}, {36}, {0, 7}, {0, 1, 2, 3, 4, 5, 6, 7}, {1, 8}, {0, 8}, {7, 8}, {2, 1}, {1, 1}, {0, 0}, {7, 7}, {0, 2, 1}, {0, 1, 1}, {5, 5, 6}, {-1, 0}, {-2, -1},
		{0, 1, 2, 3, 4, 5, 6, 7, 8}, {math.MinInt64, 0}, {0, math.MaxInt64}, {math.MaxInt64}, {math.MinInt64, math.MaxInt64}, {math.MaxInt64, math.MinInt64}, {3, 4, 1 << 32}, {1, 35}, {1, 36},
	} {
		n := int64(len(blocks))
		for _, done := range []int64{0, 1, n - 1, n, n + 1, -1, math.MinInt64, math.MaxInt64} {
			list = append(list, impl.Wipe{Blocks: blocks, Done: done})
		}
	}
	return list
}

// TestP26SecureErase erases all blocks of all arrays securely.
func TestP26SecureErase(t *testing.T) {
	for _, s := range allFlashes() {
		for _, block := range around(int64(len(s.f.Blocks))) {
			got := secure(t, s, block)
			if got.code == impl.OK && got.f.Ops >= 0 {
				checkWiped(t, s.f, got.f, wipeOf(block), 0)
				expect(t, "operations", got.f.Ops-s.f.Ops, s.f.Geo.Pages-s.f.Blocks[block].Next+2)
			}
		}
	}
}

// TestP26SecureExamples has blocks at the bounds of erases, and calls to which two errors apply.
func TestP26SecureExamples(t *testing.T) {
	f := changed(emptyFlash(smallGeometry), func(f *impl.Flash) {
		f.Blocks[3].Next = 3
		copy(f.Blocks[3].Pages, []string{rawSample(1), rawSample(2), rawSample(3)})
	})
	got := secure(t, flashSample{"example", f, true}, 3)
	expect(t, "code of the example", got.code, impl.OK)
	expect(t, "operations of the example", got.f.Ops, 7)
	expect(t, "erases of the example", got.f.Blocks[3].Erases, 2)
	codeOf := func(what string, block int64, change func(*impl.Flash)) int64 {
		t.Helper()
		return secure(t, flashSample{what, changed(f, change), true}, block).code
	}
	for erases, want := range map[int64]int64{997: impl.OK, 998: impl.OK, 999: impl.ErrBad, 1000: impl.ErrBad} {
		expect(t, "code at the bounds of erases", codeOf("erases", 3, func(f *impl.Flash) { f.Blocks[3].Erases = erases }), want)
		expect(t, "code if another block is worn", codeOf("erases", 3, func(f *impl.Flash) { f.Blocks[4].Erases = erases }), impl.OK)
	}
	expect(t, "code of a bad block", codeOf("bad", 3, func(f *impl.Flash) { f.Blocks[3].Bad = true }), impl.ErrBad)
	expect(t, "code beside a bad block", codeOf("bad", 3, func(f *impl.Flash) { f.Blocks[2].Bad = true }), impl.OK)
	expect(t, "code of an array that is off, no such block", codeOf("off", 8, func(f *impl.Flash) { f.Off = true }), impl.ErrPower)
	expect(t, "code of an array that is off, bad block", codeOf("off", 3, func(f *impl.Flash) { f.Off, f.Blocks[3].Bad = true, true }), impl.ErrPower)
	expect(t, "code of a bad block that is about to be cut", codeOf("cut", 3, func(f *impl.Flash) { f.Fuse, f.Blocks[3].Bad = 0, true }), impl.ErrBad)
	for _, block := range []int64{-1, 8, math.MinInt64, math.MaxInt64} {
		expect(t, "code of a block beside the array", codeOf("range", block, func(*impl.Flash) {}), impl.ErrRange)
	}
	invalid := changed(f, func(f *impl.Flash) { f.Keep, f.Off = 92, true })
	expect(t, "code of an invalid array that is off, no such block", secure(t, flashSample{"invalid", invalid, false}, 8).code, impl.ErrInvalid)
}

// TestP26SecureCuts cuts the power in each operation of a secure erase, with all numbers of bytes kept, and
// completes the erase after the power is on again.
func TestP26SecureCuts(t *testing.T) {
	for _, g := range []impl.Geometry{smallGeometry, {Dies: 2, Blocks: 4, Pages: 16}} {
		f := filledArray(g)
		f.Blocks[0].Erases = 990
		for _, block := range []int64{0, 2, 3, 6} {
			operations := g.Pages - f.Blocks[block].Next + 2
			for fuse := range operations + 2 {
				for keep := range int64(92) {
					before := changed(f, func(f *impl.Flash) { f.Fuse, f.Keep = fuse, keep })
					got := secure(t, flashSample{"cut", before, true}, block)
					if fuse >= operations {
						expect(t, "code if the power is cut later", got.code, impl.OK)
						expect(t, "Fuse if the power is cut later", got.f.Fuse, fuse-operations)
						continue
					}
					expect(t, "code if the power is cut", got.code, impl.ErrPower)
					expect(t, "Off", got.f.Off, true)
					expect(t, "operations", got.f.Ops, f.Ops+fuse+1)
					for i := range f.Blocks {
						if i != int(block) && !reflect.DeepEqual(got.f.Blocks[i], f.Blocks[i]) {
							t.Fatalf("block %d has changed, too", i)
						}
					}
					again := secure(t, flashSample{"continued", impl.PowerOn(got.f), true}, block)
					if again.code == impl.OK {
						expect(t, "IsWiped", impl.IsWiped(again.f, block), true)
					} else {
						expect(t, "worn out", !canBeWiped(got.f.Blocks[block]), true)
					}
				}
			}
		}
	}
}

// TestP26IsWiped looks at all blocks of all arrays.
func TestP26IsWiped(t *testing.T) {
	for _, s := range allFlashes() {
		for _, block := range around(int64(len(s.f.Blocks))) {
			want := s.valid && block >= 0 && block < int64(len(s.f.Blocks))
			if want {
				b := s.f.Blocks[block]
				want = b.Next == 0 && strings.Join(b.Pages, "") == ""
			}
			expect(t, "IsWiped, "+s.what, impl.IsWiped(s.f, block), want)
		}
	}
	f := emptyFlash(smallGeometry)
	for block := range int64(8) {
		expect(t, "IsWiped of a new array", impl.IsWiped(f, block), true)
		for _, next := range []int64{1, 7, 8} {
			empty := changed(f, func(f *impl.Flash) { f.Blocks[block].Next = next })
			expect(t, "IsWiped of a block without pages whose Next is not 0", impl.IsWiped(empty, block), false)
			expect(t, "IsWiped of another block", impl.IsWiped(empty, (block+1)%8), true)
		}
	}
	expect(t, "IsWiped of a block beside the array", impl.IsWiped(f, 8), false)
	expect(t, "IsWiped of a negative block", impl.IsWiped(f, -1), false)
	off := changed(f, func(f *impl.Flash) { f.Off, f.Blocks[0].Bad = true, true })
	expect(t, "IsWiped of a bad block of an array that is off", impl.IsWiped(off, 0), true)
	expect(t, "IsWiped of an invalid array", impl.IsWiped(changed(f, func(f *impl.Flash) { f.Ops = -1 }), 0), false)
}

func TestP26ValidWipe(t *testing.T) {
	for _, s := range allFlashes() {
		for _, w := range someWipes() {
			expect(t, "ValidWipe, "+s.what, impl.ValidWipe(s.f, w), wipeIsValid(s, w))
		}
	}
	f := emptyFlash(smallGeometry)
	expect(t, "ValidWipe of the example", impl.ValidWipe(f, wipeOf(1, 8)), false)
	expect(t, "ValidWipe of the last block", impl.ValidWipe(f, wipeOf(1, 7)), true)
	expect(t, "ValidWipe of a list that is not increasing", impl.ValidWipe(f, wipeOf(2, 1)), false)
	expect(t, "ValidWipe of a block twice", impl.ValidWipe(f, wipeOf(1, 1)), false)
	for done, want := range map[int64]bool{-1: false, 0: true, 1: true, 2: true, 3: false} {
		expect(t, "ValidWipe at the bounds of Done", impl.ValidWipe(f, impl.Wipe{Blocks: []int64{1, 7}, Done: done}), want)
	}
}

// TestP26RunWipe runs valid and invalid lists on all arrays.
func TestP26RunWipe(t *testing.T) {
	for _, s := range allFlashes() {
		for _, w := range someWipes() {
			got := runWipe(t, s, w)
			if got.code == impl.OK && got.f.Ops >= 0 {
				checkWiped(t, s.f, got.f, w, 0)
				expect(t, "Done", got.w.Done, int64(len(w.Blocks)))
			}
		}
	}
}

// TestP26RunExamples has lists of which nothing is left to do, and calls to which two errors apply.
func TestP26RunExamples(t *testing.T) {
	f := filledArray(smallGeometry)
	all := wipeOf(0, 1, 2, 3, 4, 5, 6, 7)
	got := runWipe(t, flashSample{"all blocks", f, true}, all)
	expect(t, "code of all blocks", got.code, impl.OK)
	expect(t, "Done of all blocks", got.w.Done, 8)
	var wiped []int64
	for block := range int64(8) {
		if impl.IsWiped(got.f, block) {
			wiped = append(wiped, block)
		}
	}
	expectList(t, "wiped blocks", wiped, []int64{0, 2, 3, 6})
	done := impl.Wipe{Blocks: all.Blocks, Done: 8}
	expect(t, "operations if all is done", runWipe(t, flashSample{"done", f, true}, done).f.Ops, f.Ops)
	off := flashSample{"off", changed(f, func(f *impl.Flash) { f.Off, f.Fuse, f.Keep = true, 5, 7 }), true}
	for _, w := range []impl.Wipe{{}, all, done, wipeOf(1), wipeOf(4, 5)} {
		got := runWipe(t, off, w)
		expect(t, "code of an array that is off", got.code, impl.ErrPower)
		expect(t, "Done of an array that is off", got.w.Done, w.Done)
		expect(t, "the array is unchanged", sameArrays(got.f, off.f), true)
	}
	expect(t, "code of an invalid list, array that is off", runWipe(t, off, wipeOf(3, 3)).code, impl.ErrInvalid)
	cut := flashSample{"cut", changed(f, func(f *impl.Flash) { f.Fuse = 0 }), true}
	expect(t, "code of bad and worn-out blocks, about to be cut", runWipe(t, cut, wipeOf(1, 4, 5, 7)).code, impl.OK)
	expect(t, "code of a good block behind them", runWipe(t, cut, wipeOf(1, 4, 5, 6, 7)).code, impl.ErrPower)
	expect(t, "Done of a good block behind them", runWipe(t, cut, wipeOf(1, 4, 5, 6, 7)).w.Done, 3)
	second := flashSample{"cut in the second block", changed(emptyFlash(smallGeometry), func(f *impl.Flash) { f.Fuse = 12 }), true}
	expect(t, "Done of the example", runWipe(t, second, wipeOf(0, 2)).w.Done, 1)
}

// wipeWithCuts runs a Wipe with power cuts behind so many operations, each after the power is on again, and
// then completes it. It returns the number of cuts.
func wipeWithCuts(t *testing.T, f impl.Flash, w impl.Wipe, keep int64, fuses ...int64) int64 {
	t.Helper()
	now, cuts := wipeOutcome{f, w, impl.OK}, int64(0)
	for _, fuse := range fuses {
		on, code := impl.ArmFuse(now.f, fuse, keep)
		expect(t, "code of ArmFuse", code, impl.OK)
		next := runWipe(t, flashSample{"cut", on, true}, now.w)
		if next.code == impl.OK {
			break
		}
		cuts++
		expect(t, "code of a power cut", next.code, impl.ErrPower)
		expect(t, "Off after a power cut", next.f.Off, true)
		expect(t, "Done does not decrease", next.w.Done >= now.w.Done, true)
		for _, block := range w.Blocks[w.Done:next.w.Done] {
			b := next.f.Blocks[block]
			expect(t, "a block that is done is wiped, bad or worn out", impl.IsWiped(next.f, block) || !canBeWiped(b), true)
		}
		unchanged := runWipe(t, flashSample{"off", next.f, true}, next.w)
		expect(t, "code before the power is on", unchanged.code, impl.ErrPower)
		next.f = impl.PowerOn(next.f)
		now = next
	}
	now.f = impl.PowerOn(now.f)
	last := runWipe(t, flashSample{"continued", now.f, true}, now.w)
	expect(t, "code of the continued Wipe", last.code, impl.OK)
	expect(t, "Done of the continued Wipe", last.w.Done, int64(len(w.Blocks)))
	checkWiped(t, f, last.f, w, cuts)
	return cuts
}

// TestP26Cuts cuts the power in each operation of a Wipe with good, bad and worn-out blocks, with every kind
// of bytes kept.
func TestP26Cuts(t *testing.T) {
	for _, g := range []impl.Geometry{smallGeometry, {Dies: 2, Blocks: 4, Pages: 16}} {
		f := filledArray(g)
		w := impl.Wipe{Blocks: []int64{0, 1, 2, 3, 4, 5, 6}, Done: 0}
		operations := runWipe(t, flashSample{"without cuts", f, true}, w).f.Ops - f.Ops
		for _, keep := range someKeeps {
			t.Run("", func(t *testing.T) {
				t.Parallel()
				for fuse := range operations {
					expect(t, "cuts", wipeWithCuts(t, f, w, keep, fuse), 1)
				}
				expect(t, "cuts behind the last operation", wipeWithCuts(t, f, w, keep, operations), 0)
				later := impl.Wipe{Blocks: w.Blocks, Done: 3}
				for fuse := range int64(6) {
					wipeWithCuts(t, f, later, keep, fuse)
				}
			})
		}
	}
}

// TestP26RepeatedCuts cuts the power in each operation of a Wipe and again in each operation after it.
func TestP26RepeatedCuts(t *testing.T) {
	f := filledArray(smallGeometry)
	w := wipeOf(0, 1, 3, 5, 6)
	operations := runWipe(t, flashSample{"without cuts", f, true}, w).f.Ops - f.Ops
	for _, keep := range someKeeps {
		t.Run("", func(t *testing.T) {
			t.Parallel()
			for fuse := range operations {
				for second := range operations {
					wipeWithCuts(t, f, w, keep, fuse, second)
				}
			}
			r := rand.New(rand.NewSource(154 + keep))
			for range 60 {
				var fuses []int64
				for range 3 + r.Intn(20) {
					fuses = append(fuses, r.Int63n(4))
				}
				wipeWithCuts(t, f, w, keep, fuses...)
			}
		})
	}
}

// TestP26WornOut cuts the power in erases until the block is worn out: then it counts as done.
func TestP26WornOut(t *testing.T) {
	f := changed(emptyFlash(smallGeometry), func(f *impl.Flash) { f.Blocks[2].Erases, f.Blocks[2].Next = 990, 8 })
	w := wipeOf(2, 5)
	now := wipeOutcome{f, w, impl.OK}
	for n := range int64(9) {
		on, _ := impl.ArmFuse(now.f, 0, 3)
		now = runWipe(t, flashSample{"cut", on, true}, now.w)
		expect(t, "code of a power cut in an erase", now.code, impl.ErrPower)
		expect(t, "erases after power cuts", now.f.Blocks[2].Erases, 991+n)
		now.f = impl.PowerOn(now.f)
	}
	last := runWipe(t, flashSample{"worn out", now.f, true}, now.w)
	expect(t, "code of a block that was worn out", last.code, impl.OK)
	expect(t, "IsWiped of the block that was worn out", impl.IsWiped(last.f, 2), false)
	expect(t, "IsWiped of the next block", impl.IsWiped(last.f, 5), true)
	expect(t, "erases of the next block", last.f.Blocks[5].Erases, 2)
}
