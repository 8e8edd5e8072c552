package tests

import (
	"math"
	"math/rand"
	"slices"
	"testing"

	"loop.example/g00905/impl"
)

// The tests of this file are part of promise 23: chapter 14 chooses its blocks with these functions of
// chapter 12.

// isGoodBlock reports whether a block is good, by the definition of chapter 12.
func isGoodBlock(bad []bool, block int) bool {
	return block >= len(bad) || !bad[block]
}

// wantPickFree returns the result that chapter 12 requires of PickFree: no other free block is better,
// and none of those that are as good is smaller.
func wantPickFree(erases []int64, free []int64, hot bool) int64 {
	picked := int64(-1)
	for _, block := range free {
		if block < 0 || block > int64(len(erases))-1 {
			return -1
		}
		switch {
		case picked == -1, hot && erases[block] < erases[picked], !hot && erases[block] > erases[picked]:
			picked = block
		case erases[block] == erases[picked] && block < picked:
			picked = block
		}
	}
	return picked
}

// wantGap returns the result that chapter 12 requires of WearGap: the greatest difference of two good
// blocks.
func wantGap(erases []int64, bad []bool) int64 {
	gap := int64(0)
	for _, count := range erases {
		if count < 0 || count > 1000 {
			return 0
		}
	}
	for i, a := range erases {
		for j, b := range erases {
			if isGoodBlock(bad, i) && isGoodBlock(bad, j) {
				gap = max(gap, a-b)
			}
		}
	}
	return gap
}

// wantStatic returns the result that chapter 12 requires of PickStatic.
func wantStatic(erases []int64, bad []bool, exclude []int64) int64 {
	picked := -1
	for i, count := range erases {
		if isGoodBlock(bad, i) && !slices.Contains(exclude, int64(i)) && (picked < 0 || count < erases[picked]) {
			picked = i
		}
	}
	return int64(picked)
}

// checkWear compares the functions of one list of erase counts with the definitions.
func checkWear(t *testing.T, erases []int64, bad []bool, blocks []int64) {
	t.Helper()
	for _, hot := range []bool{false, true} {
		if got, want := impl.PickFree(erases, blocks, hot), wantPickFree(erases, blocks, hot); got != want {
			t.Fatalf("PickFree(%v, %v, %v) = %d, want %d", erases, blocks, hot, got, want)
		}
	}
	gap := wantGap(erases, bad)
	if got := impl.WearGap(erases, bad); got != gap {
		t.Fatalf("WearGap(%v, %v) = %d, want %d", erases, bad, got, gap)
	}
	for _, bound := range []int64{math.MinInt64, -1, 0, 1, gap - 1, gap, gap + 1, 100, 101, math.MaxInt64} {
		if got := impl.NeedsLevelling(erases, bad, bound); got != (gap > bound) {
			t.Fatalf("NeedsLevelling(%v, %v, %d) = %v", erases, bad, bound, got)
		}
	}
	if got, want := impl.PickStatic(erases, bad, blocks), wantStatic(erases, bad, blocks); got != want {
		t.Fatalf("PickStatic(%v, %v, %v) = %d, want %d", erases, bad, blocks, got, want)
	}
}

func TestP23WearConstants(t *testing.T) {
	expect(t, "MaxBound", impl.MaxBound, 100)
}

func TestP23WearExamples(t *testing.T) {
	erases := []int64{4, 1, 3, 1}
	expect(t, "PickFree for hot data", impl.PickFree(erases, []int64{0, 1, 3}, true), 1)
	expect(t, "PickFree for cold data", impl.PickFree(erases, []int64{0, 1, 3}, false), 0)
	expect(t, "PickFree of no free block", impl.PickFree(erases, nil, true), -1)
	expect(t, "PickFree of a number that is no block", impl.PickFree(erases, []int64{0, 4}, true), -1)
	expect(t, "PickFree of a negative number", impl.PickFree(erases, []int64{0, -1}, false), -1)
	expect(t, "PickFree of equals in another order", impl.PickFree(erases, []int64{3, 1}, true), 1)
	expect(t, "PickFree of equals for cold data", impl.PickFree(erases, []int64{3, 1}, false), 1)
	expect(t, "WearGap", impl.WearGap(erases, nil), 3)
	expect(t, "WearGap with a bad block", impl.WearGap(erases, []bool{true}), 2)
	expect(t, "WearGap without a good block", impl.WearGap(erases, []bool{true, true, true, true, true}), 0)
	expect(t, "WearGap with too many erases", impl.WearGap([]int64{4, 1001}, nil), 0)
	expect(t, "WearGap with too many erases of a bad block", impl.WearGap([]int64{4, 1, 1001}, []bool{false, false, true}), 0)
	expect(t, "WearGap with negative erases of a bad block", impl.WearGap([]int64{4, 1, -1}, []bool{false, false, true}), 0)
	expect(t, "WearGap at the bounds", impl.WearGap([]int64{1000, 0}, nil), 1000)
	expect(t, "NeedsLevelling for the bound 2", impl.NeedsLevelling(erases, nil, 2), true)
	expect(t, "NeedsLevelling for the bound 3", impl.NeedsLevelling(erases, nil, 3), false)
	expect(t, "PickStatic", impl.PickStatic(erases, nil, []int64{1}), 3)
	expect(t, "PickStatic without exclusions", impl.PickStatic(erases, nil, nil), 1)
	expect(t, "PickStatic with a bad block", impl.PickStatic(erases, []bool{false, true}, []int64{3}), 2)
	expect(t, "PickStatic of no block", impl.PickStatic(erases, []bool{true, true}, []int64{2, 3, 9, -1, 2}), -1)
	expect(t, "PickStatic of counts without a bound", impl.PickStatic([]int64{math.MaxInt64, math.MinInt64, 5}, nil, nil), 1)
}

// smallCounts returns all lists of up to three erase counts at and beside the bounds.
func smallCounts() [][]int64 {
	counts := []int64{0, 1, 2, 1000, 1001, -1}
	lists := [][]int64{nil}
	for _, a := range counts {
		lists = append(lists, []int64{a})
		for _, b := range counts {
			lists = append(lists, []int64{a, b})
			for _, c := range counts {
				lists = append(lists, []int64{a, b, c})
			}
		}
	}
	return lists
}

// smallFlags are bad marks of up to three blocks, some of them with fewer or with more entries.
var smallFlags = [][]bool{nil, {}, {true}, {false, true}, {true, false, true}, {true, true, true}, {false, false, false, true}, {false, false, true}}

// TestP23WearSmall compares all lists of up to three blocks.
func TestP23WearSmall(t *testing.T) {
	blocks := [][]int64{nil, {0}, {1}, {2}, {1, 0}, {2, 1}, {0, 2}, {2, 0, 1}, {1, 1}, {3}, {-1, 0}, {0, 1, 2, 3}}
	for _, erases := range smallCounts() {
		for _, bad := range smallFlags {
			for _, list := range blocks {
				checkWear(t, erases, bad, list)
			}
		}
	}
}

func TestP23WearRandom(t *testing.T) {
	r := rand.New(rand.NewSource(121))
	for n := range 3000 {
		erases := make([]int64, r.Intn(37))
		for i := range erases {
			erases[i] = r.Int63n([]int64{2, 5, 1001}[n%3])
		}
		var blocks []int64
		for _, block := range r.Perm(len(erases) + 1)[:r.Intn(len(erases)+1)] {
			blocks = append(blocks, int64(block))
		}
		checkWear(t, erases, randomFlags(r, r.Int63n(40)), blocks)
	}
}
