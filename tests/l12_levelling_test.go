package tests

import (
	"math"
	"math/big"
	"math/rand"
	"reflect"
	"slices"
	"testing"

	"loop.example/g00905/impl"
)

// wearSample is a state of blocks, whether it is valid, and what is special about it.
type wearSample struct {
	what  string
	w     impl.Wear
	valid bool
}

// wearOutcome is a result of a function that returns a state of blocks, a block or a number of moves, and
// a code.
type wearOutcome struct {
	w    impl.Wear
	n    int64
	code int64
}

// goodWear returns a state without bad blocks.
func goodWear(bound int64, erases []int64, content []int64) impl.Wear {
	return impl.Wear{Erases: erases, Bad: make([]bool, len(erases)), Content: content, Bound: bound}
}

// changedWear returns a copy of a state to which a change was made.
func changedWear(w impl.Wear, change func(*impl.Wear)) impl.Wear {
	out := deepCopy(w)
	change(&out)
	return out
}

// wearIsValid reports whether w is valid, by the definition of chapter 12.
func wearIsValid(w impl.Wear) bool {
	n := len(w.Erases)
	if n == 0 || n > 3*12 || len(w.Bad) != n || len(w.Content) != n || w.Bound < 1 || w.Bound > 100 {
		return false
	}
	for i := range n {
		if w.Erases[i] < 0 || w.Erases[i] > 1000 || w.Content[i] < 0 || w.Content[i] > 2 || w.Bad[i] && w.Content[i] != 0 {
			return false
		}
	}
	return true
}

// wantExcess returns the result that chapter 12 requires of WearExcess, with fractions.
func wantExcess(erases []int64, bad []bool) int64 {
	excess := int64(0)
	for _, count := range erases {
		if count < 0 || count > 1000 {
			return 0
		}
	}
	for i, count := range erases {
		sum, others := int64(0), int64(0)
		for j, other := range erases {
			if i != j && isGoodBlock(bad, j) {
				sum += other
				others++
			}
		}
		if !isGoodBlock(bad, i) || others == 0 {
			continue
		}
		above := new(big.Rat).Sub(big.NewRat(count, 1), big.NewRat(sum, others))
		for above.Cmp(big.NewRat(excess, 1)) > 0 {
			excess++
		}
	}
	return excess
}

// freeIn returns the good free blocks of a state.
func freeIn(w impl.Wear) []int64 {
	var free []int64
	for i, content := range w.Content {
		if content == impl.ContentFree && !w.Bad[i] {
			free = append(free, int64(i))
		}
	}
	return free
}

// storeIn stores data in the best good free block of a state, which it changes, and returns the block.
func storeIn(w *impl.Wear, content int64, hot bool) (int64, bool) {
	block := wantPickFree(w.Erases, freeIn(*w), hot)
	if block < 0 {
		return 0, false
	}
	w.Content[block] = content
	return block, true
}

// eraseIn erases a block of a state, which it changes.
func eraseIn(w *impl.Wear, block int64) {
	w.Erases[block]++
	w.Content[block] = impl.ContentFree
}

// wantPlaceData returns the outcome that chapter 12 requires of PlaceData.
func wantPlaceData(w impl.Wear, hot bool) wearOutcome {
	if !wearIsValid(w) {
		return wearOutcome{code: impl.ErrInvalid}
	}
	content := int64(1)
	if hot {
		content = 2
	}
	out := deepCopy(w)
	block, ok := storeIn(&out, content, hot)
	if !ok {
		return wearOutcome{code: impl.ErrFull}
	}
	return wearOutcome{out, block, impl.OK}
}

// wantRewrite returns the outcome that chapter 12 requires of RewriteHot.
func wantRewrite(w impl.Wear, block int64) wearOutcome {
	switch {
	case !wearIsValid(w):
		return wearOutcome{code: impl.ErrInvalid}
	case block < 0 || block > int64(len(w.Erases))-1:
		return wearOutcome{code: impl.ErrRange}
	case w.Content[block] != 2:
		return wearOutcome{code: impl.ErrState}
	case w.Erases[block] == 1000:
		return wearOutcome{code: impl.ErrBad}
	}
	out := deepCopy(w)
	placed, ok := storeIn(&out, 2, true)
	if !ok {
		return wearOutcome{code: impl.ErrFull}
	}
	eraseIn(&out, block)
	return wearOutcome{out, placed, impl.OK}
}

// wantLevelMove returns the outcome that chapter 12 requires of LevelMove.
func wantLevelMove(w impl.Wear) wearOutcome {
	switch {
	case !wearIsValid(w):
		return wearOutcome{code: impl.ErrInvalid}
	case wantGap(w.Erases, w.Bad) <= w.Bound:
		return wearOutcome{code: impl.ErrState}
	}
	out := deepCopy(w)
	block := wantStatic(w.Erases, w.Bad, nil)
	if w.Content[block] != 0 {
		if _, ok := storeIn(&out, w.Content[block], false); !ok {
			return wearOutcome{code: impl.ErrFull}
		}
	}
	eraseIn(&out, block)
	return wearOutcome{w: out, code: impl.OK}
}

// wantLevelWear returns the outcome that chapter 12 requires of LevelWear.
func wantLevelWear(w impl.Wear) wearOutcome {
	if !wearIsValid(w) {
		return wearOutcome{code: impl.ErrInvalid}
	}
	level := wearOutcome{w: w, code: impl.OK}
	for wantGap(level.w.Erases, level.w.Bad) > level.w.Bound {
		move := wantLevelMove(level.w)
		if move.code != impl.OK {
			return move
		}
		level.w = move.w
		level.n++
	}
	return level
}

func placeData(w impl.Wear, hot bool) wearOutcome {
	after, block, code := impl.PlaceData(w, hot)
	return wearOutcome{after, block, code}
}

func rewriteHot(w impl.Wear, block int64) wearOutcome {
	after, placed, code := impl.RewriteHot(w, block)
	return wearOutcome{after, placed, code}
}

func levelMove(w impl.Wear) wearOutcome {
	after, code := impl.LevelMove(w)
	return wearOutcome{w: after, code: code}
}

func levelWear(w impl.Wear) wearOutcome {
	after, moves, code := impl.LevelWear(w)
	return wearOutcome{after, moves, code}
}

// expectWear ends the test if an outcome differs from the wanted one.
func expectWear(t *testing.T, what string, got wearOutcome, want wearOutcome) {
	t.Helper()
	if !reflect.DeepEqual(deepCopy(got.w), deepCopy(want.w)) || got.n != want.n || got.code != want.code {
		t.Fatalf("%s: got %+v, want %+v", what, got, want)
	}
	if got.code == impl.OK && !wearIsValid(got.w) {
		t.Fatalf("%s: the state %+v is invalid", what, got.w)
	}
}

// blocksAround returns the blocks of a state and numbers that are no blocks.
func blocksAround(w impl.Wear) []int64 {
	return around(int64(len(w.Erases)))
}

// checkPlaced checks promise 21: the data are in a good block that was free, and no other one of these is
// less worn, for hot data, or more worn, for cold data. Nothing else has changed but the content of erased.
func checkPlaced(t *testing.T, before impl.Wear, got wearOutcome, hot bool, erased int64) {
	t.Helper()
	if before.Content[got.n] != 0 || before.Bad[got.n] {
		t.Fatalf("%+v: data are placed in block %d, which is not a good free block", before, got.n)
	}
	for i, count := range before.Erases {
		usable := before.Content[i] == 0 && !before.Bad[i]
		if usable && (hot && count < before.Erases[got.n] || !hot && count > before.Erases[got.n]) {
			t.Fatalf("%+v: data are placed in block %d and not in block %d (hot: %v)", before, got.n, i, hot)
		}
		if i != int(got.n) && i != int(erased) {
			expect(t, "content of another block", got.w.Content[i], before.Content[i])
		}
	}
	want := int64(impl.ContentCold)
	if hot {
		want = impl.ContentHot
	}
	expect(t, "content of the block", got.w.Content[got.n], want)
}

// checkMove checks promise 20 for a levelling move, and returns the block that was erased and the one that
// its data moved to, which is the same one if it was free.
func checkMove(t *testing.T, before impl.Wear, after impl.Wear) (int, int) {
	t.Helper()
	erased := -1
	for i, count := range after.Erases {
		if count == before.Erases[i] {
			continue
		}
		if erased >= 0 || count != before.Erases[i]+1 || before.Bad[i] {
			t.Fatalf("a move leads from %+v to %+v", before, after)
		}
		erased = i
	}
	if erased < 0 {
		t.Fatalf("a move of %+v erases no block", before)
	}
	for i, count := range before.Erases {
		if !before.Bad[i] && count < before.Erases[erased] {
			t.Fatalf("a move of %+v erases block %d", before, erased)
		}
	}
	moved := erased
	for i, content := range after.Content {
		if i != erased && content != before.Content[i] {
			if moved != erased || before.Content[i] != 0 || before.Bad[i] {
				t.Fatalf("a move leads from %+v to %+v", before, after)
			}
			moved = i
		}
	}
	// The data of the block are in the other one. If there is no other one, the block was free.
	want := []int64{0, before.Content[erased]}
	if moved == erased {
		want = []int64{0, 0}
		expect(t, "content of the block that was erased", before.Content[erased], 0)
	}
	expectList(t, "contents after a move", []int64{after.Content[erased], after.Content[moved]}, want)
	return erased, moved
}

// checkBound checks promise 19 for a state.
func checkBound(t *testing.T, w impl.Wear) {
	t.Helper()
	if wantGap(w.Erases, w.Bad) > w.Bound || wantExcess(w.Erases, w.Bad) > w.Bound {
		t.Fatalf("the erase counts of %+v differ by more than the bound", w)
	}
	if impl.WearGap(w.Erases, w.Bad) > w.Bound || impl.WearExcess(w.Erases, w.Bad) > w.Bound {
		t.Fatalf("WearGap or WearExcess of %+v is above the bound", w)
	}
}

// checkState compares all functions of a state with the definitions and checks the promises.
func checkState(t *testing.T, s wearSample) {
	t.Helper()
	expect(t, "ValidWear, "+s.what, impl.ValidWear(s.w), s.valid)
	for _, hot := range []bool{false, true} {
		got := placeData(s.w, hot)
		expectWear(t, "PlaceData, "+s.what, got, wantPlaceData(s.w, hot))
		if got.code == impl.OK {
			checkPlaced(t, s.w, got, hot, -1)
			expectList(t, "erase counts", got.w.Erases, s.w.Erases)
		}
	}
	for _, block := range blocksAround(s.w) {
		got := rewriteHot(s.w, block)
		expectWear(t, "RewriteHot, "+s.what, got, wantRewrite(s.w, block))
		if got.code == impl.OK {
			checkPlaced(t, s.w, got, true, block)
		}
	}
	got := levelMove(s.w)
	expectWear(t, "LevelMove, "+s.what, got, wantLevelMove(s.w))
	if got.code == impl.OK {
		checkMove(t, s.w, got.w)
	}
	got = levelWear(s.w)
	expectWear(t, "LevelWear, "+s.what, got, wantLevelWear(s.w))
	if got.code == impl.OK {
		checkBound(t, got.w)
	}
}

// exampleWear returns a state with hot and cold data, free blocks and a bad one.
func exampleWear() impl.Wear {
	w := goodWear(3, []int64{9, 4, 7, 4, 6, 2, 9}, []int64{2, 1, 0, 2, 0, 0, 1})
	w.Bad[5] = true
	return w
}

// randomWear returns a valid state of so many blocks, with erase counts from low on. About one block of
// ten is bad.
func randomWear(r *rand.Rand, blocks int, low int64, spread int64) impl.Wear {
	w := goodWear(1+r.Int63n(5), make([]int64, blocks), make([]int64, blocks))
	for i := range blocks {
		w.Erases[i] = min(low+r.Int63n(spread), 1000)
		w.Content[i] = r.Int63n(3)
		if r.Intn(10) == 0 {
			w.Bad[i], w.Content[i] = true, 0
		}
	}
	return w
}

// validWears returns states whose fields reach their bounds.
func validWears() []wearSample {
	r := rand.New(rand.NewSource(122))
	var list []wearSample
	add := func(what string, change func(*impl.Wear)) {
		list = append(list, wearSample{what, changedWear(exampleWear(), change), true})
	}
	add("example", func(*impl.Wear) {})
	for _, bound := range []int64{1, 2, 4, 5, 99, 100} {
		add("bound", func(w *impl.Wear) { w.Bound = bound })
		for _, count := range []int64{0, 1, 999, 1000} {
			for i := range 7 {
				add("erases", func(w *impl.Wear) { w.Erases[i], w.Bound = count, bound })
			}
		}
	}
	for content := range int64(3) {
		add("one content", func(w *impl.Wear) { w.Content = []int64{content, content, content, content, content, 0, content} })
	}
	add("no good block", func(w *impl.Wear) { w.Bad, w.Content = slices.Repeat([]bool{true}, 7), make([]int64, 7) })
	add("one good block", func(w *impl.Wear) {
		w.Bad, w.Content = []bool{true, true, true, false, true, true, true}, []int64{0, 0, 0, 2, 0, 0, 0}
	})
	add("equal erase counts", func(w *impl.Wear) { w.Erases = slices.Repeat([]int64{1000}, 7) })
	add("erase counts at both bounds", func(w *impl.Wear) { w.Erases = []int64{0, 1000, 0, 1000, 0, 1000, 0} })
	for _, blocks := range []int{1, 2, 3, 4, 12, 24, 35, 36} {
		for _, spread := range []int64{1, 2, 8} {
			list = append(list, wearSample{"random", randomWear(r, blocks, 0, spread), true}, wearSample{"random, worn", randomWear(r, blocks, 1001-spread, spread), true})
		}
	}
	return list
}

// invalidWears returns states that are invalid for one reason each.
func invalidWears() []wearSample {
	list := []wearSample{{"zero", impl.Wear{}, false}, {"no blocks", impl.Wear{Bound: 1}, false}}
	add := func(what string, change func(*impl.Wear)) {
		list = append(list, wearSample{what, changedWear(exampleWear(), change), false})
	}
	for _, blocks := range []int{37, 38, 100} {
		add("too many blocks", func(w *impl.Wear) { *w = goodWear(3, make([]int64, blocks), make([]int64, blocks)) })
	}
	for _, n := range []int{0, 1, 6, 8, 36, 37} {
		add("length of Erases", func(w *impl.Wear) { w.Erases = make([]int64, n) })
		add("length of Bad", func(w *impl.Wear) { w.Bad = make([]bool, n) })
		add("length of Content", func(w *impl.Wear) { w.Content = make([]int64, n) })
	}
	for i := range 7 {
		for _, n := range slices.Concat(farInts, []int64{-1, 1001}) {
			add("Erases", func(w *impl.Wear) { w.Erases[i] = n })
		}
		for _, n := range slices.Concat(farInts, []int64{-1, 3, 4, 257, 1<<32 + 1}) {
			add("Content", func(w *impl.Wear) { w.Content[i] = n })
		}
		for content := range int64(3) {
			if content > 0 {
				add("content of a bad block", func(w *impl.Wear) { w.Bad[i], w.Content[i] = true, content })
			}
		}
	}
	for _, n := range slices.Concat(farInts, []int64{-1, 0, 101, 1<<32 + 1}) {
		add("Bound", func(w *impl.Wear) { w.Bound = n })
	}
	return list
}

// allWears returns valid and invalid states.
func allWears() []wearSample {
	return append(validWears(), invalidWears()...)
}

func TestP19Constants(t *testing.T) {
	got := [4]int64{impl.MaxBound, impl.ContentFree, impl.ContentCold, impl.ContentHot}
	expect(t, "constants of chapter 12", got, [4]int64{100, 0, 1, 2})
}

// TestP19WearExcess compares all lists of up to three blocks and random ones with the definition.
func TestP19WearExcess(t *testing.T) {
	check := func(erases []int64, bad []bool) {
		t.Helper()
		if got, want := impl.WearExcess(erases, bad), wantExcess(erases, bad); got != want {
			t.Fatalf("WearExcess(%v, %v) = %d, want %d", erases, bad, got, want)
		}
	}
	for _, erases := range smallCounts() {
		for _, bad := range smallFlags {
			check(erases, bad)
		}
	}
	r := rand.New(rand.NewSource(123))
	for n := range 2000 {
		erases := make([]int64, r.Intn(40))
		for i := range erases {
			erases[i] = r.Int63n([]int64{2, 5, 1001}[n%3])
		}
		check(erases, randomFlags(r, r.Int63n(45)))
	}
	erases := []int64{4, 1, 3, 1}
	expect(t, "WearExcess of the example", impl.WearExcess(erases, nil), 3)
	expect(t, "WearExcess of an integer average", impl.WearExcess([]int64{6, 1, 2, 3}, nil), 4)
	expect(t, "WearExcess just above an integer", impl.WearExcess([]int64{6, 1, 2, 2}, nil), 5)
	expect(t, "WearExcess below one", impl.WearExcess([]int64{5, 4, 5, 5}, nil), 1)
	expect(t, "WearExcess of equal counts", impl.WearExcess([]int64{5, 5, 5}, nil), 0)
	expect(t, "WearExcess of one block", impl.WearExcess([]int64{9}, nil), 0)
	expect(t, "WearExcess of no block", impl.WearExcess(nil, nil), 0)
	expect(t, "WearExcess of one good block", impl.WearExcess([]int64{9, 0, 0}, []bool{false, true, true}), 0)
	expect(t, "WearExcess of two good blocks", impl.WearExcess([]int64{9, 0, 2}, []bool{false, true}), 7)
	expect(t, "WearExcess if the worst block is bad", impl.WearExcess(erases, []bool{true}), 2)
	expect(t, "WearExcess with entries for other blocks", impl.WearExcess(erases, []bool{false, false, false, false, true}), 3)
	expect(t, "WearExcess at the bounds", impl.WearExcess([]int64{1000, 0}, nil), 1000)
	expect(t, "WearExcess with too many erases of a bad block", impl.WearExcess([]int64{4, 1, 1001}, []bool{false, false, true}), 0)
	expect(t, "WearExcess with negative erases of a bad block", impl.WearExcess([]int64{4, 1, -1}, []bool{false, false, true}), 0)
	expect(t, "WearExcess of extreme counts", impl.WearExcess([]int64{math.MaxInt64, math.MinInt64}, nil), 0)
}

// TestP19ExcessBelowGap checks that no average of the others is below the smallest count of them.
func TestP19ExcessBelowGap(t *testing.T) {
	for _, erases := range smallCounts() {
		for _, bad := range smallFlags {
			if excess, gap := impl.WearExcess(erases, bad), impl.WearGap(erases, bad); excess > gap {
				t.Fatalf("erase counts %v, bad blocks %v: WearExcess is %d and WearGap is %d", erases, bad, excess, gap)
			}
		}
	}
}

func TestP19ValidWear(t *testing.T) {
	for _, s := range allWears() {
		expect(t, "definition of a valid state, "+s.what, wearIsValid(s.w), s.valid)
		expect(t, "ValidWear, "+s.what, impl.ValidWear(s.w), s.valid)
	}
}

// TestP19States compares all functions with the definitions, for valid and invalid states.
func TestP19States(t *testing.T) {
	for _, s := range allWears() {
		checkState(t, s)
	}
}

// TestP19SmallStates compares all functions with the definitions, for all states of up to three blocks with
// few erases.
func TestP19SmallStates(t *testing.T) {
	for _, bound := range []int64{1, 2, 3} {
		t.Run("", func(t *testing.T) {
			t.Parallel()
			extend := func(w impl.Wear) []impl.Wear {
				var list []impl.Wear
				for _, count := range []int64{0, 1, 2, 4} {
					for kind := range int64(4) {
						list = append(list, impl.Wear{
							Erases: append(slices.Clone(w.Erases), count), Bad: append(slices.Clone(w.Bad), kind == 3),
							Content: append(slices.Clone(w.Content), kind%3), Bound: w.Bound,
						})
					}
				}
				return list
			}
			states := []impl.Wear{{Bound: bound}}
			for range 3 {
				var longer []impl.Wear
				for _, w := range states {
					longer = append(longer, extend(w)...)
				}
				for _, w := range longer {
					checkState(t, wearSample{"small", w, true})
				}
				states = longer
			}
		})
	}
}

// trackedWear is a state of blocks together with what is stored in each block; 0 stands for nothing.
type trackedWear struct {
	w    impl.Wear
	data []int
}

// newTracked returns a state with different data in all blocks that are not free.
func newTracked(w impl.Wear) *trackedWear {
	s := &trackedWear{w, make([]int, len(w.Erases))}
	for i, content := range w.Content {
		if content != 0 {
			s.data[i] = i + 1
		}
	}
	return s
}

// move notes that the data of a block are in another one.
func (s *trackedWear) move(from int, to int) {
	if from != to {
		s.data[from], s.data[to] = 0, s.data[from]
	}
}

// rewrite rewrites the hot data of a block, and reports whether it could be erased.
func (s *trackedWear) rewrite(t *testing.T, block int64) bool {
	t.Helper()
	got := rewriteHot(s.w, block)
	expectWear(t, "RewriteHot", got, wantRewrite(s.w, block))
	if got.code == impl.ErrBad {
		return false
	}
	expect(t, "code of RewriteHot", got.code, impl.OK)
	checkPlaced(t, s.w, got, true, block)
	s.move(int(block), int(got.n))
	s.w = got.w
	return true
}

// level levels the blocks move by move, and compares the result with that of LevelWear.
func (s *trackedWear) level(t *testing.T) {
	t.Helper()
	whole := levelWear(s.w)
	expectWear(t, "LevelWear", whole, wantLevelWear(s.w))
	for range whole.n {
		after, code := impl.LevelMove(s.w)
		expect(t, "code of LevelMove", code, impl.OK)
		s.move(checkMove(t, s.w, after))
		s.w = after
	}
	expect(t, "LevelMove behind the moves of LevelWear", levelMove(s.w).code, impl.ErrState)
	expectWear(t, "moves of LevelWear", wearOutcome{s.w, whole.n, impl.OK}, whole)
	checkBound(t, s.w)
}

// hotBlocks returns the blocks with hot data.
func (s *trackedWear) hotBlocks() []int64 {
	var list []int64
	for i, content := range s.w.Content {
		if content == 2 {
			list = append(list, int64(i))
		}
	}
	return list
}

// stored returns what is stored in the blocks of a content, in ascending order.
func (s *trackedWear) stored(content int64) []int64 {
	var list []int64
	for i, data := range s.data {
		if s.w.Content[i] == content {
			list = append(list, int64(data))
		}
	}
	slices.Sort(list)
	return list
}

// TestP19Sequences rewrites hot data many times, each time followed by levelling: the erase counts stay
// within the bound, and all data are kept.
func TestP19Sequences(t *testing.T) {
	for n := range 24 {
		t.Run("", func(t *testing.T) {
			t.Parallel()
			r := rand.New(rand.NewSource(int64(1900 + n)))
			w := randomWear(r, 3+n*3/2%34, int64(n%3)*400, []int64{1, 5, 60}[n%3])
			w.Bound = []int64{1, 2, 3, 10, 100}[n%5]
			// Hot data, cold data and a free block at least.
			w.Bad[0], w.Bad[1], w.Bad[2] = false, false, false
			w.Content[0], w.Content[1], w.Content[2] = 2, 1, 0
			s := newTracked(w)
			hot, cold := s.stored(2), s.stored(1)
			moves := int64(0)
			for range 400 {
				list := s.hotBlocks()
				block := list[r.Intn(len(list))]
				if r.Intn(4) > 0 {
					block = list[0]
				}
				expect(t, "a block that is not worn out is rewritten", s.rewrite(t, block), true)
				before := s.w
				s.level(t)
				moves += wantLevelWear(before).n
				expectList(t, "hot data", s.stored(2), hot)
				expectList(t, "cold data", s.stored(1), cold)
				expectList(t, "free blocks", s.stored(0), make([]int64, len(s.data)-len(hot)-len(cold)))
			}
			expect(t, "there were moves", moves > 0 || w.Bound > 10, true)
		})
	}
}

// TestP19WornOut rewrites hot data until their block cannot be erased any more: all blocks are worn out then,
// but for the bound.
func TestP19WornOut(t *testing.T) {
	for _, bound := range []int64{1, 7} {
		s := newTracked(goodWear(bound, make([]int64, 4), []int64{2, 1, 0, 0}))
		for s.rewrite(t, s.hotBlocks()[0]) {
			s.level(t)
		}
		expect(t, "the smallest erase count", slices.Min(s.w.Erases) >= 1000-bound, true)
		expect(t, "the greatest erase count", slices.Max(s.w.Erases), 1000)
		expectList(t, "hot data", s.stored(2), []int64{1})
		expectList(t, "cold data", s.stored(1), []int64{2})
	}
}

// TestP19LevelWear has the examples and the bounds of levelling.
func TestP19LevelWear(t *testing.T) {
	example := goodWear(2, []int64{7, 1, 3}, []int64{0, 0, 0})
	expectWear(t, "example", levelWear(example), wearOutcome{goodWear(2, []int64{7, 5, 5}, []int64{0, 0, 0}), 6, impl.OK})
	exact := goodWear(4, []int64{7, 3, 5}, []int64{1, 2, 1})
	expectWear(t, "bound that is met exactly", levelWear(exact), wearOutcome{exact, 0, impl.OK})
	tight := changedWear(exact, func(w *impl.Wear) { w.Bound = 3 })
	expectWear(t, "bound that is exceeded by one, no free block", levelWear(tight), wearOutcome{code: impl.ErrFull})
	tight.Content[0] = 0
	expectWear(t, "bound that is exceeded by one", levelWear(tight), wearOutcome{goodWear(3, []int64{7, 4, 5}, []int64{2, 0, 1}), 1, impl.OK})
	equal := goodWear(1, []int64{6, 6, 6}, []int64{1, 1, 2})
	expectWear(t, "equal erase counts", levelWear(equal), wearOutcome{equal, 0, impl.OK})
	one := goodWear(1, []int64{6}, []int64{2})
	expectWear(t, "one block", levelWear(one), wearOutcome{one, 0, impl.OK})
	bad := impl.Wear{Erases: []int64{0, 1000, 500}, Bad: []bool{true, true, true}, Content: []int64{0, 0, 0}, Bound: 1}
	expectWear(t, "no good block", levelWear(bad), wearOutcome{bad, 0, impl.OK})
	bad.Bad[2] = false
	expectWear(t, "one good block", levelWear(bad), wearOutcome{bad, 0, impl.OK})
	far := goodWear(1, []int64{1000, 0, 0}, []int64{2, 1, 0})
	expectWear(t, "the greatest gap", levelWear(far), wearOutcome{goodWear(1, []int64{1000, 999, 999}, []int64{2, 1, 0}), 1998, impl.OK})
}

// TestP19LevelFails levels states of which a move fails. As moves keep the number of free blocks, this is the
// first move that needs one, and no state is returned.
func TestP19LevelFails(t *testing.T) {
	full := goodWear(1, []int64{9, 2, 2, 5}, []int64{2, 1, 2, 1})
	expectWear(t, "no free block", levelWear(full), wearOutcome{code: impl.ErrFull})
	badFree := changedWear(full, func(w *impl.Wear) { w.Bad[3], w.Content[3] = true, 0 })
	expectWear(t, "the only free block is bad", levelWear(badFree), wearOutcome{code: impl.ErrFull})
	free := changedWear(badFree, func(w *impl.Wear) { w.Bad[3] = false })
	expect(t, "code if the free block is good", levelWear(free).code, impl.OK)
	r := rand.New(rand.NewSource(124))
	codes := map[int64]int{}
	for range 3000 {
		w := randomWear(r, 2+r.Intn(6), 0, 1+r.Int63n(12))
		if r.Intn(2) == 0 {
			for _, block := range freeIn(w) {
				w.Content[block] = 1
			}
		}
		want := int64(impl.OK)
		if wantGap(w.Erases, w.Bad) > w.Bound && len(freeIn(w)) == 0 {
			want = impl.ErrFull
		}
		got := levelWear(w)
		expect(t, "code of LevelWear", got.code, want)
		expectWear(t, "LevelWear", got, wantLevelWear(w))
		codes[got.code]++
	}
	expect(t, "both codes occur", codes[impl.OK] > 100 && codes[impl.ErrFull] > 100, true)
}

// TestP20LevelMove has moves of blocks that are free and of others, with and without free blocks.
func TestP20LevelMove(t *testing.T) {
	example := goodWear(2, []int64{7, 1, 3}, []int64{0, 1, 0})
	expectWear(t, "example", levelMove(example), wearOutcome{w: goodWear(2, []int64{7, 2, 3}, []int64{1, 0, 0})})
	hot := goodWear(2, []int64{7, 1, 3}, []int64{0, 2, 0})
	expectWear(t, "hot data move as cold ones", levelMove(hot), wearOutcome{w: goodWear(2, []int64{7, 2, 3}, []int64{2, 0, 0})})
	free := goodWear(2, []int64{7, 1, 3}, []int64{1, 0, 2})
	expectWear(t, "free block, no other one", levelMove(free), wearOutcome{w: goodWear(2, []int64{7, 2, 3}, []int64{1, 0, 2})})
	equal := goodWear(1, []int64{3, 1, 3, 1, 3}, []int64{1, 2, 0, 1, 0})
	expectWear(t, "equal erase counts", levelMove(equal), wearOutcome{w: goodWear(1, []int64{3, 2, 3, 1, 3}, []int64{1, 0, 2, 1, 0})})
	worn := goodWear(100, []int64{1000, 0, 999}, []int64{0, 1, 0})
	expectWear(t, "worn-out block for the data", levelMove(worn), wearOutcome{w: goodWear(100, []int64{1000, 1, 999}, []int64{1, 0, 0})})
	bad := changedWear(example, func(w *impl.Wear) { w.Bad[0] = true })
	expectWear(t, "the most worn block is bad", levelMove(bad), wearOutcome{code: impl.ErrState})
	bad.Bound = 1
	want := wearOutcome{w: impl.Wear{Erases: []int64{7, 2, 3}, Bad: []bool{true, false, false}, Content: []int64{0, 0, 1}, Bound: 1}}
	expectWear(t, "the most worn free block is bad", levelMove(bad), want)
	least := impl.Wear{Erases: []int64{7, 0, 3, 4}, Bad: []bool{false, true, false, false}, Content: []int64{0, 0, 1, 0}, Bound: 2}
	want = wearOutcome{w: impl.Wear{Erases: []int64{7, 0, 4, 4}, Bad: least.Bad, Content: []int64{1, 0, 0, 0}, Bound: 2}}
	expectWear(t, "the least worn block is bad", levelMove(least), want)
	full := goodWear(2, []int64{7, 1, 3}, []int64{2, 1, 1})
	expectWear(t, "no free block", levelMove(full), wearOutcome{code: impl.ErrFull})
	calm := goodWear(6, []int64{7, 1, 3}, []int64{2, 1, 1})
	expectWear(t, "bound that is met exactly, no free block", levelMove(calm), wearOutcome{code: impl.ErrState})
	invalid := goodWear(0, []int64{7, 1, 3}, []int64{2, 1, 1})
	expectWear(t, "invalid state, no free block", levelMove(invalid), wearOutcome{code: impl.ErrInvalid})
}

// TestP20Moves makes all moves of random states.
func TestP20Moves(t *testing.T) {
	r := rand.New(rand.NewSource(125))
	for range 300 {
		w := randomWear(r, 2+r.Intn(35), r.Int63n(990), 1+r.Int63n(20))
		for {
			got := levelMove(w)
			expectWear(t, "LevelMove", got, wantLevelMove(w))
			if got.code != impl.OK {
				break
			}
			checkMove(t, w, got.w)
			w = got.w
		}
	}
}

// TestP21PlaceData places data in states with and without good free blocks.
func TestP21PlaceData(t *testing.T) {
	example := goodWear(1, []int64{4, 1}, []int64{0, 0})
	expectWear(t, "hot data of the example", placeData(example, true), wearOutcome{goodWear(1, []int64{4, 1}, []int64{0, 2}), 1, impl.OK})
	expectWear(t, "cold data of the example", placeData(example, false), wearOutcome{goodWear(1, []int64{4, 1}, []int64{1, 0}), 0, impl.OK})
	equal := goodWear(1, []int64{4, 4, 4, 4}, []int64{1, 0, 2, 0})
	expectWear(t, "hot data, equal erase counts", placeData(equal, true), wearOutcome{goodWear(1, equal.Erases, []int64{1, 2, 2, 0}), 1, impl.OK})
	expectWear(t, "cold data, equal erase counts", placeData(equal, false), wearOutcome{goodWear(1, equal.Erases, []int64{1, 1, 2, 0}), 1, impl.OK})
	bad := impl.Wear{Erases: []int64{0, 3, 5, 1000}, Bad: []bool{true, false, false, true}, Content: make([]int64, 4), Bound: 1}
	expect(t, "block of hot data beside bad blocks", placeData(bad, true).n, 1)
	expect(t, "block of cold data beside bad blocks", placeData(bad, false).n, 2)
	bad.Bad[1], bad.Bad[2] = true, true
	expectWear(t, "no good block", placeData(bad, true), wearOutcome{code: impl.ErrFull})
	full := goodWear(1, []int64{4, 1}, []int64{1, 2})
	expectWear(t, "no free block", placeData(full, false), wearOutcome{code: impl.ErrFull})
	full.Bound = 101
	expectWear(t, "invalid state, no free block", placeData(full, false), wearOutcome{code: impl.ErrInvalid})
	worn := goodWear(1, []int64{1000, 1000}, []int64{0, 0})
	expectWear(t, "worn-out blocks", placeData(worn, true), wearOutcome{goodWear(1, worn.Erases, []int64{2, 0}), 0, impl.OK})
}

// TestP21RewriteHot rewrites data of all contents, and has calls to which two errors apply.
func TestP21RewriteHot(t *testing.T) {
	example := goodWear(5, []int64{2, 5}, []int64{2, 0})
	expectWear(t, "example", rewriteHot(example, 0), wearOutcome{goodWear(5, []int64{3, 5}, []int64{0, 2}), 1, impl.OK})
	several := goodWear(1, []int64{2, 5, 4, 4}, []int64{2, 0, 0, 0})
	expectWear(t, "several free blocks", rewriteHot(several, 0), wearOutcome{goodWear(1, []int64{3, 5, 4, 4}, []int64{0, 0, 2, 0}), 2, impl.OK})
	last := goodWear(1, []int64{999, 0}, []int64{2, 0})
	expectWear(t, "the last erase", rewriteHot(last, 0), wearOutcome{goodWear(1, []int64{1000, 0}, []int64{0, 2}), 1, impl.OK})
	w := impl.Wear{Erases: []int64{1000, 1000, 1000, 1000, 7}, Bad: []bool{false, false, false, true, false}, Content: []int64{2, 1, 0, 0, 2}, Bound: 1}
	expectWear(t, "worn-out block", rewriteHot(w, 0), wearOutcome{code: impl.ErrBad})
	expectWear(t, "worn-out block with cold data", rewriteHot(w, 1), wearOutcome{code: impl.ErrState})
	expectWear(t, "worn-out free block", rewriteHot(w, 2), wearOutcome{code: impl.ErrState})
	expectWear(t, "worn-out bad block", rewriteHot(w, 3), wearOutcome{code: impl.ErrState})
	expect(t, "block of data beside a worn-out free block", rewriteHot(w, 4).n, 2)
	w.Content[2] = 1
	expectWear(t, "worn-out block, no free block", rewriteHot(w, 0), wearOutcome{code: impl.ErrBad})
	expectWear(t, "cold data, no free block", rewriteHot(w, 1), wearOutcome{code: impl.ErrState})
	expectWear(t, "no free block", rewriteHot(w, 4), wearOutcome{code: impl.ErrFull})
	for _, block := range []int64{-1, 5, math.MinInt64, math.MaxInt64} {
		expectWear(t, "no such block", rewriteHot(w, block), wearOutcome{code: impl.ErrRange})
		invalid := changedWear(w, func(w *impl.Wear) { w.Content[3] = 1 })
		expectWear(t, "invalid state, no such block", rewriteHot(invalid, block), wearOutcome{code: impl.ErrInvalid})
	}
}

// TestP21PickFree has lists of free blocks that hold a block twice or a number that is not a block.
func TestP21PickFree(t *testing.T) {
	erases := []int64{4, 1, 3, 1}
	expect(t, "PickFree of a block twice", impl.PickFree(erases, []int64{3, 3, 1, 1, 3}, true), 1)
	expect(t, "PickFree of one block twice", impl.PickFree(erases, []int64{2, 2}, false), 2)
	expect(t, "PickFree of a block twice and a number that is not a block", impl.PickFree(erases, []int64{2, 2, 4}, false), -1)
	expect(t, "PickFree of no free block", impl.PickFree(erases, nil, false), -1)
	expect(t, "PickFree without blocks", impl.PickFree(nil, []int64{0}, true), -1)
	expect(t, "PickFree of counts without a bound", impl.PickFree([]int64{math.MaxInt64, math.MinInt64}, []int64{0, 1}, true), 1)
}
