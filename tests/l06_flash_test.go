package tests

import (
	"math"
	"math/rand"
	"reflect"
	"slices"
	"strings"
	"testing"

	"loop.example/g00905/impl"
)

// flashSample is an array, whether it is valid, and what is special about it.
type flashSample struct {
	what  string
	f     impl.Flash
	valid bool
}

// smallGeometry is the least geometry.
var smallGeometry = impl.Geometry{Dies: 2, Blocks: 4, Pages: 8}

// someGeometries are the valid geometries with the least and the greatest numbers.
var someGeometries = []impl.Geometry{
	smallGeometry, {Dies: 3, Blocks: 4, Pages: 8}, {Dies: 2, Blocks: 12, Pages: 8}, {Dies: 2, Blocks: 4, Pages: 16}, {Dies: 3, Blocks: 12, Pages: 16},
}

// farInts are integers that are no blocks, pages, fuses, or numbers of bytes to keep.
var farInts = []int64{math.MinInt64, math.MinInt64 + 1, -1 << 32, -1000, -2, 1000001, 1 << 32, math.MaxInt64 - 1, math.MaxInt64}

// rawSample returns a page of one byte, so that the pages of an array are easily told apart.
func rawSample(n int64) string {
	return strings.Repeat(string([]byte{byte(n)}), 91)
}

// emptyFlash returns the array that NewFlash shall return.
func emptyFlash(g impl.Geometry) impl.Flash {
	f := impl.Flash{Geo: g, Fuse: -1}
	for range g.Dies * g.Blocks {
		f.Blocks = append(f.Blocks, impl.Block{Pages: make([]string, g.Pages)})
	}
	return f
}

// busyFlash returns an array with blocks in which every number of pages is programmed, some of them
// empty as after an interrupted erase.
func busyFlash(g impl.Geometry) impl.Flash {
	f := emptyFlash(g)
	for i := range f.Blocks {
		b := &f.Blocks[i]
		b.Next = int64(i) % (g.Pages + 1)
		b.Erases = int64(i * 7 % 5)
		for page := range b.Next {
			b.Pages[page] = rawSample(int64(i)*g.Pages + page)
		}
	}
	last := &f.Blocks[len(f.Blocks)-1]
	last.Next = g.Pages
	last.Pages[0], last.Pages[1] = "", ""
	for page := int64(2); page < g.Pages; page++ {
		last.Pages[page] = rawSample(page)
	}
	f.Ops = 100
	return f
}

// changed returns a copy of an array to which a change was made.
func changed(f impl.Flash, change func(*impl.Flash)) impl.Flash {
	out := deepCopy(f)
	change(&out)
	return out
}

// validFlashes returns arrays whose fields reach their limits exactly.
func validFlashes() []flashSample {
	var list []flashSample
	for _, g := range someGeometries {
		list = append(list, flashSample{"new", emptyFlash(g), true}, flashSample{"busy", busyFlash(g), true})
	}
	add := func(what string, change func(*impl.Flash)) {
		list = append(list, flashSample{what, changed(busyFlash(smallGeometry), change), true})
	}
	for _, fuse := range []int64{0, 1, 2, 999999, 1000000} {
		add("fuse", func(f *impl.Flash) { f.Fuse = fuse })
		add("fuse, off", func(f *impl.Flash) { f.Fuse, f.Off = fuse, true })
	}
	for _, keep := range []int64{1, 3, 7, 8, 9, 90, 91} {
		add("keep", func(f *impl.Flash) { f.Keep = keep })
		add("keep, about to be cut", func(f *impl.Flash) { f.Keep, f.Fuse = keep, 0 })
	}
	add("off", func(f *impl.Flash) { f.Off = true })
	add("no operations", func(f *impl.Flash) { f.Ops = 0 })
	add("many operations", func(f *impl.Flash) { f.Ops = math.MaxInt64 })
	add("many operations, about to be cut", func(f *impl.Flash) { f.Ops, f.Fuse, f.Keep = math.MaxInt64, 0, 5 })
	for _, i := range []int{0, 3, 7} {
		add("bad block", func(f *impl.Flash) { f.Blocks[i].Bad = true })
		add("bad block, about to be cut", func(f *impl.Flash) { f.Blocks[i].Bad, f.Fuse = true, 0 })
		add("bad block, off", func(f *impl.Flash) { f.Blocks[i].Bad, f.Off = true, true })
		add("worn block", func(f *impl.Flash) { f.Blocks[i].Erases = 999 })
		add("worn-out block", func(f *impl.Flash) { f.Blocks[i].Erases = 1000 })
		add("worn-out block, about to be cut", func(f *impl.Flash) { f.Blocks[i].Erases, f.Fuse = 1000, 0 })
		add("block that must be erased", func(f *impl.Flash) { f.Blocks[i].Next, f.Blocks[i].Pages = 8, make([]string, 8) })
		add("block with an empty page below Next", func(f *impl.Flash) { f.Blocks[i].Next, f.Blocks[i].Pages = 5, make([]string, 8) })
	}
	add("all blocks bad", func(f *impl.Flash) {
		for i := range f.Blocks {
			f.Blocks[i].Bad = true
		}
	})
	return list
}

// invalidFlashes returns arrays that are invalid for one reason each.
func invalidFlashes() []flashSample {
	list := []flashSample{{"zero", impl.Flash{}, false}}
	add := func(what string, change func(*impl.Flash)) {
		list = append(list, flashSample{what, changed(busyFlash(smallGeometry), change), false})
	}
	for _, g := range badGeometries() {
		add("geometry", func(f *impl.Flash) { f.Geo = g })
	}
	for _, g := range someGeometries[1:] {
		add("another geometry", func(f *impl.Flash) { f.Geo = g })
	}
	add("one die of twice the blocks", func(f *impl.Flash) { f.Geo = impl.Geometry{Dies: 1, Blocks: 8, Pages: 8} })
	add("no blocks", func(f *impl.Flash) { f.Blocks = nil })
	add("a block too few", func(f *impl.Flash) { f.Blocks = f.Blocks[:7] })
	add("a block too many", func(f *impl.Flash) { f.Blocks = append(f.Blocks, emptyFlash(smallGeometry).Blocks[0]) })
	for _, i := range []int{0, 4, 7} {
		for _, n := range append(farInts, -1, 1001) {
			add("Erases", func(f *impl.Flash) { f.Blocks[i].Erases = n })
		}
		for _, n := range append(farInts, -1, 9, 16) {
			add("Next", func(f *impl.Flash) { f.Blocks[i].Next = n })
		}
		add("no pages", func(f *impl.Flash) { f.Blocks[i].Next, f.Blocks[i].Pages = 0, nil })
		add("a page too few", func(f *impl.Flash) { f.Blocks[i].Next, f.Blocks[i].Pages = 7, f.Blocks[i].Pages[:7] })
		add("a page too many", func(f *impl.Flash) { f.Blocks[i].Pages = append(f.Blocks[i].Pages, "") })
		for _, size := range []int{1, 90, 92, 182} {
			for _, page := range []int64{0, 3, 7} {
				add("size of a page", func(f *impl.Flash) { f.Blocks[i].Next, f.Blocks[i].Pages[page] = 8, strings.Repeat("p", size) })
			}
		}
		for _, page := range []int64{2, 3, 7} {
			add("page that is not empty behind Next", func(f *impl.Flash) { f.Blocks[i].Next, f.Blocks[i].Pages[page] = 2, rawSample(page) })
		}
	}
	for _, n := range append(farInts, 1000002) {
		add("Fuse", func(f *impl.Flash) { f.Fuse = n })
	}
	for _, n := range append(farInts, -1, 92) {
		add("Keep", func(f *impl.Flash) { f.Keep = n })
		add("Keep, off", func(f *impl.Flash) { f.Keep, f.Off = n, true })
	}
	for _, n := range []int64{-1, -2, -100, math.MinInt64} {
		add("Ops", func(f *impl.Flash) { f.Ops = n })
	}
	return list
}

// badGeometries returns geometries with one wrong number each.
func badGeometries() []impl.Geometry {
	var list []impl.Geometry
	for _, n := range append(farInts, -1, 0, 1, 4, 5) {
		list = append(list, impl.Geometry{Dies: n, Blocks: 4, Pages: 8}, impl.Geometry{Dies: n, Blocks: 12, Pages: 16})
	}
	for _, n := range append(farInts, -1, 0, 1, 2, 3, 13, 14) {
		list = append(list, impl.Geometry{Dies: 2, Blocks: n, Pages: 8}, impl.Geometry{Dies: 3, Blocks: n, Pages: 16})
	}
	for _, n := range append(farInts, -16, -8, -1, 0, 1, 4, 7, 9, 10, 12, 15, 17, 24, 32) {
		list = append(list, impl.Geometry{Dies: 2, Blocks: 4, Pages: n}, impl.Geometry{Dies: 3, Blocks: 12, Pages: n})
	}
	return list
}

// outcome is a result of a function that returns an array and a code.
type outcome struct {
	f    impl.Flash
	code int64
}

// callFlash calls a function that returns an array and a code, and checks promise 1 for the call.
func callFlash(t *testing.T, name string, function any, args ...any) outcome {
	t.Helper()
	var values []reflect.Value
	for _, arg := range args {
		values = append(values, reflect.ValueOf(arg))
	}
	results := callPurely(t, name, reflect.ValueOf(function), values)
	return outcome{results[0].Interface().(impl.Flash), results[1].Interface().(int64)}
}

// expectOutcome ends the test if an outcome differs from the wanted one: an array is long to print.
func expectOutcome(t *testing.T, what string, got outcome, want outcome) {
	t.Helper()
	if got.code != want.code || !sameArrays(got.f, want.f) {
		t.Fatalf("%s: got %+v, want %+v", what, got, want)
	}
}

// sameArrays reports whether two arrays are deeply equal, without the package.
func sameArrays(a impl.Flash, b impl.Flash) bool {
	return reflect.DeepEqual(deepCopy(a), deepCopy(b))
}

// wantProgram returns the outcome that chapter 6 requires of ProgramPage.
func wantProgram(s flashSample, block int64, page int64, raw string) outcome {
	f := deepCopy(s.f)
	switch {
	case !s.valid || len(raw) != 91:
		return outcome{code: impl.ErrInvalid}
	case f.Off:
		return outcome{f, impl.ErrPower}
	case block < 0 || block >= f.Geo.Dies*f.Geo.Blocks || page < 0 || page >= f.Geo.Pages:
		return outcome{code: impl.ErrRange}
	case f.Blocks[block].Bad:
		return outcome{code: impl.ErrBad}
	case f.Blocks[block].Next != page:
		return outcome{code: impl.ErrState}
	}
	b := &f.Blocks[block]
	if !startsOperation(&f) {
		if f.Keep > 0 {
			b.Pages[page] = raw[:f.Keep] + strings.Repeat("\xff", int(91-f.Keep))
			b.Next++
			if page%2 == 1 && f.Keep < 91 {
				b.Pages[page-1] = strings.Repeat("\x00", 91)
			}
		}
		return outcome{f, impl.ErrPower}
	}
	b.Pages[page] = raw
	b.Next++
	return outcome{f, impl.OK}
}

// wantErase returns the outcome that chapter 6 requires of EraseBlock.
func wantErase(s flashSample, block int64) outcome {
	f := deepCopy(s.f)
	switch {
	case !s.valid:
		return outcome{code: impl.ErrInvalid}
	case f.Off:
		return outcome{f, impl.ErrPower}
	case block < 0 || block >= f.Geo.Dies*f.Geo.Blocks:
		return outcome{code: impl.ErrRange}
	case f.Blocks[block].Bad || f.Blocks[block].Erases == 1000:
		return outcome{code: impl.ErrBad}
	}
	b := &f.Blocks[block]
	b.Erases++
	code := int64(impl.OK)
	erased := f.Geo.Pages
	if !startsOperation(&f) {
		code = impl.ErrPower
		erased = min(f.Keep, f.Geo.Pages)
	}
	for page := range erased {
		b.Pages[page] = ""
	}
	b.Next = 0
	if erased < f.Geo.Pages {
		b.Next = f.Geo.Pages
	}
	return outcome{f, code}
}

// startsOperation counts an operation and reports whether it is not interrupted.
func startsOperation(f *impl.Flash) bool {
	f.Ops++
	switch f.Fuse {
	case -1:
		return true
	case 0:
		f.Off, f.Fuse = true, -1
		return false
	}
	f.Fuse--
	return true
}

// program programs a page and checks the outcome.
func program(t *testing.T, s flashSample, block int64, page int64, raw string) outcome {
	t.Helper()
	got := callFlash(t, "ProgramPage", impl.ProgramPage, s.f, block, page, raw)
	expectOutcome(t, "ProgramPage, "+s.what, got, wantProgram(s, block, page, raw))
	return got
}

// erase erases a block and checks the outcome.
func erase(t *testing.T, s flashSample, block int64) outcome {
	t.Helper()
	got := callFlash(t, "EraseBlock", impl.EraseBlock, s.f, block)
	expectOutcome(t, "EraseBlock, "+s.what, got, wantErase(s, block))
	return got
}

// armed returns a valid array in which the next operation is interrupted.
func armed(t *testing.T, f impl.Flash, keep int64) flashSample {
	t.Helper()
	out, code := impl.ArmFuse(f, 0, keep)
	expect(t, "code of ArmFuse", code, impl.OK)
	return flashSample{"about to be cut", out, true}
}

// around returns the integers from -1 to one behind the last index, and some that are far away.
func around(size int64) []int64 {
	list := append([]int64{-1}, farInts...)
	for n := range size + 1 {
		list = append(list, n)
	}
	return list
}

// isFlashOk reports a code other than OK and an array that is not valid.
func isFlashOk(t *testing.T, what string, got outcome) {
	t.Helper()
	expect(t, "code of "+what, got.code, impl.OK)
	expect(t, "ValidFlash after "+what, impl.ValidFlash(got.f), true)
}

// readRaw is the outcome of ReadRaw.
func readRaw(f impl.Flash, block int64, page int64) coded {
	raw, code := impl.ReadRaw(f, block, page)
	return coded{raw, code}
}

func TestP7Constants(t *testing.T) {
	got := [5]int64{impl.MaxDies, impl.MaxBlocks, impl.MaxPages, impl.MaxErases, impl.MaxFuse}
	expect(t, "constants of chapter 6", got, [5]int64{3, 12, 16, 1000, 1000000})
}

func TestP7ValidGeometry(t *testing.T) {
	for dies := int64(-1); dies <= 6; dies++ {
		for blocks := int64(-1); blocks <= 20; blocks++ {
			for pages := int64(-1); pages <= 33; pages++ {
				want := (dies == 2 || dies == 3) && blocks >= 4 && blocks <= 12 && (pages == 8 || pages == 16)
				expect(t, "ValidGeometry", impl.ValidGeometry(impl.Geometry{Dies: dies, Blocks: blocks, Pages: pages}), want)
			}
		}
	}
	for _, g := range badGeometries() {
		expect(t, "ValidGeometry", impl.ValidGeometry(g), false)
	}
}

func TestP7NewFlash(t *testing.T) {
	for dies := int64(2); dies <= 3; dies++ {
		for blocks := int64(4); blocks <= 12; blocks++ {
			for _, pages := range []int64{8, 16} {
				g := impl.Geometry{Dies: dies, Blocks: blocks, Pages: pages}
				got := callFlash(t, "NewFlash", impl.NewFlash, g)
				expectOutcome(t, "NewFlash", got, outcome{emptyFlash(g), impl.OK})
				isFlashOk(t, "NewFlash", got)
			}
		}
	}
	for _, g := range append(badGeometries(), impl.Geometry{}) {
		expectOutcome(t, "NewFlash", callFlash(t, "NewFlash", impl.NewFlash, g), outcome{code: impl.ErrInvalid})
	}
}

func TestP7ValidFlash(t *testing.T) {
	for _, s := range append(validFlashes(), invalidFlashes()...) {
		expect(t, "ValidFlash, "+s.what, impl.ValidFlash(s.f), s.valid)
	}
}

// TestP7SameFlash compares arrays with copies, with all other arrays, and with copies that differ in
// one field.
func TestP7SameFlash(t *testing.T) {
	samples := append(validFlashes(), invalidFlashes()...)
	for i, a := range samples {
		expect(t, "SameFlash of a copy", impl.SameFlash(a.f, deepCopy(a.f)), true)
		for _, b := range samples[:i] {
			want := sameArrays(a.f, b.f)
			expect(t, "SameFlash", impl.SameFlash(a.f, b.f), want)
			expect(t, "SameFlash", impl.SameFlash(b.f, a.f), want)
		}
	}
	changes := []func(*impl.Flash){
		func(f *impl.Flash) { f.Geo.Dies++ }, func(f *impl.Flash) { f.Geo.Blocks++ }, func(f *impl.Flash) { f.Geo.Pages++ },
		func(f *impl.Flash) { f.Fuse++ }, func(f *impl.Flash) { f.Keep++ }, func(f *impl.Flash) { f.Off = !f.Off }, func(f *impl.Flash) { f.Ops++ },
		func(f *impl.Flash) { f.Blocks = f.Blocks[1:] }, func(f *impl.Flash) { f.Blocks = f.Blocks[:7] }, func(f *impl.Flash) { f.Blocks = nil },
		func(f *impl.Flash) { f.Blocks = append(f.Blocks, impl.Block{}) }, func(f *impl.Flash) { slices.Reverse(f.Blocks) },
	}
	for i := range 8 {
		changes = append(changes,
			func(f *impl.Flash) { f.Blocks[i].Erases++ }, func(f *impl.Flash) { f.Blocks[i].Next-- }, func(f *impl.Flash) { f.Blocks[i].Bad = true },
			func(f *impl.Flash) { f.Blocks[i].Pages[7] = "x" }, func(f *impl.Flash) { f.Blocks[i].Pages[0] += "x" }, func(f *impl.Flash) { f.Blocks[i].Pages = nil },
			func(f *impl.Flash) { f.Blocks[i].Pages = f.Blocks[i].Pages[:7] }, func(f *impl.Flash) { f.Blocks[i].Pages = append(f.Blocks[i].Pages, "") })
	}
	f := busyFlash(smallGeometry)
	for _, change := range changes {
		expect(t, "SameFlash of a changed copy", impl.SameFlash(f, changed(f, change)), false)
		expect(t, "SameFlash of a changed copy", impl.SameFlash(changed(f, change), f), false)
	}
}

func TestP7SameFlashNil(t *testing.T) {
	empty := impl.Flash{Blocks: []impl.Block{}}
	expect(t, "SameFlash of nil and empty blocks", impl.SameFlash(impl.Flash{}, empty), true)
	expect(t, "SameFlash of nil and empty blocks", impl.SameFlash(empty, impl.Flash{}), true)
	a, b := impl.Flash{Blocks: []impl.Block{{}}}, impl.Flash{Blocks: []impl.Block{{Pages: []string{}}}}
	expect(t, "SameFlash of nil and empty pages", impl.SameFlash(a, b), true)
	expect(t, "SameFlash of nil and empty pages", impl.SameFlash(b, a), true)
}

// TestP7ProgramAll programs all pages of all arrays, in order and out of order, and pages that they
// do not have.
func TestP7ProgramAll(t *testing.T) {
	for _, s := range validFlashes() {
		for _, block := range around(int64(len(s.f.Blocks))) {
			for _, page := range around(s.f.Geo.Pages) {
				program(t, s, block, page, rawSample(77))
			}
			for _, size := range []int{0, 1, 90, 92, 182} {
				program(t, s, block, 0, strings.Repeat("r", size))
			}
		}
	}
	for _, s := range invalidFlashes() {
		for _, n := range []int64{-1, 0, 1, 7, 8, 1 << 32} {
			program(t, s, n, n, rawSample(77))
			program(t, s, n, n, "")
		}
	}
}

func TestP7EraseAll(t *testing.T) {
	for _, s := range append(validFlashes(), invalidFlashes()...) {
		for _, block := range around(int64(len(s.f.Blocks))) {
			erase(t, s, block)
		}
	}
}

func TestP7ReadRaw(t *testing.T) {
	for _, s := range append(validFlashes(), invalidFlashes()...) {
		for _, block := range around(int64(len(s.f.Blocks))) {
			for _, page := range around(16) {
				want := coded{"", impl.ErrInvalid}
				switch {
				case !s.valid:
				case s.f.Off:
					want.code = impl.ErrPower
				case block < 0 || block >= int64(len(s.f.Blocks)) || page < 0 || page >= s.f.Geo.Pages:
					want.code = impl.ErrRange
				case s.f.Blocks[block].Pages[page] == "":
					want = coded{strings.Repeat("\xff", 91), impl.OK}
				default:
					want = coded{s.f.Blocks[block].Pages[page], impl.OK}
				}
				expect(t, "ReadRaw, "+s.what, readRaw(s.f, block, page), want)
			}
		}
	}
}

// TestP7InOrder fills, erases and fills again every block; each page can be programmed at its turn only.
func TestP7InOrder(t *testing.T) {
	for _, g := range []impl.Geometry{smallGeometry, {Dies: 2, Blocks: 4, Pages: 16}} {
		f := emptyFlash(g)
		for block := range g.Dies * g.Blocks {
			for round := range int64(2) {
				for next := range g.Pages {
					for page := range g.Pages {
						if page != next {
							expect(t, "code of ProgramPage out of order", program(t, flashSample{"", f, true}, block, page, rawSample(1)).code, impl.ErrState)
						}
					}
					got := program(t, flashSample{"", f, true}, block, next, rawSample(next))
					isFlashOk(t, "ProgramPage", got)
					f = got.f
					expect(t, "ReadRaw", readRaw(f, block, next), coded{rawSample(next), impl.OK})
				}
				for page := range g.Pages {
					expect(t, "code of ProgramPage in a full block", program(t, flashSample{"", f, true}, block, page, rawSample(1)).code, impl.ErrState)
				}
				got := erase(t, flashSample{"", f, true}, block)
				isFlashOk(t, "EraseBlock", got)
				f = got.f
				expect(t, "Erases", f.Blocks[block].Erases, round+1)
				expect(t, "Next", f.Blocks[block].Next, 0)
				expect(t, "ReadRaw after an erase", readRaw(f, block, 0), coded{strings.Repeat("\xff", 91), impl.OK})
			}
		}
		expect(t, "Ops", f.Ops, 2*g.Dies*g.Blocks*(g.Pages+1))
	}
}

// TestP7ProgramErrors combines the reasons of errors: the first one of them is returned.
func TestP7ProgramErrors(t *testing.T) {
	for faults := range 1 << 6 {
		f, raw, block, page := busyFlash(smallGeometry), rawSample(77), int64(3), int64(3)
		codes := []int64{impl.ErrInvalid, impl.ErrInvalid, impl.ErrPower, impl.ErrRange, impl.ErrBad, impl.ErrState}
		apply := []func(){
			func() { f.Ops = -1 }, func() { raw = "" }, func() { f.Off = true }, func() { page = 8 },
			func() { f.Blocks[3].Bad = true }, func() { f.Blocks[3].Next, f.Blocks[3].Pages[3] = 4, rawSample(3) },
		}
		want := int64(impl.OK)
		for i := len(codes) - 1; i >= 0; i-- {
			if faults>>i&1 == 1 {
				apply[i]()
				want = codes[i]
			}
		}
		got := program(t, flashSample{"several faults", f, f.Ops >= 0}, block, page, raw)
		expect(t, "code of ProgramPage", got.code, want)
		switch want {
		case impl.OK:
		case impl.ErrPower:
			expect(t, "array beside ErrPower", sameArrays(got.f, f), true)
		default:
			expect(t, "array beside an error", sameArrays(got.f, impl.Flash{}), true)
		}
	}
}

// TestP7EraseErrors combines the reasons of errors: the first one of them is returned.
func TestP7EraseErrors(t *testing.T) {
	for faults := range 1 << 5 {
		f, block := busyFlash(smallGeometry), int64(3)
		codes := []int64{impl.ErrInvalid, impl.ErrPower, impl.ErrRange, impl.ErrBad, impl.ErrBad}
		apply := []func(){
			func() { f.Keep = 92 }, func() { f.Off = true }, func() { block = 8 },
			func() { f.Blocks[3].Bad = true }, func() { f.Blocks[3].Erases = 1000 },
		}
		want := int64(impl.OK)
		for i := len(codes) - 1; i >= 0; i-- {
			if faults>>i&1 == 1 {
				apply[i]()
				want = codes[i]
			}
		}
		got := erase(t, flashSample{"several faults", f, f.Keep < 92}, block)
		expect(t, "code of EraseBlock", got.code, want)
	}
}

// TestP7WornOut erases a block until it is worn out; its pages can still be programmed and read.
func TestP7WornOut(t *testing.T) {
	f := emptyFlash(smallGeometry)
	for range 1000 {
		after, code := impl.EraseBlock(f, 5)
		expect(t, "code of EraseBlock", code, impl.OK)
		f = after
	}
	s := flashSample{"worn out", f, true}
	expect(t, "code of EraseBlock of a worn-out block", erase(t, s, 5).code, impl.ErrBad)
	got := program(t, s, 5, 0, rawSample(1))
	isFlashOk(t, "ProgramPage in a worn-out block", got)
	expect(t, "ReadRaw of a worn-out block", readRaw(got.f, 5, 0), coded{rawSample(1), impl.OK})
	got.f.Blocks[5].Bad = true
	bad := flashSample{"bad", got.f, true}
	expect(t, "code of ProgramPage in a bad block", program(t, bad, 5, 1, rawSample(1)).code, impl.ErrBad)
	expect(t, "code of EraseBlock of a bad block", erase(t, bad, 5).code, impl.ErrBad)
	expect(t, "ReadRaw of a bad block", readRaw(got.f, 5, 0), coded{rawSample(1), impl.OK})
}

// sealedBlock returns an array in which some pages of a block contain sealed pages.
func sealedBlock(t *testing.T, g impl.Geometry, block int64, pages int64) impl.Flash {
	t.Helper()
	f := emptyFlash(g)
	for page := range pages {
		f = program(t, flashSample{"", f, true}, block, page, sealedAt(page)).f
	}
	return f
}

// sealedAt returns a sealed page whose contents depend on its address.
func sealedAt(page int64) string {
	raw, _ := impl.SealPage(strings.Repeat("codeword", 8), "spare bytes 012"+string(rune('a'+page)), page)
	return raw
}

// openCode returns the code of opening a page of an array.
func openCode(t *testing.T, f impl.Flash, block int64, page int64) int64 {
	t.Helper()
	raw := readRaw(f, block, page)
	expect(t, "code of ReadRaw", raw.code, impl.OK)
	return openPage(raw.s, page).code
}

// TestP7CutProgram interrupts the programming of each page of a block after every number of bytes.
func TestP7CutProgram(t *testing.T) {
	for _, g := range []impl.Geometry{smallGeometry, {Dies: 3, Blocks: 4, Pages: 16}} {
		for page := range g.Pages {
			before := sealedBlock(t, g, 3, page)
			for keep := range int64(92) {
				cut := program(t, armed(t, before, keep), 3, page, sealedAt(page))
				expect(t, "code of an interrupted operation", cut.code, impl.ErrPower)
				expect(t, "Off after an interrupted operation", cut.f.Off, true)
				expect(t, "code of ReadRaw after an interrupted operation", readRaw(cut.f, 3, 0).code, impl.ErrPower)
				on := impl.PowerOn(cut.f)
				for other := range g.Pages {
					want := int64(impl.OK)
					lost := keep > 0 && keep < 91 && page%2 == 1 && other == page-1
					if other > page || lost || other == page && keep < 91 {
						want = impl.ErrCorrupt
					}
					expect(t, "code of OpenPage after an interrupted operation", openCode(t, on, 3, other), want)
				}
				next := page + 1
				if keep == 0 {
					next = page
				}
				expect(t, "Next after an interrupted operation", on.Blocks[3].Next, next)
				if next < g.Pages {
					isFlashOk(t, "ProgramPage after an interrupted operation", program(t, flashSample{"on", on, true}, 3, next, rawSample(1)))
				}
				if page < next {
					expect(t, "code of ProgramPage of a torn page", program(t, flashSample{"on", on, true}, 3, page, rawSample(1)).code, impl.ErrState)
				}
			}
		}
	}
}

func TestP7CutExample(t *testing.T) {
	f := sealedBlock(t, smallGeometry, 0, 1)
	on := impl.PowerOn(program(t, armed(t, f, 10), 0, 1, sealedAt(1)).f)
	expect(t, "ReadRaw of the pair", readRaw(on, 0, 0), coded{strings.Repeat("\x00", 91), impl.OK})
	expect(t, "ReadRaw of the torn page", readRaw(on, 0, 1), coded{sealedAt(1)[:10] + strings.Repeat("\xff", 81), impl.OK})
	full := sealedBlock(t, smallGeometry, 0, 8)
	on = impl.PowerOn(erase(t, armed(t, full, 3), 0).f)
	expect(t, "Next after an interrupted erase", on.Blocks[0].Next, 8)
	expect(t, "ReadRaw of an erased page", readRaw(on, 0, 2), coded{strings.Repeat("\xff", 91), impl.OK})
	expect(t, "ReadRaw of a page that was not erased", readRaw(on, 0, 3), coded{sealedAt(3), impl.OK})
}

// TestP7CutErase interrupts the erase of blocks with every number of pages and every Keep. Then the
// block is erased, with another interruption before it.
func TestP7CutErase(t *testing.T) {
	for _, g := range []impl.Geometry{smallGeometry, {Dies: 3, Blocks: 4, Pages: 16}} {
		for pages := range g.Pages + 1 {
			before := sealedBlock(t, g, 3, pages)
			for keep := range int64(92) {
				cut := erase(t, armed(t, before, keep), 3)
				expect(t, "code of an interrupted erase", cut.code, impl.ErrPower)
				on := flashSample{"on", impl.PowerOn(cut.f), true}
				expect(t, "ValidFlash after an interrupted erase", impl.ValidFlash(on.f), true)
				for page := range g.Pages {
					want := int64(impl.ErrCorrupt)
					if page < pages && page >= keep {
						want = impl.OK
					}
					expect(t, "code of OpenPage after an interrupted erase", openCode(t, on.f, 3, page), want)
					if keep < g.Pages {
						expect(t, "code of ProgramPage after an interrupted erase", program(t, on, 3, page, rawSample(1)).code, impl.ErrState)
					}
				}
				again := flashSample{"on", impl.PowerOn(erase(t, armed(t, on.f, 91-keep), 3).f), true}
				done := erase(t, again, 3)
				isFlashOk(t, "EraseBlock after two interrupted ones", done)
				expect(t, "Erases", done.f.Blocks[3].Erases, 3)
				isFlashOk(t, "ProgramPage after an erase", program(t, flashSample{"", done.f, true}, 3, 0, rawSample(1)))
			}
		}
	}
}

// TestP7Fuse executes as many operations as the fuse says; reads and operations that return errors
// do not count.
func TestP7Fuse(t *testing.T) {
	for fuse := range int64(12) {
		f, code := impl.ArmFuse(emptyFlash(smallGeometry), fuse, 5)
		expect(t, "code of ArmFuse", code, impl.OK)
		for n := range fuse {
			s := flashSample{"armed", f, true}
			impl.ReadRaw(f, 0, 0)
			program(t, s, 0, 7, rawSample(1))
			program(t, s, 8, 0, rawSample(1))
			program(t, s, 0, 0, "")
			erase(t, s, 8)
			got := erase(t, s, n%2)
			if n%3 > 0 {
				got = program(t, s, n%8, f.Blocks[n%8].Next, rawSample(n))
			}
			isFlashOk(t, "an operation before the cut", got)
			f = got.f
			expect(t, "Fuse", f.Fuse, fuse-n-1)
			expect(t, "Keep", f.Keep, 5)
			expect(t, "Ops", f.Ops, n+1)
		}
		s := flashSample{"armed", f, true}
		expect(t, "code of an operation with an error", program(t, s, 0, 7, rawSample(1)).code, impl.ErrState)
		cut := program(t, s, 7, f.Blocks[7].Next, rawSample(1))
		expect(t, "code of the operation behind the fuse", cut.code, impl.ErrPower)
		expect(t, "Fuse after the cut", cut.f.Fuse, -1)
		expect(t, "Ops after the cut", cut.f.Ops, fuse+1)
		cut = erase(t, s, 7)
		expect(t, "code of the operation behind the fuse", cut.code, impl.ErrPower)
		expect(t, "Off after the cut", cut.f.Off, true)
	}
}

// TestP7Off requests operations while the power is off: they are not started.
func TestP7Off(t *testing.T) {
	for _, s := range validFlashes() {
		f := changed(s.f, func(f *impl.Flash) { f.Off = true })
		off := flashSample{s.what + ", off", f, true}
		for _, n := range []int64{-1, 0, 1, 7, 8, 1 << 32} {
			expectOutcome(t, "ProgramPage while off", program(t, off, n, n, rawSample(1)), outcome{f, impl.ErrPower})
			expectOutcome(t, "EraseBlock while off", erase(t, off, n), outcome{f, impl.ErrPower})
			expect(t, "ReadRaw while off", readRaw(f, n, n), coded{"", impl.ErrPower})
			expectOutcome(t, "ArmFuse while off", callFlash(t, "ArmFuse", impl.ArmFuse, f, n, n), outcome{code: impl.ErrPower})
		}
	}
}

func TestP7PowerOn(t *testing.T) {
	for _, s := range append(validFlashes(), invalidFlashes()...) {
		want := impl.Flash{}
		if s.valid {
			want = changed(s.f, func(f *impl.Flash) { f.Off, f.Fuse = false, -1 })
		}
		got := callPurely(t, "PowerOn", reflect.ValueOf(impl.PowerOn), []reflect.Value{reflect.ValueOf(s.f)})[0].Interface().(impl.Flash)
		expect(t, "PowerOn, "+s.what, sameArrays(got, want), true)
	}
}

func TestP7ArmFuse(t *testing.T) {
	fuses := append(slices.Clone(farInts), -1, 0, 1, 2, 999999, 1000000)
	keeps := append(slices.Clone(farInts), -1, 0, 1, 90, 91, 92)
	for _, s := range append(validFlashes(), invalidFlashes()...) {
		for _, fuse := range fuses {
			for _, keep := range keeps {
				want := outcome{changed(s.f, func(f *impl.Flash) { f.Fuse, f.Keep = fuse, keep }), impl.OK}
				switch {
				case !s.valid:
					want = outcome{code: impl.ErrInvalid}
				case s.f.Off:
					want = outcome{code: impl.ErrPower}
				case fuse < -1 || fuse > 1000000 || keep < 0 || keep > 91:
					want = outcome{code: impl.ErrRange}
				}
				f, code := impl.ArmFuse(s.f, fuse, keep)
				expectOutcome(t, "ArmFuse, "+s.what, outcome{f, code}, want)
			}
		}
	}
	f := busyFlash(smallGeometry)
	expect(t, "code of ArmFuse", callFlash(t, "ArmFuse", impl.ArmFuse, f, int64(7), int64(3)).code, impl.OK)
}

// TestP7Ops counts beyond the greatest integer.
func TestP7Ops(t *testing.T) {
	full := flashSample{"", changed(busyFlash(smallGeometry), func(f *impl.Flash) { f.Ops = math.MaxInt64 }), true}
	for _, got := range []outcome{program(t, full, 3, 3, rawSample(1)), erase(t, full, 3)} {
		expect(t, "code of the operation", got.code, impl.OK)
		expect(t, "Ops", got.f.Ops, math.MinInt64)
		expect(t, "ValidFlash", impl.ValidFlash(got.f), false)
	}
	got := program(t, armed(t, full.f, 50), 3, 3, rawSample(1))
	expect(t, "Ops after the cut", got.f.Ops, math.MinInt64)
}

// changedPages returns the blocks and pages whose contents differ.
func changedPages(a impl.Flash, b impl.Flash) [][2]int64 {
	var list [][2]int64
	for block := range a.Blocks {
		for page, raw := range a.Blocks[block].Pages {
			if raw != b.Blocks[block].Pages[page] {
				list = append(list, [2]int64{int64(block), int64(page)})
			}
		}
	}
	return list
}

// TestP7Walk executes random operations with power cuts, and checks what each of them may change.
func TestP7Walk(t *testing.T) {
	r := rand.New(rand.NewSource(41))
	for _, g := range someGeometries {
		s := flashSample{"walk", emptyFlash(g), true}
		for range 2000 {
			if r.Intn(4) == 0 {
				s.f, _ = impl.ArmFuse(s.f, r.Int63n(4), r.Int63n(92))
			}
			block := r.Int63n(int64(len(s.f.Blocks)))
			if r.Intn(3) > 0 {
				block %= 3
			}
			page := min(s.f.Blocks[block].Next, g.Pages-1)
			var got outcome
			erasing := s.f.Blocks[block].Next == g.Pages || r.Intn(12) == 0
			if erasing {
				got = erase(t, s, block)
			} else {
				got = program(t, s, block, page, randomString(r, 91))
			}
			for _, at := range changedPages(s.f, got.f) {
				pair := page%2 == 1 && at[1] == page-1 && got.code == impl.ErrPower
				if at[0] != block || !erasing && at[1] != page && !pair {
					t.Fatalf("an operation on block %d, page %d changes block %d, page %d", block, page, at[0], at[1])
				}
			}
			s.f = got.f
			if s.f.Off {
				s.f = impl.PowerOn(s.f)
			}
			expect(t, "ValidFlash", impl.ValidFlash(s.f), true)
		}
	}
}

// TestP7Append shows that what is appended to the pages of a block does not reach those of another.
func TestP7Append(t *testing.T) {
	f := busyFlash(smallGeometry)
	programmed, _ := impl.ProgramPage(f, 3, 3, rawSample(1))
	erased, _ := impl.EraseBlock(f, 3)
	on := impl.PowerOn(f)
	for _, got := range []impl.Flash{programmed, erased, on} {
		before := deepCopy(got)
		for _, b := range got.Blocks {
			_ = append(b.Pages, "appended")
		}
		expect(t, "array after appending to pages", sameArrays(got, before), true)
	}
}
