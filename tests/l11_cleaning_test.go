package tests

import (
	"math"
	"math/big"
	"math/rand"
	"reflect"
	"slices"
	"testing"

	"loop.example/g00905/impl"
)

// statSample is a list of statistics for blocks with a number of pages, whether it is valid, and what
// is special about it.
type statSample struct {
	what  string
	list  []impl.BlockStat
	pages int64
	valid bool
}

// statOutcome is a result of StatsOf.
type statOutcome struct {
	list []impl.BlockStat
	code int64
}

// liveSum is a result of AverageLive.
type liveSum struct {
	live, blocks int64
}

// usableStat returns the statistics of a usable block.
func usableStat(live int64, age int64) impl.BlockStat {
	return impl.BlockStat{Live: live, Age: age, Usable: true}
}

// liveStats returns the statistics of usable blocks of the same age.
func liveStats(age int64, live ...int64) []impl.BlockStat {
	var list []impl.BlockStat
	for _, n := range live {
		list = append(list, usableStat(n, age))
	}
	return list
}

// statsAreValid reports whether a list is valid, by the definition of chapter 11.
func statsAreValid(list []impl.BlockStat, pages int64) bool {
	within := func(n int64, greatest int64) bool { return n >= 0 && n <= greatest }
	for _, s := range list {
		if !within(s.Live, pages) || !within(s.Age, 1000000) {
			return false
		}
	}
	return pages > 0 && pages <= 640 && len(list) <= 640
}

// candidatesOf returns the indexes of the candidates of a valid list, by the definition of chapter 11.
func candidatesOf(list []impl.BlockStat, pages int64) []int {
	var out []int
	for i, s := range list {
		if s.Usable && s.Live < pages {
			out = append(out, i)
		}
	}
	return out
}

// ratioOf returns the ratio by which cost-benefit victims are chosen.
func ratioOf(s impl.BlockStat, pages int64) *big.Rat {
	ratio := big.NewRat(pages-s.Live, pages+s.Live)
	return ratio.Mul(ratio, big.NewRat(s.Age, 1))
}

// wantVictim returns the victim that chapter 11 requires: no candidate is better, and none before it
// is as good.
func wantVictim(policy int64, list []impl.BlockStat, pages int64) int64 {
	if !statsAreValid(list, pages) || policy != impl.ClGreedy && policy != impl.ClCostBenefit {
		return -1
	}
	candidates := candidatesOf(list, pages)
	if len(candidates) == 0 {
		return -1
	}
	victim := slices.MinFunc(candidates, func(i, j int) int {
		if policy == impl.ClGreedy {
			return int(list[i].Live - list[j].Live)
		}
		return ratioOf(list[j], pages).Cmp(ratioOf(list[i], pages))
	})
	return int64(victim)
}

// wantGain returns the result that chapter 11 requires of GainOf.
func wantGain(list []impl.BlockStat, pages int64, block int64) int64 {
	if !statsAreValid(list, pages) || block < 0 || block > int64(len(list))-1 {
		return 0
	}
	return pages - list[block].Live
}

// wantAverage returns the result that chapter 11 requires of AverageLive.
func wantAverage(list []impl.BlockStat, pages int64) liveSum {
	var sum liveSum
	if statsAreValid(list, pages) {
		for _, s := range list {
			if s.Usable {
				sum = liveSum{sum.live + s.Live, sum.blocks + 1}
			}
		}
	}
	return sum
}

// wantStatsOf returns the outcome that chapter 11 requires of StatsOf.
func wantStatsOf(m impl.PageMap, ages []int64, usable []bool) statOutcome {
	if !mapIsValid(m) || len(ages) != int(m.Blocks) || len(usable) != int(m.Blocks) {
		return statOutcome{code: impl.ErrInvalid}
	}
	var list []impl.BlockStat
	for block, age := range ages {
		if age < 0 || age > 1000000 {
			return statOutcome{code: impl.ErrInvalid}
		}
		live := len(wantLiveIn(m, int64(block)))
		list = append(list, impl.BlockStat{Live: int64(live), Age: age, Usable: usable[block]})
	}
	return statOutcome{list, impl.OK}
}

func averageLive(list []impl.BlockStat, pages int64) liveSum {
	live, blocks := impl.AverageLive(list, pages)
	return liveSum{live, blocks}
}

// checkVictims compares the victims of all policies with the definitions, and checks promise 18.
func checkVictims(t *testing.T, what string, list []impl.BlockStat, pages int64) {
	t.Helper()
	greedy, benefit := wantVictim(impl.ClGreedy, list, pages), wantVictim(impl.ClCostBenefit, list, pages)
	got := [4]int64{impl.GreedyVictim(list, pages), impl.PickVictim(1, list, pages), impl.CostBenefitVictim(list, pages), impl.PickVictim(2, list, pages)}
	if got != [4]int64{greedy, greedy, benefit, benefit} {
		t.Fatalf("%s: victims %v, want %d and %d: %d pages, %+v", what, got, greedy, benefit, pages, list)
	}
	checkGreedy(t, list, pages)
}

// checkGreedy checks promise 18: the greedy victim has the fewest live pages of all candidates, and
// not more than the average of the candidates and of the usable blocks.
func checkGreedy(t *testing.T, list []impl.BlockStat, pages int64) {
	t.Helper()
	victim := impl.GreedyVictim(list, pages)
	if victim < 0 {
		return
	}
	least := list[victim].Live
	var sum liveSum
	for i, s := range list {
		if !s.Usable || s.Live == pages {
			continue
		}
		if s.Live < least || s.Live == least && int64(i) < victim {
			t.Fatalf("block %d is better than the victim %d: %d pages, %+v", i, victim, pages, list)
		}
		sum = liveSum{sum.live + s.Live, sum.blocks + 1}
	}
	average := averageLive(list, pages)
	if least*sum.blocks > sum.live || least*average.blocks > average.live || average.blocks < 1 {
		t.Fatalf("the victim %d has more live pages than the average: %d pages, %+v", victim, pages, list)
	}
}

// checkStats compares all functions of a list with the definitions.
func checkStats(t *testing.T, s statSample) {
	t.Helper()
	checkVictims(t, s.what, s.list, s.pages)
	for _, policy := range slices.Concat(farInts, []int64{-1, 0, 3, 4, 9, 257, 1<<32 + 1, 1<<32 + 2}) {
		expect(t, "PickVictim of another policy, "+s.what, impl.PickVictim(policy, s.list, s.pages), -1)
	}
	size := int64(len(s.list))
	for _, block := range slices.Concat(around(size), []int64{size + 1, 640, 641}) {
		expect(t, "GainOf, "+s.what, impl.GainOf(s.list, s.pages, block), wantGain(s.list, s.pages, block))
	}
	expect(t, "AverageLive, "+s.what, averageLive(s.list, s.pages), wantAverage(s.list, s.pages))
}

// randomStats returns valid statistics, often with few different values, so that there are ties.
func randomStats(r *rand.Rand, size int, pages int64) []impl.BlockStat {
	list := make([]impl.BlockStat, size)
	live, age := []int64{min(2, pages), pages, r.Int63n(pages + 1)}[r.Intn(3)], []int64{1, 4, 1000000}[r.Intn(3)]
	for i := range list {
		list[i] = impl.BlockStat{Live: r.Int63n(live + 1), Age: r.Int63n(age + 1), Usable: r.Intn(4) > 0}
	}
	return list
}

// validStats returns lists with the least and greatest numbers of blocks and pages, and with values at
// their bounds.
func validStats() []statSample {
	r := rand.New(rand.NewSource(111))
	list := []statSample{
		{"example of GreedyVictim", liveStats(0, 3, 1, 1), 8, true},
		{"example of CostBenefitVictim", []impl.BlockStat{usableStat(2, 10), usableStat(4, 30)}, 8, true},
		{"one page, not live", liveStats(0, 0), 1, true},
		{"one page, live", liveStats(0, 1), 1, true},
		{"one page, both", liveStats(7, 1, 0, 1, 0), 1, true},
		{"640 pages", liveStats(1000000, 640, 639, 0, 1), 640, true},
		{"640 blocks with 640 pages", slices.Repeat(liveStats(1000000, 640), 640), 640, true},
		{"640 blocks, the last one is the victim", append(slices.Repeat(liveStats(1000000, 640), 639), usableStat(639, 0)), 640, true},
		{"640 empty blocks", make([]impl.BlockStat, 640), 640, true},
		{"ages at their bounds", []impl.BlockStat{usableStat(3, 0), usableStat(3, 1), usableStat(3, 999999), usableStat(3, 1000000)}, 8, true},
		{"values of Live at their bounds", []impl.BlockStat{usableStat(8, 5), usableStat(7, 5), usableStat(1, 5), usableStat(0, 5)}, 8, true},
		{"no usable block", []impl.BlockStat{{Live: 3, Age: 5}, {}, {Live: 8, Age: 1000000}}, 8, true},
		{"the best block is not usable", []impl.BlockStat{{Age: 1000000}, usableStat(7, 1), {Live: 1, Age: 1000000}}, 8, true},
		{"no page to gain", liveStats(1000000, 8, 8, 8), 8, true},
		{"no page to gain but in one block", []impl.BlockStat{usableStat(8, 1000000), usableStat(7, 0), usableStat(8, 1000000)}, 8, true},
		{"no page to gain in the usable blocks", []impl.BlockStat{usableStat(8, 9), {Live: 1, Age: 9}, usableStat(8, 9)}, 8, true},
		{"only usable blocks with no page to gain come first", []impl.BlockStat{usableStat(8, 0), usableStat(8, 9), usableStat(7, 0), usableStat(7, 9)}, 8, true},
	}
	for _, pages := range []int64{1, 2, 3, 8, 16, 639, 640} {
		list = append(list, statSample{"no blocks", nil, pages, true}, statSample{"no blocks, not nil", []impl.BlockStat{}, pages, true})
		for _, size := range []int{1, 2, 5, 36, 639, 640} {
			list = append(list, statSample{"random", randomStats(r, size, pages), pages, true})
		}
	}
	return list
}

// invalidStats returns lists that are invalid for one reason each.
func invalidStats() []statSample {
	var list []statSample
	add := func(what string, pages int64, stats ...impl.BlockStat) {
		list = append(list, statSample{what, stats, pages, false})
	}
	for _, pages := range slices.Concat(farInts, []int64{-1, 0, 641, 642, 1000}) {
		add("number of pages", pages, usableStat(0, 5))
		add("number of pages, no blocks", pages)
		add("number of pages, all live", pages, usableStat(max(pages, 0), 5), usableStat(0, 5))
	}
	for _, size := range []int{641, 642, 1000} {
		add("number of blocks", 8, slices.Repeat(liveStats(5, 3), size)...)
		add("number of unusable blocks", 640, make([]impl.BlockStat, size)...)
	}
	for _, n := range slices.Concat(farInts, []int64{-1, 1000001}) {
		for _, usable := range []bool{false, true} {
			for _, bad := range []impl.BlockStat{{Live: n, Age: 5, Usable: usable}, {Live: 3, Age: n, Usable: usable}} {
				add("only block", 8, bad)
				add("first block", 8, bad, usableStat(1, 5), usableStat(2, 5))
				add("block in the middle", 8, usableStat(1, 5), bad, usableStat(2, 5))
				add("last block", 8, usableStat(1, 5), usableStat(2, 5), bad)
			}
		}
	}
	for _, pages := range []int64{1, 8, 639, 640} {
		add("Live above pages", pages, usableStat(0, 5), usableStat(pages+1, 5))
		add("Live above pages of an unusable block", pages, usableStat(0, 5), impl.BlockStat{Live: pages + 1})
		add("Live -1", pages, usableStat(-1, 5), usableStat(0, 5))
	}
	return list
}

// allStats returns valid and invalid lists.
func allStats() []statSample {
	return append(validStats(), invalidStats()...)
}

func TestP18Constants(t *testing.T) {
	expect(t, "policies and MaxAge", [3]int64{impl.ClGreedy, impl.ClCostBenefit, impl.MaxAge}, [3]int64{1, 2, 1000000})
}

func TestP18ValidStats(t *testing.T) {
	for _, s := range allStats() {
		expect(t, "definition of valid statistics, "+s.what, statsAreValid(s.list, s.pages), s.valid)
		expect(t, "ValidStats, "+s.what, impl.ValidStats(s.list, s.pages), s.valid)
	}
	expect(t, "ValidStats of the example", impl.ValidStats([]impl.BlockStat{{Live: 9}}, 8), false)
}

// TestP18ValidChanges changes each value of valid lists.
func TestP18ValidChanges(t *testing.T) {
	for _, s := range validStats() {
		numbers := slices.Concat(farInts, []int64{-1, 0, 1, s.pages - 1, s.pages, s.pages + 1, 640, 641, 999999, 1000000, 1000001})
		for _, n := range numbers {
			expect(t, "ValidStats with other pages", impl.ValidStats(s.list, n), statsAreValid(s.list, n))
			longer := append(slices.Clone(s.list), usableStat(n, 5))
			expect(t, "ValidStats with another block", impl.ValidStats(longer, s.pages), statsAreValid(longer, s.pages))
			for i := 0; i < len(s.list); i += 1 + len(s.list)/10 {
				live, age := slices.Clone(s.list), slices.Clone(s.list)
				live[i].Live, age[i].Age = n, n
				expect(t, "ValidStats with another Live", impl.ValidStats(live, s.pages), statsAreValid(live, s.pages))
				expect(t, "ValidStats with another Age", impl.ValidStats(age, s.pages), statsAreValid(age, s.pages))
			}
		}
	}
}

func TestP18Stats(t *testing.T) {
	for _, s := range allStats() {
		checkStats(t, s)
	}
	expect(t, "GreedyVictim of the example", impl.GreedyVictim(liveStats(0, 3, 1, 1), 8), 1)
	expect(t, "AverageLive of the example", averageLive(liveStats(0, 3, 1, 1), 8), liveSum{5, 3})
	expect(t, "CostBenefitVictim of the example", impl.CostBenefitVictim([]impl.BlockStat{usableStat(2, 10), usableStat(4, 30)}, 8), 1)
	expect(t, "GreedyVictim of the other example", impl.GreedyVictim([]impl.BlockStat{usableStat(2, 10), usableStat(4, 30)}, 8), 0)
}

// TestP18NoVictim lists what has no victim.
func TestP18NoVictim(t *testing.T) {
	for _, list := range [][]impl.BlockStat{nil, {}, {{Live: 0, Age: 9}}, liveStats(9, 8), {{Live: 2}, usableStat(8, 9), {Live: 8}}, liveStats(9, 1, 9), liveStats(1000001, 1, 2)} {
		for _, policy := range []int64{impl.ClGreedy, impl.ClCostBenefit} {
			expect(t, "victim where there is none", impl.PickVictim(policy, list, 8), -1)
		}
	}
}

// TestP18SmallLists compares the victims of all lists of up to three blocks with three pages.
func TestP18SmallLists(t *testing.T) {
	var all []impl.BlockStat
	for live := range int64(4) {
		for _, age := range []int64{0, 1, 2, 5} {
			all = append(all, usableStat(live, age), impl.BlockStat{Live: live, Age: age})
		}
	}
	for _, a := range all {
		checkVictims(t, "one block", []impl.BlockStat{a}, 3)
		for _, b := range all {
			checkVictims(t, "two blocks", []impl.BlockStat{a, b}, 3)
			for _, c := range all {
				checkVictims(t, "three blocks", []impl.BlockStat{a, b, c}, 3)
			}
		}
	}
}

func TestP18RandomLists(t *testing.T) {
	r := rand.New(rand.NewSource(112))
	for n := range 4000 {
		pages := []int64{1, 2, 8, 16, 640, 1 + r.Int63n(640)}[r.Intn(6)]
		size := []int{1 + r.Intn(4), r.Intn(40)}[r.Intn(2)]
		if n%100 == 0 {
			size = 639 + r.Intn(2)
		}
		checkVictims(t, "random list", randomStats(r, size, pages), pages)
	}
}

// TestP18GreedyTies puts blocks with equally many live pages and different ages in every order.
func TestP18GreedyTies(t *testing.T) {
	for _, ages := range [][]int64{{0, 0, 0}, {1, 2, 3}, {3, 2, 1}, {1000000, 0, 500}, {0, 1000000, 0}} {
		for live := range int64(8) {
			list := []impl.BlockStat{usableStat(live, ages[0]), usableStat(live, ages[1]), usableStat(live, ages[2])}
			expect(t, "victim of equal blocks", impl.GreedyVictim(list, 8), 0)
			list[0].Usable = false
			expect(t, "victim of equal blocks but the first one", impl.GreedyVictim(list, 8), 1)
			list[0] = usableStat(live+1, 1000000)
			expect(t, "victim behind a block with more live pages", impl.GreedyVictim(list, 8), 1)
			list[1] = usableStat(live+1, 1000000)
			expect(t, "victim behind two blocks with more live pages", impl.GreedyVictim(list, 8), 2)
		}
	}
}

// tie is a pair of blocks with the same ratio, written with different numbers.
type tie struct {
	pages int64
	a, b  impl.BlockStat
}

// TestP18RatioTies has equal ratios of other numbers: the first block is the victim, unless the other
// one is a page or a unit of age better.
func TestP18RatioTies(t *testing.T) {
	ties := []tie{
		{8, usableStat(4, 30), usableStat(0, 10)}, {8, usableStat(7, 15), usableStat(0, 1)}, {8, usableStat(2, 10), usableStat(4, 18)},
		{16, usableStat(4, 5), usableStat(8, 9)}, {2, usableStat(0, 1), usableStat(1, 3)}, {640, usableStat(639, 1279), usableStat(0, 1)},
		{640, usableStat(320, 999999), usableStat(0, 333333)}, {640, usableStat(639, 781*1279), usableStat(0, 781)}, {1, usableStat(0, 7), usableStat(0, 7)},
	}
	for _, x := range ties {
		expect(t, "ratios are equal", ratioOf(x.a, x.pages).Cmp(ratioOf(x.b, x.pages)), 0)
		for _, list := range [][]impl.BlockStat{{x.a, x.b}, {x.b, x.a}} {
			expect(t, "victim of equal ratios", impl.CostBenefitVictim(list, x.pages), 0)
			expect(t, "victim of equal ratios behind another block", impl.CostBenefitVictim(slices.Insert(list, 0, usableStat(x.pages, 1000000), usableStat(0, 0)), x.pages), 2)
			older := slices.Clone(list)
			older[1].Age++
			expect(t, "victim of ratios of which the second is greater", impl.CostBenefitVictim(older, x.pages), 1)
			older[0].Age, older[1].Age = list[0].Age+1, list[1].Age
			expect(t, "victim of ratios of which the first is greater", impl.CostBenefitVictim(older, x.pages), 0)
			unusable := slices.Clone(list)
			unusable[0].Usable = false
			expect(t, "victim of equal ratios of which the first is unusable", impl.CostBenefitVictim(unusable, x.pages), 1)
		}
	}
}

// TestP18AgeZero has ratios of 0: they are equal however many pages are live, and a candidate all the
// same.
func TestP18AgeZero(t *testing.T) {
	for _, list := range [][]impl.BlockStat{liveStats(0, 7), liveStats(0, 7, 0, 3), liveStats(0, 0, 7, 3), {usableStat(7, 0), usableStat(8, 1000000), {Age: 1000000}}} {
		expect(t, "victim of ratios of age 0", impl.CostBenefitVictim(list, 8), 0)
		expect(t, "victim of ratios of age 0 behind a block with no page to gain", impl.CostBenefitVictim(slices.Insert(list, 0, usableStat(8, 9)), 8), 1)
		expect(t, "victim of ratios of age 0 and a greater one", impl.CostBenefitVictim(slices.Insert(list, len(list), usableStat(7, 1)), 8), int64(len(list)))
	}
}

// TestP18CloseRatios has ratios that are almost equal, so that they are only told apart if they are
// not rounded.
func TestP18CloseRatios(t *testing.T) {
	list := []impl.BlockStat{usableStat(639, 1000000), usableStat(638, 500000)}
	expect(t, "victim of ratios that differ by less than 1", impl.CostBenefitVictim(list, 640), 1)
	expect(t, "victim of the ratios 1/15 and 2/14", impl.CostBenefitVictim([]impl.BlockStat{usableStat(7, 1), usableStat(6, 1)}, 8), 1)
	expect(t, "victim of the ratios 6/10 and 7/9", impl.CostBenefitVictim([]impl.BlockStat{usableStat(2, 1), usableStat(1, 1)}, 8), 1)
	r := rand.New(rand.NewSource(113))
	for range 20000 {
		pages := []int64{8, 16, 639, 640}[r.Intn(4)]
		a := usableStat(r.Int63n(pages), r.Int63n(1000001))
		b := usableStat(r.Int63n(pages), 0)
		// The age of b with which its ratio is just not above that of a.
		age := (pages - a.Live) * a.Age * (pages + b.Live) / ((pages + a.Live) * (pages - b.Live))
		for _, b.Age = range []int64{age, age + 1} {
			if b.Age <= 1000000 {
				checkVictims(t, "close ratios", []impl.BlockStat{a, b}, pages)
				checkVictims(t, "close ratios", []impl.BlockStat{b, a}, pages)
			}
		}
	}
}

func TestP18GainOf(t *testing.T) {
	list := []impl.BlockStat{usableStat(3, 5), {Live: 1, Age: 5}, usableStat(8, 5), {Live: 8}, usableStat(0, 0), {}}
	for block, want := range []int64{5, 7, 0, 0, 8, 8} {
		expect(t, "GainOf", impl.GainOf(list, 8, int64(block)), want)
	}
	for _, block := range slices.Concat(farInts, []int64{-6, -1, 6, 7, 8}) {
		expect(t, "GainOf of no block", impl.GainOf(list, 8, block), 0)
		expect(t, "GainOf of no list", impl.GainOf(nil, 8, block), 0)
	}
	expect(t, "GainOf of the first of no blocks", impl.GainOf(nil, 8, 0), 0)
	expect(t, "GainOf with more pages", impl.GainOf(list, 640, 5), 640)
	expect(t, "GainOf with too many pages", impl.GainOf(list, 641, 5), 0)
	expect(t, "GainOf with too few pages", impl.GainOf(list, 7, 5), 0)
}

func TestP18AverageLive(t *testing.T) {
	full := slices.Repeat(liveStats(0, 640), 640)
	expect(t, "AverageLive of no blocks", averageLive(nil, 8), liveSum{})
	expect(t, "AverageLive without a usable block", averageLive([]impl.BlockStat{{Live: 3}, {Live: 8, Age: 5}}, 8), liveSum{})
	expect(t, "AverageLive of a usable block among others", averageLive([]impl.BlockStat{{Live: 3}, usableStat(8, 0), {Live: 8}}, 8), liveSum{8, 1})
	expect(t, "AverageLive of usable blocks without live pages", averageLive(liveStats(9, 0, 0), 8), liveSum{0, 2})
	expect(t, "AverageLive of full blocks", averageLive(full, 640), liveSum{640 * 640, 640})
	expect(t, "AverageLive of too many blocks", averageLive(append(full, usableStat(0, 0)), 640), liveSum{})
	expect(t, "AverageLive of an invalid list", averageLive(liveStats(0, 3, 1, 9), 8), liveSum{})
}

// statsOf returns the outcome of StatsOf after comparing it with the definition, and checks promise 1
// for the call.
func statsOf(t *testing.T, what string, m impl.PageMap, ages []int64, usable []bool) statOutcome {
	t.Helper()
	args := []reflect.Value{reflect.ValueOf(m), reflect.ValueOf(ages), reflect.ValueOf(usable)}
	results := callPurely(t, "StatsOf", reflect.ValueOf(impl.StatsOf), args)
	got := statOutcome{results[0].Interface().([]impl.BlockStat), results[1].Interface().(int64)}
	want := wantStatsOf(m, ages, usable)
	if got.code != want.code || !slices.Equal(got.list, want.list) {
		t.Fatalf("StatsOf, %s: got %+v, want %+v", what, got, want)
	}
	return got
}

// randomAges returns ages, some of them at their bounds.
func randomAges(r *rand.Rand, blocks int64) []int64 {
	ages := make([]int64, blocks)
	for i := range ages {
		ages[i] = []int64{0, 1, 999999, 1000000, r.Int63n(1000001)}[r.Intn(5)]
	}
	return ages
}

// randomFlags returns random booleans.
func randomFlags(r *rand.Rand, size int64) []bool {
	flags := make([]bool, size)
	for i := range flags {
		flags[i] = r.Intn(2) == 0
	}
	return flags
}

func TestP18StatsOf(t *testing.T) {
	r := rand.New(rand.NewSource(114))
	for _, s := range validMaps() {
		ages, usable := randomAges(r, s.m.Blocks), randomFlags(r, s.m.Blocks)
		got := statsOf(t, s.what, s.m, ages, usable)
		expect(t, "code of StatsOf, "+s.what, got.code, impl.OK)
		expect(t, "ValidStats of StatsOf, "+s.what, impl.ValidStats(got.list, s.m.Pages), true)
		for block, stat := range got.list {
			want := impl.BlockStat{Live: impl.LivePages(s.m, int64(block)), Age: ages[block], Usable: usable[block]}
			expect(t, "element of StatsOf, "+s.what, stat, want)
		}
		checkVictims(t, "statistics of a map", got.list, s.m.Pages)
	}
	m := exampleMap()
	m.Map[0], m.Map[3] = 8, 23
	got := statsOf(t, "three blocks", m, []int64{4, 0, 1000000}, []bool{true, false, true})
	want := []impl.BlockStat{{Live: 0, Age: 4, Usable: true}, {Live: 2}, {Live: 1, Age: 1000000, Usable: true}}
	if !slices.Equal(got.list, want) {
		t.Errorf("StatsOf: got %+v, want %+v", got.list, want)
	}
}

// TestP18StatsTrimmed counts trim records: they are live pages as the others.
func TestP18StatsTrimmed(t *testing.T) {
	for _, trimmed := range [][]bool{{false, false, false, false}, {true, false, true, false}, {true, true, true, true}} {
		m := impl.PageMap{Blocks: 3, Pages: 8, Map: []int64{7, 8, 9, 0}, Trimmed: trimmed}
		got := statsOf(t, "trimmed", m, []int64{1, 2, 3}, []bool{true, true, true})
		if want := []impl.BlockStat{usableStat(2, 1), usableStat(2, 2), usableStat(0, 3)}; !slices.Equal(got.list, want) {
			t.Errorf("StatsOf with Trimmed %v: got %+v, want %+v", trimmed, got.list, want)
		}
	}
}

func TestP18StatsErrors(t *testing.T) {
	for _, s := range invalidMaps() {
		// As many ages as there are blocks, if there can be so many.
		for _, size := range []int64{0, 3, max(0, min(s.m.Blocks, 1000))} {
			got := statsOf(t, s.what, s.m, make([]int64, size), make([]bool, size))
			expect(t, "code of StatsOf with an invalid map, "+s.what, got.code, impl.ErrInvalid)
		}
	}
	for _, s := range validMaps() {
		blocks := s.m.Blocks
		for _, size := range []int64{0, 1, blocks - 1, blocks + 1, 640, 641} {
			if size == blocks {
				continue
			}
			got := statsOf(t, s.what, s.m, make([]int64, size), make([]bool, blocks))
			expect(t, "code of StatsOf with another number of ages", got.code, impl.ErrInvalid)
			got = statsOf(t, s.what, s.m, make([]int64, blocks), make([]bool, size))
			expect(t, "code of StatsOf with another length of usable", got.code, impl.ErrInvalid)
			got = statsOf(t, s.what, s.m, make([]int64, size), make([]bool, size))
			expect(t, "code of StatsOf with other lengths", got.code, impl.ErrInvalid)
		}
	}
}

// TestP18StatsAges has ages at and beside their bounds in every place.
func TestP18StatsAges(t *testing.T) {
	for _, m := range []impl.PageMap{exampleMap(), trimmedMap(), emptyMap(1, mapSize{1, 1}), emptyMap(48, mapSize{40, 16})} {
		for block := range m.Blocks {
			for _, age := range []int64{math.MinInt64, -1, 0, 1, 999999, 1000000, 1000001, math.MaxInt64} {
				ages := make([]int64, m.Blocks)
				ages[block] = age
				for _, usable := range []bool{false, true} {
					want := int64(impl.ErrInvalid)
					if age >= 0 && age <= 1000000 {
						want = impl.OK
					}
					got := statsOf(t, "age", m, ages, slices.Repeat([]bool{usable}, int(m.Blocks)))
					expect(t, "code of StatsOf", got.code, want)
				}
			}
		}
	}
}
