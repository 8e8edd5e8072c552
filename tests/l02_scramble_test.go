package tests

import (
	"math"
	"math/bits"
	"math/rand"
	"strings"
	"testing"

	"loop.example/g00905/impl"
)

// invalidStates are integers that are no states of the shift register.
var invalidStates = []int64{math.MinInt64, -65535, -1, 0, 65536, 65537, 1 << 32, 1<<32 + 1, math.MaxInt64}

// coded is a result of Keystream or Scramble.
type coded struct {
	s    string
	code int64
}

func keystream(state int64, size int64) coded {
	s, code := impl.Keystream(state, size)
	return coded{s, code}
}

func scramble(page int64, s string) coded {
	out, code := impl.Scramble(page, s)
	return coded{out, code}
}

func TestP3ValidState(t *testing.T) {
	for state := int64(1); state <= 65535; state++ {
		expect(t, "ValidState", impl.ValidState(state), true)
	}
	for _, state := range invalidStates {
		expect(t, "ValidState", impl.ValidState(state), false)
	}
}

func TestP3InvalidStates(t *testing.T) {
	for _, state := range invalidStates {
		expect(t, "StepLfsr", impl.StepLfsr(state), 0)
		expect(t, "BackLfsr", impl.BackLfsr(state), 0)
		for _, steps := range []int64{0, 1, 65535, -1} {
			expect(t, "JumpLfsr", impl.JumpLfsr(state, steps), 0)
		}
		for _, size := range []int64{0, 1, 256, 257, -1} {
			expect(t, "Keystream", keystream(state, size), coded{"", impl.ErrRange})
		}
	}
}

// TestP3Inverse steps from every state and back, and checks the step against its definition.
func TestP3Inverse(t *testing.T) {
	for state := int64(1); state <= 65535; state++ {
		want := state / 2
		if state%2 == 1 {
			want ^= 46080
		}
		next := impl.StepLfsr(state)
		if next != want || impl.BackLfsr(next) != state || impl.StepLfsr(impl.BackLfsr(state)) != state {
			t.Fatalf("state %d: a step leads to %d, and back to %d", state, next, impl.BackLfsr(next))
		}
	}
	expect(t, "StepLfsr", impl.StepLfsr(1), 46080)
	expect(t, "StepLfsr", impl.StepLfsr(2), 1)
	expect(t, "BackLfsr", impl.BackLfsr(46080), 1)
}

// cycle returns the states from 1 on until the first repetition.
func cycle(t *testing.T) []int64 {
	t.Helper()
	states := []int64{1}
	for at := impl.StepLfsr(1); at != 1; at = impl.StepLfsr(at) {
		states = append(states, at)
		if len(states) > impl.LfsrPeriod {
			t.Fatal("the shift register does not return to its state")
		}
	}
	return states
}

func TestP3Period(t *testing.T) {
	expect(t, "LfsrPeriod", impl.LfsrPeriod, 65535)
	seen := map[int64]bool{}
	states := cycle(t)
	for _, state := range states {
		seen[state] = true
	}
	expect(t, "period", len(states), 65535)
	expect(t, "number of states", len(seen), 65535)
}

// TestP3Jump compares jumps with the states of the cycle.
func TestP3Jump(t *testing.T) {
	states := cycle(t)
	for steps, state := range states {
		expect(t, "JumpLfsr from 1", impl.JumpLfsr(1, int64(steps)), state)
	}
	r := rand.New(rand.NewSource(6))
	for range 3000 {
		from := r.Intn(len(states))
		steps := r.Int63() >> r.Intn(63)
		to := int((int64(from) + steps%65535) % 65535)
		expect(t, "JumpLfsr", impl.JumpLfsr(states[from], steps), states[to])
	}
	for _, state := range []int64{1, 2, 777, 46080, 65535} {
		expect(t, "JumpLfsr by 0", impl.JumpLfsr(state, 0), state)
		expect(t, "JumpLfsr by 1", impl.JumpLfsr(state, 1), impl.StepLfsr(state))
		expect(t, "JumpLfsr by 65534", impl.JumpLfsr(state, 65534), impl.BackLfsr(state))
		expect(t, "JumpLfsr by the period", impl.JumpLfsr(state, 65535), state)
		expect(t, "JumpLfsr by the period and 1", impl.JumpLfsr(state, 65536), impl.StepLfsr(state))
		expect(t, "JumpLfsr by 2^63-1", impl.JumpLfsr(state, math.MaxInt64), impl.JumpLfsr(state, math.MaxInt64%65535))
		for _, steps := range []int64{-1, -2, -65535, math.MinInt64} {
			expect(t, "JumpLfsr by negative steps", impl.JumpLfsr(state, steps), 0)
		}
	}
}

func TestP3Keystream(t *testing.T) {
	expect(t, "MaxStream", impl.MaxStream, 256)
	expect(t, "Keystream", keystream(1, 1), coded{"\x01", impl.OK})
	for _, state := range []int64{1, 2, 3, 255, 256, 777, 32768, 46080, 65534, 65535} {
		want := make([]byte, 256)
		at := state
		for b := range 8 * 256 {
			want[b/8] |= byte(at&1) << (b % 8)
			at = impl.StepLfsr(at)
		}
		for size := range int64(257) {
			expect(t, "Keystream", keystream(state, size), coded{string(want[:size]), impl.OK})
		}
		for _, size := range []int64{-1, -256, 257, 258, 1 << 32, math.MinInt64, math.MaxInt64} {
			expect(t, "Keystream of an invalid size", keystream(state, size), coded{"", impl.ErrRange})
		}
	}
}

func TestP3SeedFor(t *testing.T) {
	for page := range int64(65535) {
		expect(t, "SeedFor", impl.SeedFor(page), page+1)
	}
	for _, page := range []int64{math.MinInt64, -65535, -2, -1, 65535, 65536, 1 << 32, math.MaxInt64} {
		expect(t, "SeedFor of an invalid page", impl.SeedFor(page), 0)
	}
}

// TestP3ScrambleInverse scrambles twice, for strings of all sizes and pages up to the last one.
func TestP3ScrambleInverse(t *testing.T) {
	r := rand.New(rand.NewSource(7))
	for size := range 257 {
		s := randomString(r, size)
		for _, page := range []int64{0, 1, 7, 65533, 65534, r.Int63n(65535)} {
			key, _ := impl.Keystream(page+1, int64(size))
			x := scramble(page, s)
			expect(t, "code of Scramble", x.code, impl.OK)
			expect(t, "size of Scramble", len(x.s), size)
			for i := range len(x.s) {
				if x.s[i] != s[i]^key[i] {
					t.Fatalf("page %d: byte %d is not scrambled with the keystream", page, i)
				}
			}
			expect(t, "Scramble twice", scramble(page, x.s), coded{s, impl.OK})
		}
	}
}

func TestP3ScrambleAllPages(t *testing.T) {
	seen := map[string]bool{}
	for page := range int64(65535) {
		x := scramble(page, "\x00\x00\x00")
		seen[x.s] = true
		expect(t, "Scramble twice", scramble(page, x.s), coded{"\x00\x00\x00", impl.OK})
	}
	// Bits 0 to 15 of the keystream determine the state.
	expect(t, "number of keystreams", len(seen), 65535)
}

func TestP3ScrambleErrors(t *testing.T) {
	for _, page := range []int64{math.MinInt64, -65535, -1, 65535, 65536, 1 << 32, math.MaxInt64} {
		for _, s := range []string{"", "a", strings.Repeat("a", 256), strings.Repeat("a", 257)} {
			expect(t, "Scramble of an invalid page", scramble(page, s), coded{"", impl.ErrRange})
		}
	}
	for _, size := range []int{257, 258, 512, 70000} {
		for _, page := range []int64{0, 7, 65534} {
			expect(t, "Scramble of a long string", scramble(page, strings.Repeat("a", size)), coded{"", impl.ErrRange})
		}
	}
	expect(t, "Scramble of no bytes", scramble(65534, ""), coded{"", impl.OK})
}

func TestP3CountOnes(t *testing.T) {
	expect(t, "CountOnes", impl.CountOnes(""), 0)
	expect(t, "CountOnes", impl.CountOnes("\xff\x01"), 9)
	for n := range 1 << 16 {
		s := string([]byte{byte(n), byte(n >> 8)})
		expect(t, "CountOnes", impl.CountOnes(s), int64(bits.OnesCount16(uint16(n))))
	}
	expect(t, "CountOnes", impl.CountOnes(strings.Repeat("\xff", 70000)), 560000)
	expect(t, "CountOnes of UTF-8", impl.CountOnes("世"), 12)
}
