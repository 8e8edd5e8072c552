package impl

import "math/bits"

// Constants of chapter 2.
const (
	LfsrPeriod = 65535
	MaxStream  = 256
)

const (
	lfsrTaps = 0xb400
	lfsrBits = 16
)

// lfsrMatrix is a linear map of states: element b is the image of the state in which only bit b
// is 1.
type lfsrMatrix [lfsrBits]uint16

// ValidState reports whether state is in 1..65535.
func ValidState(state int64) bool {
	return state >= 1 && state <= LfsrPeriod
}

// StepLfsr returns the state after one step, or 0 if state is invalid.
func StepLfsr(state int64) int64 {
	if !ValidState(state) {
		return 0
	}
	return int64(nextState(uint16(state)))
}

// nextState returns the state after one step.
func nextState(state uint16) uint16 {
	next := state >> 1
	if state&1 == 1 {
		next ^= lfsrTaps
	}
	return next
}

// BackLfsr returns the state from which one step leads to state, or 0 if state is invalid.
func BackLfsr(state int64) int64 {
	if !ValidState(state) {
		return 0
	}
	// A shift leaves the top bit 0, so it is 1 exactly if the taps were applied.
	if state>>(lfsrBits-1) == 1 {
		return (state^lfsrTaps)<<1 | 1
	}
	return state << 1
}

// JumpLfsr returns the state after steps steps, or 0 if state is invalid or steps is negative.
func JumpLfsr(state int64, steps int64) int64 {
	if !ValidState(state) || steps < 0 {
		return 0
	}
	rest := steps % LfsrPeriod
	at := uint16(state)
	power := matrixOf(nextState)
	// All bits are visited, the leading zeros too, so that the running time is always the same.
	for b := range lfsrBits {
		if rest>>b&1 == 1 {
			at = power.apply(at)
		}
		power = matrixOf(power.applyTwice)
	}
	return int64(at)
}

// matrixOf returns the matrix of a linear function of states.
func matrixOf(f func(uint16) uint16) lfsrMatrix {
	var m lfsrMatrix
	for b := range m {
		m[b] = f(1 << b)
	}
	return m
}

// apply returns the image of a state.
func (m lfsrMatrix) apply(state uint16) uint16 {
	image := uint16(0)
	for b, column := range m {
		if state>>b&1 == 1 {
			image ^= column
		}
	}
	return image
}

// applyTwice returns the image of the image of a state.
func (m lfsrMatrix) applyTwice(state uint16) uint16 {
	return m.apply(m.apply(state))
}

// Keystream returns the first size bytes of the keystream of a state, and OK, or ErrRange if state
// is invalid or size is not in 0..MaxStream.
func Keystream(state int64, size int64) (string, int64) {
	if !ValidState(state) || size < 0 || size > MaxStream {
		return "", ErrRange
	}
	out := make([]byte, size)
	at := uint16(state)
	for i := range out {
		for b := range 8 {
			out[i] |= byte(at&1) << b
			at = nextState(at)
		}
	}
	return string(out), OK
}

// SeedFor returns the state with which the page at an address is scrambled: page + 1 if page is
// in 0..65534, and 0 otherwise.
func SeedFor(page int64) int64 {
	if page < 0 || page >= LfsrPeriod {
		return 0
	}
	return page + 1
}

// Scramble returns the exclusive or of s and the keystream of SeedFor(page), and OK, or ErrRange if
// page is not in 0..65534 or s has more than MaxStream bytes.
func Scramble(page int64, s string) (string, int64) {
	// An invalid page has the invalid seed 0, which Keystream rejects as it does an invalid size.
	key, code := Keystream(SeedFor(page), int64(len(s)))
	if code != OK {
		return "", code
	}
	out := []byte(s)
	for i := range out {
		out[i] ^= key[i]
	}
	return string(out), OK
}

// CountOnes returns the number of bits of s that are 1.
func CountOnes(s string) int64 {
	ones := 0
	for i := range len(s) {
		ones += bits.OnesCount8(s[i])
	}
	return int64(ones)
}
