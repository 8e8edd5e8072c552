/- The proof's own lemmas, part 8: PopN Pop EncF. -/
import Derived.Test.YthenilomgbnpeaaGreatDoorMg6
import Derived.Test.YthenilomgbnpeaaGreatDoorProg
import Derived.ProofKit
import Derived.Lib.Hide
import Derived.Test.YthenilomgbnpeaaGreatDoorMg4
import Derived.Test.YthenilomgbnpeaaGreatDoorMg0
import Derived.Test.YthenilomgbnpeaaGreatDoorMg5
import Derived.WalkKit
/- Plain facts on counting the bits of 64 that are 1, in the library's way; its parity. -/
namespace Go.Proofs.YthenilomgbnpeaaGreatDoor
open Go.RowKit

/-- A function of each byte, on the first n bytes. -/
def bytewise (f : Nat → Nat) : Nat → Nat → Nat
  | 0, _ => 0
  | n + 1, x => f (x % 256) + 256 * bytewise f n (x / 256)
def rep (m : Nat) : Nat → Nat
  | 0 => 0
  | n + 1 => m + 256 * rep m n
theorem and_split (X m M : Nat) (hm : m < 256) : X &&& (m + 256 * M) = (X % 256 &&& m) + 256 * (X / 256 &&& M) := by
  have h1 : (X &&& (m + 256 * M)) % 256 = (X % 256) &&& ((m + 256 * M) % 256) := Nat.and_mod_two_pow (n := 8)
  have h2 : (X &&& (m + 256 * M)) / 256 = (X / 256) &&& ((m + 256 * M) / 256) := Nat.and_div_two_pow (n := 8)
  rw [show (m + 256 * M) % 256 = m by omega] at h1
  rw [show (m + 256 * M) / 256 = M by omega] at h2
  rw [← h1, ← h2]; omega
def pop1 (b : Nat) : Nat := (b / 2 &&& 85) + (b &&& 85)
def pop2 (b : Nat) : Nat := (b / 4 &&& 51) + (b &&& 51)
theorem pop1_all : ∀ (b : Fin 256) (e : Fin 2), ((b.val / 2 + 128 * e.val) &&& 85) + (b.val &&& 85) = pop1 b.val := by decide +kernel
theorem pop2_all : ∀ (b : Fin 256) (e : Fin 4), ((b.val / 4 + 64 * e.val) &&& 51) + (b.val &&& 51) = pop2 b.val := by decide +kernel
theorem popStep1 : ∀ n x, (x / 2 &&& rep 85 n) + (x &&& rep 85 n) = bytewise pop1 n x
  | 0, x => by simp [rep, bytewise]
  | n + 1, x => by
    have ih := popStep1 n (x / 256)
    have hb := pop1_all ⟨x % 256, by omega⟩ ⟨x / 256 % 2, by omega⟩
    simp only at hb
    rw [rep, and_split _ _ _ (by decide), and_split _ _ _ (by decide), bytewise, ← ih, ← hb, show x / 2 % 256 = x % 256 / 2 + 128 * (x / 256 % 2) by omega, show x / 2 / 256 = x / 256 / 2 by omega]
    omega
theorem popStep2 : ∀ n x, (x / 4 &&& rep 51 n) + (x &&& rep 51 n) = bytewise pop2 n x
  | 0, x => by simp [rep, bytewise]
  | n + 1, x => by
    have ih := popStep2 n (x / 256)
    have hb := pop2_all ⟨x % 256, by omega⟩ ⟨x / 256 % 4, by omega⟩
    simp only at hb
    rw [rep, and_split _ _ _ (by decide), and_split _ _ _ (by decide), bytewise, ← ih, ← hb, show x / 4 % 256 = x % 256 / 4 + 64 * (x / 256 % 4) by omega, show x / 4 / 256 = x / 256 / 4 by omega]
    omega
theorem bytewise_comp (f g : Nat → Nat) (h : ∀ b, b < 256 → f b < 256) : ∀ n x, bytewise g n (bytewise f n x) = bytewise (fun b => g (f b)) n x
  | 0, _ => rfl
  | n + 1, x => by
    have hb := h (x % 256) (by omega)
    rw [bytewise, bytewise, bytewise, show (f (x % 256) + 256 * bytewise f n (x / 256)) % 256 = f (x % 256) by omega, show (f (x % 256) + 256 * bytewise f n (x / 256)) / 256 = bytewise f n (x / 256) by omega, bytewise_comp f g h n]
theorem bytewise_congr {f g : Nat → Nat} (h : ∀ b, b < 256 → f b = g b) : ∀ n x, bytewise f n x = bytewise g n x
  | 0, _ => rfl
  | n + 1, x => by rw [bytewise, bytewise, h _ (by omega), bytewise_congr h n]
theorem bytewise_lt {f : Nat → Nat} (h : ∀ b, b < 256 → f b < 256) : ∀ n x, bytewise f n x < 256 ^ n
  | 0, _ => by simp [bytewise]
  | n + 1, x => by
    have := bytewise_lt h n (x / 256)
    have := h (x % 256) (by omega)
    rw [bytewise, Nat.pow_succ]; omega
def pop12 (b : Nat) : Nat := pop2 (pop1 b)
theorem pop1_lt_all : ∀ b : Fin 256, pop1 b.val < 256 := by decide +kernel
theorem pop12_all : ∀ b : Fin 256, pop12 b.val ≤ 68 ∧ pop12 b.val % 16 ≤ 4 := by decide +kernel
theorem pop12_ok {b : Nat} (h : b < 256) : pop12 b ≤ 68 ∧ pop12 b % 16 ≤ 4 := pop12_all ⟨b, h⟩
theorem low_nib (n x : Nat) : bytewise pop12 n x % 16 ≤ 4 := by
  cases n with
  | zero => simp [bytewise]
  | succ n =>
    have := pop12_ok (b := x % 256) (by omega)
    rw [bytewise]; omega
theorem and15 (x : Nat) : x &&& 15 = x % 16 := Nat.and_two_pow_sub_one_eq_mod x 4
theorem popStep3 : ∀ n x, (bytewise pop12 n x / 16 + bytewise pop12 n x) &&& rep 15 n = bytewise (fun b => (pop12 b / 16 + pop12 b) % 16) n x
  | 0, x => by simp [rep, bytewise]
  | n + 1, x => by
    have ih := popStep3 n (x / 256)
    have hb := pop12_ok (b := x % 256) (by omega)
    have hl := low_nib n (x / 256)
    rw [rep, and_split _ _ _ (by decide), bytewise, bytewise, ← ih, and15]
    generalize pop12 (x % 256) = b at *
    generalize bytewise pop12 n (x / 256) = y at *
    rw [show ((b + 256 * y) / 16 + (b + 256 * y)) / 256 = y / 16 + y by omega]
    omega

/-- The bits of x that are 1, of its lowest f ones. -/
def popF : Nat → Nat → Nat
  | 0, _ => 0
  | f + 1, x => x % 2 + popF f (x / 2)
theorem popF_le : ∀ f x, popF f x ≤ f
  | 0, _ => Nat.le_refl _
  | f + 1, x => by have := popF_le f (x / 2); rw [popF]; omega
theorem pop3_all : ∀ b : Fin 256, (pop12 b.val / 16 + pop12 b.val) % 16 = popF 8 b.val := by decide +kernel
theorem popF_add : ∀ a b x, popF (a + b) x = popF a x + popF b (x / 2 ^ a)
  | 0, b, x => by simp [popF]
  | a + 1, b, x => by
    have e : x / 2 / 2 ^ a = x / 2 ^ (a + 1) := by rw [Nat.div_div_eq_div_mul, Nat.pow_succ']
    rw [show a + 1 + b = (a + b) + 1 by omega, popF, popF, popF_add a b, e]
    omega
theorem popF_mod : ∀ a x, popF a (x % 2 ^ a) = popF a x
  | 0, _ => rfl
  | a + 1, x => by
    rw [popF, popF, ← popF_mod a (x / 2), show x % 2 ^ (a + 1) / 2 = x / 2 % 2 ^ a by
      rw [Nat.pow_succ', Nat.mod_mul_right_div_self], show x % 2 ^ (a + 1) % 2 = x % 2 by
      rw [Nat.pow_succ', Nat.mod_mul_right_mod]]
theorem acc_pop (x : Nat) : ∀ k, accN (fun _ => 1) x k = popF k x % 2
  | 0 => rfl
  | k + 1 => by
    have ih := acc_pop x k
    have hp := popF_add k 1 x
    have e1 : popF 1 (x / 2 ^ k) = x / 2 ^ k % 2 := by simp [popF]
    rw [e1] at hp
    by_cases h : x / 2 ^ k % 2 = 1
    · rw [accN_yes h, ih, hp, h]
      have := Nat.mod_two_eq_zero_or_one (popF k x)
      rcases this with e | e <;> rw [e] <;> simp <;> omega
    · rw [accN_no h, ih, hp]; omega
theorem par64_pop (x : Nat) : popF 64 x % 2 = par64 x := (acc_pop x 64).symm

/-- The bits that are 1, byte by byte. -/
def popBytes : Nat → Nat → Nat
  | 0, _ => 0
  | n + 1, x => popF 8 (x % 256) + popBytes n (x / 256)
theorem pop_bytes : ∀ n x, popF (8 * n) x = popBytes n x
  | 0, _ => rfl
  | n + 1, x => by rw [show 8 * (n + 1) = 8 + 8 * n by omega, popF_add, ← popF_mod 8 x, pop_bytes n, popBytes]
def popSum (y : Nat) : Nat :=
  let a := y + y / 256
  let b := a + a / 65536
  (b + b / 4294967296) % 128
theorem fold32 (q0 q1 q2 q3 q4 q5 q6 q7 : Nat) (h0 : q0 ≤ 32) (h1 : q1 ≤ 32) (h2 : q2 ≤ 32) (h3 : q3 ≤ 32) (h4 : q4 ≤ 32) :
    ((q0 + 256 * (q1 + 256 * (q2 + 256 * (q3 + 256 * (q4 + 256 * (q5 + 256 * (q6 + 256 * q7))))))) + (q0 + 256 * (q1 + 256 * (q2 + 256 * (q3 + 256 * (q4 + 256 * (q5 + 256 * (q6 + 256 * q7))))))) / 4294967296) % 128 = q0 + q4 := by
  have e : (q0 + 256 * (q1 + 256 * (q2 + 256 * (q3 + 256 * (q4 + 256 * (q5 + 256 * (q6 + 256 * q7))))))) / 4294967296 = q4 + 256 * (q5 + 256 * (q6 + 256 * q7)) := by omega
  rw [e]; omega
theorem shift8 (p0 p1 p2 p3 p4 p5 p6 p7 : Nat) (h0 : p0 ≤ 8) :
    (p0 + 256 * (p1 + 256 * (p2 + 256 * (p3 + 256 * (p4 + 256 * (p5 + 256 * (p6 + 256 * p7))))))) + (p0 + 256 * (p1 + 256 * (p2 + 256 * (p3 + 256 * (p4 + 256 * (p5 + 256 * (p6 + 256 * p7))))))) / 256
      = (p0 + p1) + 256 * ((p1 + p2) + 256 * ((p2 + p3) + 256 * ((p3 + p4) + 256 * ((p4 + p5) + 256 * ((p5 + p6) + 256 * ((p6 + p7) + 256 * p7)))))) := by
  have e : (p0 + 256 * (p1 + 256 * (p2 + 256 * (p3 + 256 * (p4 + 256 * (p5 + 256 * (p6 + 256 * p7))))))) / 256 = p1 + 256 * (p2 + 256 * (p3 + 256 * (p4 + 256 * (p5 + 256 * (p6 + 256 * p7))))) := by omega
  rw [e]; omega
theorem shift16 (p0 p1 p2 p3 p4 p5 p6 p7 : Nat) (h0 : p0 ≤ 16) (h1 : p1 ≤ 16) :
    (p0 + 256 * (p1 + 256 * (p2 + 256 * (p3 + 256 * (p4 + 256 * (p5 + 256 * (p6 + 256 * p7))))))) + (p0 + 256 * (p1 + 256 * (p2 + 256 * (p3 + 256 * (p4 + 256 * (p5 + 256 * (p6 + 256 * p7))))))) / 65536
      = (p0 + p2) + 256 * ((p1 + p3) + 256 * ((p2 + p4) + 256 * ((p3 + p5) + 256 * ((p4 + p6) + 256 * ((p5 + p7) + 256 * (p6 + 256 * p7)))))) := by
  have e : (p0 + 256 * (p1 + 256 * (p2 + 256 * (p3 + 256 * (p4 + 256 * (p5 + 256 * (p6 + 256 * p7))))))) / 65536 = p2 + 256 * (p3 + 256 * (p4 + 256 * (p5 + 256 * (p6 + 256 * p7)))) := by omega
  rw [e]; omega
theorem popSum_eq (p0 p1 p2 p3 p4 p5 p6 p7 : Nat) (h0 : p0 ≤ 8) (h1 : p1 ≤ 8) (h2 : p2 ≤ 8) (h3 : p3 ≤ 8) (h4 : p4 ≤ 8) (h5 : p5 ≤ 8) (h6 : p6 ≤ 8) (h7 : p7 ≤ 8) :
    popSum (p0 + 256 * (p1 + 256 * (p2 + 256 * (p3 + 256 * (p4 + 256 * (p5 + 256 * (p6 + 256 * p7))))))) = p0 + p1 + p2 + p3 + p4 + p5 + p6 + p7 := by
  unfold popSum
  simp only [shift8 p0 p1 p2 p3 p4 p5 p6 p7 h0]
  rw [shift16 _ _ _ _ _ _ _ _ (by omega) (by omega), fold32 _ _ _ _ _ _ _ _ (by omega) (by omega) (by omega) (by omega) (by omega)]
  omega
theorem bytewise_le {f : Nat → Nat} {m : Nat} (h : ∀ b, b < 256 → f b ≤ m) : ∀ n x, bytewise f n x ≤ rep m n
  | 0, _ => Nat.le_refl _
  | n + 1, x => by
    have := bytewise_le h n (x / 256)
    have := h (x % 256) (by omega)
    rw [bytewise, rep]; omega
/-- The library's count. -/
theorem pop_word (x : Nat) :
    let a := (x / 2 &&& 6148914691236517205) + (x &&& 6148914691236517205)
    let b := (a / 4 &&& 3689348814741910323) + (a &&& 3689348814741910323)
    a < 2 ^ 64 ∧ b < 2 ^ 64 ∧ b / 16 + b < 2 ^ 64 ∧ (b / 16 + b) &&& 1085102592571150095 ≤ 578721382704613384 ∧ popSum ((b / 16 + b) &&& 1085102592571150095) = popF 64 x := by
  have m1 : rep 85 8 = 6148914691236517205 := by decide
  have m2 : rep 51 8 = 3689348814741910323 := by decide
  have m3 : rep 15 8 = 1085102592571150095 := by decide
  have s1 := popStep1 8 x
  rw [m1] at s1
  have s2 := popStep2 8 (bytewise pop1 8 x)
  rw [m2, bytewise_comp pop1 pop2 (fun b hb => pop1_lt_all ⟨b, hb⟩)] at s2
  have s3 := popStep3 8 x
  rw [m3, bytewise_congr (f := fun b => (pop12 b / 16 + pop12 b) % 16) (g := popF 8) (fun b hb => pop3_all ⟨b, hb⟩)] at s3
  have l1 := bytewise_lt (f := pop1) (fun b hb => pop1_lt_all ⟨b, hb⟩) 8 x
  have l2 := bytewise_lt (f := pop12) (fun b hb => by have := (pop12_ok hb).1; omega) 8 x
  rw [show (256 : Nat) ^ 8 = 2 ^ 64 by decide] at l1 l2
  simp only [s1]
  have s2' : (bytewise pop1 8 x / 4 &&& 3689348814741910323) + (bytewise pop1 8 x &&& 3689348814741910323) = bytewise pop12 8 x := s2
  simp only [s2', s3]
  have e : bytewise (popF 8) 8 x = popF 8 (x % 256) + 256 * (popF 8 (x / 256 % 256) + 256 * (popF 8 (x / 65536 % 256) + 256 * (popF 8 (x / 16777216 % 256) + 256 * (popF 8 (x / 4294967296 % 256) + 256 * (popF 8 (x / 1099511627776 % 256) + 256 * (popF 8 (x / 281474976710656 % 256) + 256 * popF 8 (x / 72057594037927936 % 256))))))) := by
    simp only [bytewise, Nat.div_div_eq_div_mul, Nat.mul_zero, Nat.add_zero]
  refine ⟨l1, l2, ?_, ?_, ?_⟩
  · have b8 := bytewise_le (f := pop12) (fun b hb => (pop12_ok hb).1) 8 x
    rw [show rep 68 8 = 4919131752989213764 by decide] at b8
    omega
  · have b8 := bytewise_le (f := popF 8) (fun b _ => popF_le 8 b) 8 x
    rw [show rep 8 8 = 578721382704613384 by decide] at b8
    exact b8
  · rw [e, popSum_eq _ _ _ _ _ _ _ _ (popF_le 8 _) (popF_le 8 _) (popF_le 8 _) (popF_le 8 _) (popF_le 8 _) (popF_le 8 _) (popF_le 8 _) (popF_le 8 _), show (64 : Nat) = 8 * 8 by decide, pop_bytes]
    simp only [popBytes, Nat.div_div_eq_div_mul, Nat.reduceMul]
    omega
end Go.Proofs.YthenilomgbnpeaaGreatDoor
/- The library's count of the bits of 64 that are 1: its parity. -/
namespace Go.Proofs.YthenilomgbnpeaaGreatDoor
open Go.RowKit

theorem wrap_u64_nat (a : Nat) (h : a < 2 ^ 64) : IntKind.u64.wrap (a : Int) = a := by rw [IntKind.wrap_u64]; omega
theorem ofInt_u64 (a : Nat) (h : a < 2 ^ 64) : (BitVec.ofInt 64 (a : Int)).toNat = a := by
  rw [BitVec.ofInt_natCast, BitVec.toNat_ofNat]; exact Nat.mod_eq_of_lt h
theorem u64_and_nat' (a b : Nat) (ha : a < 2 ^ 64) (hb : b < 2 ^ 64) : bits .and .u64 (a : Int) (b : Int) = ((a &&& b : Nat) : Int) := by
  have hx : a &&& b < 2 ^ 64 := Nat.and_lt_two_pow _ hb
  show IntKind.u64.wrap ((BitVec.ofInt 64 (a : Int) &&& BitVec.ofInt 64 (b : Int)).toNat : Int) = _
  rw [BitVec.toNat_and, ofInt_u64 a ha, ofInt_u64 b hb, wrap_u64_nat _ hx]
theorem u64_xor_nat' (a b : Nat) (ha : a < 2 ^ 64) (hb : b < 2 ^ 64) : bits .xor .u64 (a : Int) (b : Int) = ((a ^^^ b : Nat) : Int) := by
  have hx : a ^^^ b < 2 ^ 64 := Nat.xor_lt_two_pow ha hb
  show IntKind.u64.wrap ((BitVec.ofInt 64 (a : Int) ^^^ BitVec.ofInt 64 (b : Int)).toNat : Int) = _
  rw [BitVec.toNat_xor, ofInt_u64 a ha, ofInt_u64 b hb, wrap_u64_nat _ hx]
def popI (x : Int) : Int :=
  let a := IntKind.u64.wrap (bits .and .u64 (x / 2) 6148914691236517205 + bits .and .u64 x 6148914691236517205)
  let b := IntKind.u64.wrap (bits .and .u64 (a / 4) 3689348814741910323 + bits .and .u64 a 3689348814741910323)
  let c := bits .and .u64 (IntKind.u64.wrap (b / 16 + b)) 1085102592571150095
  let d := IntKind.u64.wrap (c + c / 256)
  let e := IntKind.u64.wrap (d + d / 65536)
  let f := IntKind.u64.wrap (e + e / 4294967296)
  bits .and .i64 (wrap64 f) 127
theorem and127 (a : Nat) (h : a < 2 ^ 63) : bits .and .i64 (a : Int) 127 = ((a % 128 : Nat) : Int) := by
  have := i64_and_nat a 127 h (by omega)
  rw [show (127 : Nat) = 2 ^ 7 - 1 from rfl, Nat.and_two_pow_sub_one_eq_mod] at this
  exact this
theorem and_u64_lit (a m : Nat) (ha : a < 2 ^ 64) (hm : m < 2 ^ 64) (M : Int) (hM : M = (m : Int)) : bits .and .u64 (a : Int) M = ((a &&& m : Nat) : Int) := by
  rw [hM]; exact u64_and_nat' a m ha hm
theorem popI_eq (x : Nat) (h : x < 2 ^ 64) : popI (x : Int) = ((popF 64 x : Nat) : Int) := by
  obtain ⟨h1, h2, h3, h4, h5⟩ := pop_word x
  have a1 := and_u64_lit (x / 2) 6148914691236517205 (by omega) (by omega) 6148914691236517205 rfl
  have a2 := and_u64_lit x 6148914691236517205 h (by omega) 6148914691236517205 rfl
  rw [Int.natCast_ediv] at a1
  unfold popI
  simp only [show ((x : Int) / 2) = (x : Int) / ((2 : Nat) : Int) from rfl, a1, a2]
  generalize hA : (x / 2 &&& 6148914691236517205) + (x &&& 6148914691236517205) = A at *
  rw [← Int.natCast_add, hA, wrap_u64_nat A h1]
  have b1 := and_u64_lit (A / 4) 3689348814741910323 (by omega) (by omega) 3689348814741910323 rfl
  have b2 := and_u64_lit A 3689348814741910323 h1 (by omega) 3689348814741910323 rfl
  rw [Int.natCast_ediv] at b1
  simp only [show ((A : Int) / 4) = (A : Int) / ((4 : Nat) : Int) from rfl, b1, b2]
  generalize hB : (A / 4 &&& 3689348814741910323) + (A &&& 3689348814741910323) = B at *
  rw [← Int.natCast_add, hB, wrap_u64_nat B h2]
  have c1 := and_u64_lit (B / 16 + B) 1085102592571150095 h3 (by omega) 1085102592571150095 rfl
  have e1 : ((B : Int) / 16 + (B : Int)) = ((B / 16 + B : Nat) : Int) := by omega
  simp only [e1, wrap_u64_nat _ h3, c1]
  generalize hC : (B / 16 + B) &&& 1085102592571150095 = C at *
  have e2 : ((C : Int) + (C : Int) / 256) = ((C + C / 256 : Nat) : Int) := by omega
  simp only [e2, wrap_u64_nat (C + C / 256) (by omega)]
  generalize hD : C + C / 256 = D at *
  have e3 : ((D : Int) + (D : Int) / 65536) = ((D + D / 65536 : Nat) : Int) := by omega
  simp only [e3, wrap_u64_nat (D + D / 65536) (by omega)]
  generalize hE : D + D / 65536 = E at *
  have e4 : ((E : Int) + (E : Int) / 4294967296) = ((E + E / 4294967296 : Nat) : Int) := by omega
  simp only [e4, wrap_u64_nat (E + E / 4294967296) (by omega)]
  rw [IntWalk.wrap64_in _ (by omega), and127 _ (by omega), ← h5]
  subst hE; subst hD; rfl
set_option maxRecDepth 100000 in
theorem onesCount64_any (x : Nat) (w : World) (h : x < 2 ^ 64) :
    Calls Tryz.prog 104 #[.int .u64 x] w fun e w' => e = .returned (.int .i64 (popF 64 x : Nat)) ∧ w = w' := by
  have HE := Lib.hid (popI_eq x h)
  have hx1 : (x : Int) ≤ 18446744073709551615 := by omega
  go_enter Tryz.func104, Tryz.ntmps104
  go_wp2
  go_ret
  exact ⟨ret_int HE.out, rfl⟩
end Go.Proofs.YthenilomgbnpeaaGreatDoor
/- EncodeFixed, in the model and in the program: their contracts. -/
namespace Go.Proofs.YthenilomgbnpeaaGreatDoor
open Go.RowKit


theorem set_at_end (l : List Int) (n k : Nat) (b : Int) (h : l.length = k) (hk : k < n) : (l ++ List.replicate (n - k) 0).set k b = (l ++ [b]) ++ List.replicate (n - (k + 1)) 0 := by
  rw [List.set_append_right _ _ (by omega), h, Nat.sub_self, show n - k = (n - (k + 1)) + 1 by omega, List.replicate_succ, List.set_cons_zero, List.append_assoc]; rfl
theorem div_next (n : Int) (k : Nat) : n / 2 ^ (8 * k) / 256 = n / 2 ^ (8 * (k + 1)) := by
  have h : (0 : Int) ≤ 2 ^ (8 * k) := Int.pow_nonneg (by decide)
  rw [Int.ediv_ediv_of_nonneg h, show 8 * (k + 1) = 8 * k + 8 by omega, Int.pow_add]; rfl

theorem implEncFixed_yes (n : Int) (m : Nat) (w : World) (hm : m ≤ 8) :
    Calls Tryz.prog 96 #[.int .i64 n, .int .i64 m] w fun e w' => e = .returned (.string (strOfNums (encF n m))) ∧ Below w.heap.size w w' := by
  have hm0 : (m : Int) ≤ 8 := by omega
  have hd : decide (8 < (m : Int)) = false := by simp; omega
  go_enter Tryz.func96, Tryz.ntmps96
  go_wp2_with (refine wpList_make_bytes rfl _ _ rfl _ _ _ _ m rfl rfl rfl rfl (by omega) (Below.refl _ _) (Nat.le_refl _) ?_; intro w1 hown hb)
  go_loopw [0, 17] (fun v i wr => ∃ k : Nat, k ≤ m ∧ i = .int .i64 k ∧ v = .int .i64 (n / 2 ^ (8 * k)) ∧ BytesOwn wr w.heap.size (.slice (some ⟨w.heap.size, 0, none⟩) m m) (encF n k ++ List.replicate (m - k) 0) ∧ Below w.heap.size w wr) (fun _ i _ => m - (intOf i).toNat)
  case atStart => exact ⟨0, Nat.zero_le _, rfl, by simp, by simpa [encF] using hown, hb⟩
  case round =>
    obtain ⟨k, hk, rfl, rfl, hown, hb⟩ := hrel
    have hlen : (encF n k ++ List.replicate (m - k) 0).length = m := by simp [encF_length]; omega
    by_cases hlt : k < m
    · have hc := hown.cell (j := k) hlen hlt
      have hf := hown.free hlen k
      have hnext := hown.stored hlen k (IntKind.u8.wrap (n / 2 ^ (8 * k)))
      rw [set_at_end _ _ _ _ (encF_length n k) hlt] at hnext
      have hbn := hb.setCell (p := ⟨w.heap.size, k, none⟩) (Nat.le_refl _) (.int .u8 (IntKind.u8.wrap (n / 2 ^ (8 * k))))
      have hdn := Lib.hid (div_next n k)
      clear hown hb hlen
      go_wp2
      go_roundw
      case rel => exact ⟨k + 1, by omega, by go_num, by rw [hdn.out], hnext, hbn⟩
      case measure => simp [intOf]; omega
    · have hcv := bytes_str hown
      go_wp2
      go_ret
      exact ⟨ret_str (by rw [show m = k by omega]; simp), hb⟩
theorem implEncFixed_no (n m : Int) (w : World) (hm : m < 0 ∨ 8 < m) :
    Calls Tryz.prog 96 #[.int .i64 n, .int .i64 m] w fun e w' => e = .returned (.string (strOfNums [])) ∧ Below w.heap.size w w' := by
  by_cases h1 : m < 0
  all_goals
    go_enter Tryz.func96, Tryz.ntmps96
    go_wp2
    go_ret
    exact ⟨rfl, Below.refl _ _⟩
end Go.Proofs.YthenilomgbnpeaaGreatDoor
