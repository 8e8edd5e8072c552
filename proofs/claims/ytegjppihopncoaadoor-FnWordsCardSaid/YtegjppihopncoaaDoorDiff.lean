/- The bits in which two texts differ, in the model and in the program: the contracts. -/
import Derived.Test.YtegjppihopncoaaDoorProg
import Derived.Test.YtegjppihopncoaaDoorInts
import Derived.Test.YtegjppihopncoaaDoorBits
namespace Go.Proofs.YtegjppihopncoaaDoor
open Go.RowKit

/-- Do the texts differ in bit i? -/
def difB (a b : ByteArray) (i : Nat) : Bool := (byteAt a (i / 8) ^^^ byteAt b (i / 8)) / 2 ^ (i % 8) % 2 == 1
def difL (a b : ByteArray) : Nat → List Int
  | 0 => []
  | k + 1 => if difB a b k then difL a b k ++ [(k : Int)] else difL a b k
theorem difL_le (a b : ByteArray) : ∀ k, (difL a b k).length ≤ k
  | 0 => Nat.le_refl _
  | k + 1 => by
    have := difL_le a b k
    rw [difL]; split
    · simp; omega
    · omega
theorem and1_u8 (x : Nat) (h : x < 256) : bits .and .u8 (x : Int) 1 = ((x % 2 : Nat) : Int) := by
  have := u8_and_nat x 1 h (by omega); rw [Nat.and_one_is_mod] at this; exact this
theorem dif_val (a b : ByteArray) (i : Nat) (ha : i / 8 < a.size) (hb : i / 8 < b.size) :
    (bits .and .u8 (bits .xor .u8 (a[i / 8].toNat : Int) (b[i / 8].toNat : Int) / 2 ^ (i % 8)) 1 == 1) = difB a b i := by
  have h1 := byteAt_le a (i / 8)
  have h2 := byteAt_le b (i / 8)
  have hx : byteAt a (i / 8) ^^^ byteAt b (i / 8) < 2 ^ 8 := Nat.xor_lt_two_pow (by omega) (by omega)
  have hd : (byteAt a (i / 8) ^^^ byteAt b (i / 8)) / 2 ^ (i % 8) ≤ byteAt a (i / 8) ^^^ byteAt b (i / 8) := Nat.div_le_self _ _
  rw [byteAt_eq ha, byteAt_eq hb, u8_xor_nat _ _ (by omega) (by omega)]
  unfold difB
  have e : (((byteAt a (i / 8) ^^^ byteAt b (i / 8) : Nat) : Int) / 2 ^ (i % 8)) = (((byteAt a (i / 8) ^^^ byteAt b (i / 8)) / 2 ^ (i % 8) : Nat) : Int) := by rw [Int.natCast_ediv, Int.natCast_pow]; rfl
  rw [e]
  generalize (byteAt a (i / 8) ^^^ byteAt b (i / 8)) / 2 ^ (i % 8) = q at *
  rw [and1_u8 q (by omega)]
  rw [Bool.eq_iff_iff]
  simp
  omega
def DiffPost (l : List Int) (w : World) (e : Ending) (w' : World) : Prop := ∃ v, e = .returned v ∧ IntsOwn w' w.heap.size v l ∧ Below w.heap.size w w'
def Alike (a b : ByteArray) : Prop := a.size = b.size ∧ a.size ≤ 256
theorem implDiff_yes (a b : ByteArray) (w : World) (h : Alike a b) :
    Calls Tryd.prog 20 #[.string a, .string b] w (DiffPost (difL a b (8 * a.size)) w) := by
  obtain ⟨h1, h2⟩ := h
  have hs : ((a.size : Int) != (b.size : Int)) = false := by simp; omega
  have ha : (a.size : Int) ≤ 256 := by omega
  have H1 := Lib.hid h1
  clear h1
  go_enter Tryd.func20, Tryd.ntmps20
  go_wp2
  go_loopw [5, 22] (fun v j wr => ∃ k : Nat, k ≤ 8 * a.size ∧ j = .int .i64 k ∧ IntsOwn wr w.heap.size v (difL a b k) ∧ Below w.heap.size w wr) (fun _ j _ => 8 * a.size - (intOf j).toNat)
  case atStart => exact ⟨0, by omega, rfl, IntsOwn.made _ (Nat.le_refl _), (Below.refl _ _).alloc (Nat.le_refl _) _⟩
  case round =>
    obtain ⟨k, hk, rfl, hown, hb⟩ := hrel
    have hz := hb.size
    have hle := difL_le a b k
    have hab := H1.out
    by_cases hlt : k < 8 * a.size
    · have i1 : k / 8 < a.size := by omega
      have i2 : k / 8 < b.size := by omega
      have i3 : (k : Int) / 8 < (a.size : Int) := by omega
      have i4 : (k : Int) / 8 < (b.size : Int) := by omega
      have hki : (k : Int) < 8 * (a.size : Int) := by omega
      have hd := dif_val a b k i1 i2
      have q1 : IntKind.i64.wrap ((k : Int) / 8) = (k : Int) / 8 := IntWalk.i64_in _ (by omega)
      have q2 : (0 : Int) ≤ (k : Int) / 8 := by omega
      have q3 : ((k : Int) / 8).toNat = k / 8 := by omega
      have r1 : IntKind.i64.wrap ((k : Int) % 8) = (k : Int) % 8 := IntWalk.i64_in _ (by omega)
      have r2 : (0 : Int) ≤ (k : Int) % 8 := by omega
      have r3 : ((k : Int) % 8).toNat = k % 8 := by omega
      have r4 : IntKind.u64.wrap ((k : Int) % 8) = (k : Int) % 8 := by rw [IntKind.wrap_u64]; omega
      have HL : Hid (difL a b (k + 1) = if difB a b k then difL a b k ++ [(k : Int)] else difL a b k) := by show _ = _; rfl
      clear hab
      cases hcase : difB a b k
      · rw [hcase] at hd HL
        clear hcase
        go_wp2
        go_quiet (fail)
        clear q1 r1 r2 r4
        go_wp2
        go_roundw
        case rel => exact ⟨k + 1, by omega, by go_num, by rw [HL.out]; exact hown, ⟨hb.os, hb.tape, hb.output, hb.size, hb.block⟩⟩
        case measure => simp [intOf]; omega
      · rw [hcase] at hd HL
        clear hcase
        go_wp2
        go_quiet (fail)
        clear q1 r1 r2 r4
        have hb' : Below w.heap.size w (wr.drewN nq) := ⟨hb.os, hb.tape, hb.output, hb.size, hb.block⟩
        have hown' : IntsOwn (wr.drewN nq) w.heap.size u5 (difL a b k) := hown
        have hz' := hb'.size
        clear hown hb hz
        go_wp2_with (at_builtin; refine wpList_append_int rfl _ _ rfl _ _ rfl hown' hb' hz' _ _ rfl (by omega) ?_; intro v' w1 hown2 hb2; clear hown' hb')
        go_roundw
        case rel => exact ⟨k + 1, by omega, by go_num, by rw [HL.out]; exact hown2, hb2⟩
        case measure => simp [intOf]; omega
    · obtain rfl : k = 8 * a.size := by omega
      clear hab
      go_wp2
      go_ret
      exact ⟨_, rfl, hown, hb⟩
end Go.Proofs.YtegjppihopncoaaDoor
