/- FnCrc: the walk. -/
import Derived.Test.YtfnccbanmgfkeabDoorProg
import Derived.Test.YtfnccbanmgfkeabDoorByte
import Derived.Test.YtfnccbanmgfkeabDoorCrc
import Derived.Test.YtfnccbanmgfkeabDoorCrcL
import Derived.WalkKit
import Derived.ProofKit
import Derived.Below
import Derived.BigQuiet
import Derived.Deep.QuietTactic
import Derived.Deep.RegionWith
namespace Go.Proofs.YtfnccbanmgfkeabDoor
open Go.RowKit

theorem CodeIs.wide {w : World} {B B' : Nat} {v : Value} (h : CodeIs w B v) (hB : B ≤ B') : CodeIs w B' v := by
  obtain ⟨A, len, cap, rfl, hl, hh⟩ := h
  refine ⟨A, len, cap, rfl, hl, fun hp => ?_⟩
  obtain ⟨b, off, hA, hb, hc⟩ := hh hp
  exact ⟨b, off, hA, by omega, hc⟩
/-- The checksum over the table, in any later world. -/
theorem ck_later (s : ByteArray) (w w' : World) (hs : s.size ≤ 1048576) (hT : ∀ j, j < 16 → w.cell? ⟨0, j, none⟩ = some (.int .u32 (crcT.getD j 0))) (h0 : 0 < w.heap.size) (hb : Below w.heap.size w w') :
    Calls Tryd.prog 73 #[.string s] w' fun e w'' => e = .returned (.int .i64 (ckOf s : Nat)) ∧ w' = w'' :=
  implCk_any 0 s w' hs (fun j hj => (hb.cell (p := ⟨0, j, none⟩) h0).trans (hT j hj)) rfl


theorem burst_zero (s : ByteArray) (f : Nat) : (s.data.toList.map fun b => (b.toNat : Int)) = burst s f 0 := by
  apply List.ext_getElem
  · simp [burst]
  · intro k h1 h2
    have hk : k < s.data.toList.length := by simpa using h1
    simp only [burst, List.getElem_map, List.getElem_range, Nat.mul_zero, Nat.zero_div, Nat.zero_mod, Nat.xor_zero]
    unfold byteAt
    rw [List.getD_eq_getElem?_getD, List.getElem?_eq_getElem hk]; rfl
theorem burst_byte_lt (s : ByteArray) (f B j : Nat) : byteAt s j ^^^ (2 ^ f * B / 2 ^ (8 * j) % 256) < 256 := by
  have h1 := byteAt_le s j
  have := Nat.mod_lt (2 ^ f * B / 2 ^ (8 * j)) (show 0 < 256 by decide)
  exact Nat.xor_lt_two_pow (n := 8) (by omega) (by omega)
theorem nums_at' (l : List Int) (k : Nat) (hk : k < l.length) (hb : ∀ x ∈ l, 0 ≤ x ∧ x < 256) : (byteAt (strOfNums l) k : Int) = l.getD k 0 := by
  have h1 := hb _ (List.getElem_mem hk)
  unfold byteAt
  rw [strOfNums_data, List.getD_eq_getElem?_getD, List.getElem?_map, List.getD_eq_getElem?_getD, List.getElem?_eq_getElem hk]
  simp only [Option.map_some, Option.getD_some]
  rw [UInt8.toNat_ofNat']
  omega
theorem burst_ck (s : ByteArray) (f B i : Nat) (hB : B < 2 ^ i) (hi : i ≤ 32) (hf : f + i ≤ 8 * s.size) : ckOf (strOfNums (burst s f B)) = ckOf s ↔ B = 0 := by
  have hsz : (strOfNums (burst s f B)).size = s.size := by rw [strOfNums_size, burst_length]
  have hok : ∀ x ∈ burst s f B, 0 ≤ x ∧ x < 256 := by
    intro x hx
    simp only [burst, List.mem_map] at hx
    obtain ⟨j, _, rfl⟩ := hx
    have := burst_byte_lt s f B j
    omega
  have hby : ∀ j, j < s.size → byteAt (strOfNums (burst s f B)) j = byteAt s j ^^^ (2 ^ f * B / 2 ^ (8 * j) % 256) := fun j hj => by
    have := nums_at' (burst s f B) j (by rw [burst_length]; exact hj) hok
    rw [burst_getD s f B j hj] at this
    exact Int.ofNat_inj.1 this
  have hfit : 2 ^ f * B < 2 ^ (8 * s.size) := by
    calc 2 ^ f * B < 2 ^ f * 2 ^ i := Nat.mul_lt_mul_of_pos_left hB (Nat.two_pow_pos f)
      _ = 2 ^ (f + i) := by rw [Nat.pow_add]
      _ ≤ 2 ^ (8 * s.size) := Nat.pow_le_pow_right (by decide) hf
  have hB32 : B < 4294967296 := by
    calc B < 2 ^ i := hB
      _ ≤ 2 ^ 32 := Nat.pow_le_pow_right (by decide) hi
      _ = 4294967296 := by decide
  rw [← ckF_burst s (strOfNums (burst s f B)) B f s.size hB32 (by omega) hfit hby]
  unfold ckOf
  rw [hsz]
  constructor
  · intro e
    have := congrArg (· ^^^ 4294967295) e
    simpa [Nat.xor_assoc] using this
  · intro e; rw [e]
theorem ckOf_lt (s : ByteArray) : ckOf s < 4294967296 := Nat.xor_lt_two_pow (n := 32) (ckF_lt s _) (by omega)
end Go.Proofs.YtfnccbanmgfkeabDoor
