/- Plain facts: the mark of a page that was torn, erased or destroyed, also with a bit inverted. -/
import Derived.Test.YthenilomgbnpeaaDoorPsN
namespace Go.Proofs.YthenilomgbnpeaaDoor
open Go.RowKit
set_option linter.unusedVariables false

theorem fillB_at (c n j : Nat) (hc : c < 256) (h : j < n) : byteAt (fillB c n) j = c := by
  unfold byteAt fillB
  simp only [List.getD_eq_getElem?_getD]
  rw [List.getElem?_replicate, if_pos h]
  simp; omega
/-- A page that cannot be opened: its mark has more than one wrong bit. -/
def Shut (s : ByteArray) : Prop := s.size = 91 ∧ 1 < mkErr s
theorem mark_255 : ∀ q : Fin 8, 1 < onesF 8 (255 ^^^ 2 ^ q.val ^^^ 90) := by decide +kernel
theorem tornB_mark {raw : ByteArray} (hr : raw.size = 91) {k : Nat} (hk : k ≤ 90) : byteAt (tornB raw k) 90 = 255 := by
  unfold tornB
  have h1 : (raw.extract 0 k).size = k := by rw [ByteArray.size_extract]; omega
  have := byteAt_right (raw.extract 0 k) (fillB 255 (91 - k)) (90 - k)
  rw [h1, show k + (90 - k) = 90 by omega] at this
  rw [this, fillB_at _ _ _ (by omega) (by omega)]
theorem shut_torn {raw : ByteArray} (hr : raw.size = 91) {k : Nat} (hk : k ≤ 90) : Shut (tornB raw k) := by
  refine ⟨tornB_size hr (by omega), ?_⟩
  unfold mkErr
  rw [tornB_mark hr hk]; decide +kernel
theorem shut_bent {raw : ByteArray} (hr : raw.size = 91) {k : Nat} (hk : k ≤ 90) (b : Nat) : Shut (flipP (tornB raw k) b) := by
  have hs := tornB_size hr (show k ≤ 91 by omega)
  refine ⟨by rw [flipP_size, hs], ?_⟩
  unfold mkErr
  rw [flipP_at _ _ _ (by omega), tornB_mark hr hk]
  split
  · exact mark_255 ⟨b % 8, by omega⟩
  · decide +kernel
theorem shut_erased : Shut erasedB := by
  refine ⟨erasedB_size, ?_⟩
  unfold mkErr erasedB
  rw [fillB_at _ _ _ (by omega) (by omega)]; decide +kernel
theorem shut_dest : Shut destB := by
  refine ⟨destB_size, ?_⟩
  unfold mkErr destB
  rw [fillB_at _ _ _ (by omega) (by omega)]; decide +kernel
theorem Shut.ends {s : ByteArray} (h : Shut s) {p : Int} (hp : 0 ≤ p ∧ p ≤ 65534) : OpenEnds s p ⟨#[]⟩ ⟨#[]⟩ 0 6 := .mark h.1 hp h.2
end Go.Proofs.YthenilomgbnpeaaDoor
