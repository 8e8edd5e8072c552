/- Is a text the parity of units? In the model and in the program: the contracts. -/
import Derived.Test.YtegjppihopncoaaProg
import Derived.Test.YtegjppihopncoaaPar
namespace Go.Proofs.Ytegjppihopncoaa
open Go.RowKit

def VsPost (b : Bool) (w : World) (e : Ending) (w' : World) : Prop := e = .returned (.bool b) ∧ Below w.heap.size w w'
/-- What ValidStripe answers. -/
def VsEnds (L : List ByteArray) (p : ByteArray) (b : Bool) : Prop := (∃ m, Units L m ∧ ((sumS L m = p ∧ b = true) ∨ (sumS L m ≠ p ∧ b = false))) ∨ ((¬ ∃ m, Units L m) ∧ b = false)
theorem vsEnds (L : List ByteArray) (p : ByteArray) : ∃ b, VsEnds L p b := by
  by_cases h : ∃ m, Units L m
  · obtain ⟨m, hm⟩ := h
    by_cases hp : sumS L m = p
    · exact ⟨true, .inl ⟨m, hm, .inl ⟨hp, rfl⟩⟩⟩
    · exact ⟨false, .inl ⟨m, hm, .inr ⟨hp, rfl⟩⟩⟩
  · exact ⟨false, .inr ⟨h, rfl⟩⟩
theorem implVS_any (v : Value) (L : List ByteArray) (p : ByteArray) (b : Bool) (w : World) (hv : StrsIn w v L) (hbig : ∀ i, i < L.length → (L.getD i ByteArray.empty).size ≤ 9223372036854775807) (hE : VsEnds L p b) :
    Calls Try.prog 8 #[v, .string p] w (VsPost b w) := by
  rcases hE with ⟨m, hm, hc⟩ | ⟨hm, rfl⟩
  · have HU := Lib.hid (implParOf_any v L _ _ w hv hbig (.inl ⟨m, hm, rfl, rfl⟩))
    obtain ⟨A, n, cap, hvv, _⟩ := hv
    clear hbig hm
    subst hvv
    generalize sumS L m = s at *
    rcases hc with ⟨rfl, rfl⟩ | ⟨hne, rfl⟩
    · have hq := str_same (rfl : s = s)
      go_enter Try.func8, Try.ntmps8
      go_wp2_with fail
      refine HU.out.mono ?_
      rintro e w1 ⟨rfl, hb⟩
      go_wp2
      go_ret
      exact ⟨rfl, hb⟩
    · have hq := str_diff hne
      clear hne
      go_enter Try.func8, Try.ntmps8
      go_wp2_with fail
      refine HU.out.mono ?_
      rintro e w1 ⟨rfl, hb⟩
      go_wp2
      go_ret
      exact ⟨rfl, hb⟩
  · have HU := Lib.hid (implParOf_any v L _ _ w hv hbig (.inr ⟨hm, rfl, rfl⟩))
    obtain ⟨A, n, cap, hvv, _⟩ := hv
    clear hbig hm
    subst hvv
    go_enter Try.func8, Try.ntmps8
    go_wp2_with fail
    refine HU.out.mono ?_
    rintro e w1 ⟨rfl, hb⟩
    go_wp2
    go_ret
    exact ⟨rfl, hb⟩
end Go.Proofs.Ytegjppihopncoaa
