/- Is a text the parity of units? In the model and in the program: the contracts. -/
import Derived.Test.YtegjppihopncoacProg
import Derived.Test.YtegjppihopncoacPar
namespace Go.Proofs.Ytegjppihopncoac
open Go.RowKit

def VsPost (b : Bool) (w : World) (e : Ending) (w' : World) : Prop := e = .returned (.bool b) ∧ Below w.heap.size w w'
/-- What ValidStripe answers. -/
def VsEnds (L : List ByteArray) (p : ByteArray) (b : Bool) : Prop := (∃ m, Units L m ∧ ((sumS L m = p ∧ b = true) ∨ (sumS L m ≠ p ∧ b = false))) ∨ ((¬ ∃ m, Units L m) ∧ b = false)
theorem vsEnds (L : List ByteArray) (p : ByteArray) : ∃ b, VsEnds L p b := by
  by_cases h : ∃ m, Units L m
  · obtain ⟨m, hm⟩ := h
    by_cases hp : sumS L m = p
    · exact ⟨true, .inl ⟨m, hm, .inl ⟨hp, rfl⟩⟩⟩
    · exact ⟨false, .inl ⟨m, hm, .inr ⟨hp, rfl⟩⟩⟩
  · exact ⟨false, .inr ⟨h, rfl⟩⟩
theorem specVS_any (v : Value) (L : List ByteArray) (p : ByteArray) (b : Bool) (w : World) (hv : StrsIn w v L) (hbig : ∀ i, i < L.length → (L.getD i ByteArray.empty).size ≤ 9223372036854775807) (hE : VsEnds L p b) :
    Calls Try.prog 19 #[v, .string p] w (VsPost b w) := by
  rcases hE with ⟨m, hm, hc⟩ | ⟨hm, rfl⟩
  · have HU := Lib.hid (fun (W : World) (h : StrsIn W v L) => l04Units_yes v L m W h hm)
    have HS := Lib.hid (fun (W : World) (h : StrsIn W v L) => l04Sum_any v L m W h hm)
    have HV := Lib.hid hv
    obtain ⟨A, n, cap, hvv, _⟩ := hv
    clear hbig hm
    subst hvv
    generalize sumS L m = s at *
    rcases hc with ⟨rfl, rfl⟩ | ⟨hne, rfl⟩
    · have hq := str_same (rfl : s = s)
      go_enter Try.func19, Try.ntmps19
      go_wp2_with fail
      refine (HU.out _ HV.out).mono ?_
      rintro e w1 ⟨rfl, hb⟩
      go_wp2_with fail
      refine (HS.out _ (HV.out.below hb (Nat.le_refl _))).mono ?_
      rintro e w2 ⟨rfl, hb2⟩
      go_wp2
      go_ret
      exact ⟨rfl, hb.trans (hb2.mono hb.size)⟩
    · have hq := str_diff hne
      clear hne
      go_enter Try.func19, Try.ntmps19
      go_wp2_with fail
      refine (HU.out _ HV.out).mono ?_
      rintro e w1 ⟨rfl, hb⟩
      go_wp2_with fail
      refine (HS.out _ (HV.out.below hb (Nat.le_refl _))).mono ?_
      rintro e w2 ⟨rfl, hb2⟩
      go_wp2
      go_ret
      exact ⟨rfl, hb.trans (hb2.mono hb.size)⟩
  · have HU := Lib.hid (l04Units_no v L w hv hm hbig)
    obtain ⟨A, n, cap, hvv, _⟩ := hv
    clear hbig hm
    subst hvv
    go_enter Try.func19, Try.ntmps19
    go_wp2_with fail
    refine HU.out.mono ?_
    rintro e w1 ⟨rfl, hb⟩
    go_wp2
    go_ret
    exact ⟨rfl, hb⟩
theorem implVS_any (v : Value) (L : List ByteArray) (p : ByteArray) (b : Bool) (w : World) (hv : StrsIn w v L) (hbig : ∀ i, i < L.length → (L.getD i ByteArray.empty).size ≤ 9223372036854775807) (hE : VsEnds L p b) :
    Calls Try.prog 20 #[v, .string p] w (VsPost b w) := by
  rcases hE with ⟨m, hm, hc⟩ | ⟨hm, rfl⟩
  · have HU := Lib.hid (implParOf_any v L _ _ w hv hbig (.inl ⟨m, hm, rfl, rfl⟩))
    obtain ⟨A, n, cap, hvv, _⟩ := hv
    clear hbig hm
    subst hvv
    generalize sumS L m = s at *
    rcases hc with ⟨rfl, rfl⟩ | ⟨hne, rfl⟩
    · have hq := str_same (rfl : s = s)
      go_enter Try.func20, Try.ntmps20
      go_wp2_with fail
      refine HU.out.mono ?_
      rintro e w1 ⟨rfl, hb⟩
      go_wp2
      go_ret
      exact ⟨rfl, hb⟩
    · have hq := str_diff hne
      clear hne
      go_enter Try.func20, Try.ntmps20
      go_wp2_with fail
      refine HU.out.mono ?_
      rintro e w1 ⟨rfl, hb⟩
      go_wp2
      go_ret
      exact ⟨rfl, hb⟩
  · have HU := Lib.hid (implParOf_any v L _ _ w hv hbig (.inr ⟨hm, rfl, rfl⟩))
    obtain ⟨A, n, cap, hvv, _⟩ := hv
    clear hbig hm
    subst hvv
    go_enter Try.func20, Try.ntmps20
    go_wp2_with fail
    refine HU.out.mono ?_
    rintro e w1 ⟨rfl, hb⟩
    go_wp2
    go_ret
    exact ⟨rfl, hb⟩
end Go.Proofs.Ytegjppihopncoac
