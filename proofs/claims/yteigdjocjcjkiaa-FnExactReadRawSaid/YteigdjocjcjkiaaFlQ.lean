/- The start of an operation, in the model and in the program: the contracts. -/
import Derived.Test.YteigdjocjcjkiaaProg
import Derived.Test.YteigdjocjcjkiaaFlG
import Derived.Test.YteigdjocjcjkiaaFlF
import Derived.Test.YteigdjocjcjkiaaPg
namespace Go.Proofs.Yteigdjocjcjkiaa
open Go.RowKit
set_option linter.unusedVariables false

/-- How much of an operation takes effect. -/
def Fl.much (F : Fl) : Int := if F.fu = 0 then F.ke else 91
theorem tick_zero {F : Fl} (h : F.fu = 0) : F.tick = { F with op := wrap64 (F.op + 1), off := true, fu := -1 } := by
  unfold Fl.tick; simp [h]
theorem tick_pos {F : Fl} (h : 0 < F.fu) : F.tick = { F with op := wrap64 (F.op + 1), fu := F.fu - 1 } := by
  unfold Fl.tick; simp [show ¬ F.fu = 0 by omega, h]
theorem tick_neg {F : Fl} (h : F.fu < 0) : F.tick = { F with op := wrap64 (F.op + 1) } := by
  unfold Fl.tick; simp [show ¬ F.fu = 0 by omega, show ¬ 0 < F.fu by omega]
def StartPost (g : Nat) (F : Fl) (u : Value) (v : Value) (w : World) (e : Ending) (w' : World) : Prop := e = .returned v ∧ Rw w' g 31 (flc F.tick u) ∧ w.grownBy w' (some g)
set_option maxRecDepth 100000 in
theorem start_any (g : Nat) (F : Fl) (u : Value) (w : World) (h : Rw w g 31 (flc F u)) (hf : -1 ≤ F.fu ∧ F.fu ≤ 1000000) :
    Calls Try.prog 71 #[.pointer (some ⟨g, 0, none⟩)] w (StartPost g F u (.tuple #[.int .i64 F.much, .int .i64 F.code]) w) := by
  unfold StartPost Fl.much Fl.code
  rcases Int.lt_trichotomy F.fu 0 with h0 | h0 | h0
  · rw [tick_neg h0, if_neg (by omega), if_neg (by omega)]
    obtain ⟨d, b, p, bs, fu, ke, off, op⟩ := F
    unfold flc at *
    simp only at *
    obtain ⟨c0, c1, c2, c3, c4, c5, c6, c7⟩ := h.eight
    obtain ⟨f0, f1, f2, f3, f4, f5, f6, f7⟩ := h.frees
    have H := Lib.hid h
    clear h
    go_enter Try.func71, Try.ntmps71
    go_wp2
    go_ret2
    have k := H.out.set_ 7 (.int .i64 (wrap64 (op + 1)))
    simp only [List.setIfInBounds_toArray, List.set_cons_zero, List.set_cons_succ] at k
    exact ⟨rfl, k, grown_set (grown_refl _ _) _⟩
  · rw [tick_zero h0, if_pos h0, if_pos h0]
    obtain ⟨d, b, p, bs, fu, ke, off, op⟩ := F
    unfold flc at *
    simp only at *
    subst h0
    obtain ⟨c0, c1, c2, c3, c4, c5, c6, c7⟩ := h.eight
    obtain ⟨f0, f1, f2, f3, f4, f5, f6, f7⟩ := h.frees
    have H := Lib.hid h
    clear h
    go_enter Try.func71, Try.ntmps71
    go_wp2
    go_ret2
    have k := ((H.out.set_ 7 (.int .i64 (wrap64 (op + 1)))).set_ 6 (.bool true)).set_ 4 (.int .i64 (-1))
    simp only [List.setIfInBounds_toArray, List.set_cons_zero, List.set_cons_succ] at k
    exact ⟨rfl, k, grown_set (grown_set (grown_set (grown_refl _ _) _) _) _⟩
  · rw [tick_pos h0, if_neg (by omega), if_neg (by omega)]
    obtain ⟨d, b, p, bs, fu, ke, off, op⟩ := F
    unfold flc at *
    simp only at *
    obtain ⟨c0, c1, c2, c3, c4, c5, c6, c7⟩ := h.eight
    obtain ⟨f0, f1, f2, f3, f4, f5, f6, f7⟩ := h.frees
    have H := Lib.hid h
    have hz : ¬ fu = 0 := by omega
    clear h
    go_enter Try.func71, Try.ntmps71
    go_wp2
    go_ret2
    have k := (H.out.set_ 7 (.int .i64 (wrap64 (op + 1)))).set_ 4 (.int .i64 (fu - 1))
    simp only [List.setIfInBounds_toArray, List.set_cons_zero, List.set_cons_succ] at k
    exact ⟨rfl, k, grown_set (grown_set (grown_refl _ _) _) _⟩
set_option maxRecDepth 100000 in
theorem tick_any (g : Nat) (F : Fl) (u : Value) (w : World) (h : Rw w g 31 (flc F u)) (hf : -1 ≤ F.fu ∧ F.fu ≤ 1000000) :
    Calls Try.prog 64 #[.pointer (some ⟨g, 0, none⟩)] w (StartPost g F u (.bool (decide (F.fu = 0))) w) := by
  unfold StartPost
  rcases Int.lt_trichotomy F.fu 0 with h0 | h0 | h0
  · rw [tick_neg h0, decide_eq_false (by omega)]
    obtain ⟨d, b, p, bs, fu, ke, off, op⟩ := F
    unfold flc at *
    simp only at *
    obtain ⟨c0, c1, c2, c3, c4, c5, c6, c7⟩ := h.eight
    obtain ⟨f0, f1, f2, f3, f4, f5, f6, f7⟩ := h.frees
    have H := Lib.hid h
    clear h
    go_enter Try.func64, Try.ntmps64
    go_wp2
    go_ret
    have k := H.out.set_ 7 (.int .i64 (wrap64 (op + 1)))
    simp only [List.setIfInBounds_toArray, List.set_cons_zero, List.set_cons_succ] at k
    exact ⟨rfl, k, grown_set (grown_refl _ _) _⟩
  · rw [tick_zero h0, decide_eq_true h0]
    obtain ⟨d, b, p, bs, fu, ke, off, op⟩ := F
    unfold flc at *
    simp only at *
    subst h0
    obtain ⟨c0, c1, c2, c3, c4, c5, c6, c7⟩ := h.eight
    obtain ⟨f0, f1, f2, f3, f4, f5, f6, f7⟩ := h.frees
    have H := Lib.hid h
    clear h
    go_enter Try.func64, Try.ntmps64
    go_wp2
    go_ret
    have k := ((H.out.set_ 7 (.int .i64 (wrap64 (op + 1)))).set_ 6 (.bool true)).set_ 4 (.int .i64 (-1))
    simp only [List.setIfInBounds_toArray, List.set_cons_zero, List.set_cons_succ] at k
    exact ⟨rfl, k, grown_set (grown_set (grown_set (grown_refl _ _) _) _) _⟩
  · rw [tick_pos h0, decide_eq_false (by omega)]
    obtain ⟨d, b, p, bs, fu, ke, off, op⟩ := F
    unfold flc at *
    simp only at *
    obtain ⟨c0, c1, c2, c3, c4, c5, c6, c7⟩ := h.eight
    obtain ⟨f0, f1, f2, f3, f4, f5, f6, f7⟩ := h.frees
    have H := Lib.hid h
    have hz : ¬ fu = 0 := by omega
    clear h
    go_enter Try.func64, Try.ntmps64
    go_wp2
    go_ret
    have k := (H.out.set_ 7 (.int .i64 (wrap64 (op + 1)))).set_ 4 (.int .i64 (fu - 1))
    simp only [List.setIfInBounds_toArray, List.set_cons_zero, List.set_cons_succ] at k
    exact ⟨rfl, k, grown_set (grown_set (grown_refl _ _) _) _⟩
end Go.Proofs.Yteigdjocjcjkiaa
