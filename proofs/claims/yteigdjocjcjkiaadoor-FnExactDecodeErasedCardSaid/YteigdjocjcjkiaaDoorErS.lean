/- A word with unknown bits, in the model: the contracts; the law's helper toInt64S. -/
import Derived.Test.YteigdjocjcjkiaaDoorProg
import Derived.Test.YteigdjocjcjkiaaDoorErI
import Derived.Test.YteigdjocjcjkiaaDoorDecS
import Derived.RegionTactic
import Derived.Deep.RegionHeld3
import Derived.BigQuiet
import Derived.Deep.QuietTactic
namespace Go.Proofs.YteigdjocjcjkiaaDoor
open Go.RowKit

/-- The run up to m: all, or the first that is not in order. -/
theorem rising_run (v : Value) (l : List Int) (m : Nat) (b : Bool) (w : World) (hv : IntsR w v l) (h3 : l.length ≤ 3) (hm : m ≤ l.length) (hp : ∀ i, i < m → OkAt l i) (hE : (m = l.length ∧ b = true) ∨ (m < l.length ∧ ¬ OkAt l m ∧ b = false)) :
    Calls Tryd.prog 15 #[v] w fun e w' => e = .returned (.bool b) ∧ Below w.heap.size w w' := by
  obtain ⟨A, n, cap, rfl, hlc, hcm, hn, hA⟩ := hv
  have hn3 : (n : Int) ≤ 3 := by omega
  rcases Nat.eq_zero_or_pos n with h0 | h0
  · subst h0
    have hb : b = true := by
      rcases hE with ⟨_, h⟩ | ⟨h, _⟩
      · exact h
      · omega
    subst hb
    clear hA hlc hcm hp hE hm h3
    go_enter Tryd.func15, Tryd.ntmps15
    go_wp2
    go_loop [3] (fun i => i = .int .i64 0) (fun _ => 0)
    case atStart => rfl
    case round =>
      obtain rfl := hrel
      go_wp2
      go_ret
      exact ⟨rfl, Below.refl _ _⟩
  · obtain ⟨bl, off, rfl, hbl, hx⟩ := hA h0
    have HX := Lib.hid hx
    have HP := Lib.hid hp
    have HE := Lib.hid hE
    have HN := Lib.hid hn
    clear hA hx hlc hcm hp hE
    go_enter Tryd.func15, Tryd.ntmps15
    go_wp2
    go_loopw [3] (fun i wr => ∃ k : Nat, k ≤ m ∧ i = .int .i64 k ∧ Below w.heap.size w wr) (fun i _ => n - (intOf i).toNat)
    case atStart => exact ⟨0, by omega, rfl, Below.refl _ _⟩
    case round =>
      obtain ⟨k, hk, rfl, hb⟩ := hrel
      by_cases hlt : k < n
      · have hki : (k : Int) < (n : Int) := by omega
        have hc := (hb.cell (p := ⟨bl, off + k, none⟩) hbl).trans (HX.out k hlt)
        obtain ⟨x, hx⟩ : ∃ x, x = l.getD k 0 := ⟨_, rfl⟩
        rw [← hx] at hc
        by_cases hr : 0 ≤ x ∧ x ≤ 71
        · obtain ⟨r1, r2⟩ := hr
          by_cases hk0 : k = 0
          · subst hk0
            rw [Nat.add_zero] at hc
            have hok : OkAt l 0 := ⟨by rw [← hx]; exact r1, by rw [← hx]; exact r2, fun h => by omega⟩
            have hlm : 0 < m := by
              rcases HE.out with ⟨h, _⟩ | ⟨_, h, _⟩
              · have := HN.out; omega
              · rcases Nat.eq_zero_or_pos m with e | e
                · rw [e] at h; exact absurd hok h
                · exact e
            clear hx hok
            go_wp2
            go_quiet (first | (go_at_call 23; refine Calls.quiet_of_same ((l00In_yes _ _ _ _ r1 r2).mono fun e w' h => ⟨h.1, h.2.symm⟩)))
            go_wp2
            go_roundw
            case rel => exact ⟨1, by omega, by go_num, ⟨hb.os, hb.tape, hb.output, hb.size, hb.block⟩⟩
            case measure => simp [intOf]; omega
          · obtain ⟨kk, hkk⟩ : ∃ kk, k = kk + 1 := ⟨k - 1, by omega⟩
            have hkki : (k : Int) - 1 = (kk : Int) := by omega
            have hk1 : (0 : Int) < (k : Int) := by omega
            have hkn : (kk : Int) < (n : Int) := by omega
            have hd0 : decide ((k : Int) > 0) = true := by simp; omega
            have hd1 : decide (0 < k) = true := by simp; omega
            have hkN : 0 < k := by omega
            have hc2 := (hb.cell (p := ⟨bl, off + kk, none⟩) hbl).trans (HX.out kk (by omega))
            obtain ⟨y, hy⟩ : ∃ y, y = l.getD kk 0 := ⟨_, rfl⟩
            rw [← hy] at hc2
            by_cases hyx : y < x
            · have hok : OkAt l k := ⟨by rw [← hx]; exact r1, by rw [← hx]; exact r2, fun _ => by rw [show k - 1 = kk by omega, ← hy, ← hx]; exact hyx⟩
              have hlm : k < m := by
                rcases HE.out with ⟨h, _⟩ | ⟨_, h, _⟩
                · have := HN.out; omega
                · rcases Nat.lt_or_ge k m with e | e
                  · exact e
                  · rw [show m = k by omega] at h; exact absurd hok h
              have hd2 : decide (y ≥ x) = false := by simp; omega
              have hd3 : decide (x ≤ y) = false := by simp; omega
              clear hx hy hok hkk
              go_wp2
              go_quiet (first | (go_at_call 23; refine Calls.quiet_of_same ((l00In_yes _ _ _ _ r1 r2).mono fun e w' h => ⟨h.1, h.2.symm⟩)))
              go_wp2
              go_roundw
              case rel => exact ⟨k + 1, by omega, by go_num, ⟨hb.os, hb.tape, hb.output, hb.size, hb.block⟩⟩
              case measure => simp [intOf]; omega
            · have hno : ¬ OkAt l k := fun h => hyx (by have := h.2.2 (by omega); rw [show k - 1 = kk by omega, ← hy, ← hx] at this; exact this)
              have hbf : b = false := by
                rcases HE.out with ⟨h, _⟩ | ⟨_, _, h⟩
                · exact absurd (HP.out k (by have := HN.out; omega)) hno
                · exact h
              have hd2 : decide (y ≥ x) = true := by simp; omega
              have hd3 : decide (x ≤ y) = true := by simp; omega
              have hd4 : x ≤ y := by omega
              subst hbf
              clear hx hy hno hkk
              go_wp2
              go_quiet (first | (go_at_call 23; refine Calls.quiet_of_same ((l00In_yes _ _ _ _ r1 r2).mono fun e w' h => ⟨h.1, h.2.symm⟩)))
              go_wp2
              go_ret
              exact ⟨rfl, ⟨hb.os, hb.tape, hb.output, hb.size, hb.block⟩⟩
        · have hno : ¬ OkAt l k := fun h => hr ⟨by rw [hx]; exact h.1, by rw [hx]; exact h.2.1⟩
          have hbf : b = false := by
            rcases HE.out with ⟨h, _⟩ | ⟨_, _, h⟩
            · exact absurd (HP.out k (by have := HN.out; omega)) hno
            · exact h
          have hr2 : x < 0 ∨ 71 < x := by omega
          subst hbf
          clear hx hno hr
          go_wp2
          go_quiet (first | (go_at_call 23; refine Calls.quiet_of_same ((l00In_no _ _ _ _ hr2).mono fun e w' h => ⟨h.1, h.2.symm⟩)))
          go_wp2
          go_ret
          exact ⟨rfl, ⟨hb.os, hb.tape, hb.output, hb.size, hb.block⟩⟩
      · obtain rfl : k = n := by omega
        rcases HE.out with ⟨h, rfl⟩ | ⟨h, _⟩
        · go_wp2
          go_ret
          exact ⟨rfl, hb⟩
        · have := HN.out; omega
theorem rising_any (v : Value) (l : List Int) (b : Bool) (w : World) (hv : IntsR w v l) (h3 : l.length ≤ 3) (hb : (b = true ∧ Rising l) ∨ (b = false ∧ ¬ Rising l)) :
    Calls Tryd.prog 15 #[v] w fun e w' => e = .returned (.bool b) ∧ Below w.heap.size w w' := by
  rcases hb with ⟨rfl, hr⟩ | ⟨rfl, h⟩
  · exact rising_run v l l.length true w hv h3 (Nat.le_refl _) hr (.inl ⟨rfl, rfl⟩)
  · rcases first_not l with hr | ⟨m, hm, hp, hno⟩
    · exact absurd hr h
    · exact rising_run v l m false w hv h3 (by omega) hp (.inr ⟨hm, hno, rfl⟩)
end Go.Proofs.YteigdjocjcjkiaaDoor
