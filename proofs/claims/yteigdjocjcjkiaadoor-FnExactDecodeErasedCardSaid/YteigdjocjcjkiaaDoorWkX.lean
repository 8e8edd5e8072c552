/- A word with unknown bits: the law of exactness, the walk. -/
import Derived.Test.YteigdjocjcjkiaaDoorProg
import Derived.Test.YteigdjocjcjkiaaDoorArg
import Derived.Test.YteigdjocjcjkiaaDoorErF
namespace Go.Proofs.YteigdjocjcjkiaaDoor
open Go.RowKit

theorem IsRow.ints {w : World} {a : Option Addr} {len cap : Nat} {zs : List Int} (h : IsRow .i64 w a len cap zs) : IntsR w (.slice a len cap) (zs.take len) := by
  rcases h with ⟨rfl, rfl, rfl, rfl⟩ | ⟨x, rfl, h1, h2, h3, hc, hw⟩
  · exact ⟨none, 0, 0, rfl, Nat.le_refl _, by omega, rfl, fun h => by omega⟩
  · refine ⟨_, len, cap, rfl, h1, by unfold maxLen at h2; omega, by simp; omega, fun h0 => ?_⟩
    obtain ⟨b, off, spot⟩ := x
    have h00 := hc 0 (by omega)
    have hspot : spot = none := by simpa [Addr.add] using World.cell?_spot h00
    subst hspot
    refine ⟨b, off, rfl, World.block_lt_of_cell? w ⟨b, off, none⟩ (by simpa [Addr.add] using h00), fun i hi => ?_⟩
    have := hc i (by omega)
    have e : (⟨b, off, none⟩ : Addr).add i = ⟨b, off + i, none⟩ := by unfold Addr.add; split <;> simp_all
    rw [e] at this
    rw [this, List.getD_eq_getElem?_getD, List.getD_eq_getElem?_getD, List.getElem?_take, if_pos hi]
theorem er_alike (s : ByteArray) (c : Int) (l : List Int) : ∃ R k, Hid (∀ (W : World) (v : Value), IntsR W v l → Calls Tryd.prog 5 #[.string s, .int .i64 c, v] W (ErPost R k W)) ∧ Hid (∀ (W : World) (v : Value), IntsR W v l → MaskTab W → Calls Tryd.prog 7 #[.string s, .int .i64 c, v] W (ErPost R k W)) := by
  by_cases h : s.size = 8 ∧ 0 ≤ c ∧ c ≤ 255
  · obtain ⟨hs, h0, h1⟩ := h
    obtain ⟨X, hX, es, ec⟩ := as_cw hs h0 h1
    by_cases hl : l.length ≤ 3 ∧ Rising l
    · obtain ⟨R, k, hS⟩ := sol_total X (natL l)
      rw [es, ec]
      exact ⟨R, k, Lib.hid (fun W v hv => specEr_sol X v l R k W hX hv hl.1 hl.2 hS), Lib.hid (fun W v hv hT => implEr_sol X v l R k W hX hv hl.1 hl.2 hT hS)⟩
    · refine ⟨_, _, Lib.hid (fun W v hv => specEr_range s c v l W hs ⟨h0, h1⟩ hv hl), Lib.hid (fun W v hv _ => ?_)⟩
      rw [es, ec]
      exact implEr_range X v l W hX hv hl
  · have h' : s.size ≠ 8 ∨ c < 0 ∨ 255 < c := by
      by_cases h1 : s.size = 8
      · by_cases h2 : c < 0
        · exact .inr (.inl h2)
        · exact .inr (.inr (by
            rcases Int.lt_or_le 255 c with h3 | h3
            · exact h3
            · exact absurd ⟨h1, by omega, h3⟩ h))
      · exact .inl h1
    exact ⟨_, _, Lib.hid (fun W v hv => specEr_no s c v l W hv h'), Lib.hid (fun W v hv _ => implEr_no s c v l W hv h')⟩
theorem erx_any (a0 : ByteArray) (a1 : Int) (a2 : Option Addr) (len2 cap2 : Nat) (z2 : List Int) (w : World) (w0 : a0.size ≤ maxLen) (_w1 : (Lit.int .i64 a1).wf = true) (w2 : IsRow .i64 w a2 len2 cap2 z2) (hT0 : MaskTab w) :
    Calls Tryd.prog 3 #[.string a0, .int .i64 a1, .slice a2 len2 cap2] w fun e w' => e = .returned (.bool true) ∧ Below w.heap.size w w' := by
  unfold maxLen at w0
  have hr := w2.ints
  have hb2 := w2.len
  have hlen : (z2.take len2).length = len2 := by
    obtain ⟨_, _, _, hv, _, _, hl, _⟩ := hr
    injection hv with e1 e2 e3
    rw [hl, e2]
  obtain ⟨L, hL⟩ : ∃ L, L = z2.take len2 := ⟨_, rfl⟩
  rw [← hL] at hr hlen
  obtain ⟨R, c, HS, HI⟩ := er_alike a0 a1 L
  have HR := Lib.hid hr
  have HT := Lib.hid hT0
  have HLn := Lib.hid hlen
  clear hr hT0 w2 hL hlen
  by_cases hl0 : a0.size ≤ 1048576
  · by_cases hl2 : len2 ≤ 1048576
    · have HL : Hid (L.length ≤ 1048576) := Lib.hid (by have := HLn.out; omega)
      have hq := str_same (rfl : R = R)
      have hcc : (c != c) = false := by simp
      go_enter Tryd.func3, Tryd.ntmps3
      go_wp2_with fail
      refine (toInts_any _ L _ HR.out HL.out).mono ?_
      rintro e w1 ⟨v1, rfl, o1, b1⟩
      go_wp2_with fail
      refine (HS.out _ _ o1.readsR).mono ?_
      rintro e w2 ⟨rfl, b2⟩
      have B2 := b1.trans (b2.mono b1.size)
      go_wp2_with fail
      refine (toInts_any _ L _ (HR.out.below B2 (Nat.le_refl _)) HL.out).mono ?_
      rintro e w3 ⟨v2, rfl, o3, b3⟩
      have B3 := B2.trans (b3.mono B2.size)
      clear o1 b1 b2 b3 B2
      go_wp2_with fail
      refine (HI.out _ _ o3.readsR (HT.out.below B3 (Nat.le_refl _))).mono ?_
      rintro e w4 ⟨rfl, b4⟩
      have B4 := B3.trans (b4.mono B3.size)
      have o4 := o3.later b4 (Nat.le_refl _)
      clear o3 b4 B3
      go_wp2_with fail
      refine (toInts_any _ L _ (HR.out.below B4 (Nat.le_refl _)) HL.out).mono ?_
      rintro e w5 ⟨v3, rfl, o5, b5⟩
      have B5 := B4.trans (b5.mono B4.size)
      have p5 := o4.later b5 (Nat.le_refl _)
      clear o4 b5 B4
      go_wp2_with fail
      refine (eqInts_any v2 v3 L _ p5.reads o5.reads HL.out).mono ?_
      rintro e w6 ⟨rfl, b6⟩
      have B6 := B5.trans (b6.mono B5.size)
      clear p5 o5 b6 B5
      go_wp2
      go_ret
      exact ⟨rfl, B6⟩
    · clear HS HI HR
      go_enter Tryd.func3, Tryd.ntmps3
      go_wp2
      go_ret
      exact ⟨rfl, Below.refl _ _⟩
  · clear HS HI HR
    go_enter Tryd.func3, Tryd.ntmps3
    go_wp2
    go_ret
    exact ⟨rfl, Below.refl _ _⟩
end Go.Proofs.YteigdjocjcjkiaaDoor
