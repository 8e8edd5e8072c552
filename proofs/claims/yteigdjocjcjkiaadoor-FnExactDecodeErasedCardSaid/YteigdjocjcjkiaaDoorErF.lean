/- A word with unknown bits, in the model: the search and the exported function. -/
import Derived.Test.YteigdjocjcjkiaaDoorProg
import Derived.Test.YteigdjocjcjkiaaDoorErS
namespace Go.Proofs.YteigdjocjcjkiaaDoor
open Go.RowKit

def tailP (cap b off : Nat) : Option Addr := if cap = 1 then some ⟨b, off, none⟩ else some ⟨b, off + 1, none⟩
theorem slice_tailI (b off n cap : Nat) (h1 : 1 ≤ n) (w : World) :
    (Instr.slice 22 (.slice (some ⟨b, off, none⟩) n cap) (some (.int .i64 1)) none none).run Tryd.prog w = .ok (.slice (tailP cap b off) (n - 1) (cap - 1)) w := by
  rw [run_slice_l w 22 (some ⟨b, off, none⟩) n cap (by kernel_rfl) .i64 _ (by omega) (by omega)]
  have e : (sizeOf (Tryd.prog.elem 22)).run Tryd.prog w = .ok 1 w := by kernel_rfl
  rw [e, show ((1 : Int)).toNat = 1 by decide]
  simp only [Result.andThen_ok, sliced, tailP]
  by_cases h : cap = 1
  · rw [if_pos h, if_pos h]
  · rw [if_neg h, if_neg h]; simp [Addr.add]
theorem tail_reads {W : World} {b off n cap : Nat} {x : Int} {l : List Int} (h : IntsR W (.slice (some ⟨b, off, none⟩) n cap) (x :: l)) : IntsR W (.slice (tailP cap b off) (n - 1) (cap - 1)) l := by
  obtain ⟨A, len, cap', hv, h1, h2, hl, hc⟩ := h
  injection hv with e1 e2 e3
  subst e1 e2 e3
  simp at hl
  refine ⟨_, _, _, rfl, by omega, by omega, by omega, fun h0 => ?_⟩
  obtain ⟨b', off', he, hbl, hx⟩ := hc (by omega)
  injection he with he
  injection he with e1 e2
  subst e1 e2
  refine ⟨b, off + 1, by unfold tailP; rw [if_neg (by omega)], hbl, fun i hi => ?_⟩
  have := hx (i + 1) (by omega)
  rw [show off + 1 + i = off + (i + 1) by omega, this]; rfl
def FillPost (X : Nat) (L : List Nat) (w : World) (e : Ending) (w' : World) : Prop :=
  ∃ (s : ByteArray) (ok : Bool), e = .returned (.tuple #[.string s, .bool ok]) ∧ ((ok = true ∧ ∃ g, good (flipL X L g) = true ∧ s = wStr (lo (flipL X L g))) ∨ (ok = false ∧ ∀ g, good (flipL X L g) = false)) ∧ Below w.heap.size w w'
theorem flip_even (X b g : Nat) (L : List Nat) : flipL X (b :: L) (2 * g) = flipL X L g := by
  rw [flipL, if_neg (by omega), show 2 * g / 2 = g by omega]
theorem flip_odd (X b g : Nat) (L : List Nat) : flipL X (b :: L) (2 * g + 1) = flipL (X ^^^ 2 ^ b) L g := by
  rw [flipL, if_pos (by omega), show (2 * g + 1) / 2 = g by omega]
theorem fill_zero (X : Nat) (v : Value) (w : World) (hX : X < 2 ^ 72) (hv : IntsR w v []) :
    Calls Tryd.prog 16 #[.string (wStr (lo X)), .int .i64 (hi X : Nat), v] w (FillPost X [] w) := by
  have HS := Lib.hid (fun (W : World) => l03Syndrome_any X W hX)
  obtain ⟨A, n, cap, rfl, _, _, hn, _⟩ := hv
  have hn0 : n = 0 := by simp at hn; omega
  subst hn0
  clear hn
  by_cases hg : good X = true
  · obtain ⟨e1, e2⟩ := (good_iff X).1 hg
    have HR : Hid (∀ s : ByteArray, s = wStr (lo X) → ∃ g, good (flipL X [] g) = true ∧ s = wStr (lo (flipL X [] g))) := Lib.hid (fun s hs => ⟨0, hg, hs⟩)
    unfold SynPost at HS
    rw [e1, e2] at HS
    have HW : Hid (wStr (lo X) = wStr (lo X)) := Lib.hid rfl
    obtain ⟨s, hs⟩ : ∃ s, s = wStr (lo X) := ⟨_, rfl⟩
    have HSS := Lib.hid hs
    rw [← hs] at HS ⊢
    generalize hi X = k at *
    clear hs e1 e2 hg HW
    go_enter Tryd.func16, Tryd.ntmps16
    go_wp2_with fail
    refine (HS.out _).mono ?_
    rintro e w1 ⟨rfl, rfl⟩
    go_wp2
    go_ret2
    exact ⟨s, true, rfl, .inl ⟨rfl, HR.out s HSS.out⟩, Below.refl _ _⟩
  · have HR : Hid (∀ g, good (flipL X [] g) = false) := Lib.hid (fun g => by simpa [flipL] using hg)
    unfold SynPost at HS
    by_cases hs0 : synN X = 0
    · have hp1 : parN X ≠ 0 := fun e => hg ((good_iff X).2 ⟨hs0, e⟩)
      rw [hs0] at HS
      have hpp : ((parN X : Int) == 0) = false := by simp; omega
      clear hg hs0 hp1
      generalize parN X = P at *
      generalize wStr (lo X) = s at *
      generalize hi X = k at *
      go_enter Tryd.func16, Tryd.ntmps16
      go_wp2_with fail
      refine (HS.out _).mono ?_
      rintro e w1 ⟨rfl, rfl⟩
      go_wp2
      go_ret2
      exact ⟨s, false, rfl, .inr ⟨rfl, HR.out⟩, Below.refl _ _⟩
    · have hss : ((synN X : Int) == 0) = false := by simp; omega
      clear hg hs0
      generalize synN X = S at *
      generalize parN X = P at *
      generalize wStr (lo X) = s at *
      generalize hi X = k at *
      go_enter Tryd.func16, Tryd.ntmps16
      go_wp2_with fail
      refine (HS.out _).mono ?_
      rintro e w1 ⟨rfl, rfl⟩
      go_wp2
      go_ret2
      exact ⟨s, false, rfl, .inr ⟨rfl, HR.out⟩, Below.refl _ _⟩
theorem fill_more (X b : Nat) (L : List Nat) (v : Value) (w : World) (hX : X < 2 ^ 72) (hv : IntsR w v ((b :: L).map fun (b : Nat) => (b : Int))) (hb : b < 72)
    (ih : ∀ (X : Nat) (v : Value) (w : World), X < 2 ^ 72 → IntsR w v (L.map fun (b : Nat) => (b : Int)) → Calls Tryd.prog 16 #[.string (wStr (lo X)), .int .i64 (hi X : Nat), v] w (FillPost X L w)) :
    Calls Tryd.prog 16 #[.string (wStr (lo X)), .int .i64 (hi X : Nat), v] w (FillPost X (b :: L) w) := by
  have HI1 := Lib.hid (fun (v : Value) (W : World) (h : IntsR W v (L.map fun (b : Nat) => (b : Int))) => ih X v W hX h)
  have HI2 := Lib.hid (fun (v : Value) (W : World) (h : IntsR W v (L.map fun (b : Nat) => (b : Int))) => ih (X ^^^ 2 ^ b) v W (flip_lt hX hb) h)
  have HF := Lib.hid (fun (W : World) => l03Flip_any X b W hX hb)
  unfold FlipPost at HF
  have HV := Lib.hid hv
  obtain ⟨A, n, cap, rfl, hlc, hcm, hn, hA⟩ := hv
  have hn1 : 1 ≤ n := by simp at hn; omega
  obtain ⟨bl, off, rfl, hbl, hx⟩ := hA (by omega)
  have hc := hx 0 (by omega)
  rw [Nat.add_zero] at hc
  have hc' : w.cell? ⟨bl, off, none⟩ = some (.int .i64 (b : Int)) := hc
  have HTl := Lib.hid (tail_reads HV.out)
  have hsl := fun (W : World) => slice_tailI bl off n cap hn1 W
  generalize tailP cap bl off = T at *
  have hni : (1 : Int) ≤ (n : Int) := by omega
  have hnm : (n : Int) ≤ 9223372036854775807 := by omega
  have hne : ((n : Int) == 0) = false := by simp; omega
  have HY : Hid (∀ s : ByteArray, ∀ g, good (flipL X L g) = true ∧ s = wStr (lo (flipL X L g)) → ∃ g, good (flipL X (b :: L) g) = true ∧ s = wStr (lo (flipL X (b :: L) g))) := Lib.hid (fun s g h => ⟨2 * g, by rw [flip_even]; exact h⟩)
  have HZ : Hid (∀ s : ByteArray, ∀ g, good (flipL (X ^^^ 2 ^ b) L g) = true ∧ s = wStr (lo (flipL (X ^^^ 2 ^ b) L g)) → ∃ g, good (flipL X (b :: L) g) = true ∧ s = wStr (lo (flipL X (b :: L) g))) := Lib.hid (fun s g h => ⟨2 * g + 1, by rw [flip_odd]; exact h⟩)
  have HN : Hid ((∀ g, good (flipL X L g) = false) → (∀ g, good (flipL (X ^^^ 2 ^ b) L g) = false) → ∀ g, good (flipL X (b :: L) g) = false) := Lib.hid (fun h1 h2 g => by
    rw [flipL]
    by_cases e : g % 2 = 1
    · rw [if_pos e]; exact h2 _
    · rw [if_neg e]; exact h1 _)
  clear hA hx hc hn ih HV
  obtain ⟨s, hs⟩ : ∃ s, s = wStr (lo X) := ⟨_, rfl⟩
  obtain ⟨k, hk⟩ : ∃ k, k = hi X := ⟨_, rfl⟩
  rw [← hs, ← hk] at HI1 HF
  rw [← hs, ← hk]
  clear hs hk
  go_enter Tryd.func16, Tryd.ntmps16
  go_wp2_with fail
  refine (HI1.out _ _ HTl.out).mono ?_
  rintro e w1 ⟨s1, ok, rfl, hres, hb1⟩
  cases ok with
  | true =>
    obtain ⟨g, hg⟩ : ∃ g, good (flipL X L g) = true ∧ s1 = wStr (lo (flipL X L g)) := by
      rcases hres with ⟨_, h⟩ | ⟨h, _⟩
      · exact h
      · cases h
    have HG := Lib.hid hg
    clear hres hg
    go_wp2
    go_ret2
    exact ⟨s1, true, rfl, .inl ⟨rfl, HY.out _ g HG.out⟩, hb1⟩
  | false =>
    have hno : ∀ g, good (flipL X L g) = false := by
      rcases hres with ⟨h, _⟩ | ⟨_, h⟩
      · cases h
      · exact h
    have HNo := Lib.hid hno
    have hc1 := (hb1.cell (p := ⟨bl, off, none⟩) hbl).trans hc'
    clear hres hno hc'
    obtain ⟨s2, hs2⟩ : ∃ s2, s2 = wStr (lo (X ^^^ 2 ^ b)) := ⟨_, rfl⟩
    obtain ⟨k2, hk2⟩ : ∃ k2, k2 = hi (X ^^^ 2 ^ b) := ⟨_, rfl⟩
    rw [← hs2, ← hk2] at HI2 HF
    clear hs2 hk2
    go_wp2_with fail
    refine (HF.out _).mono ?_
    rintro e w2 ⟨rfl, hb2⟩
    have B2 := hb1.trans (hb2.mono hb1.size)
    clear hb1 hb2 hc1
    go_wp2_with fail
    refine (HI2.out _ _ (HTl.out.below B2 (Nat.le_refl _))).mono ?_
    rintro e w3 ⟨s3, ok3, rfl, hres3, hb3⟩
    have B3 := B2.trans (hb3.mono B2.size)
    have HR3 := Lib.hid hres3
    clear hres3 hb3 B2
    go_wp2
    go_ret2
    refine ⟨s3, ok3, rfl, ?_, B3⟩
    rcases HR3.out with ⟨h, g, hg⟩ | ⟨h, hno⟩
    · exact .inl ⟨h, HZ.out _ g hg⟩
    · exact .inr ⟨h, HN.out HNo.out hno⟩
theorem fill_any : ∀ (L : List Nat) (X : Nat) (v : Value) (w : World), X < 2 ^ 72 → (∀ b ∈ L, b < 72) → IntsR w v (L.map fun (b : Nat) => (b : Int)) →
    Calls Tryd.prog 16 #[.string (wStr (lo X)), .int .i64 (hi X : Nat), v] w (FillPost X L w)
  | [], X, v, w, hX, _, hv => fill_zero X v w hX hv
  | b :: L, X, v, w, hX, hL, hv => fill_more X b L v w hX hv (hL b List.mem_cons_self) fun X v w hX hv => fill_any L X v w hX (fun c hc => hL c (List.mem_cons_of_mem _ hc)) hv
theorem specEr_no (s : ByteArray) (c : Int) (v : Value) (l : List Int) (w : World) (hv : IntsR w v l) (h : s.size ≠ 8 ∨ c < 0 ∨ 255 < c) :
    Calls Tryd.prog 5 #[.string s, .int .i64 c, v] w (ErPost ⟨#[]⟩ 1 w) := by
  have HC := Lib.hid (fun (W : World) => l03Valid_no s c W h)
  obtain ⟨A, n, cap, rfl, _⟩ := hv
  clear h
  go_enter Tryd.func5, Tryd.ntmps5
  go_wp2_with fail
  refine (HC.out _).mono ?_
  rintro e w1 ⟨rfl, rfl⟩
  go_wp2
  go_ret2
  exact ⟨rfl, Below.refl _ _⟩
theorem specEr_range (s : ByteArray) (c : Int) (v : Value) (l : List Int) (w : World) (hs : s.size = 8) (h0 : 0 ≤ c ∧ c ≤ 255) (hv : IntsR w v l) (h : ¬ (l.length ≤ 3 ∧ Rising l)) :
    Calls Tryd.prog 5 #[.string s, .int .i64 c, v] w (ErPost ⟨#[]⟩ 2 w) := by
  have HC := Lib.hid (fun (W : World) => l03Valid_yes s c W hs h0)
  by_cases h3 : l.length ≤ 3
  · have HR := Lib.hid (rising_any v l false w hv h3 (.inr ⟨rfl, fun hr => h ⟨h3, hr⟩⟩))
    obtain ⟨A, n, cap, rfl, _, _, hn, _⟩ := hv
    have hd : decide ((3 : Int) < (n : Int)) = false := by simp; omega
    clear h hs
    go_enter Tryd.func5, Tryd.ntmps5
    go_wp2_with fail
    refine (HC.out _).mono ?_
    rintro e w1 ⟨rfl, rfl⟩
    go_wp2_with fail
    refine HR.out.mono ?_
    rintro e w1 ⟨rfl, hb1⟩
    go_wp2
    go_ret2
    exact ⟨rfl, hb1⟩
  · obtain ⟨A, n, cap, rfl, _, _, hn, _⟩ := hv
    have hd : decide ((3 : Int) < (n : Int)) = true := by simp; omega
    clear h hs
    go_enter Tryd.func5, Tryd.ntmps5
    go_wp2_with fail
    refine (HC.out _).mono ?_
    rintro e w1 ⟨rfl, rfl⟩
    go_wp2
    go_ret2
    exact ⟨rfl, Below.refl _ _⟩
theorem specEr_sol (X : Nat) (v : Value) (l : List Int) (R : ByteArray) (c : Int) (w : World) (hX : X < 2 ^ 72) (hv : IntsR w v l) (h3 : l.length ≤ 3) (hr : Rising l) (hS : Sol X (natL l) R c) :
    Calls Tryd.prog 5 #[.string (wStr (lo X)), .int .i64 (hi X : Nat), v] w (ErPost R c w) := by
  have hh := hi_lt hX
  have HC := Lib.hid (fun (W : World) => l03Valid_yes (wStr (lo X)) (hi X : Nat) W (wStr_size _) (by omega))
  have HR := Lib.hid (rising_any v l true w hv h3 (.inl ⟨rfl, hr⟩))
  have HI := Lib.hid (fun (W : World) (h : IntsR W v l) => fill_any (natL l) X v W hX (natL_lt hr) (by rw [natL_back hr]; exact h))
  have HV := Lib.hid hv
  have HS := Lib.hid hS
  have HU : Hid (∀ g h, good (flipL X (natL l) g) = true → good (flipL X (natL l) h) = true → flipL X (natL l) g = flipL X (natL l) h) := Lib.hid (fun g h => only_one (by rw [natL_length]; exact h3) (natL_lt hr) (natL_nodup hr))
  obtain ⟨A, n, cap, hvv, _, _, hn, _⟩ := hv
  subst hvv
  have hd : decide ((3 : Int) < (n : Int)) = false := by simp; omega
  clear hr hS hh
  generalize wStr (lo X) = s at *
  generalize hi X = k at *
  go_enter Tryd.func5, Tryd.ntmps5
  go_wp2_with fail
  refine (HC.out _).mono ?_
  rintro e w1 ⟨rfl, rfl⟩
  go_wp2_with fail
  refine HR.out.mono ?_
  rintro e w1 ⟨rfl, hb1⟩
  go_wp2_with fail
  refine (HI.out _ (HV.out.below hb1 (Nat.le_refl _))).mono ?_
  rintro e w2 ⟨s2, ok, rfl, hres, hb2⟩
  have B2 := hb1.trans (hb2.mono hb1.size)
  cases ok with
  | true =>
    have HE : Hid (R = s2 ∧ c = 0) := by
      show _ ∧ _
      rcases hres with ⟨_, g, hg, hs⟩ | ⟨h, _⟩
      · rcases HS.out with ⟨h, h1, h2, h3⟩ | ⟨h1, _⟩
        · exact ⟨by rw [h2, hs, HU.out h g h1 hg], h3⟩
        · have := h1 g; rw [hg] at this; cases this
      · cases h
    obtain ⟨rfl, rfl⟩ := HE.out
    clear hres hb1 hb2
    go_wp2
    go_ret2
    exact ⟨rfl, B2⟩
  | false =>
    have HE : Hid (R = ⟨#[]⟩ ∧ c = 6) := by
      show _ ∧ _
      rcases hres with ⟨h, _⟩ | ⟨_, hno⟩
      · cases h
      · rcases HS.out with ⟨h, h1, _, _⟩ | ⟨_, h2, h3⟩
        · rw [hno h] at h1; cases h1
        · exact ⟨h2, h3⟩
    obtain ⟨rfl, rfl⟩ := HE.out
    clear hres hb1 hb2
    go_wp2
    go_ret2
    exact ⟨rfl, B2⟩
end Go.Proofs.YteigdjocjcjkiaaDoor
