/- The proof's own lemmas, part 22: CxF Bits. -/
import Derived.Test.YtgamoiagpglcmaaProg
import Derived.Test.YtgamoiagpglcmaaMg20
import Derived.Test.YtgamoiagpglcmaaMg15
import Derived.Deep.RegionLaw
import Derived.StillTailTactics
import Derived.Test.YtgamoiagpglcmaaMg0
import Derived.WalkKit
/- EraseCells, in the program: the contract. -/
namespace Go.Proofs.Ytgamoiagpglcmaa
open Go.RowKit
set_option linter.unusedVariables false
set_option linter.unusedSimpArgs false

/-- A list turned by its indices and numbers. -/
def mapI (φ : Nat → Int → Int) (cs : List Int) : List Int := (List.range cs.length).map fun i => φ i (cs.getD i 0)
theorem mapI_length (φ : Nat → Int → Int) (cs : List Int) : (mapI φ cs).length = cs.length := by simp [mapI]
theorem mapI_at (φ : Nat → Int → Int) (cs : List Int) (k : Nat) (h : k < cs.length) : (mapI φ cs).getD k 0 = φ k (cs.getD k 0) := by simp [mapI, List.getD_eq_getElem?_getD, h]
theorem mapI_map (f : Int → Int) (cs : List Int) : mapI (fun _ y => f y) cs = cs.map f := by
  apply List.ext_getElem (by simp [mapI])
  intro i h1 h2
  simp only [mapI, List.length_map, List.length_range] at h1
  simp [mapI, List.getD_eq_getElem?_getD, h1]
set_option maxHeartbeats 4000000 in
set_option maxRecDepth 100000 in
theorem chgEra_any (φ : Nat → Int → Int) (g : Nat) (A : Option Addr) (n c : Nat) (cs : List Int) (w : World) (hi : Nat) (hR : Rw w g 42 #[.slice A n c]) (hv : NI w hi (.slice A n c) cs) (hh : hi ≤ w.heap.size)
    (HC : ∀ (W : World) (i : Nat), Below w.heap.size w W → i < n → Calls Try.prog 92 #[.int .i64 (i : Int), .int .i64 (cs.getD i 0)] W fun e w' => e = .returned (.int .i64 (φ i (cs.getD i 0))) ∧ W = w') (hl : n ≤ 1048576) :
    Calls Try.prog 91 #[.pointer (some ⟨g, 0, none⟩), .func (.func 92) #[] #[]] w fun e w' => ∃ u, e = .returned (.agg #[u]) ∧ IO w' w.heap.size w'.heap.size u (mapI φ cs) ∧ Below w.heap.size w w' := by
  obtain ⟨_, _, _, e, _, _, hn, hA⟩ := hv
  injection e with e1 e2 e3
  subst e1 e2 e3
  have hnm : (n : Int) ≤ 1048576 := by omega
  have r1 := (Rw.new w 42 #[.slice none 0 0])
  have b1 := (Below.refl w.heap.size w).alloc (Nat.le_refl _) (.cells #[.slice none 0 0] 42)
  have r0 := hR.below b1 hR.lt
  have hg := hR.lt
  have R0 := Lib.hid r0
  have R1 := Lib.hid r1
  have B1 := Lib.hid b1
  have HA := Lib.hid hA
  have HH := Lib.hid hh
  have HO := Lib.hid HC
  have HN := Lib.hid hn
  have q0 := r0.one
  clear hR r0 r1 b1 hA HC hh
  go_enter Try.func91, Try.ntmps91
  go_wp2_with (refine wpList_make_ints rfl _ _ rfl n rfl rfl (by omega) (Below.refl _ _) (Nat.le_refl _) ?_; intro w1 hown hb; have HI := Lib.hid hown; have HB := Lib.hid hb; have k0 := R0.out.below hb (by simp; omega); have k1 := R1.out.below hb (by simp); have K0 := Lib.hid k0; have K1 := Lib.hid k1; clear q0; have q0 := k0.one; clear k0 k1 hown hb)
  have hz : (w.alloc (.cells #[.slice none 0 0] 42)).heap.size = w.heap.size + 1 := by simp
  rw [hz] at HI HB
  try rw [hz]
  have HB' := Lib.hid (B1.out.trans (HB.out.mono (by omega)))
  have hs1 := HB.out.size
  rw [hz] at hs1
  clear HB B1 R0 R1 hz
  obtain ⟨z, hz⟩ : ∃ z, z = w.heap.size + 1 := ⟨_, rfl⟩
  have HZ := Lib.hid hz
  rw [← hz] at HI ⊢
  clear hz q0
  go_loopw [6, 7, 19] (fun _ _ i wr => ∃ k : Nat, k ≤ n ∧ i = .int .i64 (k : Int) ∧ Hid (IntsOwn wr (w.heap.size + 1) (.slice (some ⟨z, 0, none⟩) n n) ((mapI φ cs).take k ++ List.replicate (n - k) 0)) ∧ Hid (Below w.heap.size w wr) ∧ Hid (Rw wr g 42 #[.slice A n c]) ∧ Hid (Rw wr w.heap.size 42 #[.slice none 0 0])) (fun _ _ i _ => n - (intOf i).toNat)
  case atStart => exact ⟨0, by omega, rfl, by simpa [HZ.out] using HI, HB', K0, K1⟩
  case round =>
    obtain ⟨k, hk, rfl, HI, HB, HR0, HR1⟩ := hrel
    have hlen : ((mapI φ cs).take k ++ List.replicate (n - k) 0).length = n := by simp [mapI_length, HN.out]; omega
    by_cases hlt : k < n
    · have hki : (k : Int) < (n : Int) := by omega
      obtain ⟨pb, po, rfl, hp2, hpx⟩ := HA.out (by omega)
      have e1 := (HB.out.cell (p := ⟨pb, po + k, none⟩) (by have := HH.out; show pb < _; omega)).trans (hpx k hlt)
      have HO1 := Lib.hid (HO.out wr k HB.out hlt)
      have hc := HI.out.cell (j := k) hlen hlt
      have hf := HI.out.free hlen k
      have hs := HI.out.stored hlen k (φ k (cs.getD k 0))
      have hset := take_setI (mapI φ cs) k (by rw [mapI_length, HN.out]; exact hlt)
      rw [mapI_length, HN.out, mapI_at φ cs k (by rw [HN.out]; exact hlt)] at hset
      rw [hset] at hs
      generalize ((mapI φ cs).take k ++ List.replicate (n - k) 0).getD k 0 = old at *
      generalize φ k (cs.getD k 0) = v at *
      generalize cs.getD k 0 = y at *
      have hbl := (HI.out.blockOf (k := z) rfl)
      have hs' := Lib.hid hs
      have HB2 := Lib.hid (HB.out.setCell (p := ⟨z, k, none⟩) (show w.heap.size ≤ z by omega) (.int .i64 v))
      have HR02 := Lib.hid (HR0.out.far (p := ⟨z, k, none⟩) (show g ≠ z by omega) (.int .i64 v))
      have HR12 := Lib.hid (HR1.out.far (p := ⟨z, k, none⟩) (show w.heap.size ≠ z by omega) (.int .i64 v))
      clear hpx hp2 HA HI hlen hset hs HR0 HR1
      go_wp2_with fail
      refine HO1.out.mono ?_
      rintro e w2 ⟨rfl, rfl⟩
      go_wp2
      go_roundw
      case rel => exact ⟨k + 1, by omega, by go_num, hs', HB2, HR02, HR12⟩
      case measure => simp [intOf]; omega
    · obtain rfl : k = n := by omega
      rw [List.take_of_length_le (by simp [mapI_length, HN.out]), Nat.sub_self, List.replicate_zero, List.append_nil] at HI
      have hbl := (HI.out.blockOf (k := z) rfl)
      have q1 := HR1.out.one
      have f1 := HR1.out.free 0
      clear hlen HA HR0
      go_wp2
      refine bodyPost_ret (results_cell_row Try.results91 _ _ _ _ #[.slice (some ⟨z, 0, none⟩) k k] _ _ rfl (HR1.out.set_ 0 _) Try.underlying42 rfl infoCe) rfl ?_
      refine ⟨_, rfl, ⟨(HI.out.sames fun j e => ?_).low (by omega), fun j e => ?_⟩, bset HB.out (by omega) _⟩
      · have := (HI.out.blockOf e).1
        repeat rw [Below.heap_setCell _ ⟨_, _, none⟩ _ j (by simp; omega)]
      · have := (HI.out.blockOf e).2; simpa using this

theorem eraF_any (i y : Int) (w : World) (hy : 0 ≤ y ∧ y ≤ 255) : Calls Try.prog 92 #[.int .i64 i, .int .i64 y] w fun e w' => e = .returned (.int .i64 (y / 4)) ∧ w = w' := by
  have ht := tdiv4 hy.1
  have hyw : IntKind.i64.wrap (y / 4) = y / 4 := IntWalk.i64_in _ (by omega)
  have hyw2 : IntKind.i64.wrap (y.tdiv 4) = y / 4 := by rw [ht]; exact hyw
  go_enter Try.func92, Try.ntmps92
  go_wp2
  go_ret
  exact ⟨by simp [*], rfl⟩
set_option maxHeartbeats 2000000 in
theorem implEra15_any (u : Value) (M : Ce) (r : Bool) (w : World) (hi : Nat) (h : CeIn w hi u M) (hh : hi ≤ w.heap.size) (hr : r = true ↔ CeOk M) (hl : CeSz M) :
    Calls Try.prog 30 #[u] w (CePost1 (eraE M r) w) := by
  obtain ⟨a, rfl, h1⟩ := h
  obtain ⟨A, n, c, rfl⟩ := h1.slice
  have HV := Lib.hid (fun (W : World) (b : Below w.heap.size w W) => implCeOk_any (.agg #[.slice A n c]) M r W hi ⟨_, rfl, h1.below b hh⟩ (by have := b.size; omega) hr hl)
  obtain ⟨cs⟩ := M
  unfold cec
  unfold CeSz at hl
  simp only at *
  have hn : cs.length = n := h1.len_.1
  obtain ⟨r0, r1, bb⟩ := Rw.two_new w 42 42 #[.slice A n c] #[.slice none 0 0]
  obtain ⟨W0, hW0⟩ : ∃ W0, W0 = (w.alloc (.cells #[.slice A n c] 42)).alloc (.cells #[.slice none 0 0] 42) := ⟨_, rfl⟩
  have hz0 : W0.heap.size = w.heap.size + 2 := by rw [hW0]; simp
  rw [← hW0] at r0 r1 bb
  have q0 := r0.one
  have R0 := Lib.hid r0
  have R1 := Lib.hid r1
  have BB := Lib.hid bb
  have H1 := Lib.hid h1
  have HR := Lib.hid hr
  have HN := Lib.hid hn
  have HH := Lib.hid hh
  have HW := Lib.hid hW0
  clear r0 r1 bb h1 hr hn hh
  rw [hW0] at q0
  clear hW0
  go_enter Try.func30, Try.ntmps30
  go_wp2_with fail
  rw [← HW.out]
  refine (HV.out _ BB.out).mono ?_
  rintro e w1 ⟨rfl, b1⟩
  have HB1 := Lib.hid (BB.out.trans (b1.mono (by omega)))
  have R01 := Lib.hid (R0.out.below b1 (by omega))
  have R11 := Lib.hid (R1.out.below b1 (by omega))
  have hs1 := b1.size
  clear b1 q0
  have q1 := R11.out.one
  have f1 := R11.out.free 0
  cases r with
  | false =>
    clear HR HV
    go_wp2
    exact bodyPost_ret (results_cell_row Try.results30 _ _ _ _ #[.slice none 0 0] _ _ rfl (R11.out.set_ 0 _) Try.underlying42 rfl infoCe) rfl ⟨_, rfl, CeOwn.zero _ _ _, bset HB1.out (by omega) _⟩
  | true =>
    have HC := Lib.hid (chgEra_any (fun _ y => y / 4) w.heap.size A n c cs w1 hi R01.out (H1.out.below HB1.out HH.out) (by have := HH.out; omega) (fun W i _ hi => eraF_any _ _ W ((HR.out.1 rfl).2 i (by rw [HN.out]; exact hi))) (by have := HN.out; omega))
    go_wp2_with fail
    refine HC.out.mono ?_
    rintro e w2 ⟨u, rfl, ho, b2⟩
    rw [mapI_map] at ho
    have R12 := Lib.hid (R11.out.below b2 (by omega))
    have HB2 := Lib.hid (HB1.out.trans (b2.mono (by omega)))
    obtain ⟨A2, n2, c2, rfl⟩ := ho.agg_
    have HO := Lib.hid ho
    clear q1 f1 ho b2 HV HC HR
    have q1 := R12.out.one
    have f1 := R12.out.free 0
    go_wp2
    refine bodyPost_ret (results_cell_row Try.results30 _ _ _ _ #[.slice A2 n2 c2] _ _ rfl (R12.out.set_ 0 _) Try.underlying42 rfl infoCe) rfl ?_
    refine ⟨_, rfl, ⟨_, rfl, ⟨(HO.out.1.sames fun k e => ?_).low (by omega), fun k e => ?_⟩⟩, bset HB2.out (by omega) _⟩
    · have := (HO.out.1.blockOf e).1
      repeat rw [Below.heap_setCell _ ⟨_, _, none⟩ _ k (by simp; omega)]
    · have := (HO.out.1.blockOf e).2; simpa using this
end Go.Proofs.Ytgamoiagpglcmaa
/- Plain facts on bits of integers: Go's and, or, exclusive or on int64 and uint16, as operations on natural numbers; one step of the register on natural numbers. -/
namespace Go.Proofs.Ytgamoiagpglcmaa
open Go.RowKit

theorem wrap_i64_nat (a : Nat) (h : a < 2 ^ 63) : IntKind.i64.wrap (a : Int) = a := IntWalk.i64_in _ (by omega)
theorem ofInt_i64 (a : Nat) (ha : a < 2 ^ 63) : (BitVec.ofInt 64 (a : Int)).toNat = a := by
  rw [BitVec.ofInt_natCast, BitVec.toNat_ofNat]; exact Nat.mod_eq_of_lt (by omega)
theorem i64_and_nat (a b : Nat) (ha : a < 2 ^ 63) (hb : b < 2 ^ 63) : bits .and .i64 (a : Int) (b : Int) = ((a &&& b : Nat) : Int) := by
  have hx : a &&& b < 2 ^ 63 := Nat.and_lt_two_pow _ (by omega)
  show IntKind.i64.wrap ((BitVec.ofInt 64 (a : Int) &&& BitVec.ofInt 64 (b : Int)).toNat : Int) = _
  rw [BitVec.toNat_and, ofInt_i64 a ha, ofInt_i64 b hb, wrap_i64_nat _ hx]
theorem i64_or_nat (a b : Nat) (ha : a < 2 ^ 63) (hb : b < 2 ^ 63) : bits .or .i64 (a : Int) (b : Int) = ((a ||| b : Nat) : Int) := by
  have hx : a ||| b < 2 ^ 63 := Nat.or_lt_two_pow (by omega) (by omega)
  show IntKind.i64.wrap ((BitVec.ofInt 64 (a : Int) ||| BitVec.ofInt 64 (b : Int)).toNat : Int) = _
  rw [BitVec.toNat_or, ofInt_i64 a ha, ofInt_i64 b hb, wrap_i64_nat _ hx]
theorem i64_xor_nat (a b : Nat) (ha : a < 2 ^ 63) (hb : b < 2 ^ 63) : bits .xor .i64 (a : Int) (b : Int) = ((a ^^^ b : Nat) : Int) := by
  have hx : a ^^^ b < 2 ^ 63 := Nat.xor_lt_two_pow (by omega) (by omega)
  show IntKind.i64.wrap ((BitVec.ofInt 64 (a : Int) ^^^ BitVec.ofInt 64 (b : Int)).toNat : Int) = _
  rw [BitVec.toNat_xor, ofInt_i64 a ha, ofInt_i64 b hb, wrap_i64_nat _ hx]

theorem and1_i64 (a : Nat) (ha : a < 2 ^ 63) : bits .and .i64 (a : Int) 1 = ((a % 2 : Nat) : Int) := by
  have := i64_and_nat a 1 ha (by omega); rw [Nat.and_one_is_mod] at this; exact this
theorem and1_u16 (a : Nat) (ha : a < 65536) : bits .and .u16 (a : Int) 1 = ((a % 2 : Nat) : Int) := by
  have := u16_and_nat a 1 ha (by omega); rw [Nat.and_one_is_mod] at this; exact this

/-- One step of the register. -/
def stepN (s : Nat) : Nat := if s % 2 = 1 then s / 2 ^^^ 46080 else s / 2
theorem stepN_lt (s : Nat) (h : s < 65536) : stepN s < 65536 := by
  unfold stepN; split
  · exact Nat.xor_lt_two_pow (n := 16) (by omega) (by omega)
  · omega
theorem stepN_odd {s : Nat} (h : s % 2 = 1) : stepN s = s / 2 ^^^ 46080 := by rw [stepN, if_pos h]
theorem stepN_even {s : Nat} (h : ¬ s % 2 = 1) : stepN s = s / 2 := by rw [stepN, if_neg h]
theorem xor_step_u16 (s : Nat) (h : s < 65536) : bits .xor .u16 ((s : Int) / 2) 46080 = ((s / 2 ^^^ 46080 : Nat) : Int) := by
  have := u16_xor_nat (s / 2) 46080 (by omega) (by omega); rw [← this]; simp
theorem xor_step_i64 (s : Nat) (h : s < 65536) : bits .xor .i64 ((s : Int) / 2) 46080 = ((s / 2 ^^^ 46080 : Nat) : Int) := by
  have := i64_xor_nat (s / 2) 46080 (by omega) (by omega); rw [← this]; simp

/-- The state before. -/
def backN (s : Nat) : Nat := if 32768 ≤ s then (s ^^^ 46080) * 2 ||| 1 else s * 2
theorem backN_hi {s : Nat} (h : 32768 ≤ s) : backN s = (s ^^^ 46080) * 2 ||| 1 := by rw [backN, if_pos h]
theorem backN_lo {s : Nat} (h : ¬ 32768 ≤ s) : backN s = s * 2 := by rw [backN, if_neg h]
theorem xor_back (s : Nat) (h : s < 65536) : s ^^^ 46080 < 65536 := Nat.xor_lt_two_pow (n := 16) (by omega) (by omega)
theorem back_val (s : Nat) (h : s < 65536) : bits .or .i64 (wrap64 (bits .xor .i64 (s : Int) 46080 * 2)) 1 = (((s ^^^ 46080) * 2 ||| 1 : Nat) : Int) := by
  have hx := i64_xor_nat s 46080 (by omega) (by omega)
  have hl := xor_back s h
  have e : bits .xor .i64 (s : Int) 46080 = ((s ^^^ 46080 : Nat) : Int) := hx
  rw [e, IntWalk.wrap64_in _ (by omega)]
  have := i64_or_nat ((s ^^^ 46080) * 2) 1 (by omega) (by omega)
  rw [← this]; simp
theorem and_top (s : Nat) (h : s < 65536) : bits .and .i64 (s : Int) 32768 = ((s / 32768 * 32768 : Nat) : Int) := by
  have := i64_and_nat s 32768 (by omega) (by omega)
  have e : s &&& 32768 = s / 32768 * 32768 := by
    apply Nat.eq_of_testBit_eq
    intro i
    rw [Nat.testBit_and, show (32768 : Nat) = 2 ^ 15 from rfl, Nat.testBit_two_pow]
    by_cases hc : 32768 ≤ s
    · rw [show s / 2 ^ 15 * 2 ^ 15 = 2 ^ 15 by omega, Nat.testBit_two_pow]
      by_cases hi : 15 = i
      · subst hi
        have : s.testBit 15 = true := by rw [Nat.testBit_eq_decide_div_mod_eq]; simp; omega
        simp [this]
      · simp [hi]
    · rw [show s / 2 ^ 15 * 2 ^ 15 = 0 by omega, Nat.zero_testBit]
      by_cases hi : 15 = i
      · subst hi
        rw [Nat.testBit_lt_two_pow (by omega)]; rfl
      · simp [hi]
  rw [← e, ← this]; rfl
end Go.Proofs.Ytgamoiagpglcmaa
