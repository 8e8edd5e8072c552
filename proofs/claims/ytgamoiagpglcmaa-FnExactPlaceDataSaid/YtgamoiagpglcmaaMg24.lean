/- The proof's own lemmas, part 25: CxH. -/
import Derived.Test.YtgamoiagpglcmaaProg
import Derived.Test.YtgamoiagpglcmaaMg23
import Derived.Test.YtgamoiagpglcmaaMg21
import Derived.Test.YtgamoiagpglcmaaMg20
import Derived.Test.YtgamoiagpglcmaaMg18
import Derived.Deep.RegionLaw
import Derived.StillTailTactics
/- ProgramCells, in the model and in the program: the contracts. -/
namespace Go.Proofs.Ytgamoiagpglcmaa
open Go.RowKit
set_option linter.unusedVariables false
set_option linter.unusedSimpArgs false

def CePost (G : Ce) (c : Int) (w : World) (e : Ending) (w' : World) : Prop := ∃ u, e = .returned (.tuple #[u, .int .i64 c]) ∧ CeOwn w' w.heap.size w'.heap.size u G ∧ Below w.heap.size w w'
theorem ce_end {w' : World} {B lo : Nat} {A : Option Addr} {n c k : Nat} {v : Value} {L : List Int} (h : IntsOwn w' lo (.slice A n c) L) (hg : k < lo) (hB : B ≤ lo) :
    CeOwn (w'.setCell ⟨k, 0, none⟩ v) B (w'.setCell ⟨k, 0, none⟩ v).heap.size (.agg #[.slice A n c]) ⟨L⟩ :=
  ⟨_, rfl, ⟨(h.sames fun j e => by
    have := (h.blockOf e).1
    rw [Below.heap_setCell _ ⟨_, _, none⟩ _ j (by simp; omega)]).low hB, fun j e => by have := (h.blockOf e).2; simpa using this⟩⟩
theorem own_someC {w : World} {B n c : Nat} {A : Option Addr} {L : List Int} (h : IntsOwn w B (.slice A n c) L) (h0 : 0 < L.length) : ∃ q, A = some ⟨q, 0, none⟩ := by
  rcases h.shape with ⟨_, rfl⟩ | ⟨g, cap, e, _⟩
  · simp at h0
  · injection e with e _ _; exact ⟨g, e⟩
theorem prg2_any (i : Nat) (y : Int) (s : ByteArray) (g : Nat) (w : World) (hR : Rw w g 9 #[.string s]) (hi : i < s.size) (hs : s.size ≤ 1048576) :
    Calls Try.prog 98 #[.int .i64 (i : Int), .int .i64 y, .pointer (some ⟨g, 0, none⟩)] w fun e w' => e = .returned (.int .i64 (if byteAt s i = 48 then 255 else y)) ∧ w = w' := by
  have q0 := hR.one
  have hii : (i : Int) < (s.size : Int) := by omega
  have hbk := byteAt_eq hi
  rw [← hbk]
  clear hbk hR
  by_cases h48 : s[i].toNat = 48
  · have d1 : (((s[i].toNat : Nat) : Int) == 48) = true := by simp; omega
    rw [if_pos h48]
    clear h48
    go_enter Try.func98, Try.ntmps98
    go_wp2
    go_ret
    exact ⟨rfl, rfl⟩
  · have d1 : (((s[i].toNat : Nat) : Int) == 48) = false := by simp; omega
    rw [if_neg h48]
    clear h48
    go_enter Try.func98, Try.ntmps98
    go_wp2
    go_ret
    exact ⟨rfl, rfl⟩
set_option maxHeartbeats 4000000 in
set_option maxRecDepth 100000 in
theorem chgPrg_any (φ : Nat → Int → Int) (g : Nat) (A : Option Addr) (n c : Nat) (cs : List Int) (w : World) (hi : Nat) (gl : Nat) (hR : Rw w g 42 #[.slice A n c]) (hv : NI w hi (.slice A n c) cs) (hh : hi ≤ w.heap.size)
    (HC : ∀ (W : World) (i : Nat), Below w.heap.size w W → i < n → Calls Try.prog 98 #[.int .i64 (i : Int), .int .i64 (cs.getD i 0), .pointer (some ⟨gl, 0, none⟩)] W fun e w' => e = .returned (.int .i64 (φ i (cs.getD i 0))) ∧ W = w') (hl : n ≤ 1048576) :
    Calls Try.prog 91 #[.pointer (some ⟨g, 0, none⟩), .func (.func 98) #[] #[.pointer (some ⟨gl, 0, none⟩)]] w fun e w' => ∃ u, e = .returned (.agg #[u]) ∧ IO w' w.heap.size w'.heap.size u (mapI φ cs) ∧ Below w.heap.size w w' := by
  obtain ⟨_, _, _, e, _, _, hn, hA⟩ := hv
  injection e with e1 e2 e3
  subst e1 e2 e3
  have hnm : (n : Int) ≤ 1048576 := by omega
  have r1 := (Rw.new w 42 #[.slice none 0 0])
  have b1 := (Below.refl w.heap.size w).alloc (Nat.le_refl _) (.cells #[.slice none 0 0] 42)
  have r0 := hR.below b1 hR.lt
  have hg := hR.lt
  have R0 := Lib.hid r0
  have R1 := Lib.hid r1
  have B1 := Lib.hid b1
  have HA := Lib.hid hA
  have HH := Lib.hid hh
  have HO := Lib.hid HC
  have HN := Lib.hid hn
  have q0 := r0.one
  clear hR r0 r1 b1 hA HC hh
  go_enter Try.func91, Try.ntmps91
  go_wp2_with (refine wpList_make_ints rfl _ _ rfl n rfl rfl (by omega) (Below.refl _ _) (Nat.le_refl _) ?_; intro w1 hown hb; have HI := Lib.hid hown; have HB := Lib.hid hb; have k0 := R0.out.below hb (by simp; omega); have k1 := R1.out.below hb (by simp); have K0 := Lib.hid k0; have K1 := Lib.hid k1; clear q0; have q0 := k0.one; clear k0 k1 hown hb)
  have hz : (w.alloc (.cells #[.slice none 0 0] 42)).heap.size = w.heap.size + 1 := by simp
  rw [hz] at HI HB
  try rw [hz]
  have HB' := Lib.hid (B1.out.trans (HB.out.mono (by omega)))
  have hs1 := HB.out.size
  rw [hz] at hs1
  clear HB B1 R0 R1 hz
  obtain ⟨z, hz⟩ : ∃ z, z = w.heap.size + 1 := ⟨_, rfl⟩
  have HZ := Lib.hid hz
  rw [← hz] at HI ⊢
  clear hz q0
  go_loopw [6, 7, 19] (fun _ _ i wr => ∃ k : Nat, k ≤ n ∧ i = .int .i64 (k : Int) ∧ Hid (IntsOwn wr (w.heap.size + 1) (.slice (some ⟨z, 0, none⟩) n n) ((mapI φ cs).take k ++ List.replicate (n - k) 0)) ∧ Hid (Below w.heap.size w wr) ∧ Hid (Rw wr g 42 #[.slice A n c]) ∧ Hid (Rw wr w.heap.size 42 #[.slice none 0 0])) (fun _ _ i _ => n - (intOf i).toNat)
  case atStart => exact ⟨0, by omega, rfl, by simpa [HZ.out] using HI, HB', K0, K1⟩
  case round =>
    obtain ⟨k, hk, rfl, HI, HB, HR0, HR1⟩ := hrel
    have hlen : ((mapI φ cs).take k ++ List.replicate (n - k) 0).length = n := by simp [mapI_length, HN.out]; omega
    by_cases hlt : k < n
    · have hki : (k : Int) < (n : Int) := by omega
      obtain ⟨pb, po, rfl, hp2, hpx⟩ := HA.out (by omega)
      have e1 := (HB.out.cell (p := ⟨pb, po + k, none⟩) (by have := HH.out; show pb < _; omega)).trans (hpx k hlt)
      have HO1 := Lib.hid (HO.out wr k HB.out hlt)
      have hc := HI.out.cell (j := k) hlen hlt
      have hf := HI.out.free hlen k
      have hs := HI.out.stored hlen k (φ k (cs.getD k 0))
      have hset := take_setI (mapI φ cs) k (by rw [mapI_length, HN.out]; exact hlt)
      rw [mapI_length, HN.out, mapI_at φ cs k (by rw [HN.out]; exact hlt)] at hset
      rw [hset] at hs
      generalize ((mapI φ cs).take k ++ List.replicate (n - k) 0).getD k 0 = old at *
      generalize φ k (cs.getD k 0) = v at *
      generalize cs.getD k 0 = y at *
      have hbl := (HI.out.blockOf (k := z) rfl)
      have hs' := Lib.hid hs
      have HB2 := Lib.hid (HB.out.setCell (p := ⟨z, k, none⟩) (show w.heap.size ≤ z by omega) (.int .i64 v))
      have HR02 := Lib.hid (HR0.out.far (p := ⟨z, k, none⟩) (show g ≠ z by omega) (.int .i64 v))
      have HR12 := Lib.hid (HR1.out.far (p := ⟨z, k, none⟩) (show w.heap.size ≠ z by omega) (.int .i64 v))
      clear hpx hp2 HA HI hlen hset hs HR0 HR1
      go_wp2_with fail
      refine HO1.out.mono ?_
      rintro e w2 ⟨rfl, rfl⟩
      go_wp2
      go_roundw
      case rel => exact ⟨k + 1, by omega, by go_num, hs', HB2, HR02, HR12⟩
      case measure => simp [intOf]; omega
    · obtain rfl : k = n := by omega
      rw [List.take_of_length_le (by simp [mapI_length, HN.out]), Nat.sub_self, List.replicate_zero, List.append_nil] at HI
      have hbl := (HI.out.blockOf (k := z) rfl)
      have q1 := HR1.out.one
      have f1 := HR1.out.free 0
      clear hlen HA HR0
      go_wp2
      refine bodyPost_ret (results_cell_row Try.results91 _ _ _ _ #[.slice (some ⟨z, 0, none⟩) k k] _ _ rfl (HR1.out.set_ 0 _) Try.underlying42 rfl infoCe) rfl ?_
      refine ⟨_, rfl, ⟨(HI.out.sames fun j e => ?_).low (by omega), fun j e => ?_⟩, bset HB.out (by omega) _⟩
      · have := (HI.out.blockOf e).1
        repeat rw [Below.heap_setCell _ ⟨_, _, none⟩ _ j (by simp; omega)]
      · have := (HI.out.blockOf e).2; simpa using this

set_option maxHeartbeats 4000000 in
set_option maxRecDepth 100000 in
theorem implPrg_any (u : Value) (M : Ce) (s : ByteArray) (r b : Bool) (G : Ce) (cd : Int) (w : World) (hi : Nat) (h : CeIn w hi u M) (hh : hi ≤ w.heap.size) (hr : r = true ↔ CeOk M) (hb : b = true ↔ BitsOk s) (hg : PrgIs M r b s G cd) (hs : s.size ≤ 1048576) (hl : CeSz M) :
    Calls Try.prog 37 #[u, .string s] w (CePost G cd w) := by
  obtain ⟨a, rfl, h1⟩ := h
  obtain ⟨A, n, c, rfl⟩ := h1.slice
  have HSV := Lib.hid (fun (W : World) (b : Below w.heap.size w W) => implCeOk_any (.agg #[.slice A n c]) M r W hi ⟨_, rfl, h1.below b hh⟩ (by have := b.size; omega) hr hl)
  have HSB := Lib.hid (fun (W : World) => implBits_any s b W hb)
  obtain ⟨cs⟩ := M
  unfold cec
  unfold CeSz at hl
  unfold PrgIs at hg
  simp only at *
  have hn : cs.length = n := h1.len_.1
  have hnm : (n : Int) ≤ 1048576 := by omega
  have hsm : (s.size : Int) ≤ 1048576 := by omega
  obtain ⟨r0, r1, r2, bb⟩ := Rw.three_new w 42 9 42 #[.slice A n c] #[.string s] #[.slice none 0 0]
  obtain ⟨W0, hW0⟩ : ∃ W0, W0 = ((w.alloc (.cells #[.slice A n c] 42)).alloc (.cells #[.string s] 9)).alloc (.cells #[.slice none 0 0] 42) := ⟨_, rfl⟩
  have hz0 : W0.heap.size = w.heap.size + 3 := by rw [hW0]; simp
  rw [← hW0] at r0 r1 r2 bb
  have q0 := r0.one
  have q1 := r1.one
  have q2 := r2.one
  have f2 := r2.free 0
  have R0 := Lib.hid r0
  have R1 := Lib.hid r1
  have R2 := Lib.hid r2
  have BB := Lib.hid bb
  have H1 := Lib.hid h1
  have HN := Lib.hid hn
  have HH := Lib.hid hh
  have HW := Lib.hid hW0
  have HG := Lib.hid hg
  have HS := Lib.hid hs
  clear r0 r1 r2 bb h1 hn hh hg hr hb hs hl
  rw [hW0] at q0 q1 q2 f2
  clear hW0
  go_enter Try.func37, Try.ntmps37
  go_wp2_with fail
  rw [← HW.out]
  refine (HSV.out _ BB.out).mono ?_
  rintro e w1 ⟨rfl, b1⟩
  have hs1 := b1.size
  have HB1 := Lib.hid (BB.out.trans (b1.mono (by omega)))
  have R01 := Lib.hid (R0.out.below b1 (by omega))
  have R11 := Lib.hid (R1.out.below b1 (by omega))
  have R21 := Lib.hid (R2.out.below b1 (by omega))
  clear b1 q0 q1 q2 f2 HSV
  have q0 := R01.out.one
  have q1 := R11.out.one
  have q2 := R21.out.one
  have f2 := R21.out.free 0
  cases r with
  | false =>
    obtain ⟨rfl, rfl⟩ : G = Ce.zero ∧ cd = 1 := by
      rcases HG.out with ⟨_, e⟩ | ⟨e, _⟩ | ⟨e, _⟩
      · exact e
      · exact absurd e.1 (by decide)
      · exact absurd e.1 (by decide)
    clear HG HSB
    go_wp2
    exact bodyPost_ret (results_row_tmp Try.results37 _ _ _ _ #[.slice none 0 0] _ _ rfl (R21.out.set_ 0 _) Try.underlying42 rfl infoCe) rfl ⟨_, rfl, CeOwn.zero _ _ _, bset HB1.out (by omega) _⟩
  | true =>
  go_wp2_with fail
  refine (HSB.out _).mono ?_
  rintro e w2 ⟨rfl, b2⟩
  have hs2 := b2.size
  have HB2 := Lib.hid (HB1.out.trans (b2.mono (by omega)))
  have R02 := Lib.hid (R01.out.below b2 (by omega))
  have R12 := Lib.hid (R11.out.below b2 (by omega))
  have R22 := Lib.hid (R21.out.below b2 (by omega))
  clear HSB b2 q0 q1 q2 f2 HB1 R01 R11 R21
  have q0 := R02.out.one
  have q1 := R12.out.one
  have q2 := R22.out.one
  have f2 := R22.out.free 0
  cases b with
  | false =>
    obtain ⟨rfl, rfl⟩ : G = Ce.zero ∧ cd = 1 := by
      rcases HG.out with ⟨_, e⟩ | ⟨e, _⟩ | ⟨e, _⟩
      · exact e
      · exact absurd e.2 (by decide)
      · exact absurd e.2 (by decide)
    clear HG
    go_wp2
    exact bodyPost_ret (results_row_tmp Try.results37 _ _ _ _ #[.slice none 0 0] _ _ rfl (R22.out.set_ 0 _) Try.underlying42 rfl infoCe) rfl ⟨_, rfl, CeOwn.zero _ _ _, bset HB2.out (by omega) _⟩
  | true =>
  by_cases hsz : s.size = n
  case neg =>
    have d1 : ((s.size : Int) != (n : Int)) = true := by simp; omega
    obtain ⟨rfl, rfl⟩ : G = Ce.zero ∧ cd = 2 := by
      rcases HG.out with ⟨e, _⟩ | ⟨_, _, e⟩ | ⟨_, e, _⟩
      · simp at e
      · exact e
      · exact absurd (by rw [e, HN.out]) hsz
    clear HG hsz
    go_wp2
    exact bodyPost_ret (results_row_tmp Try.results37 _ _ _ _ #[.slice none 0 0] _ _ rfl (R22.out.set_ 0 _) Try.underlying42 rfl infoCe) rfl ⟨_, rfl, CeOwn.zero _ _ _, bset HB2.out (by omega) _⟩
  have d1 : ((s.size : Int) != (n : Int)) = false := by simp; omega
  obtain ⟨rfl, rfl⟩ : G = prgC ⟨cs⟩ s ∧ cd = 0 := by
    rcases HG.out with ⟨e, _⟩ | ⟨_, e, _⟩ | ⟨_, _, e⟩
    · simp at e
    · exact absurd (by rw [hsz, HN.out]) e
    · exact e
  have HC := Lib.hid (chgPrg_any (fun i y => if byteAt s i = 48 then 255 else y) w.heap.size A n c cs w2 hi (w.heap.size + 1) R02.out (H1.out.below HB2.out HH.out) (by have := HH.out; omega) (fun W i B hi => prg2_any i _ s (w.heap.size + 1) W (R12.out.below B (by omega)) (by omega) HS.out) (by omega))
  clear HG hsz
  go_wp2_with fail
  refine HC.out.mono ?_
  rintro e w3 ⟨u, rfl, ho, b3⟩
  have hs3 := b3.size
  have R23 := Lib.hid (R22.out.below b3 (by omega))
  have HB3 := Lib.hid (HB2.out.trans (b3.mono (by omega)))
  obtain ⟨A2, n2, c2, rfl⟩ := ho.agg_
  have HO := Lib.hid ho.1
  clear q0 q1 q2 f2 ho b3 HC
  have q2 := R23.out.one
  have f2 := R23.out.free 0
  go_wp2
  exact bodyPost_ret (results_row_tmp Try.results37 _ _ _ _ #[.slice A2 n2 c2] _ _ rfl (R23.out.set_ 0 _) Try.underlying42 rfl infoCe) rfl ⟨_, rfl, ce_end HO.out (by omega) (by omega), bset HB3.out (by omega) _⟩
end Go.Proofs.Ytgamoiagpglcmaa
