/- The proof's own lemmas, part 26: CxW. -/
import Derived.Test.YtgamoiagpglcmaaProg
import Derived.Test.YtgamoiagpglcmaaMg24
import Derived.Test.YtgamoiagpglcmaaMg20
import Derived.Deep.RegionLaw
import Derived.Deep.RegionHeld3
import Derived.Deep.Cut
import Derived.Deep.DeepCutAuto
import Derived.Lib.Repeat
import Derived.StillTailTactics
/- WipeCells, in the model and in the program: the contracts. -/
namespace Go.Proofs.Ytgamoiagpglcmaa
open Go.RowKit
set_option linter.unusedVariables false
set_option linter.unusedSimpArgs false

def wipE (M : Ce) (r : Bool) : Ce := bif r then ⟨List.replicate M.c.length 63⟩ else Ce.zero
theorem wipE_sz {M : Ce} {r : Bool} (z : CeSz M) : CeSz (wipE M r) := by
  unfold CeSz at z ⊢
  cases r
  · simp [wipE, Ce.zero]
  · simpa [wipE] using z
theorem wpList_append_intH {Q : Exit → Act → World → Prop} {ops : Array Oper} {rest : List Oper} {o : Oper} {a : Act} {w0 wr : World} {B : Nat} (hgd : o.guard = none) (s x : Operand)
    (ho : o.op = .call { callee := .builtin .append, args := #[s, x], argTypes := #[22, 22] })
    (v : Value) (l : List Int) (hs : a.eval s = v) (hown : IntsOwn wr B v l) (hb : Below B w0 wr) (hB : B ≤ wr.heap.size)
    (b : Int) (c : Nat) (hx : a.eval x = .slice (some ⟨wr.heap.size, 0, none⟩) 1 c) (hl : l.length + 1 ≤ 1048577)
    (h : ∀ v' w', IntsOwn w' B v' (l ++ [b]) → Below B w0 w' → wpList Try.prog ops Q rest (a.put o.dst v') w') :
    wpList Try.prog ops Q (o :: rest) a (wr.alloc (.cells #[.int .i64 b] 2)) := by
  obtain ⟨i0, hi, hz0, hz1, hz2⟩ := info_parts info64
  refine wpList_append_own _ hgd s x _ ho B 2 i0 (.int .i64 0) 1 8 Try.underlying22 hi hz0 hz1 hz2 rfl (by decide) v l.length (l.map (Value.int .i64)) hs (World.ownsRow.alloc hown _) ⟨wr.heap.size, 0, none⟩ 1 c [.int .i64 b] hx rfl ?_ ?_ (by unfold maxLen; omega) (by omega) (by simp; omega) ?_
  · intro j u hj
    match j, hj with
    | 0, hj => simp at hj; subst hj; simp [Addr.add]
  · intro u hu; simp at hu; subst hu; rfl
  · intro v' w' h1 h2 _
    refine h v' w' ?_ ?_
    · unfold IntsOwn; simpa using h1
    · exact (hb.alloc hB _).grown h2 (by simp; omega) fun k hk => (World.ownsRow.lt hown k hk).1
theorem rep_size (n : Nat) : (⟨(Lib.repeatL [48] n).toArray⟩ : ByteArray).size = n := by
  show (Lib.repeatL [48] n).toArray.size = n
  simp [Lib.repeatL_length]
theorem rep_at (n : Nat) : ∀ k, (h : k < (Lib.repeatL [48] n).length) → (Lib.repeatL [48] n)[k] = 48 := by
  induction n with
  | zero => intro k h; simp [Lib.repeatL] at h
  | succ n ih =>
    intro k h
    cases k with
    | zero => simp [Lib.repeatL]
    | succ k => simp [Lib.repeatL]; exact ih k _
theorem rep_byte (n k : Nat) (h : k < n) : byteAt ⟨(Lib.repeatL [48] n).toArray⟩ k = 48 := by
  have h' : k < (⟨(Lib.repeatL [48] n).toArray⟩ : ByteArray).size := by rw [rep_size]; exact h
  rw [← byteAt_eq h']
  have : (⟨(Lib.repeatL [48] n).toArray⟩ : ByteArray)[k] = 48 := rep_at n k (by simpa [Lib.repeatL_length] using h)
  rw [this]; rfl
theorem rep_bits (n : Nat) : BitsOk ⟨(Lib.repeatL [48] n).toArray⟩ := fun k hk => .inl (rep_byte n k (by rw [rep_size] at hk; exact hk))
theorem prg_full (cs : List Int) : (prgC ⟨cs⟩ ⟨(Lib.repeatL [48] cs.length).toArray⟩).c = List.replicate cs.length 255 := by
  apply List.ext_getElem (by simp [prgC, mapI_length])
  intro i h1 h2
  simp only [prgC, mapI_length] at h1
  simp [prgC, mapI, rep_byte cs.length i h1]
theorem cePost_spell {f : FuncId} {args : Array Value} {W : World} {G : Ce} {cd : Int} (h : Calls Try.prog f args W (CePost G cd W)) :
    Calls Try.prog f args W fun e w' => ∃ A2 n2 c2, e = .returned (.tuple #[.agg #[.slice A2 n2 c2], .int .i64 cd]) ∧ IO w' W.heap.size w'.heap.size (.slice A2 n2 c2) G.c ∧ Below W.heap.size W w' :=
  h.mono fun e w' ⟨u, q, ⟨u2, e2, ho⟩, b⟩ => by
    subst e2
    obtain ⟨A2, n2, c2, rfl⟩ := ho.agg_
    exact ⟨A2, n2, c2, q, ho, b⟩
theorem wip_eq (cs : List Int) : (eraE (prgC ⟨cs⟩ ⟨(Lib.repeatL [48] cs.length).toArray⟩) true).c = List.replicate cs.length 63 := by
  show ((prgC ⟨cs⟩ ⟨(Lib.repeatL [48] cs.length).toArray⟩).c).map (· / 4) = _
  rw [prg_full, List.map_replicate]; rfl
theorem prg_ok (cs : List Int) (h : CeOk ⟨cs⟩) : CeOk (prgC ⟨cs⟩ ⟨(Lib.repeatL [48] cs.length).toArray⟩) := by
  unfold CeOk
  rw [prg_full]
  refine ⟨by simpa using h.1, fun i hi => ?_⟩
  simp only [List.length_replicate] at hi
  unfold ChOk
  simp [List.getD_eq_getElem?_getD, hi]
set_option maxHeartbeats 4000000 in
set_option maxRecDepth 100000 in
theorem implWip_any (u : Value) (M : Ce) (r : Bool) (w : World) (hi : Nat) (h : CeIn w hi u M) (hh : hi ≤ w.heap.size) (hr : r = true ↔ CeOk M) (hl : CeSz M) :
    Calls Try.prog 29 #[u] w (CePost1 (wipE M r) w) := by
  obtain ⟨a, rfl, h1⟩ := h
  obtain ⟨A, n, c, rfl⟩ := h1.slice
  have hn : M.c.length = n := h1.len_.1
  obtain ⟨st, hst⟩ : ∃ st, st = (⟨(Lib.repeatL [48] n).toArray⟩ : ByteArray) := ⟨_, rfl⟩
  obtain ⟨G, cd, hG⟩ := prgIs M r true st
  have hss : st.size = n := by rw [hst]; exact rep_size n
  have hl2 := hl
  unfold CeSz at hl2
  have HPR := Lib.hid (fun (W : World) (b : Below w.heap.size w W) => cePost_spell (implPrg_any (.agg #[.slice A n c]) M st r true G cd W hi ⟨_, rfl, h1.below b hh⟩ (by have := b.size; omega) hr ⟨fun _ => by rw [hst]; exact rep_bits n, fun _ => rfl⟩ hG (by omega) hl))
  have HRP := Lib.hid (fun (W : World) => show Calls Try.prog 90 #[.string { data := #[48] }, .int .i64 (n : Int)] W (fun e w' => e = .returned (.string st) ∧ Below W.heap.size W w') from by
    rw [hst]; exact Try.strings_Repeat ⟨#[48]⟩ n W (by omega) (by show 1 * n ≤ _; omega))
  have HCD := Lib.hid (show (r = true ∧ cd = 0 ∧ CeOk G ∧ CeSz G ∧ (eraE G true).c = (wipE M r).c) ∨ (r = false ∧ cd = 1) from by
    obtain ⟨cs⟩ := M
    simp only at hn
    subst hn
    rcases hG with ⟨e, _, e2⟩ | ⟨_, e, _⟩ | ⟨e, _, rfl, rfl⟩
    · right
      cases r with
      | true => exact absurd ⟨rfl, rfl⟩ e
      | false => exact ⟨rfl, e2⟩
    · exact absurd hss e
    · left
      obtain rfl : r = true := e.1
      rw [hst]
      refine ⟨rfl, rfl, prg_ok cs (hr.1 rfl), ?_, wip_eq cs⟩
      unfold CeSz
      rw [prg_full]
      unfold CeSz at hl
      simpa using hl)
  unfold cec
  obtain ⟨r0, r1, bb⟩ := Rw.two_new w 42 42 #[.slice A n c] #[.slice none 0 0]
  obtain ⟨W0, hW0⟩ : ∃ W0, W0 = (w.alloc (.cells #[.slice A n c] 42)).alloc (.cells #[.slice none 0 0] 42) := ⟨_, rfl⟩
  have hz0 : W0.heap.size = w.heap.size + 2 := by rw [hW0]; simp
  rw [← hW0] at r0 r1 bb
  have KP := Lib.hid (fun (W : World) (b : Below (w.heap.size + 2) W0 W) => show W.cell? ⟨w.heap.size, 0, none⟩ = some (.slice A n c) ∧ Rw W (w.heap.size + 1) 42 #[.slice none 0 0] ∧ Below w.heap.size w W from
    ⟨(r0.below b (by omega)).one, r1.below b (by omega), bb.trans (b.mono (by omega))⟩)
  have hnm : (n : Int) ≤ 1048576 := by omega
  have hb0 : Below (w.heap.size + 2) W0 W0 := Below.refl _ _
  have HZ := Lib.hid hz0
  have Z0 : w.heap.size + 2 ≤ W0.heap.size := by omega
  have q0 := r0.one
  rw [hW0] at q0
  clear r0 r1 bb hr hl hn h1 hG hss hl2 hz0 hst
  go_enter Try.func29, Try.ntmps29
  go_upto_region 1 with fail
  rw [← hW0] at q0 ⊢
  clear hW0
  go_cut [3, 4] (fun p3 p4 wx => ∃ m A2 n2 c2, p3 = .pointer (some ⟨m, 0, none⟩) ∧ p4 = .int .i64 cd ∧ Hid (Rw wx m 42 #[.slice A2 n2 c2]) ∧ Hid (NI wx wx.heap.size (.slice A2 n2 c2) G.c) ∧ Hid (Rw wx (w.heap.size + 1) 42 #[.slice none 0 0]) ∧ Hid (Below w.heap.size w wx))
  case first =>
    have k0 := (KP.out _ hb0.drew).1
    go_region_held3 (fun W => W.cell? ⟨w.heap.size, 0, none⟩ = some (.slice A n c))
      (first
        | with_reducible exact (KP.out _ hb0.drew).1
        | with_reducible exact (KP.out _ (hb0.alloc Z0 _).drew).1
        | with_reducible exact (KP.out _ B1).1
        | with_reducible exact (KP.out _ (B1.alloc Z1 _)).1
        | with_reducible exact (KP.out _ B2).1
        | with_reducible exact (KP.out _ (B2.alloc Z2 _)).1
        | with_reducible exact (KP.out _ (bset B2 Z0 _)).1
        | with_reducible exact (KP.out _ (bset B2 Z1 _)).1)
      (first
        | (go_at_call 90
           with_reducible refine (HRP.out W0.drew).mono ?_
           rintro e w1 ⟨rfl, b⟩
           have B1 := hb0.drew.trans (b.mono Z0)
           have Z1 : w.heap.size + 2 ≤ w1.heap.size := Nat.le_trans Z0 B1.size)
        | (go_at_call 90
           with_reducible refine (HRP.out _).mono ?_
           rintro e w1 ⟨rfl, b⟩
           have B1 := (hb0.alloc Z0 (.cells #[.slice none 0 0] 42)).drew.trans (b.mono (by show _ ≤ (W0.alloc _).heap.size; simp; omega))
           have Z1 : w.heap.size + 2 ≤ w1.heap.size := Nat.le_trans Z0 B1.size
           have RZ := Lib.hid ((show Rw (W0.alloc (.cells #[.slice none 0 0] 42)).drew W0.heap.size 42 #[.slice none 0 0] from Rw.new W0 42 #[.slice none 0 0]).below b (by show _ < (W0.alloc _).heap.size; simp)))
        | (go_at_call 37
           with_reducible refine (HPR.out w1 (KP.out _ B1).2.2).mono ?_
           rintro e w2 ⟨A2, n2, c2, rfl, ho, b⟩
           have B2 := B1.trans (b.mono Z1)
           have Z2 : w.heap.size + 2 ≤ w2.heap.size := Nat.le_trans Z1 b.size
           have HO := Lib.hid ho
           have HB := Lib.hid b
           try (have RY := Lib.hid (RZ.out.below b RZ.out.lt))
           try (have d0 := RY.out.one)
           try (have f0 := RY.out.free 0))
        | (go_at_call 37
           with_reducible refine (HPR.out (w1.alloc (.cells #[.slice none 0 0] 42)) (KP.out _ (B1.alloc Z1 _)).2.2).mono ?_
           rintro e w2 ⟨A2, n2, c2, rfl, ho, b⟩
           have B2 := (B1.alloc Z1 (.cells #[.slice none 0 0] 42)).trans (b.mono (by simp; omega))
           have Z2 : w.heap.size + 2 ≤ w2.heap.size := Nat.le_trans Z1 (Nat.le_trans (by simp) b.size)
           have HO := Lib.hid ho
           have HB := Lib.hid b
           have RX := Lib.hid ((Rw.new w1 42 #[.slice none 0 0]).below b (by simp))
           have d0 := RX.out.one
           have f0 := RX.out.free 0))
    · go_wp2_with fail
      go_meet
      case rel => exact ⟨w2.heap.size, A2, n2, c2, rfl, rfl, Lib.hid (Rw.new w2 _ _), Lib.hid (((show NI w2 w2.heap.size _ _ from HO.out.reads).below ((Below.refl w2.heap.size w2).alloc (Nat.le_refl _) _) (Nat.le_refl _)).wide (by simp)), Lib.hid (KP.out _ (B2.alloc Z2 _)).2.1, Lib.hid (KP.out _ (B2.alloc Z2 _)).2.2⟩
    · go_wp2_with fail
      go_meet
      case rel => exact ⟨w1.heap.size, A2, n2, c2, rfl, rfl, Lib.hid (RX.out.set_ 0 _), Lib.hid (HO.out.1.sames fun k e => by
          have h2 : (w1.alloc (.cells #[.slice none 0 0] 42)).heap.size ≤ k := (HO.out.1.blockOf e).1
          simp only [World.size_alloc] at h2
          rw [Below.heap_setCell _ ⟨_, _, none⟩ _ k (by simp; omega)]).readsR.ni, Lib.hid (KP.out _ (bset B2 Z1 _)).2.1, Lib.hid (KP.out _ (bset B2 Z1 _)).2.2⟩
    · go_wp2_with fail
      go_meet
      case rel => exact ⟨W0.heap.size, A2, n2, c2, rfl, rfl, Lib.hid (RY.out.set_ 0 _), Lib.hid (HO.out.1.sames fun k e => by
          have h2 : w1.heap.size ≤ k := (HO.out.1.blockOf e).1
          have h3 := RZ.out.lt
          rw [Below.heap_setCell _ ⟨_, _, none⟩ _ k (by simp; omega)]).readsR.ni, Lib.hid (KP.out _ (bset B2 Z0 _)).2.1, Lib.hid (KP.out _ (bset B2 Z0 _)).2.2⟩
  case rest =>
    obtain ⟨m, A2, n2, c2, rfl, rfl, RM, HI, R1, HB⟩ := hcut
    have q1 := R1.out.one
    have f1 := R1.out.free 0
    have qm := RM.out.one
    have hw1 := R1.out.lt
    rcases HCD.out with ⟨hr1, rfl, hok, hsz, heq⟩ | ⟨hr1, rfl⟩
    · have HE := Lib.hid (implEra15_any (.agg #[.slice A2 n2 c2]) G true wc wc.heap.size ⟨_, rfl, HI.out⟩ (Nat.le_refl _) ⟨fun _ => hok, fun _ => rfl⟩ hsz)
      have HEQ := Lib.hid heq
      clear HCD hok hsz heq hr1 HPR HRP
      go_wp2_with fail
      refine HE.out.mono ?_
      rintro e w3 ⟨u, rfl, ⟨u2, rfl, ho⟩, b3⟩
      obtain ⟨A3, n3, c3, rfl⟩ := ho.agg_
      have R13 := Lib.hid (R1.out.below b3 hw1)
      have HB3 := Lib.hid (HB.out.trans (b3.mono HB.out.size))
      have hm3 := b3.size
      have HO := Lib.hid ho.1
      clear q1 f1 qm ho b3
      have q1 := R13.out.one
      have f1 := R13.out.free 0
      unfold cec
      go_wp2
      refine bodyPost_ret (results_cell_row Try.results29 _ _ _ _ #[.slice A3 n3 c3] _ _ rfl (R13.out.set_ 0 _) Try.underlying42 rfl infoCe) rfl ⟨_, rfl, ?_, bset HB3.out (by omega) _⟩
      have k := ce_end (k := w.heap.size + 1) (v := .slice A3 n3 c3) (B := w.heap.size) HO.out hw1 (by omega)
      rw [HEQ.out] at k
      exact k
    · clear HCD HPR HRP
      have HQ : Hid (wipE M r = Ce.zero) := Lib.hid (by rw [hr1]; rfl)
      clear hr1
      go_wp2
      exact bodyPost_ret (results_cell_row Try.results29 _ _ _ _ #[.slice none 0 0] _ _ rfl (R1.out.set_ 0 _) Try.underlying42 rfl infoCe) rfl (show CePost1 _ _ _ _ from by rw [HQ.out]; exact ⟨_, rfl, CeOwn.zero _ _ _, bset HB.out (by omega) _⟩)
end Go.Proofs.Ytgamoiagpglcmaa
