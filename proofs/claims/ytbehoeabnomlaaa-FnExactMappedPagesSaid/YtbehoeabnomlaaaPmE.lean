/- LiveIn, LivePages, in the program and in the model: the contracts. -/
import Derived.Test.YtbehoeabnomlaaaProg
import Derived.Test.YtbehoeabnomlaaaPmA
import Derived.Test.YtbehoeabnomlaaaPmP
namespace Go.Proofs.Ytbehoeabnomlaaa
open Go.RowKit
set_option linter.unusedVariables false
set_option linter.unusedSimpArgs false
theorem wfI_of {n : Int} (h0 : -9223372036854775808 ≤ n) (h : n ≤ 9223372036854775807) : WfI n := by
  have h1 : IntKind.i64.min = -9223372036854775808 := by decide
  have h2 : IntKind.i64.max = 9223372036854775807 := by decide
  simp [WfI, Lit.wf]
  omega
/-- The owners of the first k physical pages from z on. -/
def ownL (mp : List Int) (n : Nat) (z : Int) : Nat → List Int
  | 0 => []
  | k + 1 => match ownF mp n (z + (k : Int)) with
    | some a => ownL mp n z k ++ [a]
    | none => ownL mp n z k
theorem ownL_le (mp : List Int) (n : Nat) (z : Int) (k : Nat) : (ownL mp n z k).length ≤ k := by
  induction k with
  | zero => simp [ownL]
  | succ k ih =>
    unfold ownL
    split
    · simp; omega
    · omega
/-- What LiveIn answers. -/
def liveL (M : Pm) (r : Bool) (block : Int) : List Int := if r = true ∧ 0 ≤ block ∧ block < M.b then ownL M.mp M.mp.length (block * M.p) M.p.toNat else []
/-- The numbers of a block's pages. -/
theorem blockNums {b p block : Int} (hs : 1 ≤ b ∧ 1 ≤ p ∧ b * p ≤ 640) (h0 : 0 ≤ block) (h1 : block < b) : 0 ≤ block * p ∧ block * p + p ≤ 640 ∧ (block + 1) * p = block * p + p ∧ p ≤ 640 := by
  have a : (block + 1) * p ≤ b * p := Int.mul_le_mul_of_nonneg_right (by omega) (by omega)
  have c : (block + 1) * p = block * p + p := by rw [Int.add_mul, Int.one_mul]
  have d : 0 ≤ block * p := Int.mul_nonneg h0 (by omega)
  exact ⟨d, by omega, c, by omega⟩
set_option maxHeartbeats 4000000 in
set_option maxRecDepth 100000 in
theorem specLive_any (g : Nat) (b p block : Int) (mp : List Int) (tr : List Bool) (u v : Value) (w : World) (hi : Nat) (hR : Rw w g 28 #[.int .i64 b, .int .i64 p, u, v]) (hu : NI w hi u mp) (hh : hi ≤ w.heap.size) (hr : PmOk ⟨b, p, mp, tr⟩) :
    Calls Try.prog 71 #[.pointer (some ⟨g, 0, none⟩), .int .i64 block] w (CopyPostI (liveL ⟨b, p, mp, tr⟩ true block) w) := by
  have hg := hR.lt
  obtain ⟨⟨⟨hl1, hl2⟩, hb, hp, hbp⟩, ht, he⟩ := hr
  simp only at hl1 hl2 hb hp hbp ht he
  have hb3 := hb.1
  have hb4 := hb.2
  have HA := Lib.hid (fun (W : World) (hb : Below w.heap.size w W) (z a : Int) (ha : AtIs mp mp.length z a) => specAt_any g b p mp u v z a W hi (hR.below hb hg) (hu.below hb hh) (Nat.le_trans hh hb.size) ha (by omega))
  obtain ⟨q0, q1, q2, q3⟩ := hR.four
  have HO := Lib.hid (fun (z a : Int) (ha : AtIs mp mp.length z a) => ha.own (tr := tr) (H := b * p) (Nat.le_refl _) he)
  have HR := Lib.hid hR
  clear hR hu he ht
  by_cases hin : 0 ≤ block ∧ block < b
  case neg =>
    have HI := Lib.hid (fun (W : World) => inr_no block 0 (b - 1) W (by omega))
    have HL := Lib.hid (show liveL ⟨b, p, mp, tr⟩ true block = [] by unfold liveL; rw [if_neg (fun e => hin e.2)])
    have hi1 := IntsOwn.made w (B := w.heap.size) (Nat.le_refl _)
    have HB := Lib.hid ((Below.refl w.heap.size w).alloc (Nat.le_refl _) (.cells #[] 2))
    have q0a := (HR.out.alloc (.cells #[] 2)).four.1
    clear HA HO hin
    go_enter Try.func71, Try.ntmps71
    go_wp2_with (go_at_call 75; refine (HI.out _).mono ?_; rintro e w' ⟨rfl, rfl⟩)
    go_ret
    exact ⟨_, rfl, by rw [HL.out]; exact hi1, HB.out⟩
  obtain ⟨m0, m1, m2, m3⟩ := blockNums ⟨hb.1, hp.1, hbp⟩ hin.1 hin.2
  have HI := Lib.hid (fun (W : World) => inr_yes block 0 (b - 1) W (by omega) (by omega))
  have HL := Lib.hid (show liveL ⟨b, p, mp, tr⟩ true block = ownL mp mp.length (block * p) p.toNat by unfold liveL; rw [if_pos ⟨rfl, hin⟩])
  have hb1 := hin.1
  have hb2 := hin.2
  obtain ⟨P, rfl⟩ : ∃ P : Nat, p = P := ⟨p.toNat, by omega⟩
  generalize hz : block * (P : Int) = z0 at *
  generalize hE : (block + 1) * (P : Int) = E at *
  have w1 : IntKind.i64.wrap (block * (P : Int)) = z0 := by rw [hz]; exact IntWalk.i64_in _ (by omega)
  have w2 : IntKind.i64.wrap ((block + 1) * (P : Int)) = E := by rw [hE]; exact IntWalk.i64_in _ (by omega)
  have HPP := Lib.hid (show (P : Int).toNat = P by omega)
  have HM := Lib.hid m2
  have hEP : E = z0 + (P : Int) := by omega
  have HEP := Lib.hid hEP
  have HLEN := Lib.hid (ownL_le mp mp.length z0)
  have hi1 := IntsOwn.made w (B := w.heap.size) (Nat.le_refl _)
  have HB := Lib.hid ((Below.refl w.heap.size w).alloc (Nat.le_refl _) (.cells #[] 2))
  have HRa := Lib.hid (HR.out.alloc (.cells #[] 2))
  clear q0 q1 q2 q3
  obtain ⟨q0, q1, q2, q3⟩ := HRa.out.four
  clear hin hz hE m2 hEP hb hp hbp hl1 hl2
  go_enter Try.func71, Try.ntmps71
  go_wp2_with (go_at_call 75; refine (HI.out _).mono ?_; rintro e w' ⟨rfl, rfl⟩)
  go_loopw [5, 6] (fun v j wr => ∃ k : Nat, k ≤ P ∧ j = .int .i64 (z0 + (k : Int)) ∧ Hid (IntsOwn wr w.heap.size v (ownL mp mp.length z0 k)) ∧ Hid (Below w.heap.size w wr)) (fun _ j _ => (E - intOf j).toNat)
  case atStart => exact ⟨0, by omega, by simp, Lib.hid (by simpa [ownL] using hi1), HB⟩
  case round =>
    clear q0 q1 q2 q3 hi1 HB HRa
    obtain ⟨k, hk, rfl, hown, HB⟩ := hrel
    obtain ⟨q0, q1, q2, q3⟩ := (HR.out.below HB.out hg).four
    have hEP := HEP.out
    by_cases hlt : k < P
    · have hki : z0 + (k : Int) < E := by omega
      obtain ⟨a, ha⟩ := atIs mp mp.length (z0 + (k : Int))
      have HAT := Lib.hid (HA.out wr HB.out (z0 + (k : Int)) a ha)
      have ho := HO.out _ _ ha
      have hlow := ha.low
      have HNX := Lib.hid (show ownL mp mp.length z0 (k + 1) = match ownF mp mp.length (z0 + (k : Int)) with | some a => ownL mp mp.length z0 k ++ [a] | none => ownL mp mp.length z0 k from rfl)
      have hln := HLEN.out k
      clear ha
      go_wp2_with fail
      refine HAT.out.mono ?_
      rintro e w2 ⟨rfl, q, rfl⟩
      have HB2 := Lib.hid (below_drewN HB.out q)
      have hown2 : IntsOwn (wr.drewN q) w.heap.size u5 (ownL mp mp.length z0 k) := hown.out
      by_cases ha0 : 0 ≤ a
      · have d1 : decide (a ≥ 0) = true := by simpa using ha0
        have d2 : decide (0 ≤ a) = true := by simpa using ha0
        have HN2 := Lib.hid (show ownL mp mp.length z0 (k + 1) = ownL mp mp.length z0 k ++ [a] from by
          rw [HNX.out]
          cases hf : ownF mp mp.length (z0 + (k : Int)) with
          | none => rw [hf] at ho; simp [logB, ha0] at ho
          | some x => rw [hf] at ho; simp [logV, logB, ha0] at ho; rw [ho])
        have hb' := HB2.out
        have hz' := HB2.out.size
        clear HAT ho HNX hown HB hlow q0 q1 q2 q3
        go_wp2_with (at_builtin; refine wpList_append_int rfl _ _ rfl _ _ rfl hown2 hb' hz' _ _ rfl (by omega) ?_; intro v' w1 hown3 hb2; clear hown2 hb')
        go_roundw
        case rel => exact ⟨k + 1, by omega, congrArg (Value.int .i64) (by omega), Lib.hid (by rw [HN2.out]; exact hown3), Lib.hid hb2⟩
        case measure => simp [intOf]; omega
      · have d1 : decide (a ≥ 0) = false := by simp; omega
        have d2 : decide (0 ≤ a) = false := by simp; omega
        have HN2 := Lib.hid (show ownL mp mp.length z0 (k + 1) = ownL mp mp.length z0 k from by
          rw [HNX.out]
          cases hf : ownF mp mp.length (z0 + (k : Int)) with
          | none => rfl
          | some x => rw [hf] at ho; simp [logB, ha0] at ho)
        have HO2 := Lib.hid hown2
        clear HAT ho HNX hown HB hlow hown2
        go_wp2
        go_roundw
        case rel => exact ⟨k + 1, by omega, congrArg (Value.int .i64) (by omega), Lib.hid (by rw [HN2.out]; exact HO2.out), HB2⟩
        case measure => simp [intOf]; omega
    · obtain rfl : k = P := by omega
      have hki : ¬ (z0 + (k : Int) < E) := by omega
      go_wp2
      go_ret
      exact ⟨_, rfl, by rw [HL.out, HPP.out]; exact hown.out, HB.out⟩
theorem liveL_le {M : Pm} (h : PmOk M) (block : Int) : (liveL M true block).length ≤ 640 := by
  unfold liveL
  split
  · have := ownL_le M.mp M.mp.length (block * M.p) M.p.toNat
    have := h.1.2.2.1.2
    omega
  · simp
theorem liveL_no (M : Pm) (block : Int) : liveL M false block = [] := by unfold liveL; rw [if_neg (fun e => by cases e.1)]
theorem CopyPostI.low {L : List Int} {w w0 : World} {e : Ending} {w' : World} (h : CopyPostI L w e w') (hb : Below w0.heap.size w0 w) : CopyPostI L w0 e w' := by
  obtain ⟨v, h1, h2, h3⟩ := h
  exact ⟨v, h1, h2.low hb.size, hb.trans (h3.mono hb.size)⟩
set_option maxHeartbeats 1000000 in
theorem specLiveIn_any (u : Value) (M : Pm) (block : Int) (r : Bool) (w : World) (hi : Nat) (h : PmIn w hi u M) (hh : hi ≤ w.heap.size) (hr : r = true ↔ PmOk M) (hl : PmSz M) :
    Calls Try.prog 30 #[u, .int .i64 block] w (CopyPostI (liveL M r block) w) := by
  obtain ⟨x, y, rfl, h1, h2⟩ := h
  obtain ⟨A, n, c, rfl⟩ := h1.slice
  obtain ⟨A', n', c', rfl⟩ := h2.slice
  obtain ⟨bb, p, mp, tr⟩ := M
  unfold pmc at *
  simp only at *
  have r0 := Rw.new w 28 #[.int .i64 bb, .int .i64 p, .slice A n c, .slice A' n' c']
  have b0 := (Below.refl w.heap.size w).alloc (Nat.le_refl _) (.cells #[.int .i64 bb, .int .i64 p, .slice A n c, .slice A' n' c'] 28)
  have hz : (w.alloc (.cells #[.int .i64 bb, .int .i64 p, .slice A n c, .slice A' n' c'] 28)).heap.size = w.heap.size + 1 := by simp
  have HS := Lib.hid (specOkP_any w.heap.size bb p mp tr _ _ r _ hi r0 (h1.below b0 hh) (h2.below b0 hh) (by simp; omega) hr (by unfold PmSz at hl; simpa using hl))
  have HLV := Lib.hid (fun (W : World) (hb : Below w.heap.size w W) (hR : Rw W w.heap.size 28 #[.int .i64 bb, .int .i64 p, .slice A n c, .slice A' n' c']) (e : r = true) => specLive_any w.heap.size bb p block mp tr _ _ W hi hR (h1.below hb hh) (Nat.le_trans hh hb.size) (hr.1 e))
  have HLE := Lib.hid (fun (e : r = true) => show (liveL ⟨bb, p, mp, tr⟩ true block).length ≤ 640 from liveL_le (hr.1 e) block)
  have B0 := Lib.hid b0
  have R0 := Lib.hid r0
  clear h1 h2 r0 b0 hr hl
  go_enter Try.func30, Try.ntmps30
  go_wp2_with fail
  refine HS.out.mono ?_
  rintro e w1 ⟨rfl, b1⟩
  rw [hz] at b1
  have B1 := Lib.hid (B0.out.trans (b1.mono (by omega)))
  have R1 := Lib.hid (R0.out.below b1 (by omega))
  clear b1 HS B0 R0 hz
  cases r with
  | false =>
    have hi1 := IntsOwn.made w1 (B := w.heap.size) B1.out.size
    go_wp2
    go_ret
    exact ⟨_, rfl, by rw [liveL_no]; exact hi1, B1.out.alloc B1.out.size _⟩
  | true =>
    go_wp2_with fail
    refine (HLV.out w1 B1.out R1.out (by simp)).mono ?_
    rintro e w2 hp
    obtain ⟨v, rfl, ho, hb⟩ := hp.low B1.out
    go_wp2
    go_ret
    exact ⟨_, rfl, ho, hb⟩
set_option maxHeartbeats 1000000 in
theorem specLivePages_any (u : Value) (M : Pm) (block : Int) (r : Bool) (w : World) (hi : Nat) (h : PmIn w hi u M) (hh : hi ≤ w.heap.size) (hr : r = true ↔ PmOk M) (hl : PmSz M) :
    Calls Try.prog 28 #[u, .int .i64 block] w fun e w' => e = .returned (.int .i64 ((liveL M r block).length : Int)) ∧ Below w.heap.size w w' := by
  obtain ⟨x, y, rfl, h1, h2⟩ := h
  obtain ⟨A, n, c, rfl⟩ := h1.slice
  obtain ⟨A', n', c', rfl⟩ := h2.slice
  obtain ⟨bb, p, mp, tr⟩ := M
  unfold pmc at *
  simp only at *
  have r0 := Rw.new w 28 #[.int .i64 bb, .int .i64 p, .slice A n c, .slice A' n' c']
  have b0 := (Below.refl w.heap.size w).alloc (Nat.le_refl _) (.cells #[.int .i64 bb, .int .i64 p, .slice A n c, .slice A' n' c'] 28)
  have hz : (w.alloc (.cells #[.int .i64 bb, .int .i64 p, .slice A n c, .slice A' n' c'] 28)).heap.size = w.heap.size + 1 := by simp
  have HS := Lib.hid (specOkP_any w.heap.size bb p mp tr _ _ r _ hi r0 (h1.below b0 hh) (h2.below b0 hh) (by simp; omega) hr (by unfold PmSz at hl; simpa using hl))
  have HLV := Lib.hid (fun (W : World) (hb : Below w.heap.size w W) (hR : Rw W w.heap.size 28 #[.int .i64 bb, .int .i64 p, .slice A n c, .slice A' n' c']) (e : r = true) => specLive_any w.heap.size bb p block mp tr _ _ W hi hR (h1.below hb hh) (Nat.le_trans hh hb.size) (hr.1 e))
  have HLE := Lib.hid (fun (e : r = true) => show (liveL ⟨bb, p, mp, tr⟩ true block).length ≤ 640 from liveL_le (hr.1 e) block)
  have B0 := Lib.hid b0
  have R0 := Lib.hid r0
  clear h1 h2 r0 b0 hr hl
  go_enter Try.func28, Try.ntmps28
  go_wp2_with fail
  refine HS.out.mono ?_
  rintro e w1 ⟨rfl, b1⟩
  rw [hz] at b1
  have B1 := Lib.hid (B0.out.trans (b1.mono (by omega)))
  have R1 := Lib.hid (R0.out.below b1 (by omega))
  clear b1 HS B0 R0 hz
  cases r with
  | false =>
    go_wp2
    go_ret
    exact ⟨by rw [liveL_no]; rfl, B1.out⟩
  | true =>
    go_wp2_with fail
    refine (HLV.out w1 B1.out R1.out (by simp)).mono ?_
    rintro e w2 hp
    obtain ⟨v, rfl, ho, hb⟩ := hp.low B1.out
    obtain ⟨A2, n2, c2, rfl⟩ := ho.sliceOf'
    obtain ⟨X1, X2, X3, e, hn2, _⟩ := ho.reads
    injection e with e1 e2 e3
    have HE := Lib.hid (show (liveL ⟨bb, p, mp, tr⟩ true block).length = n2 by omega)
    have hnm : (n2 : Int) ≤ 640 := by have := HLE.out (by simp); omega
    clear ho e1 e2 e3 hn2
    go_wp2
    go_ret
    exact ⟨by rw [HE.out]; rfl, hb⟩
theorem hasBlock_any (b p x : Int) (u v : Value) (r : Bool) (w : World) (hr : r = true ↔ (0 ≤ x ∧ x < b)) :
    Calls Try.prog 72 #[.agg #[.int .i64 b, .int .i64 p, u, v], .int .i64 x] w fun e w' => e = .returned (.bool r) ∧ Below w.heap.size w w' := by
  have B0 := Lib.hid ((Below.refl w.heap.size w).alloc (Nat.le_refl _) (.cells #[.int .i64 b, .int .i64 p, u, v] 28))
  have HR := Lib.hid hr
  clear hr
  by_cases h1 : 0 ≤ x
  case neg =>
    have d1 : decide (0 ≤ x) = false := by simp; omega
    have d2 : decide (x ≥ 0) = false := by simp; omega
    obtain rfl : r = false := not_true HR.out (fun e => h1 e.1)
    clear HR h1
    go_enter Try.func72, Try.ntmps72
    go_wp2
    go_ret
    exact ⟨rfl, B0.out⟩
  have d1 : decide (0 ≤ x) = true := by simp; omega
  have d2 : decide (x ≥ 0) = true := by simp; omega
  obtain rfl : r = decide (x < b) := by
    rw [Bool.eq_iff_iff, HR.out]; simp; omega
  clear HR h1
  go_enter Try.func72, Try.ntmps72
  go_wp2
  go_ret
  exact ⟨rfl, B0.out⟩
set_option maxHeartbeats 4000000 in
set_option maxRecDepth 100000 in
theorem implLiveIn_any (u : Value) (M : Pm) (block : Int) (r : Bool) (w : World) (hi : Nat) (h : PmIn w hi u M) (hh : hi ≤ w.heap.size) (hr : r = true ↔ PmOk M) (hl : PmSz M) (hW : PmW M) :
    Calls Try.prog 31 #[u, .int .i64 block] w (CopyPostI (liveL M r block) w) := by
  have HV := Lib.hid (fun (W : World) (hb : Below w.heap.size w W) => implPmOk_any u M r W hi (h.below hb hh) (Nat.le_trans hh hb.size) hr hl hW)
  obtain ⟨x, y, rfl, h1, h2⟩ := h
  obtain ⟨A, n, c, rfl⟩ := h1.slice
  obtain ⟨A', n', c', rfl⟩ := h2.slice
  obtain ⟨bb, p, mp, tr⟩ := M
  unfold pmc at *
  simp only at *
  have r0 := Rw.new w 28 #[.int .i64 bb, .int .i64 p, .slice A n c, .slice A' n' c']
  have b0 := (Below.refl w.heap.size w).alloc (Nat.le_refl _) (.cells #[.int .i64 bb, .int .i64 p, .slice A n c, .slice A' n' c'] 28)
  have hz : (w.alloc (.cells #[.int .i64 bb, .int .i64 p, .slice A n c, .slice A' n' c'] 28)).heap.size = w.heap.size + 1 := by simp
  have hn : mp.length = n := by obtain ⟨X1, X2, X3, e, _, _, hn, _⟩ := h1; injection e with e1 e2 e3; omega
  have HO := Lib.hid (fun (W : World) (hb : Below w.heap.size w W) => owners_any bb p mp A A' n c n' c' W hi (h1.below hb hh) (Nat.le_trans hh hb.size) hW.2 (by unfold PmSz at hl; simp only at hl; omega))
  have HB := Lib.hid (fun (W : World) (rb : Bool) (e : rb = true ↔ (0 ≤ block ∧ block < bb)) => hasBlock_any bb p block (.slice A n c) (.slice A' n' c') rb W e)
  have HK := Lib.hid (fun (e : r = true) => (hr.1 e).1)
  have HN := Lib.hid hn
  have R0 := Lib.hid r0
  have B0 := Lib.hid b0
  clear h1 h2 hr hl hW hn r0 b0
  go_enter Try.func31, Try.ntmps31
  go_wp2_with fail
  refine (HV.out _ B0.out).mono ?_
  rintro e w1 ⟨rfl, b1⟩
  rw [hz] at b1
  have B1 := Lib.hid (B0.out.trans (b1.mono (by omega)))
  have R1 := Lib.hid (R0.out.below b1 (by omega))
  obtain ⟨c0, c1, c2, c3⟩ := R1.out.four
  clear b1 HV B0 R0 hz
  cases r with
  | false =>
    clear HO HB
    go_wp2
    go_ret
    exact ⟨_, rfl, by rw [liveL_no]; exact World.ownsRow_nil w1 _ _ 1, B1.out⟩
  | true =>
  obtain ⟨⟨hl1, hl2⟩, hb, hp, hbp⟩ := HK.out (by simp)
  try simp only at hl1 hl2 hb hp hbp
  by_cases hin : 0 ≤ block ∧ block < bb
  case neg =>
    have HL := Lib.hid (show liveL ⟨bb, p, mp, tr⟩ true block = [] by unfold liveL; rw [if_neg (fun e => hin e.2)])
    have HB1 := Lib.hid (HB.out w1 false (by simp; omega))
    clear HO HB hin
    go_wp2_with fail
    refine HB1.out.mono ?_
    rintro e w2 ⟨rfl, b2⟩
    have B2 := Lib.hid (B1.out.trans (b2.mono B1.out.size))
    clear b2 HB1 c0 c1 c2 c3
    go_wp2
    go_ret
    exact ⟨_, rfl, by rw [HL.out]; exact World.ownsRow_nil w2 _ _ 1, B2.out⟩
  obtain ⟨m0, m1, m2, m3⟩ := blockNums ⟨hb.1, hp.1, hbp⟩ hin.1 hin.2
  have HB1 := Lib.hid (fun (W : World) => HB.out W true (by simp [hin]))
  have HL := Lib.hid (show liveL ⟨bb, p, mp, tr⟩ true block = ownL mp mp.length (block * p) p.toNat by unfold liveL; rw [if_pos ⟨rfl, hin⟩])
  obtain ⟨P, rfl⟩ : ∃ P : Nat, p = P := ⟨p.toNat, by omega⟩
  generalize hz : block * (P : Int) = z0 at *
  have ww1 : IntKind.i64.wrap (block * (P : Int)) = z0 := by rw [hz]; exact IntWalk.i64_in _ (by omega)
  have HPP := Lib.hid (show (P : Int).toNat = P by omega)
  have HLEN := Lib.hid (ownL_le mp mp.length z0)
  clear hin hz m2 hb hp hbp hl1 hl2 HB
  go_wp2_with fail
  refine (HB1.out _).mono ?_
  rintro e w2 ⟨rfl, b2⟩
  have B2 := Lib.hid (B1.out.trans (b2.mono B1.out.size))
  have R2 := Lib.hid (R1.out.below b2 R1.out.lt)
  clear b2 HB1 c0 c1 c2 c3 B1 R1
  obtain ⟨c0, c1, c2, c3⟩ := R2.out.four
  go_wp2_with fail
  refine (HO.out w2 B2.out).mono ?_
  rintro e w3 ⟨g, rfl, hg, hm, b3⟩
  have B3 := Lib.hid (B2.out.trans (b3.mono B2.out.size))
  have R3 := Lib.hid (R2.out.below b3 R2.out.lt)
  have HM := Lib.hid hm
  rw [HN.out] at HL HLEN
  clear b3 hm c0 c1 c2 c3 B2 R2 HO
  obtain ⟨c0, c1, c2, c3⟩ := R3.out.four
  have hr3 := R3.out.lt
  go_wp2_with fail
  clear c0 c1 c2 c3
  go_loopw [5, 8] (fun v j wr => ∃ k : Nat, k ≤ P ∧ j = .int .i64 (z0 + (k : Int)) ∧ Hid (IntsOwn wr w3.heap.size v (ownL mp n z0 k)) ∧ Hid (Below w3.heap.size w3 wr)) (fun _ j _ => (z0 + P - intOf j).toNat)
  case atStart => exact ⟨0, by omega, by simp, Lib.hid (show IntsOwn w3 w3.heap.size (.slice none 0 0) [] from World.ownsRow_nil w3 _ _ 1), Lib.hid (Below.refl _ _)⟩
  case round =>
    obtain ⟨k, hk, rfl, hown, HB⟩ := hrel
    obtain ⟨q0, q1, q2, q3⟩ := (R3.out.below HB.out hr3).four
    by_cases hlt : k < P
    · have hki : z0 + (k : Int) < z0 + (P : Int) := by omega
      have hmw := (HM.out.below HB.out HM.out.lt).look (y := z0 + (k : Int)) (wfI_of (by omega) (by omega))
      have HNX := Lib.hid (show ownL mp n z0 (k + 1) = match ownF mp n (z0 + (k : Int)) with | some a => ownL mp n z0 k ++ [a] | none => ownL mp n z0 k from rfl)
      have hln := HLEN.out k
      have hown2 : IntsOwn wr w3.heap.size u5 (ownL mp n z0 k) := hown.out
      cases hf : ownF mp n (z0 + (k : Int)) with
      | none =>
        rw [hf] at hmw
        simp only [Option.getD_none, Option.isSome_none] at hmw
        have HN2 := Lib.hid (show ownL mp n z0 (k + 1) = ownL mp n z0 k from by rw [HNX.out, hf])
        have HO2 := Lib.hid hown2
        clear HNX hown hown2 hf
        go_wp2
        go_roundw
        case rel => exact ⟨k + 1, by omega, congrArg (Value.int .i64) (by omega), Lib.hid (by rw [HN2.out]; exact HO2.out), HB⟩
        case measure => simp [intOf]; omega
      | some a =>
        rw [hf] at hmw
        simp only [Option.getD_some, Option.isSome_some] at hmw
        have HN2 := Lib.hid (show ownL mp n z0 (k + 1) = ownL mp n z0 k ++ [a] from by rw [HNX.out, hf])
        have hb' := HB.out
        have hz' := HB.out.size
        clear HNX hown hf HB
        go_wp2_with (at_builtin; refine wpList_append_int rfl _ _ rfl _ _ rfl hown2 hb' hz' _ _ rfl (by omega) ?_; intro v' w1 hown3 hb2; clear hown2 hb')
        go_roundw
        case rel => exact ⟨k + 1, by omega, congrArg (Value.int .i64) (by omega), Lib.hid (by rw [HN2.out]; exact hown3), Lib.hid hb2⟩
        case measure => simp [intOf]; omega
    · obtain rfl : k = P := by omega
      have hki : ¬ (z0 + (k : Int) < z0 + (k : Int)) := by omega
      go_wp2
      go_ret
      exact ⟨_, rfl, by rw [HL.out, HPP.out]; exact hown.out.low B3.out.size, B3.out.trans (HB.out.mono B3.out.size)⟩
set_option maxHeartbeats 1000000 in
theorem implLivePages_any (u : Value) (M : Pm) (block : Int) (r : Bool) (w : World) (hi : Nat) (h : PmIn w hi u M) (hh : hi ≤ w.heap.size) (hr : r = true ↔ PmOk M) (hl : PmSz M) (hW : PmW M) :
    Calls Try.prog 29 #[u, .int .i64 block] w fun e w' => e = .returned (.int .i64 ((liveL M r block).length : Int)) ∧ Below w.heap.size w w' := by
  have HV := Lib.hid (fun (W : World) (hb : Below w.heap.size w W) => implLiveIn_any u M block r W hi (h.below hb hh) (Nat.le_trans hh hb.size) hr hl hW)
  have hlen : (liveL M r block).length ≤ 640 := by
    cases r with
    | false => rw [liveL_no]; simp
    | true => exact liveL_le (hr.1 rfl) block
  obtain ⟨x, y, rfl, h1, h2⟩ := h
  obtain ⟨A, n, c, rfl⟩ := h1.slice
  obtain ⟨A', n', c', rfl⟩ := h2.slice
  obtain ⟨bb, p, mp, tr⟩ := M
  unfold pmc at *
  simp only at *
  obtain ⟨c0, c1, c2, c3⟩ := (Rw.new w 28 #[.int .i64 bb, .int .i64 p, .slice A n c, .slice A' n' c']).four
  have B0 := Lib.hid ((Below.refl w.heap.size w).alloc (Nat.le_refl _) (.cells #[.int .i64 bb, .int .i64 p, .slice A n c, .slice A' n' c'] 28))
  have HLE := Lib.hid hlen
  clear h1 h2 hr hl hW hlen
  go_enter Try.func29, Try.ntmps29
  go_wp2_with fail
  refine (HV.out _ B0.out).mono ?_
  rintro e w1 hp
  obtain ⟨v, rfl, ho, hb⟩ := hp.low B0.out
  obtain ⟨A2, n2, c2, rfl⟩ := ho.sliceOf'
  obtain ⟨X1, X2, X3, e, hn2, _⟩ := ho.reads
  injection e with e1 e2 e3
  have HE := Lib.hid (show (liveL ⟨bb, p, mp, tr⟩ r block).length = n2 by omega)
  have hnm : (n2 : Int) ≤ 640 := by have := HLE.out; omega
  clear ho e1 e2 e3 hn2
  go_wp2
  go_ret
  exact ⟨by rw [HE.out]; rfl, hb⟩
end Go.Proofs.Ytbehoeabnomlaaa
