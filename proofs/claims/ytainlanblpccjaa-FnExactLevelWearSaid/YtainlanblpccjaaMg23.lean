/- The proof's own lemmas, part 24: PmI. -/
import Derived.Test.YtainlanblpccjaaProg
import Derived.Test.YtainlanblpccjaaMg21
import Derived.Test.YtainlanblpccjaaMg9
import Derived.Test.YtainlanblpccjaaMg22
/- Which maps are valid, in the program: the contracts. -/
namespace Go.Proofs.Ytainlanblpccjaa
open Go.RowKit
set_option linter.unusedVariables false
set_option linter.unusedSimpArgs false
theorem hasPhysical_any (b p H x : Int) (u v : Value) (r : Bool) (w : World) (hw : IntKind.i64.wrap (b * p) = H) (hr : r = true ↔ (0 ≤ x ∧ x < H)) :
    Calls Try.prog 235 #[.agg #[.int .i64 b, .int .i64 p, u, v], .int .i64 x] w fun e w' => e = .returned (.bool r) ∧ Below w.heap.size w w' := by
  have B0 := Lib.hid ((Below.refl w.heap.size w).alloc (Nat.le_refl _) (.cells #[.int .i64 b, .int .i64 p, u, v] 104))
  have HR := Lib.hid hr
  clear hr
  by_cases h1 : 0 ≤ x
  case neg =>
    have d1 : decide (0 ≤ x) = false := by simp; omega
    have d2 : decide (x ≥ 0) = false := by simp; omega
    obtain rfl : r = false := not_true HR.out (fun e => h1 e.1)
    clear HR h1
    go_enter Try.func235, Try.ntmps235
    go_wp2
    go_ret
    exact ⟨rfl, B0.out⟩
  have d1 : decide (0 ≤ x) = true := by simp; omega
  have d2 : decide (x ≥ 0) = true := by simp; omega
  obtain rfl : r = decide (x < H) := by
    rw [Bool.eq_iff_iff, HR.out]; simp; omega
  clear HR h1
  go_enter Try.func235, Try.ntmps235
  go_wp2
  go_ret
  exact ⟨rfl, B0.out⟩
theorem rw_grown {w w' : World} {g g' : Nat} {t : TypeId} {cs : Array Value} (h : Rw w g' t cs) (hg : w.grownBy w' (some g)) (hne : g' ≠ g) : Rw w' g' t cs :=
  (hg.block g' h.lt (fun e => hne (by injection e))).trans h
theorem mem_take_succ' {l : List Int} {k : Nat} {z : Int} (hk : k < l.length) : z ∈ l.take (k + 1) ↔ z = l.getD k 0 ∨ z ∈ l.take k := by
  rw [List.take_add_one, List.mem_append, List.getD_eq_getElem?_getD, List.getElem?_eq_getElem hk]
  simp
  exact or_comm
set_option maxHeartbeats 4000000 in
set_option maxRecDepth 100000 in
theorem validRecords_any (b p H : Int) (mp : List Int) (tr : List Bool) (A A' : Option Addr) (n c c' : Nat) (r : Bool) (w : World) (hi : Nat) (hw : IntKind.i64.wrap (b * p) = H) (hH : H ≤ 640) (ha : NI w hi (.slice A n c) mp) (hy : NB w hi (.slice A' n c') tr) (hh : hi ≤ w.heap.size) (hwf : WfL mp) (hl : n ≤ 1048576)
    (hr : r = true ↔ ∀ i, i < n → EntOk H mp tr i) :
    Calls Try.prog 211 #[.agg #[.int .i64 b, .int .i64 p, .slice A n c, .slice A' n c']] w fun e w' => e = .returned (.bool r) ∧ Below w.heap.size w w' := by
  obtain ⟨X1, X2, X3, e, _, _, hn, hA⟩ := ha
  obtain ⟨rfl, rfl, rfl⟩ : A = X1 ∧ n = X2 ∧ c = X3 := by injection e with e1 e2 e3; exact ⟨e1, e2, e3⟩
  clear e
  obtain ⟨X1, X2, X3, e, _, _, hn', hA'⟩ := hy
  obtain ⟨rfl, hX, rfl⟩ : A' = X1 ∧ n = X2 ∧ c' = X3 := by injection e with e1 e2 e3; exact ⟨e1, e2, e3⟩
  subst hX
  clear e
  have R0 := Lib.hid (Rw.new w 104 #[.int .i64 b, .int .i64 p, .slice A n c, .slice A' n c'])
  have B0 := Lib.hid ((Below.refl w.heap.size w).alloc (Nat.le_refl _) (.cells #[.int .i64 b, .int .i64 p, .slice A n c, .slice A' n c'] 104))
  have HP := Lib.hid (fun (W : World) (x : Int) (u v : Value) (rp : Bool) (h : rp = true ↔ (0 ≤ x ∧ x < H)) => hasPhysical_any b p H x u v rp W hw h)
  have HR := Lib.hid hr
  have HA := Lib.hid hA
  have HA' := Lib.hid hA'
  have HN := Lib.hid hn
  have HW := Lib.hid hwf
  have HH := Lib.hid hh
  have HHH := Lib.hid hH
  have hnm : (n : Int) ≤ 1048576 := by omega
  clear hr hA hA' hn hn' hwf hh hl hH
  have HS0 := Lib.hid (BSet.made (w.alloc (.cells #[.int .i64 b, .int .i64 p, .slice A n c, .slice A' n c'] 104)))
  rw [show (w.alloc (.cells #[.int .i64 b, .int .i64 p, .slice A n c, .slice A' n c'] 104)).heap.size = w.heap.size + 1 by simp] at HS0
  have RM := Lib.hid (R0.out.alloc (.map #[] 0))
  have HB2 := Lib.hid (B0.out.alloc (by simp) (.map #[] 0))
  have hmm := @run_makeMap Try.prog
  obtain ⟨c0, c1, c2, c3⟩ := RM.out.four
  go_enter Try.func211, Try.ntmps211
  go_wp2_with fail
  clear hmm
  go_loopw [10] (fun i wr => ∃ k : Nat, ∃ S : Int → Bool, k ≤ n ∧ i = .int .i64 k ∧ Hid (∀ j, j < k → EntOk H mp tr j) ∧ Hid (BSet wr (w.heap.size + 1) S k) ∧ Hid (∀ z, S z = true ↔ (0 ≤ z ∧ z ∈ mp.take k)) ∧ Hid (Below w.heap.size w wr) ∧ Hid (Rw wr w.heap.size 104 #[.int .i64 b, .int .i64 p, .slice A n c, .slice A' n c'])) (fun i _ => n - (intOf i).toNat)
  case atStart => exact ⟨0, _, by omega, rfl, Lib.hid (fun j hj => by omega), HS0, Lib.hid (fun z => by simp), HB2, RM⟩
  case round =>
    clear c0 c1 c2 c3 HS0 RM HB2
    obtain ⟨k, S, hk, rfl, HE, HS, HT, HB, RR⟩ := hrel
    obtain ⟨c0, c1, c2, c3⟩ := RR.out.four
    by_cases hlt : k < n
    · have hki : (k : Int) < (n : Int) := by omega
      obtain ⟨pb, po, rfl, hp2, hpx⟩ := HA.out (by omega)
      obtain ⟨pb', po', rfl, hp2', hpx'⟩ := HA'.out (by omega)
      have e1 := (HB.out.cell (p := ⟨pb, po + k, none⟩) (by have := HH.out; show pb < _; omega)).trans (hpx k hlt)
      have e2 := (HB.out.cell (p := ⟨pb', po' + k, none⟩) (by have := HH.out; show pb' < _; omega)).trans (hpx' k hlt)
      have HWX := Lib.hid (HW.out k (by have := HN.out; omega))
      have HQ := Lib.hid (show EntOk H mp tr k ↔ ((mp.getD k 0 = -1 ∧ tr.getD k false = false) ∨ ((0 ≤ mp.getD k 0 ∧ mp.getD k 0 < H) ∧ ¬ mp.getD k 0 ∈ mp.take k)) from Iff.rfl)
      have HF := Lib.hid (show ¬ EntOk H mp tr k → r = false from fun e => not_true HR.out (fun f => e (f k hlt)))
      have HY := Lib.hid (show EntOk H mp tr k → ∀ j, j < k + 1 → EntOk H mp tr j from fun e j hj => by
        by_cases f : j = k
        · subst f; exact e
        · exact HE.out j (by omega))
      have HTK := Lib.hid (show ∀ z, z ∈ mp.take (k + 1) ↔ z = mp.getD k 0 ∨ z ∈ mp.take k from fun z => mem_take_succ' (by have := HN.out; omega))
      clear hp2 hp2' hpx hpx'
      generalize mp.getD k 0 = x at *
      generalize tr.getD k false = t at *
      obtain ⟨s, hs⟩ : ∃ s, s = S x := ⟨_, rfl⟩
      have HSX := Lib.hid (show s = true ↔ (0 ≤ x ∧ x ∈ mp.take k) by rw [hs]; exact HT.out x)
      have hlk := HS.out.look HWX.out
      rw [← hs] at hlk
      have Hs := Lib.hid hs.symm
      clear hs
      by_cases hx : x = -1
      case pos =>
        subst hx
        have dx : ((-1 : Int) == -1) = true := by decide
        cases t with
        | false =>
          have HE2 := Lib.hid (HY.out (HQ.out.2 (.inl ⟨rfl, rfl⟩)))
          have HT2 := Lib.hid (show ∀ z, S z = true ↔ (0 ≤ z ∧ z ∈ mp.take (k + 1)) from fun z => by
            rw [HT.out z, HTK.out z]
            constructor
            · exact fun e => ⟨e.1, .inr e.2⟩
            · rintro ⟨e1, e2 | e2⟩
              · omega
              · exact ⟨e1, e2⟩)
          have HS2 := Lib.hid (HS.out.mono (show k ≤ k + 1 by omega))
          clear HF HY HQ HTK HR HP HSX Hs hlk
          go_wp2
          go_roundw
          case rel => exact ⟨k + 1, S, by omega, by go_num, HE2, HS2, HT2, HB, RR⟩
          case measure => simp [intOf]; omega
        | true =>
          have HG := Lib.hid (HF.out (fun e => by rcases HQ.out.1 e with e | e; exact absurd e.2 (by simp); omega))
          have HP2 := Lib.hid (fun (W : World) (u v : Value) => HP.out W (-1) u v false (by simp))
          clear HF HY HQ HTK HR HP HSX Hs hlk
          go_wp2_with fail
          refine (HP2.out _ _ _).mono ?_
          rintro e w1 ⟨rfl, b1⟩
          have HB1 := Lib.hid (HB.out.trans (b1.mono HB.out.size))
          clear b1
          go_wp2
          go_ret
          exact ⟨ret_bool HG.out.symm, HB1.out⟩
      have dx : (x == -1) = false := by simpa using hx
      have HX := Lib.hid hx
      clear hx
      obtain ⟨rp, hrp⟩ := prop_dec' (0 ≤ x ∧ x < H)
      have HP2 := Lib.hid (fun (W : World) (u v : Value) => HP.out W x u v rp hrp)
      have HRP := Lib.hid hrp
      clear hrp
      go_wp2_with fail
      refine (HP2.out _ _ _).mono ?_
      rintro e w1 ⟨rfl, b1⟩
      have HB1 := Lib.hid (HB.out.trans (b1.mono HB.out.size))
      have RR1 := Lib.hid (RR.out.below b1 RR.out.lt)
      have HS1 := Lib.hid (HS.out.below b1 HS.out.lt)
      clear b1 c0 c1 c2 c3 e1 e2 hlk HS RR HB
      obtain ⟨c0, c1, c2, c3⟩ := RR1.out.four
      cases rp with
      | false =>
        have HG := Lib.hid (HF.out (fun e => by
          rcases HQ.out.1 e with e | e
          · exact HX.out e.1
          · have := HRP.out.2 e.1; cases this))
        clear HF HY HQ HTK HR HP HP2 HSX Hs HRP
        go_wp2
        go_ret
        exact ⟨ret_bool HG.out.symm, HB1.out⟩
      | true =>
        have hlk := HS1.out.look HWX.out
        rw [Hs.out] at hlk
        cases s with
        | true =>
          have HG := Lib.hid (HF.out (fun e => by
            rcases HQ.out.1 e with e | e
            · exact HX.out e.1
            · exact e.2 (HSX.out.1 rfl).2))
          clear HF HY HQ HTK HR HP HP2 HSX Hs HRP
          go_wp2
          go_ret
          exact ⟨ret_bool HG.out.symm, HB1.out⟩
        | false =>
          have HE2 := Lib.hid (HY.out (HQ.out.2 (.inr ⟨HRP.out.1 rfl, fun e => Bool.noConfusion (HSX.out.2 ⟨(HRP.out.1 rfl).1, e⟩)⟩)))
          obtain ⟨w4, hpt, hs4, hg4⟩ := HS1.out.put (by omega) HWX.out
          have HS4 := Lib.hid hs4
          have hz1 := HB1.out.size
          have hz2 := RR1.out.lt
          have HB4 := Lib.hid (HB1.out.grown hg4 HB1.out.size (fun j e => by injection e with e; omega))
          have RR4 := Lib.hid (rw_grown RR1.out hg4 (by omega))
          have HT4 := Lib.hid (show ∀ z, (z == x || S z) = true ↔ (0 ≤ z ∧ z ∈ mp.take (k + 1)) from fun z => by
            rw [HTK.out z]
            simp only [Bool.or_eq_true, beq_iff_eq]
            rw [HT.out z]
            constructor
            · rintro (rfl | e)
              · exact ⟨(HRP.out.1 rfl).1, .inl rfl⟩
              · exact ⟨e.1, .inr e.2⟩
            · rintro ⟨e1, e2 | e2⟩
              · exact .inl e2
              · exact .inr ⟨e1, e2⟩)
          clear hs4 hg4 HF HY HQ HTK HR HP HP2 HSX Hs HRP
          go_wp2_with fail
          go_roundw
          case rel => exact ⟨k + 1, _, by omega, by go_num, HE2, HS4, HT4, HB4, RR4⟩
          case measure => simp [intOf]; omega
    · obtain rfl : k = n := by omega
      obtain rfl : r = true := HR.out.2 HE.out
      clear HR HP HW HA HA'
      go_wp2
      go_ret
      exact ⟨rfl, HB.out⟩
set_option maxHeartbeats 4000000 in
set_option maxRecDepth 100000 in
theorem implPmOk_any (u : Value) (M : Pm) (r : Bool) (w : World) (hi : Nat) (h : PmIn w hi u M) (hh : hi ≤ w.heap.size) (hr : r = true ↔ PmOk M) (hl : PmSz M) (hW : PmW M) :
    Calls Try.prog 160 #[u] w fun e w' => e = .returned (.bool r) ∧ Below w.heap.size w w' := by
  obtain ⟨a, b, rfl, h1, h2⟩ := h
  obtain ⟨A, n, c, rfl⟩ := h1.slice
  obtain ⟨A', n', c', rfl⟩ := h2.slice
  obtain ⟨bb, p, mp, tr⟩ := M
  unfold pmc
  simp only at *
  obtain ⟨rs, hrs⟩ := prop_dec' (SizeOk n bb p)
  have R0 := Lib.hid (Rw.new w 104 #[.int .i64 bb, .int .i64 p, .slice A n c, .slice A' n' c'])
  have B0 := Lib.hid ((Below.refl w.heap.size w).alloc (Nat.le_refl _) (.cells #[.int .i64 bb, .int .i64 p, .slice A n c, .slice A' n' c'] 104))
  obtain ⟨C, hC⟩ : ∃ C : World → Prop, C = fun W => Rw W w.heap.size 104 #[.int .i64 bb, .int .i64 p, .slice A n c, .slice A' n' c'] ∧ Below w.heap.size w W := ⟨_, rfl⟩
  have HC1 := Lib.hid (fun (W : World) (h : C W) => show Rw W w.heap.size 104 #[.int .i64 bb, .int .i64 p, .slice A n c, .slice A' n' c'] ∧ Below w.heap.size w W by rw [hC] at h; exact h)
  have HC2 := Lib.hid (fun (W : World) (a : Rw W w.heap.size 104 #[.int .i64 bb, .int .i64 p, .slice A n c, .slice A' n' c']) (b : Below w.heap.size w W) => show C W by rw [hC]; exact ⟨a, b⟩)
  have HC3 := Lib.hid (fun (W W' : World) (h : C W) (b : Below W.heap.size W W') => HC2.out W' ((HC1.out W h).1.below b (HC1.out W h).1.lt) ((HC1.out W h).2.trans (b.mono (HC1.out W h).2.size)))
  have hc0 := HC2.out _ (show Rw (w.alloc (.cells #[.int .i64 bb, .int .i64 p, .slice A n c, .slice A' n' c'] 104)).drew _ _ _ from R0.out) B0.out.drew
  have HS := Lib.hid (fun (W : World) => implSizes_any n bb p rs W hrs)
  have HLP := Lib.hid (fun (W : World) (q : (n : Int) ≤ 9223372036854775807) => logicalPages_any bb p A A' n c n' c' W q)
  clear hC
  by_cases gs : SizeOk n bb p
  case neg =>
    obtain rfl : rs = false := not_true hrs gs
    obtain rfl : r = false := not_true hr (fun e => by
      obtain ⟨X1, X2, X3, e', _, _, hn, _⟩ := h1
      injection e' with e1 e2 e3
      subst e2
      have := e.1; simp only [hn] at this; exact gs this)
    have hnm : (n : Int) ≤ 9223372036854775807 := by
      obtain ⟨X1, X2, X3, e', q1, q2, hn, _⟩ := h1
      injection e' with e1 e2 e3
      omega
    clear h1 h2 hr hrs gs hl hW
    go_enter Try.func160, Try.ntmps160
    go_wp2_with fail
    refine wp_region_own (by kernel_rfl) (by kernel_rfl) hc0 ?_
    repeat (first
      | go_big_quiet_skip
      | (go_big_quiet_want
         go_big_quiet_op
         first
           | go_big_quiet_on
           | (apply Exists.intro
              refine ⟨fun W hW => ?_, ?_⟩
              · (first
                  | rfl
                  | (go_at_call 210
                     refine (HLP.out _ hnm).mono ?_
                     rintro e w1 ⟨rfl, b⟩
                     exact ⟨rfl, HC3.out _ _ hW b⟩)
                  | (go_at_call 209
                     refine (HS.out _).mono ?_
                     rintro e w1 ⟨rfl, b⟩
                     exact ⟨rfl, HC3.out _ _ hW b⟩)
                  | (obtain ⟨k0, k1, k2, k3⟩ := (HC1.out _ hW).1.four
                     simp only [k0, k1, k2, k3, Result.andThen]
                     exact ⟨trivial, rfl⟩))
              go_big_quiet_on)))
    refine wpQuiet_nil ?_
    intro w1 hw1
    have HW1 := Lib.hid (HC1.out _ hw1).2
    clear hw1 hc0
    go_wp2
    go_ret
    exact ⟨rfl, HW1.out⟩
  obtain rfl : rs = true := hrs.2 gs
  obtain ⟨X1, X2, X3, e', q1, q2, hn, hA⟩ := h1
  obtain ⟨rfl, rfl, rfl⟩ : A = X1 ∧ n = X2 ∧ c = X3 := by injection e' with e1 e2 e3; exact ⟨e1, e2, e3⟩
  clear e'
  obtain ⟨X1, X2, X3, e', q3, q4, hn', hA'⟩ := h2
  obtain ⟨rfl, rfl, rfl⟩ : A' = X1 ∧ n' = X2 ∧ c' = X3 := by injection e' with e1 e2 e3; exact ⟨e1, e2, e3⟩
  clear e'
  have hr' : r = true ↔ (n' = n ∧ ∀ i, i < n → EntOk (bb * p) mp tr i) := by
    rw [hr, PmOk]
    simp only [hn, hn']
    exact ⟨fun e => e.2, fun e => ⟨gs, e⟩⟩
  have hnm : (n : Int) ≤ 9223372036854775807 := by omega
  have hnm' : (n' : Int) ≤ 9223372036854775807 := by omega
  by_cases e1 : n' = n
  case neg =>
    obtain rfl : r = false := not_true hr' (fun e => e1 e.1)
    have d1 : ((n' : Int) == (n : Int)) = false := by simp; omega
    clear hA hA' hr hr' hrs gs hl hW e1
    go_enter Try.func160, Try.ntmps160
    go_wp2_with fail
    refine wp_region_own (by kernel_rfl) (by kernel_rfl) hc0 ?_
    repeat (first
      | go_big_quiet_skip
      | (go_big_quiet_want
         go_big_quiet_op
         first
           | go_big_quiet_on
           | (apply Exists.intro
              refine ⟨fun W hW => ?_, ?_⟩
              · (first
                  | rfl
                  | (go_at_call 210
                     refine (HLP.out _ hnm).mono ?_
                     rintro e w1 ⟨rfl, b⟩
                     exact ⟨rfl, HC3.out _ _ hW b⟩)
                  | (go_at_call 209
                     refine (HS.out _).mono ?_
                     rintro e w1 ⟨rfl, b⟩
                     exact ⟨rfl, HC3.out _ _ hW b⟩)
                  | (obtain ⟨k0, k1, k2, k3⟩ := (HC1.out _ hW).1.four
                     simp only [k0, k1, k2, k3, Result.andThen]
                     exact ⟨trivial, rfl⟩))
              go_big_quiet_on)))
    refine wpQuiet_nil ?_
    intro w1 hw1
    have HW1 := Lib.hid (HC1.out _ hw1).2
    clear hw1 hc0
    go_wp2
    go_ret
    exact ⟨rfl, HW1.out⟩
  subst e1
  have d1 : ((n' : Int) == (n' : Int)) = true := by simp
  have hH2 := gs.2.2.2
  have hH1 := gs.le
  have HV := Lib.hid (fun (W : World) (hb : Below w.heap.size w W) => validRecords_any bb p (bb * p) mp tr A A' n' c c' r W hi (IntWalk.i64_in _ (by omega)) hH2 ⟨A, n', c, rfl, q1, q2, hn, fun h0 => by
      obtain ⟨b, off, rfl, hbl, hx⟩ := hA h0
      exact ⟨b, off, rfl, hbl, fun i hi => (hb.cell (p := ⟨b, off + i, none⟩) (by show b < _; omega)).trans (hx i hi)⟩⟩ ⟨A', n', c', rfl, q3, q4, hn', fun h0 => by
      obtain ⟨b, off, rfl, hbl, hx⟩ := hA' h0
      exact ⟨b, off, rfl, hbl, fun i hi => (hb.cell (p := ⟨b, off + i, none⟩) (by show b < _; omega)).trans (hx i hi)⟩⟩ (Nat.le_trans hh hb.size) hW.2 (by unfold PmSz at hl; simp only at hl; omega) (hr'.trans ⟨fun e => e.2, fun e => ⟨rfl, e⟩⟩))
  clear hA hA' hr hr' hrs gs hl hW hH1 hH2
  go_enter Try.func160, Try.ntmps160
  go_wp2_with fail
  refine wp_region_own (by kernel_rfl) (by kernel_rfl) hc0 ?_
  repeat (first
    | go_big_quiet_skip
    | (go_big_quiet_want
       go_big_quiet_op
       first
         | go_big_quiet_on
         | (apply Exists.intro
            refine ⟨fun W hW => ?_, ?_⟩
            · (first
                | rfl
                | (go_at_call 210
                   refine (HLP.out _ hnm).mono ?_
                   rintro e w1 ⟨rfl, b⟩
                   exact ⟨rfl, HC3.out _ _ hW b⟩)
                | (go_at_call 209
                   refine (HS.out _).mono ?_
                   rintro e w1 ⟨rfl, b⟩
                   exact ⟨rfl, HC3.out _ _ hW b⟩)
                | (go_at_call 211
                   refine (HV.out _ (HC1.out _ hW).2).mono ?_
                   rintro e w1 ⟨rfl, b⟩
                   exact ⟨rfl, HC3.out _ _ hW b⟩)
                | (obtain ⟨k0, k1, k2, k3⟩ := (HC1.out _ hW).1.four
                   simp only [k0, k1, k2, k3, Result.andThen]
                   exact ⟨trivial, rfl⟩))
            go_big_quiet_on)))
  refine wpQuiet_nil ?_
  intro w1 hw1
  have HW1 := Lib.hid (HC1.out _ hw1).2
  clear hw1 hc0
  go_wp2
  go_ret
  exact ⟨rfl, HW1.out⟩
end Go.Proofs.Ytainlanblpccjaa
