/- The proof's own lemmas, part 63: TbK. -/
import Derived.Test.YtainlanblpccjaaProg
import Derived.Test.YtainlanblpccjaaMg19
import Derived.Test.YtainlanblpccjaaMg61
import Derived.Test.YtainlanblpccjaaMg7
import Derived.Test.YtainlanblpccjaaMg13
/- Which tables of bad blocks are valid, in the program and in the model: the contracts. -/
namespace Go.Proofs.Ytainlanblpccjaa
open Go.RowKit
set_option linter.unusedVariables false
set_option linter.unusedSimpArgs false
theorem TbShape.of {T : Tb} (h : TbOk T) : TbShape T := h.1
set_option maxHeartbeats 8000000 in
set_option maxRecDepth 100000 in
theorem implTbOk_any (u : Value) (T : Tb) (r : Bool) (w : World) (hi : Nat) (h : TbIn w hi u T) (hh : hi ≤ w.heap.size) (hr : r = true ↔ TbOk T) (hl : TbSz T) (hW : TbW T) :
    Calls Try.prog 150 #[u] w fun e w' => e = .returned (.bool r) ∧ Below w.heap.size w w' := by
  obtain ⟨a, y, rfl, ha, hy⟩ := h
  unfold TbSz at hl
  obtain ⟨rg, hg⟩ := prop_dec' (GeoOk T.d T.b T.p)
  obtain ⟨rs, hrs⟩ := prop_dec' ((1 ≤ T.sp ∧ T.sp ≤ 4) ∧ T.sp < T.b - 1)
  obtain ⟨rr, hrr⟩ := prop_dec' (Rises T.bad (T.d * T.b))
  have HG := Lib.hid (fun (W : World) => implGeo_any T.d T.b T.p rg W hg)
  have HSP := Lib.hid (fun (g : GeoOk T.d T.b T.p) (W : World) => validSpare_any T.d T.b T.p T.sp rs W g hrs)
  have HTO := Lib.hid (fun (g : GeoOk T.d T.b T.p) (W : World) => total_any T.d T.b T.p W g)
  have HIN := Lib.hid (fun (W : World) (b : Below w.heap.size w W) => increasing_any a T.bad (T.d * T.b) rr W hi (ha.below b hh) hrr (by omega))
  obtain ⟨A, n, c, rfl⟩ := ha.slice
  obtain ⟨A', n', c', rfl⟩ := hy.slice
  obtain ⟨d, b, p, sp, bad, rm⟩ := T
  unfold tbc
  simp only at *
  have HRM := Lib.hid (fun (q : TbShape ⟨d, b, p, sp, bad, rm⟩) (W : World) (bl : Below w.heap.size w W) => validRemap_any d b p sp bad rm A A' n c n' c' r W hi q (ha.below bl hh) (hy.below bl hh) (Nat.le_trans hh bl.size) hW.2.2 (by omega) (by omega) (by rw [hr, TbOk]; simp only [Tb.prim]; exact ⟨fun e => e.2, fun e => ⟨q, e⟩⟩))
  have HR := Lib.hid hr
  obtain ⟨C, hC⟩ : ∃ C : World → Prop, C = fun W => Rw W w.heap.size 75 #[.int .i64 d, .int .i64 b, .int .i64 p, .int .i64 sp, .slice A n c, .slice A' n' c'] ∧ Below w.heap.size w W := ⟨_, rfl⟩
  have HC1 := Lib.hid (fun (W : World) (h : C W) => show Rw W w.heap.size 75 #[.int .i64 d, .int .i64 b, .int .i64 p, .int .i64 sp, .slice A n c, .slice A' n' c'] ∧ Below w.heap.size w W by rw [hC] at h; exact h)
  have HC3 := Lib.hid (fun (W W' : World) (h : C W) (b : Below W.heap.size W W') => show C W' by rw [hC] at h ⊢; exact ⟨h.1.below b h.1.lt, h.2.trans (b.mono h.2.size)⟩)
  have hc0 : C (w.alloc (.cells #[.int .i64 d, .int .i64 b, .int .i64 p, .int .i64 sp, .slice A n c, .slice A' n' c'] 75)).drew := by rw [hC]; exact ⟨Rw.new w _ _, ((Below.refl w.heap.size w).alloc (Nat.le_refl _) _).drew⟩
  clear hC ha hy hr hl hW
  by_cases g : GeoOk d b p
  case neg =>
    obtain rfl : rg = false := not_true hg g
    obtain rfl : r = false := not_true HR.out (fun e => g e.1.1)
    clear HR HSP HTO HIN HRM hg g hrr hrs
    go_enter Try.func150, Try.ntmps150
    go_wp2_with fail
    refine wp_region_own (by kernel_rfl) (by kernel_rfl) hc0 ?_
    repeat (first
      | go_big_quiet_skip
      | (go_big_quiet_want
         go_big_quiet_op
         first
           | go_big_quiet_on
           | (apply Exists.intro
              refine ⟨fun W hW => ?_, ?_⟩
              · (first
                  | rfl
                  | (go_at_call 135
                     refine (HG.out _).mono ?_
                     rintro e w1 ⟨rfl, b⟩
                     exact ⟨rfl, HC3.out _ _ hW b⟩)
                  | (obtain ⟨k0, k1, k2, k3, k4, k5⟩ := (HC1.out _ hW).1.six
                     simp only [k0, k1, k2, k3, k4, k5, Result.andThen]
                     exact ⟨trivial, rfl⟩))
              go_big_quiet_on)))
    refine wpQuiet_nil ?_
    intro w1 hw1
    have HB1 := Lib.hid (HC1.out _ hw1).2
    clear hw1 hc0
    go_wp2
    go_ret
    exact ⟨rfl, HB1.out⟩
  obtain rfl : rg = true := hg.2 g
  have HSP1 := Lib.hid (fun (W : World) => HSP.out g W)
  have HTO1 := Lib.hid (fun (W : World) => HTO.out g W)
  clear hg HSP HTO
  cases rs with
  | false =>
    obtain rfl : r = false := not_true HR.out (fun e => by have := hrs.2 ⟨e.1.2.1, e.1.2.2.1⟩; cases this)
    clear HR HTO1 HIN HRM g hrr hrs
    go_enter Try.func150, Try.ntmps150
    go_wp2_with fail
    refine wp_region_own (by kernel_rfl) (by kernel_rfl) hc0 ?_
    repeat (first
      | go_big_quiet_skip
      | (go_big_quiet_want
         go_big_quiet_op
         first
           | go_big_quiet_on
           | (apply Exists.intro
              refine ⟨fun W hW => ?_, ?_⟩
              · (first
                  | rfl
                  | (go_at_call 135
                     refine (HG.out _).mono ?_
                     rintro e w1 ⟨rfl, b⟩
                     exact ⟨rfl, HC3.out _ _ hW b⟩)
                  | (go_at_call 136
                     refine (HSP1.out _).mono ?_
                     rintro e w1 ⟨rfl, b⟩
                     exact ⟨rfl, HC3.out _ _ hW b⟩)
                  | (obtain ⟨k0, k1, k2, k3, k4, k5⟩ := (HC1.out _ hW).1.six
                     simp only [k0, k1, k2, k3, k4, k5, Result.andThen]
                     exact ⟨trivial, rfl⟩))
              go_big_quiet_on)))
    refine wpQuiet_nil ?_
    intro w1 hw1
    have HB1 := Lib.hid (HC1.out _ hw1).2
    clear hw1 hc0
    go_wp2
    go_ret
    exact ⟨rfl, HB1.out⟩
  | true =>
  cases rr with
  | false =>
    obtain rfl : r = false := not_true HR.out (fun e => by have := hrr.2 e.1.2.2.2; cases this)
    clear HR HRM g hrr hrs
    generalize d * b = H at *
    go_enter Try.func150, Try.ntmps150
    go_wp2_with fail
    refine wp_region_own (by kernel_rfl) (by kernel_rfl) hc0 ?_
    repeat (first
      | go_big_quiet_skip
      | (go_big_quiet_want
         go_big_quiet_op
         first
           | go_big_quiet_on
           | (apply Exists.intro
              refine ⟨fun W hW => ?_, ?_⟩
              · (first
                  | rfl
                  | (go_at_call 135
                     refine (HG.out _).mono ?_
                     rintro e w1 ⟨rfl, b⟩
                     exact ⟨rfl, HC3.out _ _ hW b⟩)
                  | (go_at_call 136
                     refine (HSP1.out _).mono ?_
                     rintro e w1 ⟨rfl, b⟩
                     exact ⟨rfl, HC3.out _ _ hW b⟩)
                  | (go_at_call 138
                     refine (HTO1.out _).mono ?_
                     rintro e w1 ⟨rfl, b⟩
                     exact ⟨rfl, HC3.out _ _ hW b⟩)
                  | (go_at_call 137
                     refine (HIN.out _ (HC1.out _ hW).2).mono ?_
                     rintro e w1 ⟨rfl, rfl⟩
                     exact ⟨rfl, hW⟩)
                  | (obtain ⟨k0, k1, k2, k3, k4, k5⟩ := (HC1.out _ hW).1.six
                     simp only [k0, k1, k2, k3, k4, k5, Result.andThen]
                     exact ⟨trivial, rfl⟩))
              go_big_quiet_on)))
    refine wpQuiet_nil ?_
    intro w1 hw1
    have HB1 := Lib.hid (HC1.out _ hw1).2
    clear hw1 hc0
    go_wp2
    go_ret
    exact ⟨rfl, HB1.out⟩
  | true =>
  have HRM1 := Lib.hid (fun (W : World) (bl : Below w.heap.size w W) => HRM.out ⟨g, (hrs.1 rfl).1, (hrs.1 rfl).2, hrr.1 rfl⟩ W bl)
  clear HR HRM g hrr hrs
  generalize d * b = H at *
  go_enter Try.func150, Try.ntmps150
  go_wp2_with fail
  refine wp_region_own (by kernel_rfl) (by kernel_rfl) hc0 ?_
  repeat (first
    | go_big_quiet_skip
    | (go_big_quiet_want
       go_big_quiet_op
       first
         | go_big_quiet_on
         | (apply Exists.intro
            refine ⟨fun W hW => ?_, ?_⟩
            · (first
                | rfl
                | (go_at_call 135
                   refine (HG.out _).mono ?_
                   rintro e w1 ⟨rfl, b⟩
                   exact ⟨rfl, HC3.out _ _ hW b⟩)
                | (go_at_call 136
                   refine (HSP1.out _).mono ?_
                   rintro e w1 ⟨rfl, b⟩
                   exact ⟨rfl, HC3.out _ _ hW b⟩)
                | (go_at_call 138
                   refine (HTO1.out _).mono ?_
                   rintro e w1 ⟨rfl, b⟩
                   exact ⟨rfl, HC3.out _ _ hW b⟩)
                | (go_at_call 137
                   refine (HIN.out _ (HC1.out _ hW).2).mono ?_
                   rintro e w1 ⟨rfl, rfl⟩
                   exact ⟨rfl, hW⟩)
                | (go_at_call 195
                   refine (HRM1.out _ (HC1.out _ hW).2).mono ?_
                   rintro e w1 ⟨rfl, b⟩
                   exact ⟨rfl, HC3.out _ _ hW b⟩)
                | (obtain ⟨k0, k1, k2, k3, k4, k5⟩ := (HC1.out _ hW).1.six
                   simp only [k0, k1, k2, k3, k4, k5, Result.andThen]
                   exact ⟨trivial, rfl⟩))
            go_big_quiet_on)))
  refine wpQuiet_nil ?_
  intro w1 hw1
  have HB1 := Lib.hid (HC1.out _ hw1).2
  clear hw1 hc0
  go_wp2
  go_ret
  exact ⟨rfl, HB1.out⟩
theorem NI.take {w : World} {hi n c k : Nat} {A : Option Addr} {l : List Int} (h : NI w hi (.slice A n c) l) (hk : k ≤ n) : NI w hi (.slice A k c) (l.take k) := by
  obtain ⟨A', n', c', e, h1, h2, hl, hx⟩ := h
  injection e with e1 e2 e3
  subst e1 e2 e3
  refine ⟨A, k, c, rfl, by omega, h2, by rw [List.length_take]; omega, fun h0 => ?_⟩
  obtain ⟨b, off, rfl, hb, hc⟩ := hx (by omega)
  refine ⟨b, off, rfl, hb, fun i hi => ?_⟩
  rw [hc i (by omega), List.getD_eq_getElem?_getD, List.getD_eq_getElem?_getD, List.getElem?_take, if_pos hi]
set_option maxHeartbeats 8000000 in
set_option maxRecDepth 100000 in
theorem specTbOk_any (u : Value) (T : Tb) (r : Bool) (w : World) (hi : Nat) (h : TbIn w hi u T) (hh : hi ≤ w.heap.size) (hr : r = true ↔ TbOk T) (hl : TbSz T) :
    Calls Try.prog 145 #[u] w fun e w' => e = .returned (.bool r) ∧ Below w.heap.size w w' := by
  obtain ⟨rs, hrs⟩ := prop_dec' (TbShape T)
  have HS := Lib.hid (fun (W : World) (b : Below w.heap.size w W) => specShape_any u T rs W hi (h.below b hh) (Nat.le_trans hh b.size) hrs (by unfold TbSz at hl; omega))
  obtain ⟨a, y, rfl, ha, hy⟩ := h
  unfold TbSz at hl
  have HHB := Lib.hid (fun (x : Int) (q : Bool) (hq : q = true ↔ x ∈ T.bad) (W : World) (b : Below w.heap.size w W) => has_any a T.bad x q W hi (ha.below b hh) hq (by omega))
  have HSO := Lib.hid (fun (q : TbShape T) (die x : Int) (h0 : 0 ≤ die) (h1 : die ≤ 2) (rq : Bool) (hq : rq = true ↔ SpareOf T die x) (W : World) => spareOf_any T a y die x rq W q h0 h1 hq)
  have HHO := Lib.hid (fun (q : TbShape T) (i : Int) (h0 : 0 ≤ i) (h1 : i ≤ 40) (W : World) => home_any T a y i W q h0 h1)
  obtain ⟨A, n, c, rfl⟩ := ha.slice
  obtain ⟨A', n', c', rfl⟩ := hy.slice
  have HHT := Lib.hid (fun (k : Nat) (hk : k ≤ n') (x : Int) (q : Bool) (hq : q = true ↔ x ∈ T.rm.take k) (W : World) (b : Below w.heap.size w W) => has_any _ (T.rm.take k) x q W hi ((hy.take hk).below b hh) hq (by rw [List.length_take]; omega))
  have hn' : T.rm.length = n' := by obtain ⟨X1, X2, X3, e, _, _, hn, _⟩ := hy; injection e with e1 e2 e3; omega
  have HX := Lib.hid (fun (W : World) (b : Below w.heap.size w W) => (hy.below b hh))
  have HR := Lib.hid hr
  have HN := Lib.hid hn'
  have hnm : (n' : Int) ≤ 1048576 := by omega
  have HH := Lib.hid hh
  clear ha hy hr hl hn'
  obtain ⟨C, hC⟩ : ∃ C : World → Prop, C = fun W => Rw W w.heap.size 75 (tbc T (.slice A n c) (.slice A' n' c')) ∧ Below w.heap.size w W := ⟨_, rfl⟩
  have HC1 := Lib.hid (fun (W : World) (h : C W) => show Rw W w.heap.size 75 (tbc T (.slice A n c) (.slice A' n' c')) ∧ Below w.heap.size w W by rw [hC] at h; exact h)
  have HC2 := Lib.hid (fun (W : World) (h1 : Rw W w.heap.size 75 (tbc T (.slice A n c) (.slice A' n' c'))) (h2 : Below w.heap.size w W) => show C W by rw [hC]; exact ⟨h1, h2⟩)
  have HC3 := Lib.hid (fun (W W' : World) (h : C W) (b : Below W.heap.size W W') => show C W' by rw [hC] at h ⊢; exact ⟨h.1.below b h.1.lt, h.2.trans (b.mono h.2.size)⟩)
  clear hC
  have R0 := Lib.hid (Rw.new w 75 (tbc T (.slice A n c) (.slice A' n' c')))
  have B0 := Lib.hid ((Below.refl w.heap.size w).alloc (Nat.le_refl _) (.cells (tbc T (.slice A n c) (.slice A' n' c')) 75))
  have hz0 : (w.alloc (.cells (tbc T (.slice A n c) (.slice A' n' c')) 75)).heap.size = w.heap.size + 1 := by simp
  have HS1 := Lib.hid (HS.out _ B0.out)
  unfold tbc at *
  obtain ⟨q0, q1, q2, q3, q4, q5⟩ := R0.out.six
  cases rs with
  | false =>
    obtain rfl : r = false := not_true HR.out (fun e => by have := hrs.2 e.1; cases this)
    clear HR HS HHB HSO HHO HHT HX hrs HC1 HC2 HC3
    go_enter Try.func145, Try.ntmps145
    go_wp2_with fail
    refine HS1.out.mono ?_
    rintro e w1 ⟨rfl, b1⟩
    have B1 := Lib.hid (B0.out.trans (b1.mono (by simp)))
    clear b1
    go_wp2
    go_ret
    exact ⟨rfl, B1.out⟩
  | true =>
  have hsh := hrs.1 rfl
  obtain ⟨n1, n2, n3, n4, n5, n6, n7, n8, n9, n10, n11⟩ := hsh.nums
  have hln := hsh.rmLen
  have HSH := Lib.hid hsh
  have hw1 : IntKind.i64.wrap (T.b - T.sp) = T.prim := by rw [← n9]; exact IntWalk.i64_in _ (by omega)
  obtain ⟨Q, hQ⟩ : ∃ Q, Q = T.d * T.prim := ⟨_, rfl⟩
  have hw2 : IntKind.i64.wrap (T.d * T.prim) = Q := by rw [hQ]; exact IntWalk.i64_in _ (by omega)
  have HD := Lib.hid (fun (i : Nat) (hi : (i : Int) < T.d * T.prim) => show (0 ≤ T.home i ∧ T.home i ≤ 36) ∧ (0 ≤ T.home i / T.b ∧ T.home i / T.b ≤ 2) from by
    obtain ⟨e1, e2, e3, e4, e5⟩ := home_die hsh (i := (i : Int)) (by omega)
    have e6 := die_lt hsh (i := (i : Int)) (by omega) hi
    have e7 := home_lt hsh (i := (i : Int)) (by omega) hi
    exact ⟨by omega, by omega⟩)
  have hb0 : T.b ≠ 0 := by omega
  by_cases hlen : (n' : Int) = T.d * T.prim
  case neg =>
    obtain rfl : r = false := not_true HR.out (fun e => hlen (by rw [← HN.out]; exact e.2.1))
    have nn : ((n' : Int) != Q) = true := by rw [hQ]; simpa using hlen
    clear HR HS HHB HSO HHO HHT HX hrs HC1 HC2 HC3 hsh HD n1 n2 n3 n4 n5 n6 n7 n8 n9 n10 n11 hln HSH hlen hQ
    go_enter Try.func145, Try.ntmps145
    go_wp2_with fail
    refine HS1.out.mono ?_
    rintro e w1 ⟨rfl, b1⟩
    have B1 := Lib.hid (B0.out.trans (b1.mono (by simp)))
    have R1 := Lib.hid (R0.out.below b1 (by simp))
    clear b1 q0 q1 q2 q3 q4 q5
    obtain ⟨q0, q1, q2, q3, q4, q5⟩ := R1.out.six
    go_wp2
    go_ret
    exact ⟨rfl, B1.out⟩
  have nn : ((n' : Int) != Q) = false := by rw [hQ]; simpa using hlen
  have HEN := Lib.hid (show r = true ↔ ∀ i, i < n' → EntryOk T i by
    rw [HR.out, TbOk, HN.out]
    exact ⟨fun e => e.2.2, fun e => ⟨hsh, hlen, e⟩⟩)
  have HLT := Lib.hid (fun (i : Nat) (h : i < n') => show (i : Int) < T.d * T.prim by rw [← hlen]; omega)
  have hn40 : n' ≤ 40 := by omega
  clear HR HS hrs hsh n9 n10 n11 hln hlen hQ
  go_enter Try.func145, Try.ntmps145
  go_wp2_with fail
  refine HS1.out.mono ?_
  rintro e w1 ⟨rfl, b1⟩
  have B1 := Lib.hid (B0.out.trans (b1.mono (by simp)))
  have R1 := Lib.hid (R0.out.below b1 (by simp))
  clear b1 q0 q1 q2 q3 q4 q5 R0 B0 HS1
  obtain ⟨q0, q1, q2, q3, q4, q5⟩ := R1.out.six
  go_wp2
  clear q0 q1 q2 q3 q4 q5 nn hw2
  go_loopw [3] (fun i wr => ∃ k : Nat, k ≤ n' ∧ i = .int .i64 k ∧ Hid (∀ j, j < k → EntryOk T j) ∧ Hid (Rw wr w.heap.size 75 (tbc T (.slice A n c) (.slice A' n' c'))) ∧ Hid (Below w.heap.size w wr)) (fun i _ => n' - (intOf i).toNat)
  case atStart => exact ⟨0, by omega, rfl, Lib.hid (fun j hj => by omega), R1, B1⟩
  case round =>
    obtain ⟨k, hk, rfl, HE, HRW, HB⟩ := hrel
    obtain ⟨q0, q1, q2, q3, q4, q5⟩ := HRW.out.six
    by_cases hlt : k < n'
    · have hki : (k : Int) < (n' : Int) := by omega
      have HHK := Lib.hid (fun (W : World) => HHO.out HSH.out (k : Int) (by omega) (by omega) W)
      obtain ⟨⟨m0, m1⟩, m2, m3⟩ := HD.out k (HLT.out k hlt)
      have HF := Lib.hid (fun (e : ¬ EntryOk T k) => not_true HEN.out (fun f => e (f k hlt)))
      have HY := Lib.hid (fun (e : EntryOk T k) => show ∀ j, j < k + 1 → EntryOk T j from fun j hj => by
        by_cases f : j = k
        · subst f; exact e
        · exact HE.out j (by omega))
      obtain ⟨z, hz⟩ : ∃ z, z = T.rm.getD k 0 := ⟨_, rfl⟩
      obtain ⟨rb, hrb'⟩ := prop_dec' (z ∈ T.bad)
      have HRB := Lib.hid hrb'
      clear hrb'
      obtain ⟨rt, hrt'⟩ := prop_dec' (z ∈ T.rm.take k)
      have HRT := Lib.hid hrt'
      clear hrt'
      unfold EntryOk at HF HY
      rw [← hz] at HF HY
      have HZ := Lib.hid hz
      clear HE hz
      obtain ⟨hm, hhm⟩ : ∃ m, m = T.home k := ⟨_, rfl⟩
      rw [← hhm] at HF HY HHK m0 m1 m2 m3
      have htd : hm.tdiv T.b = hm / T.b := Int.tdiv_eq_ediv_of_nonneg m0
      have hwd : IntKind.i64.wrap (hm / T.b) = hm / T.b := IntWalk.i64_in _ (by omega)
      obtain ⟨rq, hrq'⟩ := prop_dec' (SpareOf T (hm / T.b) z)
      have HRQ := Lib.hid hrq'
      clear hrq'
      obtain ⟨rh, hrh'⟩ := prop_dec' (hm ∈ T.bad)
      have HRH := Lib.hid hrh'
      clear hrh'
      have HSQ := Lib.hid (fun (W : World) => HSO.out HSH.out (hm / T.b) z m2 m3 rq HRQ.out W)
      have HHH := Lib.hid (fun (W : World) (b : Below w.heap.size w W) => HHB.out hm rh HRH.out W b)
      have HHZ := Lib.hid (fun (W : World) (b : Below w.heap.size w W) => HHB.out z rb HRB.out W b)
      have HHTZ := Lib.hid (fun (W : World) (b : Below w.heap.size w W) => HHT.out k hk z rt HRT.out W b)
      clear hhm HHO HSO HHB HHT HD HLT
      generalize hm / T.b = dd at *
      go_wp2_with fail
      refine (HHK.out _).mono ?_
      rintro e w2 ⟨rfl, b2⟩
      have B2 := Lib.hid (HB.out.trans (b2.mono HB.out.size))
      have R2 := Lib.hid (HRW.out.below b2 HRW.out.lt)
      clear b2 q0 q1 q2 q3 q4 q5 HB HRW HHK
      obtain ⟨q0, q1, q2, q3, q4, q5⟩ := R2.out.six
      obtain ⟨X1, X2, X3, e', _, hcm, hx3, hxc⟩ := HX.out w2 B2.out
      obtain ⟨rfl, rfl, rfl⟩ : A' = X1 ∧ n' = X2 ∧ c' = X3 := by injection e' with e1 e2 e3; exact ⟨e1, e2, e3⟩
      obtain ⟨pb, po, rfl, hp2, hpx⟩ := hxc (by omega)
      have e1 := hpx k hlt
      rw [← HZ.out] at e1
      have hkc : k ≤ c' := by omega
      clear e' hxc hpx
      go_wp2_with fail
      refine (HHZ.out _ B2.out).mono ?_
      rintro e w3 ⟨rfl, rfl⟩
      cases rb with
      | true =>
        have HG := Lib.hid (HF.out (fun e => e.1 (HRB.out.1 rfl)))
        clear HF HY HHTZ HSQ HHH HRB HRT HRQ HRH
        go_wp2
        go_ret
        exact ⟨ret_bool HG.out.symm, B2.out⟩
      | false =>
      go_wp2_with fail
      refine (HHTZ.out _ B2.out).mono ?_
      rintro e w3 ⟨rfl, rfl⟩
      cases rt with
      | true =>
        have HG := Lib.hid (HF.out (fun e => e.2.1 (HRT.out.1 rfl)))
        clear HF HY HHTZ HSQ HHH HRB HRT HRQ HRH
        go_wp2
        go_ret
        exact ⟨ret_bool HG.out.symm, B2.out⟩
      | false =>
      have HNB : Hid (¬ z ∈ T.bad) := Lib.hid (fun e => by have := HRB.out.2 e; cases this)
      have HNT : Hid (¬ z ∈ T.rm.take k) := Lib.hid (fun e => by have := HRT.out.2 e; cases this)
      have hc0 : C w2.drew := HC2.out _ (show Rw w2.drew _ _ _ from R2.out) B2.out.drew
      by_cases hzm : z = hm
      · have d1 : (z != hm) = false := by simpa using hzm
        have HG := Lib.hid (HY.out ⟨HNB.out, HNT.out, .inl hzm⟩)
        clear HF HY HHTZ HRB HRT HRQ HRH HNB HNT hzm
        go_wp2_with fail
        refine wp_region_own (by kernel_rfl) (by kernel_rfl) hc0 ?_
        repeat (first
          | go_big_quiet_skip
          | (go_big_quiet_want
             go_big_quiet_op
             first
               | go_big_quiet_on
               | (apply Exists.intro
                  refine ⟨fun W hW => ?_, ?_⟩
                  · (first
                      | rfl
                      | (go_at_call 194
                         refine (HSQ.out _).mono ?_
                         rintro e w1 ⟨rfl, b⟩
                         exact ⟨rfl, HC3.out _ _ hW b⟩)
                      | (go_at_call 110
                         refine (HHH.out _ (HC1.out _ hW).2).mono ?_
                         rintro e w1 ⟨rfl, rfl⟩
                         exact ⟨rfl, hW⟩)
                      | (obtain ⟨k0, k1, k2, k3, k4, k5⟩ := (HC1.out _ hW).1.six
                         simp only [k0, k1, k2, k3, k4, k5, Result.andThen]
                         exact ⟨trivial, rfl⟩))
                  go_big_quiet_on)))
        refine wpQuiet_nil ?_
        intro w2 hw2
        have HB2 := Lib.hid (HC1.out _ hw2).2
        have RW2 := Lib.hid (HC1.out _ hw2).1
        clear hw2 hc0
        go_wp2
        go_roundw
        case rel => exact ⟨k + 1, by omega, by go_num, HG, RW2, HB2⟩
        case measure => simp [intOf]; omega
      · have d1 : (z != hm) = true := by simpa using hzm
        cases rq with
        | false =>
          have HG := Lib.hid (HF.out (fun e => by
            rcases e.2.2 with h | h
            · exact hzm h
            · have := HRQ.out.2 h.1; cases this))
          clear HF HY HHTZ HRB HRT HRQ HRH HNB HNT hzm
          go_wp2_with fail
          refine wp_region_own (by kernel_rfl) (by kernel_rfl) hc0 ?_
          repeat (first
            | go_big_quiet_skip
            | (go_big_quiet_want
               go_big_quiet_op
               first
                 | go_big_quiet_on
                 | (apply Exists.intro
                    refine ⟨fun W hW => ?_, ?_⟩
                    · (first
                        | rfl
                        | (go_at_call 194
                           refine (HSQ.out _).mono ?_
                           rintro e w1 ⟨rfl, b⟩
                           exact ⟨rfl, HC3.out _ _ hW b⟩)
                        | (go_at_call 110
                           refine (HHH.out _ (HC1.out _ hW).2).mono ?_
                           rintro e w1 ⟨rfl, rfl⟩
                           exact ⟨rfl, hW⟩)
                        | (obtain ⟨k0, k1, k2, k3, k4, k5⟩ := (HC1.out _ hW).1.six
                           simp only [k0, k1, k2, k3, k4, k5, Result.andThen]
                           exact ⟨trivial, rfl⟩))
                    go_big_quiet_on)))
          refine wpQuiet_nil ?_
          intro w2 hw2
          have HB2 := Lib.hid (HC1.out _ hw2).2
          have RW2 := Lib.hid (HC1.out _ hw2).1
          clear hw2 hc0
          go_wp2
          go_ret
          exact ⟨ret_bool HG.out.symm, HB2.out⟩
        | true =>
        cases rh with
        | false =>
          have HG := Lib.hid (HF.out (fun e => by
            rcases e.2.2 with h | h
            · exact hzm h
            · have := HRH.out.2 h.2; cases this))
          clear HF HY HHTZ HRB HRT HRQ HRH HNB HNT hzm
          go_wp2_with fail
          refine wp_region_own (by kernel_rfl) (by kernel_rfl) hc0 ?_
          repeat (first
            | go_big_quiet_skip
            | (go_big_quiet_want
               go_big_quiet_op
               first
                 | go_big_quiet_on
                 | (apply Exists.intro
                    refine ⟨fun W hW => ?_, ?_⟩
                    · (first
                        | rfl
                        | (go_at_call 194
                           refine (HSQ.out _).mono ?_
                           rintro e w1 ⟨rfl, b⟩
                           exact ⟨rfl, HC3.out _ _ hW b⟩)
                        | (go_at_call 110
                           refine (HHH.out _ (HC1.out _ hW).2).mono ?_
                           rintro e w1 ⟨rfl, rfl⟩
                           exact ⟨rfl, hW⟩)
                        | (obtain ⟨k0, k1, k2, k3, k4, k5⟩ := (HC1.out _ hW).1.six
                           simp only [k0, k1, k2, k3, k4, k5, Result.andThen]
                           exact ⟨trivial, rfl⟩))
                    go_big_quiet_on)))
          refine wpQuiet_nil ?_
          intro w2 hw2
          have HB2 := Lib.hid (HC1.out _ hw2).2
          have RW2 := Lib.hid (HC1.out _ hw2).1
          clear hw2 hc0
          go_wp2
          go_ret
          exact ⟨ret_bool HG.out.symm, HB2.out⟩
        | true =>
          have HG := Lib.hid (HY.out ⟨HNB.out, HNT.out, .inr ⟨HRQ.out.1 rfl, HRH.out.1 rfl⟩⟩)
          clear HF HY HHTZ HRB HRT HRQ HRH HNB HNT hzm
          go_wp2_with fail
          refine wp_region_own (by kernel_rfl) (by kernel_rfl) hc0 ?_
          repeat (first
            | go_big_quiet_skip
            | (go_big_quiet_want
               go_big_quiet_op
               first
                 | go_big_quiet_on
                 | (apply Exists.intro
                    refine ⟨fun W hW => ?_, ?_⟩
                    · (first
                        | rfl
                        | (go_at_call 194
                           refine (HSQ.out _).mono ?_
                           rintro e w1 ⟨rfl, b⟩
                           exact ⟨rfl, HC3.out _ _ hW b⟩)
                        | (go_at_call 110
                           refine (HHH.out _ (HC1.out _ hW).2).mono ?_
                           rintro e w1 ⟨rfl, rfl⟩
                           exact ⟨rfl, hW⟩)
                        | (obtain ⟨k0, k1, k2, k3, k4, k5⟩ := (HC1.out _ hW).1.six
                           simp only [k0, k1, k2, k3, k4, k5, Result.andThen]
                           exact ⟨trivial, rfl⟩))
                    go_big_quiet_on)))
          refine wpQuiet_nil ?_
          intro w2 hw2
          have HB2 := Lib.hid (HC1.out _ hw2).2
          have RW2 := Lib.hid (HC1.out _ hw2).1
          clear hw2 hc0
          go_wp2
          go_roundw
          case rel => exact ⟨k + 1, by omega, by go_num, HG, RW2, HB2⟩
          case measure => simp [intOf]; omega
    · obtain rfl : k = n' := by omega
      have hf : r = true := HEN.out.2 HE.out
      subst hf
      clear HEN HE HHO HSO HHB HHT HD HLT HX HC1 HC2 HC3
      go_wp2
      go_ret
      exact ⟨rfl, HB.out⟩
end Go.Proofs.Ytainlanblpccjaa
