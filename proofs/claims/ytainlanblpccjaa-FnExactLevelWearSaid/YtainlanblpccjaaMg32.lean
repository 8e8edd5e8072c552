/- The proof's own lemmas, part 33: WrI WrJ. -/
import Derived.Test.YtainlanblpccjaaProg
import Derived.Test.YtainlanblpccjaaMg14
import Derived.Test.YtainlanblpccjaaShelf
import Derived.Test.YtainlanblpccjaaMg13
import Derived.Test.YtainlanblpccjaaMg8
import Derived.Test.YtainlanblpccjaaMg4
import Derived.Test.YtainlanblpccjaaMg2
import Derived.BigQuiet
import Derived.Deep.QuietTactic
import Derived.StillTailTactics
import Derived.Lib.Hide
import Derived.Test.YtainlanblpccjaaMg6
import Derived.Test.YtainlanblpccjaaMg9
/- The first block in an order, in the program: the contracts. -/
namespace Go.Proofs.Ytainlanblpccjaa
open Go.RowKit
set_option linter.unusedVariables false
set_option linter.unusedSimpArgs false
theorem cmpC_any (x y : Int) (w : World) : Calls Try.prog 104 #[.int .i64 x, .int .i64 y] w fun e w' => e = .returned (.int .i64 (cmpI x y)) ∧ w = w' := by
  have n1 : (x != x) = false := by simp
  have n2 : (y != y) = false := by simp
  unfold cmpI
  by_cases h1 : x < y
  · rw [if_pos h1]
    have d1 : decide (x < y) = true := by simpa using h1
    clear h1
    go_enter Try.func104, Try.ntmps104
    go_wp2
    go_ret
    exact ⟨rfl, rfl⟩
  · rw [if_neg h1]
    have d1 : decide (x < y) = false := by simpa using h1
    by_cases h2 : y < x
    · rw [if_pos h2]
      have d2 : decide (y < x) = true := by simpa using h2
      have d3 : decide (x > y) = true := by simpa using h2
      clear h1 h2
      go_enter Try.func104, Try.ntmps104
      go_wp2
      go_ret
      exact ⟨rfl, rfl⟩
    · rw [if_neg h2]
      have d2 : decide (y < x) = false := by simpa using h2
      have d3 : decide (x > y) = false := by simpa using h2
      clear h1 h2
      go_enter Try.func104, Try.ntmps104
      go_wp2
      go_ret
      exact ⟨rfl, rfl⟩
theorem cmpOr_any (a b : Int) (g c : Nat) (w : World) (h : Rw w g 3 #[.int .i64 a, .int .i64 b]) : Calls Try.prog 172 #[.slice (some ⟨g, 0, none⟩) 2 c] w fun e w' => e = .returned (.int .i64 (orI a b)) ∧ w = w' := by
  have c0 := h.cell 0
  have c1 := h.cell 1
  simp only [List.getElem?_toArray, List.getElem?_cons_zero, List.getElem?_cons_succ] at c0 c1
  have HC := Lib.hid (And.intro c0 c1)
  obtain ⟨v, hv⟩ : ∃ v, v = orI a b := ⟨_, rfl⟩
  rw [← hv]
  have HV := Lib.hid (show v = if a = 0 then b else a from hv)
  clear h c0 c1 hv
  go_enter Try.func172, Try.ntmps172
  go_wp2
  go_loop [8] (fun i => ∃ k : Nat, k ≤ 2 ∧ i = .int .i64 k ∧ Hid (0 < k → a = 0) ∧ Hid (1 < k → b = 0)) (fun i => 2 - (intOf i).toNat)
  case atStart => exact ⟨0, by omega, rfl, Lib.hid (by omega), Lib.hid (by omega)⟩
  case round =>
    obtain ⟨k, hk, rfl, H1, H2⟩ := hrel
    obtain ⟨c0, c1⟩ := HC.out
    obtain rfl | rfl | rfl : k = 0 ∨ k = 1 ∨ k = 2 := by omega
    · by_cases ha : a = 0
      · have d1 : (a != 0) = false := by simpa using ha
        have HA := Lib.hid ha
        clear ha
        go_wp2
        go_round
        case rel => exact ⟨1, by omega, rfl, Lib.hid (fun _ => HA.out), Lib.hid (by omega)⟩
        case measure => simp [intOf]
      · have d1 : (a != 0) = true := by simpa using ha
        have HG := Lib.hid (show v = a by rw [HV.out, if_neg ha])
        clear ha
        go_wp2
        go_ret
        exact ⟨ret_int HG.out.symm, rfl⟩
    · have HG := Lib.hid (show v = b by rw [HV.out, if_pos (H1.out (by omega))])
      by_cases hb : b = 0
      · have d1 : (b != 0) = false := by simpa using hb
        have HA := Lib.hid hb
        clear hb
        go_wp2
        go_round
        case rel => exact ⟨2, by omega, rfl, Lib.hid (fun _ => H1.out (by omega)), Lib.hid (fun _ => HA.out)⟩
        case measure => simp [intOf]
      · have d1 : (b != 0) = true := by simpa using hb
        clear hb
        go_wp2
        go_ret
        exact ⟨ret_int HG.out.symm, rfl⟩
    · have HG := Lib.hid (show v = 0 by rw [HV.out, if_pos (H1.out (by omega)), H2.out (by omega)])
      go_wp2
      go_ret
      exact ⟨ret_int HG.out.symm, rfl⟩
set_option maxHeartbeats 1000000 in
theorem minF_any (u : Value) (l : List Int) (c : Int → Int → Int) (gO : Nat) (w : World) (hi : Nat) (hu : NI w hi u l) (hh : hi ≤ w.heap.size) (h0 : 0 < l.length) (h1 : l.length ≤ 1048576)
    (hc : ∀ (W : World) (i j : Nat), Below w.heap.size w W → i < l.length → j < l.length → Calls Try.prog 171 #[.int .i64 (l.getD i 0), .int .i64 (l.getD j 0), .pointer (some ⟨gO, 0, none⟩)] W fun e w' => e = .returned (.int .i64 (c (l.getD i 0) (l.getD j 0))) ∧ Below W.heap.size W w') :
    Calls Try.prog 170 #[u, .func (.func 171) #[] #[.pointer (some ⟨gO, 0, none⟩)]] w fun e w' => e = .returned (.int .i64 (bestF c l l.length)) ∧ Below w.heap.size w w' := by
  obtain ⟨A, n, cp, rfl, _, _, hn, hA⟩ := hu
  rw [hn] at h0 h1 hc ⊢
  obtain ⟨b, o, rfl, hb1, hx⟩ := hA h0
  have e0 := hx 0 h0
  simp only [Nat.add_zero] at e0
  have d0 : decide ((n : Int) < 1) = false := by simp; omega
  have hnm : (n : Int) ≤ 1048576 := by omega
  have hn0 : (0 : Int) < (n : Int) := by omega
  have HX := Lib.hid hx
  have HB0 := Lib.hid (show b < w.heap.size by omega)
  have HCM := Lib.hid hc
  have HAT := Lib.hid (fun k => bestBy_at c l k)
  have HYES := Lib.hid (fun k h => bestBy_yes (c := c) (l := l) (k := k) h)
  have HNO := Lib.hid (fun k h => bestBy_no (c := c) (l := l) (k := k) h)
  have HF := Lib.hid (show bestF c l n = bestBy c l (n - 1) by obtain ⟨m, rfl⟩ : ∃ m, n = m + 1 := ⟨n - 1, by omega⟩; rfl)
  have B0 := Lib.hid (Below.refl w.heap.size w)
  have HZ := Lib.hid (show l.getD 0 0 = bestBy c l 0 from rfl)
  clear hA hx hc hn h1
  go_enter Try.func170, Try.ntmps170
  go_wp2
  clear d0 e0
  go_loopw [5, 6] (fun m i wr => ∃ (k : Nat) (x : Int), k + 1 ≤ n ∧ i = .int .i64 (((k + 1 : Nat)) : Int) ∧ m = .int .i64 x ∧ Hid (x = bestBy c l k) ∧ Hid (Below w.heap.size w wr)) (fun _ i _ => n - (intOf i).toNat)
  case atStart => exact ⟨0, _, by omega, rfl, rfl, Lib.hid HZ.out, B0⟩
  case round =>
    obtain ⟨k, x, hk, rfl, rfl, HE, HB⟩ := hrel
    by_cases hlt : k + 1 < n
    · have hki : (((k + 1 : Nat)) : Int) < (n : Int) := by omega
      obtain ⟨j, hj, ej⟩ := HAT.out k
      have e1 := (HB.out.cell (p := ⟨b, o + (k + 1), none⟩) HB0.out).trans (HX.out (k + 1) hlt)
      have HC := Lib.hid (fun (W : World) (q : Below wr.heap.size wr W) => HCM.out W (k + 1) j (HB.out.trans (q.mono HB.out.size)) hlt (by omega))
      rw [← ej, ← HE.out] at HC
      have HY := Lib.hid (HYES.out k)
      have HN := Lib.hid (HNO.out k)
      rw [← HE.out] at HY HN
      obtain ⟨y, hy⟩ : ∃ y, y = l.getD (k + 1) 0 := ⟨_, rfl⟩
      rw [← hy] at e1 HC HY HN
      have HRY := Lib.hid hy
      obtain ⟨kk, hkk⟩ : ∃ kk, kk = k + 1 := ⟨_, rfl⟩
      rw [← hkk] at e1 hki HY HN ⊢
      have HKK := Lib.hid hkk
      have hkm : kk < n := by omega
      obtain ⟨v, hv⟩ : ∃ v, v = c y x := ⟨_, rfl⟩
      rw [← hv] at HC HY HN
      clear hv hy ej hj HYES HNO HAT HCM
      by_cases h : v < 0
      · have d1 : decide (v < 0) = true := by simpa using h
        have HG := Lib.hid (HY.out h)
        clear h HY HN hkk
        go_wp2_with fail
        refine (HC.out _ (Below.refl _ _)).mono ?_
        rintro e w1 ⟨rfl, b1⟩
        have HB1 := Lib.hid (HB.out.trans (b1.mono HB.out.size))
        have e2 := (HB1.out.cell (p := ⟨b, o + kk, none⟩) HB0.out).trans (HX.out kk hkm)
        rw [HKK.out, ← HRY.out, ← HKK.out] at e2
        clear b1 e1
        go_wp2
        go_roundw
        case rel => exact ⟨kk, y, by omega, by go_num, rfl, Lib.hid HG.out.symm, HB1⟩
        case measure => simp [intOf] <;> omega
      · have d1 : decide (v < 0) = false := by simpa using h
        have HG := Lib.hid (HN.out (by omega))
        clear h HY HN hkk
        go_wp2_with fail
        refine (HC.out _ (Below.refl _ _)).mono ?_
        rintro e w1 ⟨rfl, b1⟩
        have HB1 := Lib.hid (HB.out.trans (b1.mono HB.out.size))
        clear b1 e1
        go_wp2
        go_roundw
        case rel => exact ⟨kk, x, by omega, by go_num, rfl, Lib.hid HG.out.symm, HB1⟩
        case measure => simp [intOf] <;> omega
    · obtain rfl : n = k + 1 := by omega
      have hki : ¬ ((((k + 1 : Nat)) : Int) < ((k + 1 : Nat) : Int)) := by omega
      go_wp2
      go_ret
      exact ⟨ret_int (by rw [HF.out, HE.out]; rfl), HB.out⟩
theorem firstB_any (gF : Nat) (cb : Array Value) (u : Value) (l : List Int) (o : Int → Int → Int) (w : World) (hi : Nat) (hu : NI w hi u l) (hh : hi ≤ w.heap.size) (h1 : l.length ≤ 1048576)
    (hc : ∀ (W : World) (gO : Nat) (i j : Nat), Below w.heap.size w W → Rw W gO 130 #[.func (.func gF) #[] cb] → i < l.length → j < l.length → Calls Try.prog 171 #[.int .i64 (l.getD i 0), .int .i64 (l.getD j 0), .pointer (some ⟨gO, 0, none⟩)] W fun e w' => e = .returned (.int .i64 (byNum o (l.getD i 0) (l.getD j 0))) ∧ Below W.heap.size W w') :
    Calls Try.prog 102 #[u, .func (.func gF) #[] cb] w fun e w' => e = .returned (.int .i64 (firstV o l)) ∧ Below w.heap.size w w' := by
  have R0 := Rw.new w 130 #[.func (.func gF) #[] cb]
  have b0 := (Below.refl w.heap.size w).alloc (Nat.le_refl _) (.cells #[.func (.func gF) #[] cb] 130)
  have B0 := Lib.hid b0
  have HM := Lib.hid (fun (h0 : 0 < l.length) => minF_any u l (byNum o) w.heap.size (w.alloc (.cells #[.func (.func gF) #[] cb] 130)) hi (hu.below b0 hh) (by simp; omega) h0 h1
    (fun W i j hb hi hj => hc W w.heap.size i j (b0.trans (hb.mono (by simp))) (R0.below hb (by simp)) hi hj))
  have HV := Lib.hid (show firstV o l = bestF (byNum o) l l.length from rfl)
  have HV0 := Lib.hid (fun (e : l.length = 0) => show firstV o l = -1 by rw [HV.out, e]; rfl)
  obtain ⟨A, n, cp, rfl, _, _, hn, hA⟩ := hu
  rw [hn] at HM HV HV0 h1
  generalize bestF (byNum o) l n = bv at *
  generalize firstV o l = fv at *
  have hnm : (n : Int) ≤ 1048576 := by omega
  clear hA hn hc h1 b0 R0
  by_cases h0 : 0 < n
  · have d0 : ((n : Int) == 0) = false := by simp; omega
    have HM1 := Lib.hid (HM.out h0)
    clear HM HV0 h0
    go_enter Try.func102, Try.ntmps102
    go_wp2_with fail
    refine HM1.out.mono ?_
    rintro e w1 ⟨rfl, b1⟩
    have B1 := Lib.hid (B0.out.trans (b1.mono (by simp)))
    clear b1
    go_wp2
    go_ret
    exact ⟨ret_int HV.out.symm, B1.out⟩
  · obtain rfl : n = 0 := by omega
    have HG := Lib.hid (HV0.out rfl)
    clear HM HV HV0 h0
    go_enter Try.func102, Try.ntmps102
    go_wp2
    go_ret
    exact ⟨ret_int HG.out.symm, B0.out⟩
end Go.Proofs.Ytainlanblpccjaa
/- The free block and the gap between the erase counts, in the program: the contracts. -/
namespace Go.Proofs.Ytainlanblpccjaa
open Go.RowKit
set_option linter.unusedVariables false
set_option linter.unusedSimpArgs false
theorem wpList_append_int2 {Q : Exit → Act → World → Prop} {ops : Array Oper} {rest : List Oper} {o : Oper} {a : Act} {w0 wr : World} {B : Nat} (hgd : o.guard = none) (s x : Operand)
    (ho : o.op = .call { callee := .builtin .append, args := #[s, x], argTypes := #[22, 22] })
    (v : Value) (l : List Int) (hs : a.eval s = v) (hown : IntsOwn wr B v l) (hb : Below B w0 wr) (hB : B ≤ wr.heap.size)
    (b : Int) (c : Nat) (hx : a.eval x = .slice (some ⟨wr.heap.size, 0, none⟩) 1 c) (hl : l.length + 1 ≤ 4000000)
    (h : ∀ v' w', IntsOwn w' B v' (l ++ [b]) → Below B w0 w' → wpList Try.prog ops Q rest (a.put o.dst v') w') :
    wpList Try.prog ops Q (o :: rest) a (wr.alloc (.cells #[.int .i64 b] 2)) := by
  obtain ⟨i0, hi, hz0, hz1, hz2⟩ := info_parts info64
  refine wpList_append_own _ hgd s x _ ho B 2 i0 (.int .i64 0) 1 8 Try.underlying22 hi hz0 hz1 hz2 rfl (by decide) v l.length (l.map (Value.int .i64)) hs (World.ownsRow.alloc hown _) ⟨wr.heap.size, 0, none⟩ 1 c [.int .i64 b] hx rfl ?_ ?_ (by unfold maxLen; omega) (by omega) (by simp; omega) ?_
  · intro j u hj
    match j, hj with
    | 0, hj => simp at hj; subst hj; simp [Addr.add]
  · intro u hu; simp at hu; subst hu; rfl
  · intro v' w' h1 h2 _
    refine h v' w' ?_ ?_
    · unfold IntsOwn; simpa using h1
    · exact (hb.alloc hB _).grown h2 (by simp; omega) fun k hk => (World.ownsRow.lt hown k hk).1
theorem getBang (l : List Int) (j : Nat) : l[j]! = l.getD j 0 := by
  rw [List.getD_eq_getElem?_getD]
  simp only [getElem!_def]
  split <;> rename_i h <;> rw [h] <;> rfl
theorem pf1_at (gE : Nat) (A : Option Addr) (n c : Nat) (w : World) (h : Rw w gE 22 #[.slice A n c]) (hn : (n : Int) ≤ 1048576) : PredAt Try.prog 100 #[.pointer (some ⟨gE, 0, none⟩)] (Value.int .i64) (fun x => decide (x < 0) || decide ((n : Int) ≤ x)) w := by
  intro W x hb
  have c0 := (h.below hb h.lt).cell 0
  simp only [List.getElem?_toArray, List.getElem?_cons_zero] at c0
  clear h hb
  show Calls Try.prog 100 #[.int .i64 x, .pointer (some ⟨gE, 0, none⟩)] W fun e w' => e = .returned (.bool (decide (x < 0) || decide ((n : Int) ≤ x))) ∧ ∃ q, w' = W.drewN q
  by_cases h1 : x < 0
  · have d1 : decide (x < 0) = true := by simpa using h1
    rw [d1]
    clear h1
    go_enter Try.func100, Try.ntmps100
    go_wp2
    go_ret
    exact ⟨rfl, 0, rfl⟩
  · have d1 : decide (x < 0) = false := by simpa using h1
    rw [d1]
    obtain ⟨t, ht⟩ : ∃ t, t = decide ((n : Int) ≤ x) := ⟨_, rfl⟩
    have d2 : decide (x ≥ (n : Int)) = t := ht.symm
    rw [← ht]
    have d3 := ht.symm
    clear h1 ht
    go_enter Try.func100, Try.ntmps100
    go_wp2
    go_ret
    exact ⟨rfl, 0, rfl⟩
theorem pf2_any (gH gE : Nat) (er : List Int) (A : Option Addr) (n c : Nat) (hot : Bool) (x y : Int) (w : World) (hi : Nat) (hH : Rw w gH 4 #[.bool hot]) (hE : Rw w gE 22 #[.slice A n c]) (hu : NI w hi (.slice A n c) er) (hl : er.length ≤ 1048576)
    (hx : 0 ≤ x ∧ x < (er.length : Int)) (hy : 0 ≤ y ∧ y < (er.length : Int)) :
    Calls Try.prog 103 #[.int .i64 x, .int .i64 y, .pointer (some ⟨gH, 0, none⟩), .pointer (some ⟨gE, 0, none⟩)] w fun e w' => e = .returned (.int .i64 (ordE er hot x y)) ∧ Below w.heap.size w w' := by
  obtain ⟨A2, n2, c2, e, _, _, hn, hA⟩ := hu
  injection e with q1 q2 q3
  subst q1 q2 q3
  rw [hn] at hx hy hl
  obtain ⟨i, rfl⟩ : ∃ i : Nat, x = i := ⟨x.toNat, by omega⟩
  obtain ⟨j, rfl⟩ : ∃ j : Nat, y = j := ⟨y.toNat, by omega⟩
  obtain ⟨b, o, rfl, _, hc⟩ := hA (by omega)
  have e1 := hc i (by omega)
  have e2 := hc j (by omega)
  have hin := hx.2
  have hjn := hy.2
  have hnm : (n : Int) ≤ 1048576 := by omega
  have c0 := hH.cell 0
  have c1 := hE.cell 0
  simp only [List.getElem?_toArray, List.getElem?_cons_zero] at c0 c1
  have HV := Lib.hid (show ordE er hot i j = if hot = true then cmpI (er.getD i 0) (er.getD j 0) else cmpI (er.getD j 0) (er.getD i 0) by unfold ordE; simp)
  generalize ordE er hot i j = v at *
  generalize er.getD i 0 = ei at *
  generalize er.getD j 0 = ej at *
  clear hA hc hx hy hn hH hE hl
  cases hot with
  | true =>
    have HG := Lib.hid (show v = cmpI ei ej by rw [HV.out, if_pos rfl])
    have HC := Lib.hid (fun (W : World) => cmpC_any ei ej W)
    clear HV
    generalize cmpI ei ej = t at *
    go_enter Try.func103, Try.ntmps103
    go_wp2_with fail
    go_quiet (first | (go_at_call 104; refine Calls.quiet_of_same ((HC.out _).mono fun e w' h => ⟨h.1, h.2.symm⟩)))
    go_wp2
    go_ret
    exact ⟨ret_int HG.out.symm, below_drewN (Below.refl _ _) _⟩
  | false =>
    have HG := Lib.hid (show v = cmpI ej ei by rw [HV.out, if_neg (by simp)])
    have HC := Lib.hid (fun (W : World) => cmpC_any ej ei W)
    clear HV
    generalize cmpI ej ei = t at *
    go_enter Try.func103, Try.ntmps103
    go_wp2_with fail
    go_quiet (first | (go_at_call 104; refine Calls.quiet_of_same ((HC.out _).mono fun e w' h => ⟨h.1, h.2.symm⟩)))
    go_wp2
    go_ret
    exact ⟨ret_int HG.out.symm, below_drewN (Below.refl _ _) _⟩
/-- firstBlock's closure, over PickFree's order. -/
theorem pfb_any (gO gH gE : Nat) (er : List Int) (A : Option Addr) (n c : Nat) (hot : Bool) (x y : Int) (w : World) (hi : Nat) (hO : Rw w gO 130 #[.func (.func 103) #[] #[.pointer (some ⟨gH, 0, none⟩), .pointer (some ⟨gE, 0, none⟩)]])
    (hH : Rw w gH 4 #[.bool hot]) (hE : Rw w gE 22 #[.slice A n c]) (hu : NI w hi (.slice A n c) er) (hh : hi ≤ w.heap.size) (hl : er.length ≤ 1048576)
    (hx : 0 ≤ x ∧ x < (er.length : Int)) (hy : 0 ≤ y ∧ y < (er.length : Int)) :
    Calls Try.prog 171 #[.int .i64 x, .int .i64 y, .pointer (some ⟨gO, 0, none⟩)] w fun e w' => e = .returned (.int .i64 (byNum (ordE er hot) x y)) ∧ Below w.heap.size w w' := by
  have HP := Lib.hid (pf2_any gH gE er A n c hot x y w hi hH hE hu hl hx hy)
  have HC := Lib.hid (fun (W : World) => cmpC_any x y W)
  have HV := Lib.hid (show byNum (ordE er hot) x y = orI (ordE er hot x y) (cmpI x y) from rfl)
  have c0 := hO.cell 0
  simp only [List.getElem?_toArray, List.getElem?_cons_zero] at c0
  generalize byNum (ordE er hot) x y = v at *
  generalize ordE er hot x y = s at *
  generalize cmpI x y = t at *
  clear hO hH hE hu hh hl hx hy
  go_enter Try.func171, Try.ntmps171
  go_wp2_with fail
  refine HP.out.mono ?_
  rintro e w1 ⟨rfl, b1⟩
  have B1 := Lib.hid b1
  clear b1
  go_wp2_with fail
  refine (HC.out _).mono ?_
  rintro e w2 ⟨rfl, rfl⟩
  have RO := Lib.hid (Rw.new w1 3 #[.int .i64 s, .int .i64 t])
  have B2 := Lib.hid (B1.out.alloc B1.out.size (.cells #[.int .i64 s, .int .i64 t] 3))
  go_wp2_with fail
  refine (cmpOr_any s t _ _ _ RO.out).mono ?_
  rintro e w3 ⟨rfl, rfl⟩
  go_wp2
  go_ret
  exact ⟨ret_int HV.out.symm, B2.out⟩
set_option maxHeartbeats 1000000 in
theorem implPfr_any (u v : Value) (er fr : List Int) (hot r : Bool) (w : World) (hi : Nat) (hu : NI w hi u er) (hv : NI w hi v fr) (hh : hi ≤ w.heap.size) (hr : r = true ↔ FreeOk er fr) (h1 : er.length ≤ 1048576) (h2 : fr.length ≤ 1048576) :
    Calls Try.prog 32 #[u, v, .bool hot] w fun e w' => e = .returned (.int .i64 (pickV er fr hot r)) ∧ Below w.heap.size w w' := by
  obtain ⟨A, n, c, rfl⟩ := hu.slice
  obtain ⟨A', m, c', rfl⟩ := hv.slice
  have hn : er.length = n := by obtain ⟨X1, X2, X3, e, _, _, hn, _⟩ := hu; injection e with q1 q2 q3; omega
  have hm : fr.length = m := by obtain ⟨X1, X2, X3, e, _, _, hn, _⟩ := hv; injection e with q1 q2 q3; omega
  obtain ⟨r0, r1, b0⟩ := Rw.two_new w 22 4 #[.slice A n c] #[.bool hot]
  obtain ⟨W0, hW0⟩ : ∃ W0, W0 = (w.alloc (.cells #[.slice A n c] 22)).alloc (.cells #[.bool hot] 4) := ⟨_, rfl⟩
  rw [← hW0] at r0 r1 b0
  have hsz0 : W0.heap.size = w.heap.size + 2 := by rw [hW0]; simp
  have hu0 := hu.below b0 hh
  have hv0 := hv.below b0 hh
  have HP1 := Lib.hid (pf1_at w.heap.size A n c W0 r0 (by omega))
  have HFB := Lib.hid (fun (hok : FreeOk er fr) (W1 : World) (bw : Below W0.heap.size W0 W1) => firstB_any 103 #[.pointer (some ⟨w.heap.size + 1, 0, none⟩), .pointer (some ⟨w.heap.size, 0, none⟩)] (.slice A' m c') fr (ordE er hot) W1 hi (hv0.below bw (by omega)) (by have := bw.size; omega) h2
    (fun W gO i j hb hO hi1 hj1 => pfb_any gO (w.heap.size + 1) w.heap.size er A n c hot _ _ W hi hO (r1.below (bw.trans (hb.mono bw.size)) r1.lt) (r0.below (bw.trans (hb.mono bw.size)) r0.lt) (hu0.below (bw.trans (hb.mono bw.size)) (by omega)) (by have := hb.size; have := bw.size; omega) h1 (hok i hi1) (hok j hj1)))
  have HV := Lib.hid (show pickV er fr hot r = if r = true then firstV (ordE er hot) fr else -1 from rfl)
  have HANY : Hid ((fr.any fun x => decide (x < 0) || decide ((n : Int) ≤ x)) = !r) := Lib.hid (by
    rw [Bool.eq_iff_iff, List.any_eq_true]
    constructor
    · rintro ⟨x, hx, hp⟩
      cases r with
      | false => rfl
      | true =>
        obtain ⟨i, hi1, e⟩ := List.getElem_of_mem hx
        have := hr.1 rfl i hi1
        rw [List.getD_eq_getElem?_getD, List.getElem?_eq_getElem hi1] at this
        simp only [Option.getD_some, e] at this
        simp at hp; omega
    · intro hr0
      have hrf : r = false := by simpa using hr0
      by_cases q : ∃ i, i < fr.length ∧ ¬ (0 ≤ fr.getD i 0 ∧ fr.getD i 0 < (er.length : Int))
      · obtain ⟨i, hi1, hx⟩ := q
        refine ⟨fr[i], List.getElem_mem hi1, ?_⟩
        rw [List.getD_eq_getElem?_getD, List.getElem?_eq_getElem hi1] at hx
        simp only [Option.getD_some] at hx
        simp; omega
      · exfalso
        have : r = true := hr.2 (fun i hi1 => by
          by_cases z : 0 ≤ fr.getD i 0 ∧ fr.getD i 0 < (er.length : Int)
          · exact z
          · exact absurd ⟨i, hi1, z⟩ q)
        rw [hrf] at this; cases this)
  have HCF : Hid (Calls Try.prog 101 #[.slice A' m c', .func (.func 100) #[] #[.pointer (some ⟨w.heap.size, 0, none⟩)]] W0 fun e w' => e = .returned (.bool (!r)) ∧ ∃ q, w' = W0.drewN q) := Lib.hid (by
    obtain ⟨X1, X2, X3, e, _, _, hnn, hA⟩ := hv0
    injection e with q1 q2 q3
    subst q1 q2 q3
    rcases Nat.eq_zero_or_pos m with h0 | h0
    · subst h0
      refine (Try.slices_ContainsFunc_empty (α := Int) A' c' _ W0).mono ?_
      rintro e w1 ⟨rfl, rfl⟩
      have : fr = [] := List.eq_nil_of_length_eq_zero hm
      rw [this] at HANY
      exact ⟨ret_bool HANY.out, 0, rfl⟩
    · obtain ⟨b, o, rfl, _, hc⟩ := hA h0
      refine (Try.slices_ContainsFunc (Value.int .i64) _ 100 _ (fun _ _ => by kernel_rfl) b o m c' fr W0 HP1.out (by omega) (by omega) (fun j hj => by rw [hc j (by omega), getBang])).mono ?_
      rintro e w1 ⟨rfl, q, rfl⟩
      rw [show fr.take m = fr by rw [← hm, List.take_length], HANY.out]
      exact ⟨rfl, q, rfl⟩)
  have HRR := Lib.hid (fun (e : r = true) => hr.1 e)
  have B0 := Lib.hid b0
  clear hu hv hr h1 h2 r0 r1 b0 hu0 hv0 HP1 HANY hn hm
  cases r with
  | false =>
    have HG := Lib.hid (show pickV er fr hot false = -1 by rw [HV.out]; rfl)
    clear HV HFB HRR
    go_enter Try.func32, Try.ntmps32
    go_wp2_with fail
    rw [← hW0]
    refine HCF.out.mono ?_
    rintro e w1 ⟨rfl, q, rfl⟩
    have B1 := Lib.hid (below_drewN B0.out q)
    clear hW0 HCF B0
    go_wp2
    go_ret
    exact ⟨ret_int HG.out.symm, B1.out⟩
  | true =>
    have HG := Lib.hid (show pickV er fr hot true = firstV (ordE er hot) fr by rw [HV.out]; rfl)
    have HF2 := Lib.hid (HFB.out (HRR.out rfl))
    clear HV HFB HRR
    go_enter Try.func32, Try.ntmps32
    go_wp2_with fail
    rw [← hW0]
    refine HCF.out.mono ?_
    rintro e w1 ⟨rfl, q, rfl⟩
    have HF3 := Lib.hid (HF2.out (W0.drewN q) (below_drewN (Below.refl _ _) q))
    have B1 := Lib.hid (below_drewN B0.out q)
    have hs1 : (W0.drewN q).heap.size = w.heap.size + 2 := hsz0
    clear HF2 HCF hW0 B0
    go_wp2_with fail
    refine HF3.out.mono ?_
    rintro e w2 ⟨rfl, b2⟩
    have B2 := Lib.hid (B1.out.trans (b2.mono (by omega)))
    clear b2
    go_wp2
    go_ret
    exact ⟨ret_int HG.out.symm, B2.out⟩
end Go.Proofs.Ytainlanblpccjaa
