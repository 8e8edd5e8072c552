/- AvailableSpares, on both sides: the contracts. -/
import Derived.Test.YtbdfdkhkamonpaaProg
import Derived.Test.YtbdfdkhkamonpaaTbG
namespace Go.Proofs.Ytbdfdkhkamonpaa
open Go.RowKit Go.Maps
set_option linter.unusedVariables false
set_option linter.unusedSimpArgs false
def AvsIs (T : Tb) (r : Bool) (l v c : Int) : Prop := (r = false ∧ v = 0 ∧ c = 1) ∨ (r = true ∧ ¬ (0 ≤ l ∧ l < T.d) ∧ v = 0 ∧ c = 2) ∨ (r = true ∧ (0 ≤ l ∧ l < T.d) ∧ v = ((avTo T ((l + 1) * T.b - T.sp) T.sp.toNat).length : Int) ∧ c = 0)
theorem avsIs (T : Tb) (r : Bool) (l : Int) : ∃ v c, AvsIs T r l v c := by
  cases r with
  | false => exact ⟨0, 1, .inl ⟨rfl, rfl, rfl⟩⟩
  | true =>
    by_cases h : 0 ≤ l ∧ l < T.d
    · exact ⟨_, 0, .inr (.inr ⟨rfl, h, rfl, rfl⟩)⟩
    · exact ⟨0, 2, .inr (.inl ⟨rfl, h, rfl, rfl⟩)⟩
/-- The numbers of a die's spare blocks. -/
theorem dieNums {T : Tb} (h : TbOk T) {l : Int} (h0 : 0 ≤ l ∧ l < T.d) : ∃ n : Nat, T.sp = (n : Int) ∧ n ≤ 4 ∧ (0 ≤ l ∧ l ≤ 1000) ∧ (0 ≤ (l + 1) * T.b ∧ (l + 1) * T.b ≤ 100) ∧ T.sp ≤ (l + 1) * T.b := by
  obtain ⟨h1, h2, h3, h4, h5, h6, h7, h8, h9, _⟩ := h.1.nums
  have hm : (l + 1) * T.b ≤ 3 * 12 := Int.mul_le_mul (by omega) (by omega) (by omega) (by omega)
  have hm2 : 1 * T.b ≤ (l + 1) * T.b := Int.mul_le_mul_of_nonneg_right (by omega) (by omega)
  exact ⟨T.sp.toNat, by omega, by omega, by omega, by omega, by omega⟩
set_option maxHeartbeats 1000000 in
set_option maxRecDepth 100000 in
theorem specAvs_any (u : Value) (T : Tb) (l : Int) (r : Bool) (v cc : Int) (w : World) (hi : Nat) (h : TbIn w hi u T) (hh : hi ≤ w.heap.size) (hr : r = true ↔ TbOk T) (hv : AvsIs T r l v cc) (hl : TbSz T) :
    Calls Try.prog 31 #[u, .int .i64 l] w fun e w' => e = .returned (.tuple #[.int .i64 v, .int .i64 cc]) ∧ Below w.heap.size w w' := by
  have HS := Lib.hid (fun (W : World) (b : Below w.heap.size w W) => specTbOk_any u T r W hi (h.below b hh) (Nat.le_trans hh b.size) hr hl)
  have HAV := Lib.hid (fun (W : World) (b : Below w.heap.size w W) (hok : TbOk T) (h0 : 0 ≤ l ∧ l < T.d) => show Calls _ _ _ W (CopyPostI (avTo T ((l + 1) * T.b - T.sp) T.sp.toNat) W) from by
    obtain ⟨n, q1, q2, q3, q4, q5⟩ := dieNums hok h0
    have e : T.sp.toNat = n := by omega
    rw [e]
    exact specAvail_any u T l _ _ n W hi (h.below b hh) (Nat.le_trans hh b.size) hl q3 rfl (by omega) q1 (by omega) rfl)
  have HLE := Lib.hid (avTo_le T ((l + 1) * T.b - T.sp) T.sp.toNat)
  have HSP := Lib.hid (fun (e : TbOk T) => e.1.nums)
  obtain ⟨a, y, rfl, ha, hy⟩ := h
  obtain ⟨A, n, c, rfl⟩ := ha.slice
  obtain ⟨A', n', c', rfl⟩ := hy.slice
  obtain ⟨L, hL⟩ : ∃ L, L = avTo T ((l + 1) * T.b - T.sp) T.sp.toNat := ⟨_, rfl⟩
  unfold AvsIs at hv
  rw [← hL] at HAV HLE hv
  obtain ⟨d, b, p, sp, bad, rm⟩ := T
  unfold tbc at *
  simp only at *
  have R0 := Lib.hid (Rw.new w 52 #[.int .i64 d, .int .i64 b, .int .i64 p, .int .i64 sp, .slice A n c, .slice A' n' c'])
  have B0 := Lib.hid ((Below.refl w.heap.size w).alloc (Nat.le_refl _) (.cells #[.int .i64 d, .int .i64 b, .int .i64 p, .int .i64 sp, .slice A n c, .slice A' n' c'] 52))
  have HR := Lib.hid hr
  obtain ⟨c0, c1, c2, c3, c4, c5⟩ := R0.out.six
  clear ha hy hh hr hL hl
  rcases hv with ⟨rfl, rfl, rfl⟩ | ⟨rfl, h0, rfl, rfl⟩ | ⟨rfl, h0, rfl, rfl⟩
  · clear HAV HLE HSP HR
    go_enter Try.func31, Try.ntmps31
    go_wp2_with fail
    refine (HS.out _ B0.out).mono ?_
    rintro e w1 ⟨rfl, b1⟩
    have B1 := Lib.hid (B0.out.trans (b1.mono (by simp)))
    clear b1 c0 c1 c2 c3 c4 c5
    go_wp2
    go_ret2
    exact ⟨rfl, B1.out⟩
  · have hok := HR.out.1 rfl
    have hnum := HSP.out hok
    have hd2 : 2 ≤ d ∧ d ≤ 3 := by omega
    have hwd : IntKind.i64.wrap (d - 1) = d - 1 := IntWalk.i64_in _ (by omega)
    have HI := Lib.hid (fun (W : World) => inr_no l 0 (d - 1) W (by omega))
    clear HAV HLE HSP HR hok hnum h0
    go_enter Try.func31, Try.ntmps31
    go_wp2_with fail
    refine (HS.out _ B0.out).mono ?_
    rintro e w1 ⟨rfl, b1⟩
    have B1 := Lib.hid (B0.out.trans (b1.mono (by simp)))
    obtain ⟨d0, d1, d2, d3, d4, d5⟩ := (R0.out.below b1 R0.out.lt).six
    clear b1 c0 c1 c2 c3 c4 c5
    go_wp2_with fail
    refine (HI.out _).mono ?_
    rintro e w2 ⟨rfl, rfl⟩
    go_wp2
    go_ret2
    exact ⟨rfl, B1.out⟩
  · have hok := HR.out.1 rfl
    have hnum := HSP.out hok
    have hd2 : 2 ≤ d ∧ d ≤ 3 := by omega
    have hsp4 : 1 ≤ sp ∧ sp ≤ 4 := by omega
    have hwd : IntKind.i64.wrap (d - 1) = d - 1 := IntWalk.i64_in _ (by omega)
    have HI := Lib.hid (fun (W : World) => inr_yes l 0 (d - 1) W (by omega) (by omega))
    have HA2 := Lib.hid (fun (W : World) (b : Below w.heap.size w W) => HAV.out W b hok h0)
    have hL4 : L.length ≤ 4 := by have := HLE.out; omega
    clear HAV HLE HSP HR hok hnum h0
    go_enter Try.func31, Try.ntmps31
    go_wp2_with fail
    refine (HS.out _ B0.out).mono ?_
    rintro e w1 ⟨rfl, b1⟩
    have B1 := Lib.hid (B0.out.trans (b1.mono (by simp)))
    obtain ⟨d0, d1, d2, d3, d4, d5⟩ := (R0.out.below b1 R0.out.lt).six
    clear b1 c0 c1 c2 c3 c4 c5
    go_wp2_with fail
    refine (HI.out _).mono ?_
    rintro e w2 ⟨rfl, rfl⟩
    go_wp2_with fail
    refine (HA2.out _ B1.out).mono ?_
    rintro e w3 ⟨x, rfl, ho, b3⟩
    have B3 := Lib.hid (B1.out.trans (b3.mono B1.out.size))
    obtain ⟨X1, X2, X3, rfl, _, _, hlen, _⟩ := ho.readsR
    have HLN := Lib.hid hlen
    have hx4 : (X2 : Int) ≤ 4 := by omega
    clear ho b3 hlen d0 d1 d2 d3 d4 d5
    go_wp2
    go_ret2
    exact ⟨by rw [HLN.out]; rfl, B3.out⟩
set_option maxHeartbeats 1000000 in
set_option maxRecDepth 100000 in
theorem implAvs_any (u : Value) (T : Tb) (l : Int) (r : Bool) (v cc : Int) (w : World) (hi : Nat) (h : TbIn w hi u T) (hh : hi ≤ w.heap.size) (hr : r = true ↔ TbOk T) (hv : AvsIs T r l v cc) (hl : TbSz T) (hW : TbW T) :
    Calls Try.prog 33 #[u, .int .i64 l] w fun e w' => e = .returned (.tuple #[.int .i64 v, .int .i64 cc]) ∧ Below w.heap.size w w' := by
  have HS := Lib.hid (fun (W : World) (b : Below w.heap.size w W) => implTbOk_any u T r W hi (h.below b hh) (Nat.le_trans hh b.size) hr hl hW)
  obtain ⟨a, y, rfl, ha, hy⟩ := h
  obtain ⟨A, n, c, rfl⟩ := ha.slice
  obtain ⟨A', n', c', rfl⟩ := hy.slice
  have HAV := Lib.hid (fun (W : World) (b : Below w.heap.size w W) (hok : TbOk T) (h0 : 0 ≤ l ∧ l < T.d) => show Calls Try.prog 75 #[.agg #[.int .i64 T.d, .int .i64 T.b, .int .i64 T.p, .int .i64 T.sp, .slice A n c, .slice A' n' c'], .int .i64 l] W (fun e w' => ∃ g, e = .returned (.map (some g)) ∧ (∀ ty, (Builtin.len_ #[105] ty #[.map (some g)]).run Try.prog w' = .ok (.int .i64 ((avTo T ((l + 1) * T.b - T.sp) T.sp.toNat).length : Int)) w') ∧ Below W.heap.size W w') from by
    obtain ⟨m, q1, q2, q3, q4, q5⟩ := dieNums hok h0
    refine (freeSp_any T A A' n c n' c' l _ _ m W hi (ha.below b hh) (hy.below b hh) (Nat.le_trans hh b.size) hl hW.2.1 hW.2.2 q3 rfl (by omega) q1 q2 rfl).mono ?_
    rintro e w1 ⟨g, k, rfl, _, hS, hb⟩
    refine ⟨g, rfl, hS.count (avTo_nodup _ _ _) (fun x => ?_), hb⟩
    rw [avTo_mem]
    unfold freeS
    simp only [Bool.and_eq_true, decide_eq_true_eq, Bool.not_eq_true', ← Bool.not_eq_true, List.contains_iff_mem, not_or]
    constructor
    · rintro ⟨⟨z1, z2⟩, z3, z4⟩
      exact ⟨wfI_of (by omega) (by omega), ⟨⟨by omega, by omega⟩, z3⟩, z4⟩
    · rintro ⟨_, ⟨⟨z1, z2⟩, z3⟩, z4⟩
      exact ⟨⟨by omega, by omega⟩, z3, z4⟩)
  have HSP := Lib.hid (fun (e : TbOk T) => e.1.nums)
  obtain ⟨L, hL⟩ : ∃ L, L = avTo T ((l + 1) * T.b - T.sp) T.sp.toNat := ⟨_, rfl⟩
  unfold AvsIs at hv
  rw [← hL] at HAV hv
  obtain ⟨d, b, p, sp, bad, rm⟩ := T
  unfold tbc at *
  simp only at *
  have R0 := Lib.hid (Rw.new w 52 #[.int .i64 d, .int .i64 b, .int .i64 p, .int .i64 sp, .slice A n c, .slice A' n' c'])
  have B0 := Lib.hid ((Below.refl w.heap.size w).alloc (Nat.le_refl _) (.cells #[.int .i64 d, .int .i64 b, .int .i64 p, .int .i64 sp, .slice A n c, .slice A' n' c'] 52))
  have HR := Lib.hid hr
  obtain ⟨c0, c1, c2, c3, c4, c5⟩ := R0.out.six
  clear ha hy hh hr hL hl hW
  rcases hv with ⟨rfl, rfl, rfl⟩ | ⟨rfl, h0, rfl, rfl⟩ | ⟨rfl, h0, rfl, rfl⟩
  · clear HAV HSP HR
    go_enter Try.func33, Try.ntmps33
    go_wp2_with fail
    refine (HS.out _ B0.out).mono ?_
    rintro e w1 ⟨rfl, b1⟩
    have B1 := Lib.hid (B0.out.trans (b1.mono (by simp)))
    clear b1 c0 c1 c2 c3 c4 c5
    go_wp2
    go_ret2
    exact ⟨rfl, B1.out⟩
  · clear HAV HSP HR
    by_cases hl0 : l < 0
    · have e1 : decide (l < 0) = true := by simpa using hl0
      clear h0 hl0
      go_enter Try.func33, Try.ntmps33
      go_wp2_with fail
      refine (HS.out _ B0.out).mono ?_
      rintro e w1 ⟨rfl, b1⟩
      have B1 := Lib.hid (B0.out.trans (b1.mono (by simp)))
      obtain ⟨d0, d1, d2, d3, d4, d5⟩ := (R0.out.below b1 R0.out.lt).six
      clear b1 c0 c1 c2 c3 c4 c5
      go_wp2
      go_ret2
      exact ⟨rfl, B1.out⟩
    · have e1 : decide (l < 0) = false := by simpa using hl0
      have e2 : decide (d ≤ l) = true := by simp; omega
      have e3 : decide (l ≥ d) = true := by simp; omega
      clear h0 hl0
      go_enter Try.func33, Try.ntmps33
      go_wp2_with fail
      refine (HS.out _ B0.out).mono ?_
      rintro e w1 ⟨rfl, b1⟩
      have B1 := Lib.hid (B0.out.trans (b1.mono (by simp)))
      obtain ⟨d0, d1, d2, d3, d4, d5⟩ := (R0.out.below b1 R0.out.lt).six
      clear b1 c0 c1 c2 c3 c4 c5
      go_wp2
      go_ret2
      exact ⟨rfl, B1.out⟩
  · have hok := HR.out.1 rfl
    have HA2 := Lib.hid (fun (W : World) (b : Below w.heap.size w W) => HAV.out W b hok h0)
    have e1 : decide (l < 0) = false := by simp; omega
    have e2 : decide (d ≤ l) = false := by simp; omega
    have e3 : decide (l ≥ d) = false := by simp; omega
    clear HAV HSP HR hok h0
    go_enter Try.func33, Try.ntmps33
    go_wp2_with fail
    refine (HS.out _ B0.out).mono ?_
    rintro e w1 ⟨rfl, b1⟩
    have B1 := Lib.hid (B0.out.trans (b1.mono (by simp)))
    obtain ⟨d0, d1, d2, d3, d4, d5⟩ := (R0.out.below b1 R0.out.lt).six
    clear b1 c0 c1 c2 c3 c4 c5
    go_wp2_with fail
    refine (HA2.out _ B1.out).mono ?_
    rintro e w3 ⟨g, rfl, hlen, b3⟩
    have B3 := Lib.hid (B1.out.trans (b3.mono B1.out.size))
    clear b3 d0 d1 d2 d3 d4 d5
    go_wp2_with (simp only [hlen])
    go_ret2
    exact ⟨rfl, B3.out⟩
end Go.Proofs.Ytbdfdkhkamonpaa
