/- PhysicalBlock and LogicalBlock, the model and the program: the contracts. -/
import Derived.Test.YtgkanacaijlljacProg
import Derived.Test.YtgkanacaijlljacTbL
namespace Go.Proofs.Ytgkanacaijlljac
open Go.RowKit
set_option linter.unusedVariables false
set_option linter.unusedSimpArgs false
set_option maxHeartbeats 2000000 in
set_option maxRecDepth 100000 in
theorem specPhb_any (u : Value) (T : Tb) (l : Int) (r : Bool) (v1 v2 : Int) (w : World) (hi : Nat) (h : TbIn w hi u T) (hh : hi ≤ w.heap.size) (hr : r = true ↔ TbOk T) (hv : PhbIs T r l v1 v2) (hl : TbSz T) :
    Calls Try.prog 24 #[u, .int .i64 l] w fun e w' => e = .returned (.tuple #[.int .i64 v1, .int .i64 v2]) ∧ Below w.heap.size w w' := by
  have HV := Lib.hid (fun (W : World) (b : Below w.heap.size w W) => specTbOk_any u T r W hi (h.below b hh) (Nat.le_trans hh b.size) hr hl)
  have HX := Lib.hid (fun (W : World) (b : Below w.heap.size w W) => h.below b hh)
  obtain ⟨a, y, rfl, ha, hy⟩ := h
  obtain ⟨A, n, c, rfl⟩ := ha.slice
  obtain ⟨A', n', c', rfl⟩ := hy.slice
  have hn' : T.rm.length = n' := by obtain ⟨X1, X2, X3, e, _, _, hn, _⟩ := hy; injection e with e1 e2 e3; omega
  have HY := Lib.hid (fun (W : World) (b : Below w.heap.size w W) => hy.below b hh)
  have HH := Lib.hid (fun (W : World) (b : Below w.heap.size w W) => Nat.le_trans hh b.size)
  have HSZ := Lib.hid (show T.rm.length ≤ 1048576 by unfold TbSz at hl; omega)
  have HR := Lib.hid hr
  have HN := Lib.hid hn'
  obtain ⟨d, b, p, sp, bad, rm⟩ := T
  unfold PhbIs at hv
  unfold tbc at *
  simp only at *
  have R0 := Lib.hid (Rw.new w 27 #[.int .i64 d, .int .i64 b, .int .i64 p, .int .i64 sp, .slice A n c, .slice A' n' c'])
  have B0 := Lib.hid ((Below.refl w.heap.size w).alloc (Nat.le_refl _) (.cells #[.int .i64 d, .int .i64 b, .int .i64 p, .int .i64 sp, .slice A n c, .slice A' n' c'] 27))
  have HV1 := Lib.hid (HV.out _ B0.out)
  obtain ⟨q0, q1, q2, q3, q4, q5⟩ := R0.out.six
  have hnm : (n' : Int) ≤ 1048576 := by have := HSZ.out; (try simp only at this); omega
  clear ha hy hh hr hl hn' HV
  go_enter Try.func24, Try.ntmps24
  go_wp2_with fail
  refine HV1.out.mono ?_
  rintro e w1 ⟨rfl, b1⟩
  have B1 := Lib.hid (B0.out.trans (b1.mono (by simp)))
  have R1 := Lib.hid (R0.out.below b1 (by simp))
  clear b1 q0 q1 q2 q3 q4 q5 R0 B0 HV1
  obtain ⟨q0, q1, q2, q3, q4, q5⟩ := R1.out.six
  cases r with
  | false =>
    obtain ⟨rfl, rfl⟩ : v1 = 0 ∧ v2 = 1 := by rcases hv with ⟨_, h1, h2⟩ | ⟨h, _⟩ | ⟨h, _⟩; exact ⟨h1, h2⟩; cases h; cases h
    clear hv
    go_wp2
    go_ret2
    exact ⟨rfl, B1.out⟩
  | true =>
  have hok := HR.out.1 rfl
  have hsh : TbShape ⟨d, b, p, sp, bad, rm⟩ := hok.1
  have hlen : (n' : Int) = d * (b - sp) := by have := hok.2.1; simp only [Tb.prim] at this; rw [← this, HN.out]
  obtain ⟨n1, n2, n3, n4, n5, n6, n7, n8, n9, n10, n11⟩ := hsh.nums
  simp only [Tb.prim] at n1 n2 n3 n4 n5 n6 n7 n8 n9 n10 n11
  have hL33 : 4 ≤ (n' : Int) ∧ (n' : Int) ≤ 33 := by have := hsh.rmLen; simp only [Tb.prim] at this; omega
  have HG := Lib.hid hsh.1
  have hw1 : IntKind.i64.wrap ((n' : Int) - 1) = (n' : Int) - 1 := IntWalk.i64_in _ (by omega)
  clear hlen n1 n2 n3 n4 n5 n6 n7 n8 n9 n10 n11 hnm HR
  by_cases hin : 0 ≤ l ∧ l ≤ (n' : Int) - 1
  case neg =>
    have HI := Lib.hid (fun (W : World) => inr_no l 0 ((n' : Int) - 1) W hin)
    obtain ⟨rfl, rfl⟩ : v1 = 0 ∧ v2 = 2 := by
      rcases hv with ⟨h, _⟩ | ⟨_, _, h1, h2⟩ | ⟨_, h, _⟩
      · cases h
      · exact ⟨h1, h2⟩
      · have := HN.out; (try simp only at h); omega
    clear hv hok hsh hin
    go_wp2_with fail
    refine (HI.out _).mono ?_
    rintro e w2 ⟨rfl, rfl⟩
    go_wp2
    go_ret2
    exact ⟨rfl, B1.out⟩
  case pos =>
    have HI := Lib.hid (fun (W : World) => inr_yes l 0 ((n' : Int) - 1) W hin.1 hin.2)
    obtain ⟨j, rfl⟩ : ∃ j : Nat, l = j := ⟨l.toNat, by omega⟩
    have hj : j < n' := by omega
    obtain ⟨rfl, rfl⟩ : v1 = rm.getD j 0 ∧ v2 = 0 := by
      rcases hv with ⟨h, _⟩ | ⟨_, h, _⟩ | ⟨_, _, h1, h2⟩
      · cases h
      · have := HN.out; (try simp only at h); omega
      · rw [Int.toNat_natCast] at h1; exact ⟨h1, h2⟩
    obtain ⟨X1, X2, X3, e', _, _, hx3, hxc⟩ := HY.out w1 B1.out
    obtain ⟨rfl, rfl, rfl⟩ : A' = X1 ∧ n' = X2 ∧ c' = X3 := by injection e' with e1 e2 e3; exact ⟨e1, e2, e3⟩
    obtain ⟨pb, po, rfl, hp2, hpx⟩ := hxc (by omega)
    have e1 := hpx j hj
    have hji : (j : Int) < (n' : Int) := by omega
    obtain ⟨z, hz⟩ : ∃ z, z = rm.getD j 0 := ⟨_, rfl⟩
    rw [← hz] at e1
    have HZZ := Lib.hid hz
    clear hz
    clear hv hok hsh e' hxc hpx
    clear hin
    go_wp2_with fail
    refine (HI.out _).mono ?_
    rintro e w2 ⟨rfl, rfl⟩
    go_wp2
    go_ret2
    exact ⟨by rw [← HZZ.out]; rfl, B1.out⟩
end Go.Proofs.Ytgkanacaijlljac
