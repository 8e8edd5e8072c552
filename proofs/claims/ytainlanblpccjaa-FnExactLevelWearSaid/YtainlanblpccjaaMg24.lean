/- The proof's own lemmas, part 25: PmS Im. -/
import Derived.Test.YtainlanblpccjaaProg
import Derived.Test.YtainlanblpccjaaMg21
import Derived.Test.YtainlanblpccjaaMg9
import Derived.Test.YtainlanblpccjaaMg22
import Derived.Maps.OwnOps
import Derived.Maps.OwnSet
import Derived.Maps.Views
/- Which maps are valid, in the model: the contracts. -/
namespace Go.Proofs.Ytainlanblpccjaa
open Go.RowKit
set_option linter.unusedVariables false
set_option linter.unusedSimpArgs false
set_option maxRecDepth 100000 in
theorem specSizes_any (l b p : Int) (r : Bool) (w : World) (hr : r = true ↔ SizeOk l b p) :
    Calls Try.prog 207 #[.int .i64 l, .int .i64 b, .int .i64 p] w fun e w' => e = .returned (.bool r) ∧ w = w' := by
  have HR := Lib.hid hr
  clear hr
  by_cases h1 : 1 ≤ l ∧ l ≤ 48
  case neg =>
    obtain rfl : r = false := not_true HR.out (fun e => h1 e.1)
    have H1 := Lib.hid (fun (W : World) => inr_no l 1 48 W h1)
    clear HR h1
    go_enter Try.func207, Try.ntmps207
    go_wp2_with (first
        | (go_at_call 83; with_reducible refine (H1.out _).mono ?_; rintro e w' ⟨rfl, rfl⟩))
    go_ret
    exact ⟨rfl, rfl⟩
  by_cases h2 : 1 ≤ b ∧ b ≤ 640
  case neg =>
    obtain rfl : r = false := not_true HR.out (fun e => h2 e.2.1)
    have H1 := Lib.hid (fun (W : World) => inr_yes l 1 48 W h1.1 h1.2)
    have H2 := Lib.hid (fun (W : World) => inr_no b 1 640 W h2)
    clear HR h1 h2
    go_enter Try.func207, Try.ntmps207
    go_wp2_with (first
        | (go_at_call 83; with_reducible refine (H1.out _).mono ?_; rintro e w' ⟨rfl, rfl⟩)
        | (go_at_call 83; with_reducible refine (H2.out _).mono ?_; rintro e w' ⟨rfl, rfl⟩))
    go_ret
    exact ⟨rfl, rfl⟩
  by_cases h3 : 1 ≤ p ∧ p ≤ 640
  case neg =>
    obtain rfl : r = false := not_true HR.out (fun e => h3 e.2.2.1)
    have H1 := Lib.hid (fun (W : World) => inr_yes l 1 48 W h1.1 h1.2)
    have H2 := Lib.hid (fun (W : World) => inr_yes b 1 640 W h2.1 h2.2)
    have H3 := Lib.hid (fun (W : World) => inr_no p 1 640 W h3)
    clear HR h1 h2 h3
    go_enter Try.func207, Try.ntmps207
    go_wp2_with (first
        | (go_at_call 83; with_reducible refine (H1.out _).mono ?_; rintro e w' ⟨rfl, rfl⟩)
        | (go_at_call 83; with_reducible refine (H2.out _).mono ?_; rintro e w' ⟨rfl, rfl⟩)
        | (go_at_call 83; with_reducible refine (H3.out _).mono ?_; rintro e w' ⟨rfl, rfl⟩))
    go_ret
    exact ⟨rfl, rfl⟩
  obtain ⟨m1, m2⟩ := mulBound h2.1 h2.2 h3.1 h3.2
  have w1 : IntKind.i64.wrap (b * p) = b * p := IntWalk.i64_in _ (by omega)
  obtain rfl : r = decide (b * p ≤ 640) := by
    rw [Bool.eq_iff_iff, HR.out]
    simp only [decide_eq_true_eq]
    exact ⟨fun e => e.2.2.2, fun e => ⟨h1, h2, h3, e⟩⟩
  have H1 := Lib.hid (fun (W : World) => inr_yes l 1 48 W h1.1 h1.2)
  have H2 := Lib.hid (fun (W : World) => inr_yes b 1 640 W h2.1 h2.2)
  have H3 := Lib.hid (fun (W : World) => inr_yes p 1 640 W h3.1 h3.2)
  clear HR h1 h2 h3
  go_enter Try.func207, Try.ntmps207
  go_wp2_with (first
        | (go_at_call 83; with_reducible refine (H1.out _).mono ?_; rintro e w' ⟨rfl, rfl⟩)
        | (go_at_call 83; with_reducible refine (H2.out _).mono ?_; rintro e w' ⟨rfl, rfl⟩)
        | (go_at_call 83; with_reducible refine (H3.out _).mono ?_; rintro e w' ⟨rfl, rfl⟩))
  go_ret
  exact ⟨rfl, rfl⟩
/-- What the model asks of entry k, and what it makes of it. -/
theorem ent_iff {H x : Int} {t : Bool} {mp : List Int} {tr : List Bool} {k : Nat} (hk : k < mp.length) (hH : 1 ≤ H) (hx : mp.getD k 0 = x) (ht : tr.getD k false = t) :
    EntOk H mp tr k ↔ ((-1 ≤ x ∧ x ≤ H - 1) ∧ ¬ (x < 0 ∧ t = true) ∧ (0 ≤ x → ∀ j, j < k → mp.getD j 0 ≠ x)) := by
  unfold EntOk
  rw [hx, ht, mem_take_iff (by omega)]
  constructor
  · rintro (⟨rfl, rfl⟩ | ⟨h1, h2⟩)
    · exact ⟨by omega, by simp, fun e => by omega⟩
    · exact ⟨by omega, fun e => by omega, fun _ j hj e => h2 ⟨j, hj, e⟩⟩
  · rintro ⟨h1, h2, h3⟩
    by_cases h : x < 0
    · refine .inl ⟨by omega, ?_⟩
      cases t
      · rfl
      · exact absurd ⟨h, rfl⟩ h2
    · exact .inr ⟨by omega, fun ⟨j, hj, e⟩ => h3 (by omega) j hj e⟩
set_option maxHeartbeats 4000000 in
set_option maxRecDepth 100000 in
theorem specOkP_any (g : Nat) (b p : Int) (mp : List Int) (tr : List Bool) (u v : Value) (r : Bool) (w : World) (hi : Nat) (hR : Rw w g 104 #[.int .i64 b, .int .i64 p, u, v]) (hu : NI w hi u mp) (hv : NB w hi v tr) (hh : hi ≤ w.heap.size) (hr : r = true ↔ PmOk ⟨b, p, mp, tr⟩) (hl : mp.length + tr.length ≤ 1048576) :
    Calls Try.prog 158 #[.pointer (some ⟨g, 0, none⟩)] w fun e w' => e = .returned (.bool r) ∧ Below w.heap.size w w' := by
  obtain ⟨A, n, c, rfl, _, _, hn, hA⟩ := hu
  obtain ⟨A', n', c', rfl, _, _, hn', hA'⟩ := hv
  obtain ⟨rs, hrs⟩ := prop_dec' (SizeOk n b p)
  have HS := Lib.hid (fun (W : World) => specSizes_any n b p rs W hrs)
  obtain ⟨q0, q1, q2, q3⟩ := hR.four
  have hg := hR.lt
  have R0 := Lib.hid hR
  have B0 := Lib.hid (Below.refl w.heap.size w)
  have HR := Lib.hid (show r = true ↔ (SizeOk n b p ∧ n' = n ∧ ∀ i, i < n → EntOk (b * p) mp tr i) by rw [hr, PmOk]; simp only [hn, hn'])
  have HA := Lib.hid hA
  have HA' := Lib.hid hA'
  have HN := Lib.hid hn
  have HH := Lib.hid hh
  have hnm : (n : Int) ≤ 1048576 := by omega
  have hnm' : (n' : Int) ≤ 1048576 := by omega
  clear hR hA hA' hr hn hn' hl hh
  by_cases gs : SizeOk n b p
  case neg =>
    obtain rfl : r = false := not_true HR.out (fun e => gs e.1)
    obtain rfl : rs = false := not_true hrs gs
    clear HR HA HA' gs hrs
    go_enter Try.func158, Try.ntmps158
    go_wp2_with fail
    go_quiet (first | (go_at_call 207; refine Calls.quiet_of_same ((HS.out _).mono fun e w' h => ⟨h.1, h.2.symm⟩)))
    go_wp2
    go_ret
    exact ⟨rfl, below_drewN B0.out _⟩
  obtain rfl : rs = true := hrs.2 gs
  clear hrs
  by_cases e1 : n' = n
  case neg =>
    obtain rfl : r = false := not_true HR.out (fun e => e1 e.2.1)
    have n4 : ((n' : Int) != (n : Int)) = true := cast_ne e1
    clear HR HA HA' gs e1
    go_enter Try.func158, Try.ntmps158
    go_wp2_with fail
    go_quiet (first | (go_at_call 207; refine Calls.quiet_of_same ((HS.out _).mono fun e w' h => ⟨h.1, h.2.symm⟩)))
    go_wp2
    go_ret
    exact ⟨rfl, below_drewN B0.out _⟩
  subst e1
  have n4 : ((n' : Int) != (n' : Int)) = false := by simp
  have hH1 := gs.le
  have hH2 := gs.2.2.2
  generalize hH : b * p = H at *
  have w1 : IntKind.i64.wrap (b * p) = H := by rw [hH]; exact IntWalk.i64_in _ (by omega)
  have HHH := Lib.hid hH
  have HG := Lib.hid gs
  clear gs hH
  go_enter Try.func158, Try.ntmps158
  go_wp2_with fail
  go_quiet (first | (go_at_call 207; refine Calls.quiet_of_same ((HS.out _).mono fun e w' h => ⟨h.1, h.2.symm⟩)))
  go_wp2
  clear HS
  go_loopw [3] (fun i wr => ∃ k : Nat, k ≤ n' ∧ i = .int .i64 k ∧ Hid (∀ j, j < k → EntOk H mp tr j) ∧ Hid (Below w.heap.size w wr)) (fun i _ => n' - (intOf i).toNat)
  case atStart => exact ⟨0, by omega, rfl, Lib.hid (fun j hj => by omega), Lib.hid (below_drewN B0.out _)⟩
  case round =>
    obtain ⟨k, hk, rfl, HE, HB⟩ := hrel
    obtain ⟨wo, hwo⟩ : ∃ wo, wo = wr := ⟨_, rfl⟩
    subst hwo
    clear q0 q1 q2 q3
    obtain ⟨q0, q1, q2, q3⟩ := (R0.out.below HB.out hg).four
    by_cases hlt : k < n'
    · have hki : (k : Int) < (n' : Int) := by omega
      obtain ⟨pb, po, rfl, hp2, hpx⟩ := HA.out (by omega)
      obtain ⟨pb', po', rfl, hp2', hpx'⟩ := HA'.out (by omega)
      have e1 := (HB.out.cell (p := ⟨pb, po + k, none⟩) (by have := HH.out; show pb < _; omega)).trans (hpx k hlt)
      have e2 := (HB.out.cell (p := ⟨pb', po' + k, none⟩) (by have := HH.out; show pb' < _; omega)).trans (hpx' k hlt)
      have HX := Lib.hid (fun (W : World) (hb : Below w.heap.size w W) (j : Nat) (hj : j < n') => (hb.cell (p := ⟨pb, po + j, none⟩) (by have := HH.out; show pb < _; omega)).trans (hpx j hj))
      obtain ⟨x, hx⟩ : ∃ x, x = mp.getD k 0 := ⟨_, rfl⟩
      obtain ⟨t, ht⟩ : ∃ t, t = tr.getD k false := ⟨_, rfl⟩
      have HEI := Lib.hid (ent_iff (H := H) (k := k) (by have := HN.out; omega) hH1 hx.symm ht.symm)
      rw [← hx] at e1
      rw [← ht] at e2
      have HXX := Lib.hid hx
      have HF := Lib.hid (fun (e : ¬ EntOk H mp tr k) => not_true HR.out (fun f => e (f.2.2 k hlt)))
      have HY := Lib.hid (fun (e : EntOk H mp tr k) => show ∀ j, j < k + 1 → EntOk H mp tr j from fun j hj => by
        by_cases f : j = k
        · subst f; exact e
        · exact HE.out j (by omega))
      clear hx ht hpx hpx' hp2 hp2'
      by_cases hin : -1 ≤ x ∧ x ≤ H - 1
      case neg =>
        have HG2 := Lib.hid (HF.out (fun e => hin (HEI.out.1 e).1))
        have HI := Lib.hid (fun (W : World) => inr_no x (-1) (H - 1) W hin)
        clear HF HY HEI HX HR HA HA' hin HG HE HXX HHH
        go_wp2_with fail
        go_quiet (first | (go_at_call 83; refine Calls.quiet_of_same ((HI.out _).mono fun e w' h => ⟨h.1, h.2.symm⟩)))
        go_wp2
        go_ret
        exact ⟨ret_bool HG2.out.symm, below_drewN HB.out _⟩
      have HI := Lib.hid (fun (W : World) => inr_yes x (-1) (H - 1) W hin.1 hin.2)
      have hin2 := Lib.hid hin
      clear hin
      by_cases hs : x < 0
      case pos =>
        have d1 : decide (x < 0) = true := by simpa using hs
        have d2 : decide (x ≥ 0) = false := by simp; omega
        have d3 : decide (0 ≤ x) = false := by simp; omega
        have HSX := Lib.hid hs
        clear hs
        cases t with
        | true =>
          have HG2 := Lib.hid (HF.out (fun e => (HEI.out.1 e).2.1 ⟨HSX.out, rfl⟩))
          clear HF HY HEI HX HR HA HA' HG HE HXX HHH d2 d3
          go_wp2_with fail
          go_quiet (first | (go_at_call 83; refine Calls.quiet_of_same ((HI.out _).mono fun e w' h => ⟨h.1, h.2.symm⟩)))
          go_wp2
          go_ret
          exact ⟨ret_bool HG2.out.symm, below_drewN HB.out _⟩
        | false =>
          have HE2 := Lib.hid (HY.out (HEI.out.2 ⟨hin2.out, by simp, fun e => by have := HSX.out; omega⟩))
          clear HF HY HEI HR HA HA' HG HE HHH
          go_wp2_with fail
          go_quiet (first | (go_at_call 83; refine Calls.quiet_of_same ((HI.out _).mono fun e w' h => ⟨h.1, h.2.symm⟩)))
          go_wp2
          go_loopw [4] (fun i wr => ∃ j : Nat, j ≤ k ∧ i = .int .i64 j ∧ Hid (Below w.heap.size w wr)) (fun i _ => k - (intOf i).toNat)
          case atStart => exact ⟨0, by omega, rfl, Lib.hid (below_drewN HB.out _)⟩
          case round =>
            obtain ⟨j, hj, rfl, HB2⟩ := hrel
            clear q0 q1 q2 q3 e1 e2
            obtain ⟨q0, q1, q2, q3⟩ := (R0.out.below HB2.out hg).four
            have e1 := HX.out _ HB2.out k hlt
            rw [← HXX.out] at e1
            by_cases hjk : j < k
            · have hji : (j : Int) < (k : Int) := by omega
              go_wp2_with fail
              go_quiet (fail)
              go_wp2
              go_roundw
              case rel => exact ⟨j + 1, by omega, by go_num, Lib.hid (below_drewN HB2.out _)⟩
              case measure => simp [intOf]; omega
            · obtain rfl : j = k := by omega
              go_wp2
              go_roundw
              case rel => exact ⟨j + 1, by omega, by go_num, HE2, HB2⟩
              case measure => simp [intOf]; omega
      case neg =>
        have d1 : decide (x < 0) = false := by simpa using hs
        have d2 : decide (x ≥ 0) = true := by simp; omega
        have d3 : decide (0 ≤ x) = true := by simp; omega
        have HSX := Lib.hid hs
        clear hs
        have HE2 := Lib.hid (fun (q : ∀ j, j < k → mp.getD j 0 ≠ x) => HY.out (HEI.out.2 ⟨hin2.out, fun e => HSX.out e.1, fun _ => q⟩))
        have HG2 := Lib.hid (fun (j : Nat) (hj : j < k) (e : mp.getD j 0 = x) => HF.out (fun q => (HEI.out.1 q).2.2 (by have := HSX.out; omega) j hj e))
        clear HF HY HEI HR HA HA' HG HE HHH
        go_wp2_with fail
        go_quiet (first | (go_at_call 83; refine Calls.quiet_of_same ((HI.out _).mono fun e w' h => ⟨h.1, h.2.symm⟩)))
        go_wp2
        go_loopw [4] (fun i wr => ∃ j : Nat, j ≤ k ∧ i = .int .i64 j ∧ Hid (∀ i, i < j → mp.getD i 0 ≠ x) ∧ Hid (Below w.heap.size w wr)) (fun i _ => k - (intOf i).toNat)
        case atStart => exact ⟨0, by omega, rfl, Lib.hid (fun i hi => by omega), Lib.hid (below_drewN HB.out _)⟩
        case round =>
          obtain ⟨j, hj, rfl, HQ, HB2⟩ := hrel
          clear q0 q1 q2 q3 e1 e2
          obtain ⟨q0, q1, q2, q3⟩ := (R0.out.below HB2.out hg).four
          have e1 := HX.out _ HB2.out k hlt
          rw [← HXX.out] at e1
          by_cases hjk : j < k
          · have hji : (j : Int) < (k : Int) := by omega
            have hjn : (j : Int) < (n' : Int) := by omega
            have e2 := HX.out _ HB2.out j (by omega)
            by_cases hy : mp.getD j 0 = x
            · have HG3 := Lib.hid (HG2.out j hjk hy)
              rw [hy] at e2
              have hyy : (x == x) = true := by simp
              clear HG2 HE2 hy HXX
              go_wp2_with fail
              go_quiet (fail)
              go_wp2
              go_ret
              exact ⟨ret_bool HG3.out.symm, below_drewN HB2.out _⟩
            · have hyy : (mp.getD j 0 == x) = false := by simpa using hy
              have HY2 := Lib.hid hy
              generalize hz : mp.getD j 0 = z at *
              have HZ := Lib.hid hz
              clear hy hz HXX
              go_wp2_with fail
              go_quiet (fail)
              go_wp2
              go_roundw
              case rel => exact ⟨j + 1, by omega, by go_num, Lib.hid (fun i hi => by
                by_cases f : i = j
                · subst f; rw [HZ.out]; exact HY2.out
                · exact HQ.out i (by omega)), Lib.hid (below_drewN HB2.out _)⟩
              case measure => simp [intOf]; omega
          · obtain rfl : j = k := by omega
            have HE3 := Lib.hid (HE2.out HQ.out)
            go_wp2
            go_roundw
            case rel => exact ⟨j + 1, by omega, by go_num, HE3, HB2⟩
            case measure => simp [intOf]; omega
    · obtain rfl : k = n' := by omega
      have hf : r = true := HR.out.2 ⟨HG.out, by trivial, HE.out⟩
      subst hf
      clear HR HA HA' HG HE HHH
      go_wp2
      go_ret
      exact ⟨rfl, HB.out⟩
end Go.Proofs.Ytainlanblpccjaa
/- A map of the call's own from integers to integers: what it holds, and the operations upon it. -/
namespace Go.Proofs.Ytainlanblpccjaa
open Go.RowKit Go.Maps
set_option linter.unusedVariables false
theorem zeroInt64 (w : World) : (zeroValue 2).run Try.prog w = .ok (.int .i64 0) w := by kernel_rfl
/-- Block b is a map that holds what f says, and nothing else; n bounds how many. -/
def IMp (w : World) (b : Nat) (f : Int → Option Int) (n : Nat) : Prop :=
  ∃ D : DataW Unit, w.ownsMap Try.prog 2 (plainElem Try.prog 2) b n D ∧ ∀ x, WfI x → D.atKey (kI x) (.lit (.int .i64 0)) = .lit (.int .i64 ((f x).getD 0)) ∧ Maps.has D (kI x) = (f x).isSome
section
variable {w w' : World} {b n : Nat} {f : Int → Option Int}
theorem IMp.made (w : World) : IMp (w.alloc (.map #[] 0)) w.heap.size (fun _ => none) 0 :=
  ⟨.map [], World.ownsMap_made _ _ _ _, fun x _ => ⟨rfl, rfl⟩⟩
theorem IMp.lt (h : IMp w b f n) : b < w.heap.size := by obtain ⟨D, h, _⟩ := h; exact h.lt
theorem IMp.below {B : Nat} (h : IMp w b f n) (hb : Below B w w') (hB : b < B) : IMp w' b f n := by
  obtain ⟨D, ⟨es, clock, h, r⟩, h2⟩ := h; exact ⟨D, ⟨es, clock, (hb.block b hB).trans h, r⟩, h2⟩
theorem IMp.at (h : IMp w b f n) (hs : w'.heap[b]? = w.heap[b]?) : IMp w' b f n := by
  obtain ⟨D, ⟨es, clock, h, r⟩, h2⟩ := h; exact ⟨D, ⟨es, clock, hs.trans h, r⟩, h2⟩
theorem IMp.mono (h : IMp w b f n) {m : Nat} (hm : n ≤ m) : IMp w b f m := by obtain ⟨D, h, h2⟩ := h; exact ⟨D, h.mono hm, h2⟩
theorem IMp.alike {f' : Int → Option Int} (h : IMp w b f n) (e : ∀ x, WfI x → f x = f' x) : IMp w b f' n := by
  obtain ⟨D, h, h2⟩ := h; exact ⟨D, h, fun x hx => by rw [← e x hx]; exact h2 x hx⟩
end
set_option maxRecDepth 100000 in
/-- What a lookup with 'ok' runs to. -/
theorem IMp.look {w : World} {b n : Nat} {f : Int → Option Int} (h : IMp w b f n) {y : Int} (hw : WfI y) : (Instr.lookup 221 (.map (some b)) (.int .i64 y) true).run Try.prog w = .ok (.tuple #[.int .i64 ((f y).getD 0), .bool (f y).isSome]) w := by
  obtain ⟨D, hown, hat⟩ := h
  obtain ⟨v, ps, hrun, hv⟩ := hown.look_ok keyed64 Try.underlying221 (zeroInt64 w) (plainElem_int Try.underlying2 (by decide)) (kI_key hw)
  obtain ⟨c, rfl, hc, _⟩ := plainElem_int_inv Try.underlying2 hv
  simp only [Prod.mk.injEq] at hc
  rw [(hat y hw).1] at hc
  obtain rfl : (f y).getD 0 = c := by have := hc.1; injection this with h1; injection h1
  rw [(hat y hw).2] at hrun
  exact hrun
set_option maxRecDepth 100000 in
/-- What an update runs to. -/
theorem IMp.put {w : World} {b n : Nat} {f : Int → Option Int} (h : IMp w b f n) (hn : n ≤ 1048576) {y z : Int} (hw : WfI y) (hz : WfI z) : ∃ w', (Instr.mapUpdate 221 (.map (some b)) (.int .i64 y) (.int .i64 z)).run Try.prog w = .ok () w' ∧ IMp w' b (fun x => if x = y then some z else f x) (n + 1) ∧ w.grownBy w' (some b) := by
  obtain ⟨D, hown, hat⟩ := h
  obtain ⟨w', h0, h1, h2⟩ := hown.update keyed64 Try.underlying221 (by unfold maxLen; omega) (kI_key hw) (plainElem_int Try.underlying2 hz)
  refine ⟨w', h0, ⟨_, h1, fun x hx => ?_⟩, h2⟩
  by_cases e : x = y
  · subst e
    rw [atKey_put_same hown.isMap (keyed64.key (kI_key hw)), has_put_same hown.isMap (keyed64.key (kI_key hw))]
    simp
  · rw [atKey_put_other (kI_ne e), has_put_other (kI_ne e)]
    simp only [e, if_false]
    exact hat x hx
end Go.Proofs.Ytainlanblpccjaa
