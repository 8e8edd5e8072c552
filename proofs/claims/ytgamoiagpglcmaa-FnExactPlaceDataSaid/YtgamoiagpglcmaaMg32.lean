/- The proof's own lemmas, part 33: WrK Bs PmV PmI PmS. -/
import Derived.Test.YtgamoiagpglcmaaProg
import Derived.Test.YtgamoiagpglcmaaMg28
import Derived.Test.YtgamoiagpglcmaaMg31
import Derived.Test.YtgamoiagpglcmaaMg3
import Derived.Maps.OwnOps
import Derived.Maps.OwnSet
import Derived.Maps.Views
import Derived.Test.YtgamoiagpglcmaaMg12
import Derived.Test.YtgamoiagpglcmaaMg17
/- The gap between the erase counts, in the program: the contracts. -/
namespace Go.Proofs.Ytgamoiagpglcmaa
open Go.RowKit
set_option linter.unusedVariables false
set_option linter.unusedSimpArgs false
theorem maxOf_hiL (l : List Int) : Lib.maxOf l = hiL l := by
  cases l with
  | nil => rfl
  | cons x r =>
    unfold Lib.maxOf hiL
    simp only [List.headD_cons, List.foldl_cons]
    rw [show max x x = x by omega]
    congr 1
    funext a b
    omega
theorem minOf_loL (l : List Int) : Lib.minOf l = loL l := by
  cases l with
  | nil => rfl
  | cons x r =>
    unfold Lib.minOf loL
    simp only [List.headD_cons, List.foldl_cons]
    rw [show min x x = x by omega]
    congr 1
    funext a b
    omega
set_option maxHeartbeats 1000000 in
theorem goodB_any (v : Value) (bad : List Bool) (n : Nat) (w : World) (hi : Nat) (hv : NB w hi v bad) (hh : hi ≤ w.heap.size) (h1 : bad.length ≤ 1048576) (h2 : n ≤ 1048576) :
    Calls Try.prog 113 #[.int .i64 (n : Int), v] w (CopyPostI (goodL bad n) w) := by
  obtain ⟨A, m, c, rfl, _, _, hm, hA⟩ := hv
  have hnm : (n : Int) ≤ 1048576 := by omega
  have hmm : (m : Int) ≤ 1048576 := by omega
  have HA := Lib.hid hA
  have HH := Lib.hid hh
  have HLE := Lib.hid (goodL_le bad)
  have HN0 := Lib.hid (fun (k : Nat) (h : bad.getD k false = true) => show goodL bad (k + 1) = goodL bad k by rw [goodL, if_pos h])
  have HN1 := Lib.hid (fun (k : Nat) (h : bad.getD k false = false) => show goodL bad (k + 1) = goodL bad k ++ [(k : Int)] by rw [goodL, if_neg (by rw [h]; simp)])
  have HOUT := Lib.hid (fun (k : Nat) (h : ¬ k < m) => show bad.getD k false = false by rw [List.getD_eq_getElem?_getD, List.getElem?_eq_none (by omega)]; rfl)
  obtain ⟨G, hG⟩ : ∃ G, G = goodL bad := ⟨_, rfl⟩
  have HG0 := Lib.hid (show G 0 = [] by rw [hG]; rfl)
  rw [← hG] at HLE HN0 HN1 ⊢
  have I0 := Lib.hid (show IntsOwn w w.heap.size (.slice none 0 0) (G 0) by rw [HG0.out]; exact World.ownsRow_nil w _ _ 1)
  have B0 := Lib.hid (Below.refl w.heap.size w)
  clear hA hh h1 hm hG
  go_enter Try.func113, Try.ntmps113
  go_wp2
  go_loopw [5, 8] (fun v i wr => ∃ k : Nat, k ≤ n ∧ i = .int .i64 k ∧ Hid (IntsOwn wr w.heap.size v (G k)) ∧ Hid (Below w.heap.size w wr)) (fun _ i _ => n - (intOf i).toNat)
  case atStart => exact ⟨0, by omega, rfl, I0, B0⟩
  case round =>
    obtain ⟨k, hk, rfl, HO, HB⟩ := hrel
    by_cases hlt : k < n
    · have hki : (k : Int) < (n : Int) := by omega
      have hlen := HLE.out k
      have hb' := HB.out
      have hz' := HB.out.size
      have hown := HO.out
      by_cases hkm : k < m
      · have hkmi : (k : Int) < (m : Int) := by omega
        obtain ⟨b, o, rfl, hb1, hx⟩ := HA.out (by omega)
        have e1 := (HB.out.cell (p := ⟨b, o + k, none⟩) (by have := HH.out; show b < _; omega)).trans (hx k hkm)
        have d1 : decide ((m : Int) ≤ (k : Int)) = false := by simp; omega
        have d2 : decide (m ≤ k) = false := by simp; omega
        have d3 : decide ((k : Int) ≥ (m : Int)) = false := by simp; omega
        clear hx
        cases hb : bad.getD k false with
        | true =>
          rw [hb] at e1
          have HX := Lib.hid (HN0.out k hb)
          clear HN0 HN1 HLE hb HOUT hb' hown HA
          go_wp2
          go_roundw
          case rel => exact ⟨k + 1, by omega, by go_num, Lib.hid (by rw [HX.out]; exact HO.out), HB⟩
          case measure => simp [intOf]; omega
        | false =>
          rw [hb] at e1
          have HX := Lib.hid (HN1.out k hb)
          clear HN0 HN1 HLE hb HOUT HA HO HB
          go_wp2_with (at_builtin; refine wpList_append_int2 rfl _ _ rfl _ _ rfl hown hb' hz' _ _ rfl (by omega) ?_; intro v' w1 hown3 hb2; clear hown hb')
          go_roundw
          case rel => exact ⟨k + 1, by omega, by go_num, Lib.hid (by rw [HX.out]; exact hown3), Lib.hid hb2⟩
          case measure => simp [intOf]; omega
      · have d1 : decide ((m : Int) ≤ (k : Int)) = true := by simp; omega
        have d2 : decide (m ≤ k) = true := by simp; omega
        have d3 : decide ((k : Int) ≥ (m : Int)) = true := by simp; omega
        have HX := Lib.hid (HN1.out k (HOUT.out k hkm))
        clear HN0 HN1 HLE HOUT HA HO HB hkm
        go_wp2_with (at_builtin; refine wpList_append_int2 rfl _ _ rfl _ _ rfl hown hb' hz' _ _ rfl (by omega) ?_; intro v' w1 hown3 hb2; clear hown hb')
        go_roundw
        case rel => exact ⟨k + 1, by omega, by go_num, Lib.hid (by rw [HX.out]; exact hown3), Lib.hid hb2⟩
        case measure => simp [intOf]; omega
    · obtain rfl : k = n := by omega
      go_wp2
      go_ret
      exact ⟨_, rfl, HO.out, HB.out⟩
theorem any_counts {er : List Int} {r : Bool} (hr : r = true ↔ CountsOk er) : (er.any fun x => decide (x < 0) || decide (1000 < x)) = !r := by
  rw [Bool.eq_iff_iff, List.any_eq_true]
  constructor
  · rintro ⟨x, hx, hp⟩
    cases r with
    | false => rfl
    | true =>
      obtain ⟨i, hi1, e⟩ := List.getElem_of_mem hx
      have := hr.1 rfl i hi1
      rw [List.getD_eq_getElem?_getD, List.getElem?_eq_getElem hi1] at this
      simp only [Option.getD_some, e] at this
      simp at hp; omega
  · intro hr0
    have hrf : r = false := by simpa using hr0
    by_cases q : ∃ i, i < er.length ∧ ¬ (0 ≤ er.getD i 0 ∧ er.getD i 0 ≤ 1000)
    · obtain ⟨i, hi1, hx⟩ := q
      refine ⟨er[i], List.getElem_mem hi1, ?_⟩
      rw [List.getD_eq_getElem?_getD, List.getElem?_eq_getElem hi1] at hx
      simp only [Option.getD_some] at hx
      simp; omega
    · exfalso
      have : r = true := hr.2 (fun i hi1 => by
        by_cases z : 0 ≤ er.getD i 0 ∧ er.getD i 0 ≤ 1000
        · exact z
        · exact absurd ⟨i, hi1, z⟩ q)
      rw [hrf] at this; cases this
theorem gcL_snocK (er : List Int) (L : List Int) (k : Nat) (h : k < L.length) : cntL er (L.take (k + 1)) = cntL er (L.take k) ++ [er.getD (L.getD k 0).toNat 0] := by
  unfold cntL
  rw [List.take_succ_eq_append_getElem h, List.map_append, List.getD_eq_getElem?_getD (l := L), List.getElem?_eq_getElem h]; rfl
end Go.Proofs.Ytgamoiagpglcmaa
/- A map of the call's own from integers to bools, used as a set: what it holds, and the operations upon it. -/
namespace Go.Proofs.Ytgamoiagpglcmaa
open Go.RowKit Go.Maps
set_option linter.unusedVariables false
theorem keyed64 : Keyed Try.prog 2 := int_keyed Try.underlying2
theorem zeroBool (w : World) : (zeroValue 4).run Try.prog w = .ok (.bool false) w := by kernel_rfl
set_option maxRecDepth 100000 in
theorem plainBool_inv {H : Type} {v : Value} {z : DataW H × List MemPlace} (h : plainElem Try.prog 4 v = some z) : ∃ x, v = .bool x ∧ z = (.lit (.bool x), []) := by
  unfold plainElem at h
  rw [Try.underlying4] at h
  cases v <;> simp at h
  exact ⟨_, rfl, h.symm⟩
def kI (x : Int) : Lit := .int .i64 x
theorem kI_key {x : Int} (h : WfI x) : keyOf Try.prog 2 (.int .i64 x) = some (kI x) := keyOf_int_mk Try.underlying2 h
theorem kI_ne {x y : Int} (h : x ≠ y) : kI x ≠ kI y := fun e => h (by injection e)
/-- Block b is a map that holds true at the numbers that S holds of, and nothing else; U holds all of them, once each; n bounds how many. -/
def BSet (w : World) (b : Nat) (S : Int → Bool) (n : Nat) : Prop :=
  ∃ D : DataW Unit, w.ownsMap Try.prog 2 (plainElem Try.prog 4) b n D ∧ ∀ x, WfI x → D.atKey (kI x) (.lit (.bool false)) = .lit (.bool (S x)) ∧ Maps.has D (kI x) = S x
section
variable {w w' : World} {b n : Nat} {S : Int → Bool}
theorem BSet.made (w : World) : BSet (w.alloc (.map #[] 0)) w.heap.size (fun _ => false) 0 :=
  ⟨.map [], World.ownsMap_made _ _ _ _, fun x _ => ⟨rfl, rfl⟩⟩
theorem BSet.lt (h : BSet w b S n) : b < w.heap.size := by obtain ⟨D, h, _⟩ := h; exact h.lt
theorem BSet.kept {row : Option Nat} (h : BSet w b S n) (hg : w.grownBy w' row) (hne : some b ≠ row) : BSet w' b S n := by
  obtain ⟨D, h, h2⟩ := h; exact ⟨D, h.kept hg hne, h2⟩
theorem BSet.below {B : Nat} (h : BSet w b S n) (hb : Below B w w') (hB : b < B) : BSet w' b S n := by
  obtain ⟨D, ⟨es, clock, h, r⟩, h2⟩ := h; exact ⟨D, ⟨es, clock, (hb.block b hB).trans h, r⟩, h2⟩
theorem BSet.alloc (h : BSet w b S n) (o : Obj) : BSet (w.alloc o) b S n := by obtain ⟨D, h, h2⟩ := h; exact ⟨D, h.alloc o, h2⟩
theorem BSet.setCell (h : BSet w b S n) {g k : Nat} (hne : b ≠ g) (u : Value) : BSet (w.setCell ⟨g, k, none⟩ u) b S n := by
  obtain ⟨D, h, h2⟩ := h; exact ⟨D, h.setCell (a := ⟨g, k, none⟩) hne u, h2⟩
theorem BSet.mono (h : BSet w b S n) {m : Nat} (hm : n ≤ m) : BSet w b S m := by obtain ⟨D, h, h2⟩ := h; exact ⟨D, h.mono hm, h2⟩
theorem BSet.alike {S' : Int → Bool} (h : BSet w b S n) (e : ∀ x, WfI x → S x = S' x) : BSet w b S' n := by
  obtain ⟨D, h, h2⟩ := h; exact ⟨D, h, fun x hx => by rw [← e x hx]; exact h2 x hx⟩
end
section
variable {Q : Exit → Act → World → Prop} {ops : Array Oper} {rest : List Oper} {o : Oper} {a : Act} {w : World} {b n : Nat} {S : Int → Bool}
set_option maxRecDepth 100000 in
theorem wpList_look_bset (hg : o.guard = none) (m x : Operand) (hop : o.op = Op.lookup 127 m x false) (hm : a.eval m = .map (some b)) (hS : BSet w b S n) (y : Int) (hx : a.eval x = .int .i64 y) (hw : WfI y)
    (hK : wpList Try.prog ops Q rest (a.put o.dst (.bool (S y))) w) : wpList Try.prog ops Q (o :: rest) a w := by
  obtain ⟨D, hown, hat⟩ := hS
  refine wpList_plain hg fun K' hK' => ?_
  obtain ⟨v, ps, hrun, hv⟩ := hown.lookup keyed64 Try.underlying127 (zeroBool w) (plainElem_bool Try.underlying4 false) (kI_key hw)
  obtain ⟨c, rfl, hc⟩ := plainBool_inv hv
  simp only [Prod.mk.injEq] at hc
  rw [(hat y hw).1] at hc
  obtain rfl : S y = c := by have := hc.1; injection this with h1; injection h1
  unfold Oper.wp
  simp [execOp, hop, hm, hx, hrun, Result.andThen]
  exact hK' _ _ hK
theorem wpList_put_bset (hg : o.guard = none) (m x v : Operand) (hop : o.op = Op.mapUpdate 127 m x v) (hm : a.eval m = .map (some b)) (hS : BSet w b S n) (hn : n ≤ 1048576) (y : Int) (hx : a.eval x = .int .i64 y) (hv : a.eval v = .bool true) (hw : WfI y)
    (hK : ∀ w', BSet w' b (fun z => z == y || S z) (n + 1) → w.grownBy w' (some b) → wpList Try.prog ops Q rest (a.put o.dst undef) w') : wpList Try.prog ops Q (o :: rest) a w := by
  obtain ⟨D, hown, hat⟩ := hS
  refine wpList_mapUpdate_own w hg m x v _ hop 2 4 keyed64 Try.underlying127 (plainElem Try.prog 4) b n D hm hown (by unfold maxLen; omega) _ _ (kI y) hx hv (kI_key hw) (.lit (.bool true)) [] (plainElem_bool Try.underlying4 true) ?_
  intro w' h1 h2
  refine hK w' ⟨_, h1, fun z hz => ?_⟩ h2
  by_cases e : z = y
  · subst e
    rw [atKey_put_same hown.isMap (keyed64.key (kI_key hw)), has_put_same hown.isMap (keyed64.key (kI_key hw))]
    simp
  · rw [atKey_put_other (kI_ne e), has_put_other (kI_ne e)]
    have h3 : (z == y) = false := by simp [e]
    simp only [h3, Bool.false_or]
    exact hat z hz
theorem wpList_del_bset (hg : o.guard = none) (m x : Operand) (hop : o.op = Op.call { callee := Callee.builtin Builtin.delete, args := #[m, x], argTypes := #[127, 2] }) (hm : a.eval m = .map (some b)) (hS : BSet w b S n) (y : Int) (hx : a.eval x = .int .i64 y) (hw : WfI y)
    (hK : ∀ w', BSet w' b (fun z => z != y && S z) n → w.grownBy w' (some b) → wpList Try.prog ops Q rest (a.put o.dst (.tuple #[])) w') : wpList Try.prog ops Q (o :: rest) a w := by
  obtain ⟨D, hown, hat⟩ := hS
  refine wpList_delete_own w hg m x _ _ hop 4 keyed64 Try.underlying127 (plainElem Try.prog 4) b n D hm hown _ (kI y) hx (kI_key hw) ?_
  intro w' h1 h2
  refine hK w' ⟨_, h1, fun z hz => ?_⟩ h2.grown
  by_cases e : z = y
  · subst e
    rw [atKey_del_same, has_del_same]
    simp
  · rw [atKey_del_other (kI_ne e), has_del_other (kI_ne e)]
    have h3 : (z != y) = true := by simp [e]
    simp only [h3, Bool.true_and]
    exact hat z hz
end
set_option maxRecDepth 100000 in
/-- What a lookup runs to. -/
theorem BSet.look {w : World} {b n : Nat} {S : Int → Bool} (h : BSet w b S n) {y : Int} (hw : WfI y) : (Instr.lookup 127 (.map (some b)) (.int .i64 y) false).run Try.prog w = .ok (.bool (S y)) w := by
  obtain ⟨D, hown, hat⟩ := h
  obtain ⟨v, ps, hrun, hv⟩ := hown.lookup keyed64 Try.underlying127 (zeroBool w) (plainElem_bool Try.underlying4 false) (kI_key hw)
  obtain ⟨c, rfl, hc⟩ := plainBool_inv hv
  simp only [Prod.mk.injEq] at hc
  rw [(hat y hw).1] at hc
  obtain rfl : S y = c := by have := hc.1; injection this with h1; injection h1
  exact hrun
set_option maxRecDepth 100000 in
/-- What an update runs to. -/
theorem BSet.put {w : World} {b n : Nat} {S : Int → Bool} (h : BSet w b S n) (hn : n ≤ 1048576) {y : Int} (hw : WfI y) : ∃ w', (Instr.mapUpdate 127 (.map (some b)) (.int .i64 y) (.bool true)).run Try.prog w = .ok () w' ∧ BSet w' b (fun z => z == y || S z) (n + 1) ∧ w.grownBy w' (some b) := by
  obtain ⟨D, hown, hat⟩ := h
  obtain ⟨w', h0, h1, h2⟩ := hown.update keyed64 Try.underlying127 (by unfold maxLen; omega) (kI_key hw) (plainElem_bool Try.underlying4 true)
  refine ⟨w', h0, ⟨_, h1, fun z hz => ?_⟩, h2⟩
  by_cases e : z = y
  · subst e
    rw [atKey_put_same hown.isMap (keyed64.key (kI_key hw)), has_put_same hown.isMap (keyed64.key (kI_key hw))]
    simp
  · rw [atKey_put_other (kI_ne e), has_put_other (kI_ne e)]
    have h3 : (z == y) = false := by simp [e]
    simp only [h3, Bool.false_or]
    exact hat z hz
end Go.Proofs.Ytgamoiagpglcmaa
/- Which maps are valid, in the program and in the model: the small contracts. -/
namespace Go.Proofs.Ytgamoiagpglcmaa
open Go.RowKit
set_option linter.unusedVariables false
set_option linter.unusedSimpArgs false
theorem sizeOk_div {b p : Int} (hb : 1 ≤ b) (hp : 1 ≤ p) : (b ≤ 640 / p) ↔ ((1 ≤ b ∧ b ≤ 640) ∧ (1 ≤ p ∧ p ≤ 640) ∧ b * p ≤ 640) := by
  rw [Int.le_ediv_iff_mul_le (by omega)]
  constructor
  · intro h
    have h1 : b * 1 ≤ b * p := Int.mul_le_mul_of_nonneg_left hp (by omega)
    have h2 : 1 * p ≤ b * p := Int.mul_le_mul_of_nonneg_right hb (by omega)
    exact ⟨⟨hb, by omega⟩, ⟨hp, by omega⟩, h⟩
  · exact fun h => h.2.2
end Go.Proofs.Ytgamoiagpglcmaa
/- Which maps are valid, in the program: the contracts. -/
namespace Go.Proofs.Ytgamoiagpglcmaa
open Go.RowKit
set_option linter.unusedVariables false
set_option linter.unusedSimpArgs false
end Go.Proofs.Ytgamoiagpglcmaa
/- Which maps are valid, in the model: the contracts. -/
namespace Go.Proofs.Ytgamoiagpglcmaa
open Go.RowKit
set_option linter.unusedVariables false
set_option linter.unusedSimpArgs false
end Go.Proofs.Ytgamoiagpglcmaa
