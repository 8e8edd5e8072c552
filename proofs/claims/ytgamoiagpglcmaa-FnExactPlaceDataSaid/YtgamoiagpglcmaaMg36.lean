/- The proof's own lemmas, part 37: WoR PmW PmX. -/
import Derived.Test.YtgamoiagpglcmaaProg
import Derived.Test.YtgamoiagpglcmaaMg35
import Derived.Deep.RegionHeld3
import Derived.Test.YtgamoiagpglcmaaMg32
import Derived.Laws.MakeOwn
import Derived.Deep.Cut
import Derived.Deep.DeepCutAuto
import Derived.Test.YtgamoiagpglcmaaMg14
/- place: the contract. -/
namespace Go.Proofs.Ytgamoiagpglcmaa
open Go.RowKit
set_option linter.unusedVariables false
set_option linter.unusedSimpArgs false
set_option maxHeartbeats 8000000 in
set_option maxRecDepth 100000 in
theorem implPlace_any (g8 : Nat) (M : We) (hot : Bool) (ct : Int) (AE AB : Option Addr) (nE cE nB cB gC nC cC : Nat) (nb : Int) (B : Nat) (w : World) (hR : Rw w g8 27 #[.slice AE nE cE, .slice AB nB cB, .slice (some ⟨gC, 0, none⟩) nC cC, .int .i64 nb]) (hE : NI w w.heap.size (.slice AE nE cE) M.e) (hB : NB w w.heap.size (.slice AB nB cB) M.b) (hC : IntsOwn w B (.slice (some ⟨gC, 0, none⟩) nC cC) M.c) (o : WeOk M) (hot2 : True) :
    Calls Try.prog 76 #[.pointer (some ⟨g8, 0, none⟩), .int .i64 ct, .bool hot] w fun e w' => e = .returned (.int .i64 (plcV M hot)) ∧ ((plcV M hot = -1 ∧ Below w.heap.size w w') ∨ ((0 ≤ plcV M hot ∧ plcV M hot < (M.e.length : Int)) ∧ ∃ w2, Below w.heap.size w w2 ∧ w' = w2.setCell ⟨gC, (plcV M hot).toNat, none⟩ (.int .i64 ct))) := by
  have hnE : M.e.length = nE := hE.len_.1
  have hnC : M.c.length = nC := by
    rcases hC.shape with ⟨e, _⟩ | ⟨g, cap, e, _⟩
    · cases e
    · injection e with _ e _; exact e.symm
  have o1 := o.1
  have o2 := o.2.1
  have o3 := o.2.2.1
  have hgC := (hC.blockOf (k := gC) rfl).2
  have hg8 := hR.lt
  have bx := (Below.refl w.heap.size w).alloc (Nat.le_refl _) (.cells #[.pointer (some ⟨g8, 0, none⟩)] 153)
  have HK := Lib.hid (show ∀ (W : World) (b : Below (w.heap.size + 1) (w.alloc (.cells #[.pointer (some ⟨g8, 0, none⟩)] 153)) W), (W.cell? ⟨w.heap.size, 0, none⟩ = some (.pointer (some ⟨g8, 0, none⟩)) ∧ W.cell? ⟨g8, 0, none⟩ = some (.slice AE nE cE) ∧ W.cell? ⟨g8, 1, none⟩ = some (.slice AB nB cB) ∧ W.cell? ⟨g8, 2, none⟩ = some (.slice (some ⟨gC, 0, none⟩) nC cC)) ∧ Below w.heap.size w W ∧ (∀ i, i < nC → W.cell? ⟨gC, i, none⟩ = some (.int .i64 (M.c.getD i 0))) ∧ Rw W w.heap.size 153 #[.pointer (some ⟨g8, 0, none⟩)] ∧ Rw W g8 27 #[.slice AE nE cE, .slice AB nB cB, .slice (some ⟨gC, 0, none⟩) nC cC, .int .i64 nb] ∧ W.frozen? ⟨gC, 0, none⟩ = false from by
    intro W b
    have bW : Below w.heap.size w W := bx.trans (b.mono (by omega))
    have e3 := (Rw.new w 153 #[.pointer (some ⟨g8, 0, none⟩)]).below b (by omega)
    have e8 := hR.below bW hg8
    have oW := hC.later bW (Nat.le_refl _)
    exact ⟨⟨e3.one, (e8.four).1, (e8.four).2.1, (e8.four).2.2.1⟩, bW, fun i hi => oW.cell hnC hi, e3, e8, oW.free hnC 0⟩)
  have HGB := Lib.hid (fun (W : World) (b : Below w.heap.size w W) => goodB_any (.slice AB nB cB) M.b nE W w.heap.size (hB.below b (Nat.le_refl _)) b.size (by omega) (by omega))
  have HPF := Lib.hid (fun (W : World) (b : Below w.heap.size w W) (v : Value) (hv : NI W W.heap.size v (freeW M)) => show Calls Try.prog 45 #[.slice AE nE cE, v, .bool hot] W (fun e w' => e = .returned (.int .i64 (plcV M hot)) ∧ Below W.heap.size W w') from implPfr_any (.slice AE nE cE) v M.e (freeW M) hot true W W.heap.size ((hE.below b (Nat.le_refl _)).wide b.size) hv (Nat.le_refl _) ⟨fun _ => freeW_ok M, fun _ => rfl⟩ (by omega) (by have := freeL_le M.b M.c M.e.length; unfold freeW; omega))
  have HFW := Lib.hid (show (goodL M.b nE).filter (fun x => !usedP M.c x) = freeW M by unfold freeW freeL; rw [hnE])
  have HGM := Lib.hid (fun i hi => goodL_mem M.b nE i hi)
  have hgl := goodL_le M.b nE
  have PI := Lib.hid (plc_in M hot)
  have HC2 := Lib.hid (fun (W : World) (b : Below w.heap.size w W) => (show ∀ j, W.frozen? ⟨gC, j, none⟩ = false from fun j => (hC.later b (Nat.le_refl _)).free hnC j))
  have hz1 : (w.alloc (.cells #[.pointer (some ⟨g8, 0, none⟩)] 153)).heap.size = w.heap.size + 1 := by simp
  obtain ⟨W0, hW0⟩ : ∃ W, W = w.alloc (.cells #[.pointer (some ⟨g8, 0, none⟩)] 153) := ⟨_, rfl⟩
  rw [← hW0] at HK hz1
  have BZ : Below (w.heap.size + 1) W0 W0.drew := (Below.refl _ _).drew
  have Z0 : w.heap.size + 1 ≤ W0.drew.heap.size := by show _ ≤ W0.heap.size; omega
  have kA := (HK.out _ BZ).1
  clear hR hE hB hC o bx
  generalize plcV M hot = v at *
  go_enter Try.func76, Try.ntmps76
  go_upto_region 2 with fail
  rw [← hW0]
  clear hW0 hz1
  go_region_held3 (fun W => W.cell? ⟨w.heap.size, 0, none⟩ = some (.pointer (some ⟨g8, 0, none⟩)) ∧ W.cell? ⟨g8, 0, none⟩ = some (.slice AE nE cE) ∧ W.cell? ⟨g8, 1, none⟩ = some (.slice AB nB cB) ∧ W.cell? ⟨g8, 2, none⟩ = some (.slice (some ⟨gC, 0, none⟩) nC cC))
    (first
      | with_reducible exact kA
      | with_reducible exact kB
      | with_reducible exact kC)
    (first
      | (go_at_call 113
         with_reducible refine (HGB.out _ (HK.out _ BZ).2.1).mono ?_
         rintro e w2 ⟨v2, rfl, ho, q⟩
         have B2 := BZ.trans (q.mono Z0)
         have Z2 := Nat.le_trans Z0 q.size
         have kB := (HK.out _ B2).1
         have HDF := Lib.hid (delP_own W0.drew.heap.size w.heap.size v2 (goodL M.b nE) (usedP M.c) w2 ho (by omega) q.size (fun W i hi b => usd_any w.heap.size g8 gC nC cC _ _ _ M.c _ W (HK.out W (B2.trans (b.mono Z0))).2.2.2.1 (HK.out W (B2.trans (b.mono Z0))).2.2.2.2.1 (HK.out W (B2.trans (b.mono Z0))).2.2.1 (HGM.out i hi).1 (by have := (HGM.out i hi).2; omega)))
         clear ho)
      | (go_at_call 112
         with_reducible refine HDF.out.mono ?_
         rintro e w3 ⟨v3, rfl, n3, q3⟩
         have B3 := B2.trans (q3.mono Z0)
         have Z3 := Nat.le_trans Z2 q3.size
         have kC := (HK.out _ B3).1
         have N3 := Lib.hid n3
         clear n3))
  all_goals
    obtain ⟨q0, q1, q2, q4⟩ := kC
    have HPP := Lib.hid (HPF.out w3 (HK.out _ B3).2.1 v3 (by rw [← HFW.out]; exact N3.out))
    clear HDF kA kB HGB HPF HGM HFW N3
    go_wp2_with fail
    clear q0 q1 q2 q4
    refine HPP.out.mono ?_
    rintro e w4 ⟨rfl, q⟩
    have B4 := B3.trans (q.mono Z3)
    clear q HPP
    obtain ⟨⟨q0, q1, q2, q4⟩, bw, hc, _⟩ := HK.out _ B4
    have hfz := HC2.out _ bw
    have BW := Lib.hid bw
    clear bw HK
    have PJ := PI.out
    clear PI
    rcases PJ with ⟨_, h⟩ | ⟨_, h1, h2⟩
    · subst h
      clear hc hfz
      go_wp2
      go_ret
      first | exact ⟨rfl, BW.out⟩ | exact ⟨rfl, .inl ⟨rfl, BW.out⟩⟩
    · obtain ⟨j, rfl⟩ : ∃ j : Nat, v = (j : Int) := ⟨v.toNat, by omega⟩
      have d1 : ((j : Int) != -1) = true := by simp
      have c5 := hc j (by omega)
      have f5 := hfz j
      have hjI : (j : Int) < (nC : Int) := by omega
      have HH := Lib.hid h2
      clear hc hfz h1 h2
      go_wp2
      go_ret
      exact ⟨rfl, .inr ⟨⟨by omega, HH.out⟩, w4, BW.out, by simp⟩⟩
end Go.Proofs.Ytgamoiagpglcmaa
/- NewMap, in the program and in the model: the contracts. -/
namespace Go.Proofs.Ytgamoiagpglcmaa
open Go.RowKit
set_option linter.unusedVariables false
set_option linter.unusedSimpArgs false
theorem madeInts (W : World) {B n : Nat} (hB : B ≤ W.heap.size) (hn : n ≤ 1048576) : IntsOwn (W.alloc (.cells (madeCells #[.int .i64 0] (n * 1)) 2)) B (.slice (some ⟨W.heap.size, 0, none⟩) n n) (List.replicate n 0) := by
  have h := World.ownsRow_lit (base := B) (e := 2) (size := 1) W (madeCells #[.int .i64 0] (n * 1)) n hB (by unfold maxLen; omega) (size_madeCells _ _)
  have e : (madeCells #[Value.int .i64 0] (n * 1)).toList = (List.replicate n (0 : Int)).map (Value.int .i64) := by
    rw [toList_madeCells_one]; simp
  rw [e] at h
  unfold IntsOwn; simpa using h
theorem madeBools (W : World) {B n : Nat} (hB : B ≤ W.heap.size) (hn : n ≤ 1048576) : BoolsOwn (W.alloc (.cells (madeCells #[.bool false] (n * 1)) 4)) B (.slice (some ⟨W.heap.size, 0, none⟩) n n) (List.replicate n false) := by
  have h := World.ownsRow_lit (base := B) (e := 4) (size := 1) W (madeCells #[.bool false] (n * 1)) n hB (by unfold maxLen; omega) (size_madeCells _ _)
  have e : (madeCells #[Value.bool false] (n * 1)).toList = (List.replicate n false).map Value.bool := by
    rw [toList_madeCells_one]; simp
  rw [e] at h
  unfold BoolsOwn; simpa using h
def newPm (l b p : Int) : Pm := ⟨b, p, List.replicate l.toNat (-1), List.replicate l.toNat false⟩
/-- What NewMap answers. -/
def NewIs (l b p : Int) (M : Pm) (c : Int) : Prop := (SizeOk l b p ∧ M = newPm l b p ∧ c = 0) ∨ (¬ SizeOk l b p ∧ M = Pm.zero ∧ c = 2)
theorem newIs (l b p : Int) : ∃ M c, NewIs l b p M c := by
  by_cases h : SizeOk l b p
  · exact ⟨_, _, .inl ⟨h, rfl, rfl⟩⟩
  · exact ⟨_, _, .inr ⟨h, rfl, rfl⟩⟩
def PmPost (M : Pm) (c : Int) (w : World) (e : Ending) (w' : World) : Prop := ∃ u, e = .returned (.tuple #[u, .int .i64 c]) ∧ PmOwn w' w.heap.size w'.heap.size u M ∧ Below w.heap.size w w'
end Go.Proofs.Ytgamoiagpglcmaa
/- NewMap, in the model: the contract. -/
namespace Go.Proofs.Ytgamoiagpglcmaa
open Go.RowKit
set_option linter.unusedVariables false
set_option linter.unusedSimpArgs false
/-- Rows of different types are different blocks. -/
theorem ownApartX {w : World} {B : Nat} {v u : Value} {l : List Int} {m : List Bool} (h : IntsOwn w B v l) (k : BoolsOwn w B u m) : v.ownBlock = none ∨ v.ownBlock ≠ u.ownBlock := by
  rcases h.2 with ⟨h1, _⟩ | ⟨g, cap, cur, h1, h2, h3, h4⟩
  · left; rw [h1]; rfl
  · right
    rcases k.2 with ⟨k1, _⟩ | ⟨g', cap', cur', k1, k2, k3, k4⟩
    · rw [h1, k1]; intro e; cases e
    · rw [h1, k1]
      intro e
      obtain rfl : g = g' := Option.some.inj e
      rw [h3] at k3
      injection k3 with k3
      injection k3 with e1 e2
      exact absurd e2 (by decide)
theorem wpList_append_intG {Q : Exit → Act → World → Prop} {ops : Array Oper} {rest : List Oper} {o : Oper} {a : Act} {w0 wr : World} {B : Nat} (hgd : o.guard = none) (s x : Operand)
    (ho : o.op = .call { callee := .builtin .append, args := #[s, x], argTypes := #[22, 22] })
    (v : Value) (l : List Int) (hs : a.eval s = v) (hown : IntsOwn wr B v l) (hb : Below B w0 wr) (hB : B ≤ wr.heap.size)
    (b : Int) (c : Nat) (hx : a.eval x = .slice (some ⟨wr.heap.size, 0, none⟩) 1 c) (hl : l.length + 1 ≤ 1000000)
    (h : ∀ v' w', IntsOwn w' B v' (l ++ [b]) → Below B w0 w' → wr.grownBy w' v.ownBlock → wpList Try.prog ops Q rest (a.put o.dst v') w') :
    wpList Try.prog ops Q (o :: rest) a (wr.alloc (.cells #[.int .i64 b] 2)) := by
  obtain ⟨i0, hi, hz0, hz1, hz2⟩ := info_parts info64
  refine wpList_append_own _ hgd s x _ ho B 2 i0 (.int .i64 0) 1 8 Try.underlying22 hi hz0 hz1 hz2 rfl (by decide) v l.length (l.map (Value.int .i64)) hs (World.ownsRow.alloc hown _) ⟨wr.heap.size, 0, none⟩ 1 c [.int .i64 b] hx rfl ?_ ?_ (by unfold maxLen; omega) (by omega) (by simp; omega) ?_
  · intro j u hj
    match j, hj with
    | 0, hj => simp at hj; subst hj; simp [Addr.add]
  · intro u hu; simp at hu; subst hu; rfl
  · intro v' w' h1 h2 _
    refine h v' w' ?_ ?_ ?_
    · unfold IntsOwn; simpa using h1
    · exact (hb.alloc hB _).grown h2 (by simp; omega) fun k hk => (World.ownsRow.lt hown k hk).1
    · exact ⟨h2.os, h2.tape, h2.output, Nat.le_trans (by simp) h2.size, fun j hj hne => (h2.block j (by simp; omega) hne).trans (Below.heap_alloc wr _ j hj)⟩
theorem wpList_append_boolG {Q : Exit → Act → World → Prop} {ops : Array Oper} {rest : List Oper} {o : Oper} {a : Act} {w0 wr : World} {B : Nat} (hgd : o.guard = none) (s x : Operand)
    (ho : o.op = .call { callee := .builtin .append, args := #[s, x], argTypes := #[23, 23] })
    (v : Value) (l : List Bool) (hs : a.eval s = v) (hown : BoolsOwn wr B v l) (hb : Below B w0 wr) (hB : B ≤ wr.heap.size)
    (b : Bool) (c : Nat) (hx : a.eval x = .slice (some ⟨wr.heap.size, 0, none⟩) 1 c) (hl : l.length + 1 ≤ 1000000)
    (h : ∀ v' w', BoolsOwn w' B v' (l ++ [b]) → Below B w0 w' → wr.grownBy w' v.ownBlock → wpList Try.prog ops Q rest (a.put o.dst v') w') :
    wpList Try.prog ops Q (o :: rest) a (wr.alloc (.cells #[.bool b] 4)) := by
  obtain ⟨i0, hi, hz0, hz1, hz2⟩ := info_parts infoBo
  refine wpList_append_own _ hgd s x _ ho B 4 i0 (.bool false) 1 1 Try.underlying23 hi hz0 hz1 hz2 rfl (by decide) v l.length (l.map Value.bool) hs (World.ownsRow.alloc hown _) ⟨wr.heap.size, 0, none⟩ 1 c [.bool b] hx rfl ?_ ?_ (by unfold maxLen; omega) (by omega) (by simp; omega) ?_
  · intro j u hj
    match j, hj with
    | 0, hj => simp at hj; subst hj; simp [Addr.add]
  · intro u hu; simp at hu; subst hu; rfl
  · intro v' w' h1 h2 _
    refine h v' w' ?_ ?_ ?_
    · unfold BoolsOwn; simpa using h1
    · exact (hb.alloc hB _).grown h2 (by simp; omega) fun k hk => (World.ownsRow.lt hown k hk).1
    · exact ⟨h2.os, h2.tape, h2.output, Nat.le_trans (by simp) h2.size, fun j hj hne => (h2.block j (by simp; omega) hne).trans (Below.heap_alloc wr _ j hj)⟩
end Go.Proofs.Ytgamoiagpglcmaa
