/- The proof's own lemmas, part 25: NwF. -/
import Derived.Test.YthenilomgbnpeaaGreatDoorProg
import Derived.Test.YthenilomgbnpeaaGreatDoorMg17
import Derived.Test.YthenilomgbnpeaaGreatDoorMg13
import Derived.Test.YthenilomgbnpeaaGreatDoorMg15
import Derived.Test.YthenilomgbnpeaaGreatDoorMg16
import Derived.Deep.RegionHeld3
import Derived.Deep.RegionLaw
import Derived.Deep.OwnRows
import Derived.Maps.AppendAt
/- A new array, in the model and in the program: the contracts. -/
namespace Go.Proofs.YthenilomgbnpeaaGreatDoor
open Go.RowKit
set_option linter.unusedVariables false
/-- A block without programmed pages. -/
def newBlk (p : Int) : Blk := ⟨0, 0, false, List.replicate p.toNat ByteArray.empty⟩
theorem made_at (m i : Nat) (h : i < m) : (madeCells #[Value.string ByteArray.empty] m)[i]? = some (.string ByteArray.empty) := by
  have e : (madeCells #[Value.string ByteArray.empty] m).toList = List.replicate m (.string ByteArray.empty) := by rw [toList_madeCells_one]
  rw [← Array.getElem?_toList, e, List.getElem?_replicate, if_pos h]
theorem PgOwn.made (w : World) (m g : Nat) (hm : m ≤ 1000) (hg : g ≠ w.heap.size) (t : TypeId) :
    PgOwn (w.alloc (.cells (madeCells #[.string ByteArray.empty] m) t)) w.heap.size (w.heap.size + 1) g (.slice (some ⟨w.heap.size, 0, none⟩) m m) (List.replicate m ByteArray.empty) := by
  have hr := Rw.new w t (madeCells #[.string ByteArray.empty] m)
  have hx : ∀ i, (List.replicate m ByteArray.empty).getD i ByteArray.empty = ByteArray.empty := fun i => by
    rw [List.getD_eq_getElem?_getD, List.getElem?_replicate]; split <;> rfl
  refine ⟨_, _, _, rfl, Nat.le_refl _, by omega, by simp, fun i hi => by rw [hx]; exact Nat.zero_le _, fun _ => ⟨w.heap.size, 0, rfl, Nat.le_refl _, by omega, fun e => hg e.symm, fun k => hr.free k, fun i hi => ?_⟩⟩
  rw [hx, Nat.zero_add, hr.cell i]
  exact made_at m i hi
theorem infoBkN : (Tryz.prog.info? 51).map (fun i => (i.zero, i.size, i.bytes)) = some (some (.agg #[.int .i64 0, .int .i64 0, .bool false, .slice none 0 0]), 4, 48) := by kernel_rfl
theorem infoFl8N : (Tryz.prog.info? 28).map (·.size) = some 8 := by kernel_rfl
theorem infoSt : (Tryz.prog.info? 9).map (fun i => (i.zero, i.size, i.bytes)) = some (some (.string ByteArray.empty), 1, 16) := by kernel_rfl
theorem step_append_block {Q : Exit → Act → World → Prop} {K : Act → World → Prop} {E : Prop} {ops : Array Oper} {o : Oper} {a : Act} {w : World} {B : Nat} (hgd : o.guard = none) (s x : Operand)
    (ho : o.op = .call { callee := .builtin .append, args := #[s, x], argTypes := #[26, 26] })
    (v : Value) (L : List Blk) (pv : Nat → Value) (hs : a.eval s = v) (hown : w.ownsRow B 51 4 v L.length (rowC L pv)) (hB : B ≤ w.heap.size)
    (y : Blk) (u : Value) (hu : u.oneCell' = true) (g c : Nat) (hx : a.eval x = .slice (some ⟨g, 0, none⟩) 1 c) (hc : ∀ j t, (bkCells y u)[j]? = some t → w.cell? ⟨g, j, none⟩ = some t) (hl : L.length + 1 ≤ 1000000)
    (h : ∀ v' w', w'.ownsRow B 51 4 v' (L.length + 1) (rowC L pv ++ bkCells y u) → w.grownBy w' v.ownBlock → (v'.ownBlock = v.ownBlock ∨ v'.ownBlock = some w.heap.size) → K (a.put o.dst v') w') :
    if Region.wanted o (yielded ops a.tmps) = true then Oper.wp Tryz.prog o a w K Q else E := by
  have hw : Region.wanted o (yielded ops a.tmps) = true := by simp [Region.wanted, hgd]
  rw [if_pos hw]
  obtain ⟨i0, hi, hz0, hz1, hz2⟩ := info_parts infoBkN
  obtain ⟨v', w', hr, h2, h3, h4, h5⟩ := run_append_own_at (P := Tryz.prog) w B 26 o.type 51 i0 (.agg #[.int .i64 0, .int .i64 0, .bool false, .slice none 0 0]) 4 48 Tryz.underlying26 hi hz0 hz1 hz2 rfl (by decide) v L.length (rowC L pv) hown ⟨g, 0, none⟩ 1 c (bkCells y u) rfl
    (fun j t hj => by rw [Addr.add_lit, Nat.zero_add]; exact hc j t hj) (by
      intro t ht
      simp [bkCells] at ht
      rcases ht with rfl | rfl | rfl | rfl
      · rfl
      · rfl
      · rfl
      · exact hu) (by unfold maxLen; omega) (by omega) hB
  unfold Oper.wp execOp
  simp only [ho, resolve, invoke, builtin, Sem.run_bind, Sem.run_pure, Result.andThen_ok, List.map_toArray, List.map_cons, List.map_nil, hs, hx, hr]
  exact h v' w' h2 h3 h5
set_option maxHeartbeats 4000000 in
theorem l06New_any (d b p : Int) (w : World) (hg : GeoOk d b p) :
    Calls Tryz.prog 62 #[.agg #[.int .i64 d, .int .i64 b, .int .i64 p]] w fun e w' => ∃ u, e = .returned u ∧ FlOwn w' w.heap.size w'.heap.size u (newFl d b p) ∧ Below w.heap.size w w' := by
  obtain ⟨n, hn, hn1, hn2⟩ : ∃ n : Nat, d * b = (n : Int) ∧ 8 ≤ n ∧ n ≤ 36 := by have := hg.mul; exact ⟨(d * b).toNat, by omega, by omega, by omega⟩
  obtain ⟨m, rfl, hm1, hm2⟩ : ∃ m : Nat, p = (m : Int) ∧ 8 ≤ m ∧ m ≤ 16 := by have := hg.p16; exact ⟨p.toNat, by omega, by omega, by omega⟩
  have hdb : (2 ≤ d ∧ d ≤ 3) ∧ (4 ≤ b ∧ b ≤ 12) := ⟨hg.1, hg.2.1⟩
  clear hg
  go_enter Tryz.func62, Tryz.ntmps62
  go_wp2_with fail
  obtain ⟨r0, r1, r2, b0⟩ := Rw.three_new w 25 28 28 #[.int .i64 d, .int .i64 b, .int .i64 m]
    #[.int .i64 0, .int .i64 0, .int .i64 0, .slice none 0 0, .int .i64 0, .int .i64 0, .bool false, .int .i64 0] #[.int .i64 d, .int .i64 b, .int .i64 m, .slice none 0 0, .int .i64 (-1), .int .i64 0, .bool false, .int .i64 0]
  have R0 := Lib.hid r0
  have R1 := Lib.hid r1
  have R2 := Lib.hid r2
  have HB0 := Lib.hid b0
  have G0 := Lib.hid (Grow.nil (((w.alloc (.cells #[.int .i64 d, .int .i64 b, .int .i64 m] 25)).alloc (.cells #[.int .i64 0, .int .i64 0, .int .i64 0, .slice none 0 0, .int .i64 0, .int .i64 0, .bool false, .int .i64 0] 28)).alloc (.cells #[.int .i64 d, .int .i64 b, .int .i64 m, .slice none 0 0, .int .i64 (-1), .int .i64 0, .bool false, .int .i64 0] 28)) (w.heap.size + 3) (fun _ => .slice none 0 0))
  have hz0 : w.heap.size + 3 ≤ (((w.alloc (.cells #[.int .i64 d, .int .i64 b, .int .i64 m] 25)).alloc (.cells #[.int .i64 0, .int .i64 0, .int .i64 0, .slice none 0 0, .int .i64 0, .int .i64 0, .bool false, .int .i64 0] 28)).alloc (.cells #[.int .i64 d, .int .i64 b, .int .i64 m, .slice none 0 0, .int .i64 (-1), .int .i64 0, .bool false, .int .i64 0] 28)).heap.size := by simp
  have hmk := fun W : World => run_make_row' (P := Tryz.prog) 49 9 (.string ByteArray.empty) 16 Tryz.underlying49 infoSt rfl .i64 .i64 m (by omega) (by omega) W
  clear r0 r1 r2 b0
  go_loopw [4] (fun i wr => ∃ (k : Nat) (pv : Nat → Value) (A : Option Addr) (cv : Nat), k ≤ n ∧ i = .int .i64 k ∧ Hid (Grow wr (w.heap.size + 3) (.slice A k cv) (List.replicate k (newBlk m)) pv) ∧ Hid (Rw wr w.heap.size 25 #[.int .i64 d, .int .i64 b, .int .i64 m]) ∧
      Hid (Rw wr (w.heap.size + 1) 28 #[.int .i64 0, .int .i64 0, .int .i64 0, .slice none 0 0, .int .i64 0, .int .i64 0, .bool false, .int .i64 0]) ∧ Hid (Rw wr (w.heap.size + 1 + 1) 28 #[.int .i64 d, .int .i64 b, .int .i64 m, .slice A k cv, .int .i64 (-1), .int .i64 0, .bool false, .int .i64 0]) ∧
      Hid (Below w.heap.size w wr) ∧ w.heap.size + 3 ≤ wr.heap.size) (fun i _ => n - (intOf i).toNat)
  case atStart => exact ⟨0, _, none, 0, by omega, rfl, G0, R0, R1, R2, HB0, hz0⟩
  case round =>
    clear R0 R1 R2 HB0 G0 hz0
    obtain ⟨k, pv, A, cv, hk, rfl, GG, R0, R1, R2, HB, hz⟩ := hrel
    obtain ⟨a0, a1, a2⟩ := R0.out.three
    obtain ⟨z0, z1, z2, z3, z4, z5, z6, z7⟩ := R1.out.eight
    obtain ⟨o0, o1, o2, o3, o4, o5, o6, o7⟩ := R2.out.eight
    by_cases hlt : k < n
    · have hki : (k : Int) < (n : Int) := by omega
      have hrl : (List.replicate k (newBlk m)).length = k := List.length_replicate
      have hown := GG.out.own
      rw [hrl] at hown
      have hr2 := Rw.new (wr.alloc (.cells (madeCells #[.string ByteArray.empty] m) 9)) 51 #[.int .i64 0, .int .i64 0, .bool false, .slice (some ⟨wr.heap.size, 0, none⟩) m m]
      simp only [World.size_alloc] at hr2
      have bb := ((Below.refl wr.heap.size wr).alloc (Nat.le_refl _) (.cells (madeCells #[.string ByteArray.empty] m) 9)).alloc (by simp) (.cells #[.int .i64 0, .int .i64 0, .bool false, .slice (some ⟨wr.heap.size, 0, none⟩) m m] 51)
      have OW := Lib.hid (show World.ownsRow ((wr.alloc (.cells (madeCells #[.string ByteArray.empty] m) 9)).alloc (.cells #[.int .i64 0, .int .i64 0, .bool false, .slice (some ⟨wr.heap.size, 0, none⟩) m m] 51)).drew (w.heap.size + 3) 51 4 (.slice A k cv) (List.replicate k (newBlk m)).length (rowC (List.replicate k (newBlk m)) pv) from by rw [hrl]; exact ((World.ownsRow.alloc (World.ownsRow.alloc hown _) _).drew))
      have HR2 := Lib.hid (show ∀ j t, (bkCells (newBlk m) (.slice (some ⟨wr.heap.size, 0, none⟩) m m))[j]? = some t → ((wr.alloc (.cells (madeCells #[.string ByteArray.empty] m) 9)).alloc (.cells #[.int .i64 0, .int .i64 0, .bool false, .slice (some ⟨wr.heap.size, 0, none⟩) m m] 51)).drew.cell? ⟨wr.heap.size + 1, j, none⟩ = some t from fun j t hj => by
        refine (hr2.cell j).trans ?_
        rw [← hj]; simp [bkCells, newBlk])
      have pg0 := PgOwn.made wr m (wr.heap.size + 1 + 1) (by omega) (by omega) 9
      have PG := Lib.hid (show PgOwn ((wr.alloc (.cells (madeCells #[.string ByteArray.empty] m) 9)).alloc (.cells #[.int .i64 0, .int .i64 0, .bool false, .slice (some ⟨wr.heap.size, 0, none⟩) m m] 51)).drew wr.heap.size (wr.heap.size + 1 + 1) (wr.heap.size + 1 + 1) (.slice (some ⟨wr.heap.size, 0, none⟩) m m) (newBlk m).pg from by
        have e : (newBlk m).pg = List.replicate m ByteArray.empty := by simp [newBlk]
        rw [e]
        exact (pg0.same (sm ((Below.refl (wr.heap.size + 1) (wr.alloc (.cells (madeCells #[.string ByteArray.empty] m) 9))).alloc (by simp) _) _ (Nat.le_refl _))).wide (Nat.le_refl _) (by omega))
      have BBW := Lib.hid (show Below wr.heap.size wr ((wr.alloc (.cells (madeCells #[.string ByteArray.empty] m) 9)).alloc (.cells #[.int .i64 0, .int .i64 0, .bool false, .slice (some ⟨wr.heap.size, 0, none⟩) m m] 51)).drew from bb.drew)
      have hwz : ((wr.alloc (.cells (madeCells #[.string ByteArray.empty] m) 9)).alloc (.cells #[.int .i64 0, .int .i64 0, .bool false, .slice (some ⟨wr.heap.size, 0, none⟩) m m] 51)).drew.heap.size = wr.heap.size + 1 + 1 := by simp
      have HWZ := Lib.hid hwz
      have HRL := Lib.hid hrl
      clear hrl
      have cA : ∀ o, (wr.alloc o).cell? ⟨w.heap.size + 1 + 1, 3, none⟩ = some (.slice A k cv) := fun o => (R2.out.alloc o).cell 3
      have cB : ∀ o o', ((wr.alloc o).alloc o').cell? ⟨w.heap.size + 1 + 1, 3, none⟩ = some (.slice A k cv) := fun o o' => ((R2.out.alloc o).alloc o').cell 3
      clear hown hr2 bb pg0 hwz
      go_wp2_with fail
      go_region_law (
        refine step_append_block rfl (.tmp 17) (.tmp 22) rfl (.slice A k cv) (List.replicate k (newBlk m)) pv (by simp [Act.eval]) OW.out (by rw [HWZ.out]; omega) (newBlk m) (.slice (some ⟨wr.heap.size, 0, none⟩) m m) rfl (wr.heap.size + 1) 1 (by simp [Act.eval]) HR2.out (by simp; omega) ?_
        intro v2 w2 own2 gr2 hat2
        rw [HWZ.out] at hat2
        obtain ⟨A2, c2, hv2⟩ := owns_slice own2
        rw [HRL.out] at hv2
        subst hv2
        have G2 := Lib.hid (GG.out.push BBW.out (x := newBlk m) (by rw [HWZ.out]; exact PG.out) own2 gr2 (by rw [HWZ.out]; exact hat2) (by omega))
        have low : ∀ j, j < w.heap.size + 3 → w2.heap[j]? = wr.heap[j]? := fun j hj =>
          (gr2.block j (by rw [HWZ.out]; omega) fun e => by have := (GG.out.rowLt (k := j) e.symm).1; omega).trans (BBW.out.block j (by omega))
        have T0 := Lib.hid (show Rw w2 w.heap.size _ _ from (low _ (by omega)).trans R0.out)
        have T1 := Lib.hid (show Rw w2 (w.heap.size + 1) _ _ from (low _ (by omega)).trans R1.out)
        have T2 := Lib.hid (show Rw w2 (w.heap.size + 1 + 1) _ _ from (low _ (by omega)).trans R2.out)
        obtain ⟨n0, n1, n2, n3, n4, n5, n6, n7⟩ := T2.out.eight
        obtain ⟨fn0, fn1, fn2, fn3, fn4, fn5, fn6, fn7⟩ := T2.out.frees
        have B2 := Lib.hid ((HB.out.trans (BBW.out.mono (by omega))).grown gr2 (by rw [HWZ.out]; omega) fun j hj => by have := (GG.out.rowLt hj).1; omega)
        have hsz2 := gr2.size
        rw [HWZ.out] at hsz2
        clear own2 gr2 hat2 low)
      all_goals
        go_wp2
        go_roundw
        case rel =>
          have g3 := G2.out.same (w1 := w2.setCell ⟨w.heap.size + 1 + 1, 3, none⟩ (.slice A2 (k + 1) c2)) (fun j a b => Below.heap_setCell w2 _ _ j (by show j ≠ w.heap.size + 1 + 1; omega)) (by simp)
          rw [show List.replicate k (newBlk m) ++ [newBlk m] = List.replicate (k + 1) (newBlk m) from by rw [← List.replicate_succ']] at g3
          exact ⟨k + 1, _, A2, c2, by omega, by go_num, Lib.hid g3, Lib.hid (T0.out.farA (by omega) _), Lib.hid (T1.out.farA (by omega) _), Lib.hid (T2.out.set_ 3 _), Lib.hid (bset B2.out (by omega) _), by simp; omega⟩
        case measure => simp [intOf]; omega
    · obtain rfl : k = n := by omega
      obtain ⟨fo0, fo1, fo2, fo3, fo4, fo5, fo6, fo7⟩ := R1.out.frees
      have GO := Lib.hid GG.out.owns
      clear GG
      go_wp2
      refine bodyPost_ret (results_cell_row Tryz.results62 _ _ _ _ #[.int .i64 d, .int .i64 b, .int .i64 m, .slice A k cv, .int .i64 (-1), .int .i64 0, .bool false, .int .i64 0] _ _ rfl
        ((((((((R1.out.set_ 0 _).set_ 1 _).set_ 2 _).set_ 3 _).set_ 4 _).set_ 5 _).set_ 6 _).set_ 7 _) Tryz.underlying28 rfl infoFl8N) rfl ?_
      refine ⟨_, rfl, ⟨_, rfl, ?_⟩, ?_⟩
      · have hgo := GO.out
        rw [show List.replicate k (newBlk m) = (newFl d b m).bs from by simp only [newFl, hn, Int.toNat_natCast]; rfl] at hgo
        refine (hgo.same ?_).wide (by omega) (by simp)
        repeat refine sset ?_ (.inl (by omega)) _
        exact Same.refl _ _ _
      · repeat refine bset ?_ (by omega) _
        exact HB.out
end Go.Proofs.YthenilomgbnpeaaGreatDoor
