/- A lost unit from the others and the parity, in the model and in the program: the contracts. -/
import Derived.Test.YtegjppihopncoaaProg
import Derived.Test.YtegjppihopncoaaPar
import Derived.Laws.CopyOwn
import Derived.Deep.DeepMust
namespace Go.Proofs.Ytegjppihopncoaa
open Go.RowKit

/-- What Rebuild answers. -/
def RebEnds (L : List ByteArray) (p : ByteArray) (k : Int) (R : ByteArray) (c : Int) : Prop :=
  (¬ (0 ≤ k ∧ k < (L.length : Int)) ∧ R = ⟨#[]⟩ ∧ c = 2) ∨ (∃ j : Nat, k = (j : Int) ∧ j < L.length ∧ ((8 < L.length ∧ R = ⟨#[]⟩ ∧ c = 1) ∨ (L.length ≤ 8 ∧ XorEnds (L.set j p) R c)))
theorem rebEnds (L : List ByteArray) (p : ByteArray) (k : Int) : ∃ R c, RebEnds L p k R c := by
  by_cases h : 0 ≤ k ∧ k < (L.length : Int)
  · by_cases h8 : 8 < L.length
    · exact ⟨_, _, .inr ⟨k.toNat, by omega, by omega, .inl ⟨h8, rfl, rfl⟩⟩⟩
    · obtain ⟨R, c, hE⟩ := xorEnds (L.set k.toNat p)
      exact ⟨R, c, .inr ⟨k.toNat, by omega, by omega, .inr ⟨by omega, hE⟩⟩⟩
  · exact ⟨_, _, .inl ⟨h, rfl, rfl⟩⟩
theorem big_set {L : List ByteArray} {M j : Nat} {p : ByteArray} (hL : ∀ i, i < L.length → (L.getD i ByteArray.empty).size ≤ M) (hp : p.size ≤ M) : ∀ i, i < (L.set j p).length → ((L.set j p).getD i ByteArray.empty).size ≤ M := by
  intro i hi
  rw [List.length_set] at hi
  rw [List.getD_eq_getElem?_getD, List.getElem?_set]
  by_cases e : j = i
  · rw [if_pos e, if_pos (by omega)]; exact hp
  · rw [if_neg e]
    have := hL i hi
    rw [List.getD_eq_getElem?_getD] at this
    exact this
theorem wpList_append_strs {Q : Exit → Act → World → Prop} {ops : Array Oper} {rest : List Oper} {o : Oper} {a : Act} {w0 wr : World} {B : Nat} (hgd : o.guard = none) (s x : Operand)
    (ho : o.op = .call { callee := .builtin .append, args := #[s, x], argTypes := #[24, 24] })
    (v : Value) (l : List ByteArray) (hs : a.eval s = v) (hown : StrsOwn wr B v l) (hb : Below B w0 wr) (hB : B ≤ wr.heap.size)
    (L : List ByteArray) (b off m c : Nat) (hm : L.length = m) (hx : a.eval x = .slice (some ⟨b, off, none⟩) m c) (hc : ∀ i, i < m → wr.cell? ⟨b, off + i, none⟩ = some (.string (L.getD i ByteArray.empty))) (hl : l.length + m ≤ 1000000)
    (h : ∀ v' w', StrsOwn w' B v' (l ++ L) → Below B w0 w' → wpList Try.prog ops Q rest (a.put o.dst v') w') :
    wpList Try.prog ops Q (o :: rest) a wr := by
  obtain ⟨i0, hi, hz0, hz1, hz2⟩ := info_parts infoStr
  refine wpList_append_own _ hgd s x _ ho B 9 i0 (.string ByteArray.empty) 1 16 Try.underlying24 hi hz0 hz1 hz2 rfl (by decide) v l.length (l.map Value.string) hs hown ⟨b, off, none⟩ m c (L.map Value.string) hx (by simp [hm]) ?_ ?_ (by unfold maxLen; omega) (by omega) hB ?_
  · intro j u hj
    have hjl : j < L.length := by
      rcases Nat.lt_or_ge j L.length with hlt | hge
      · exact hlt
      · rw [List.getElem?_eq_none (by simpa using hge)] at hj; cases hj
    have := hc j (by omega)
    rw [List.getElem?_map, List.getElem?_eq_getElem hjl] at hj
    simp at hj
    subst hj
    rw [List.getD_eq_getElem?_getD, List.getElem?_eq_getElem hjl] at this
    have e : (⟨b, off, none⟩ : Addr).add j = ⟨b, off + j, none⟩ := by unfold Addr.add; split <;> simp_all
    rw [e]
    simpa using this
  · intro u hu
    simp at hu
    obtain ⟨s, _, rfl⟩ := hu
    rfl
  · intro v' w' h1 h2 _
    refine h v' w' ?_ (hb.grown h2 hB fun k hk => (World.ownsRow.lt hown k hk).1)
    unfold StrsOwn
    rw [List.length_append, hm, List.map_append]
    exact h1
theorem StrsOwn.made (w : World) {B : Nat} (h : B ≤ w.heap.size) : StrsOwn (w.alloc (.cells #[] 9)) B (.slice (some ⟨w.heap.size, 0, none⟩) 0 0) [] :=
  World.ownsRow_made w #[] 0 h (by unfold maxLen; omega) rfl
theorem StrsOwn.some_ {w : World} {B : Nat} {v : Value} {L : List ByteArray} {n : Nat} (h : StrsOwn w B v ([] ++ L)) (hn : L.length = n) (h0 : 0 < n) : ∃ g cap, v = .slice (some ⟨g, 0, none⟩) n cap ∧ n ≤ cap ∧ cap ≤ 9223372036854775807 ∧ B ≤ g ∧ g < w.heap.size ∧ StrsOwn w B (.slice (some ⟨g, 0, none⟩) n cap) L := by
  rw [List.nil_append] at h
  rcases h.shape with ⟨_, rfl⟩ | ⟨g, cap, rfl, h1, h2, h3, h4⟩
  · simp at hn; omega
  · subst hn
    exact ⟨g, cap, rfl, h1, h2, h3, h4, h⟩
theorem under8 : Try.prog.underlying 33 = some (.array 8 9) := by kernel_rfl
theorem under8' : Try.prog.underlying 33 = some (.array (Try.prog.arrayLen 33) (Try.prog.elem 33)) := by kernel_rfl
theorem len8 : Try.prog.arrayLen 33 = 8 := by kernel_rfl
theorem elem8 : Try.prog.elem 33 = 9 := by kernel_rfl
theorem sizeS (w : World) : (sizeOf 9).run Try.prog w = .ok 1 w := by kernel_rfl
theorem zero8 (w : World) : (zeroValue 33).run Try.prog w = .ok (.agg ((List.replicate 8 ByteArray.empty).map Value.string).toArray) w := by kernel_rfl
theorem slice8_all (g : Nat) (w : World) :
    (Instr.sliceAt 33 (.pointer (some ⟨g, 0, none⟩)) none none none).run Try.prog w = .ok (.slice (some ⟨g, 0, none⟩) 8 8) w := by
  rw [run_sliceAt_array_all w _ _ under8', elem8, sizeS, len8]
  simp [slicedAt, Result.andThen, Addr.add]
theorem slice8_to (g m : Nat) (hm : m ≤ 8) (w : World) :
    (Instr.sliceAt 33 (.pointer (some ⟨g, 0, none⟩)) none (some (.int .i64 (m : Int))) none).run Try.prog w = .ok (.slice (some ⟨g, 0, none⟩) m 8) w := by
  rw [run_sliceAt_array_h w _ _ under8' .i64 (m : Int) (by omega) (by rw [len8]; omega), elem8, sizeS, len8]
  simp [slicedAt, Result.andThen, Addr.add]
theorem sizeOne : (Try.prog.info? 9).map (·.size) = some 1 := by kernel_rfl
theorem row_reads {W : World} {g n : Nat} {t : TypeId} {L : List ByteArray} {X : List Value} (hg : W.heap[g]? = some (.cells (L.map Value.string ++ X).toArray t (0, 0))) (hn : L.length = n) (hn8 : n ≤ 8) : StrsIn W (.slice (some ⟨g, 0, none⟩) n 8) L := by
  refine ⟨_, _, _, rfl, hn8, by omega, hn, fun h0 => ⟨g, 0, rfl, ?_, fun i hi => ?_⟩⟩
  · rcases Nat.lt_or_ge g W.heap.size with hlt | hge
    · exact hlt
    · rw [Array.getElem?_eq_none hge] at hg; cases hg
  · rw [Nat.zero_add, cell_of_row W g i _ t (0, 0) hg]
    have hil : i < L.length := by omega
    rw [List.getElem?_toArray, List.getElem?_append_left (by simpa using hil), List.getElem?_map, List.getD_eq_getElem?_getD, List.getElem?_eq_getElem hil]; rfl
theorem set_row (L : List ByteArray) (X : List Value) (j : Nat) (p : ByteArray) (hj : j < L.length) : (L.map Value.string ++ X).toArray.setIfInBounds j (.string p) = ((L.set j p).map Value.string ++ X).toArray := by
  rw [List.setIfInBounds_toArray, List.set_append_left _ _ (by simpa using hj), List.map_set]
theorem copied_row {W : World} {g j : Nat} {t : TypeId} {cs cs2 cur : List Value} {p : ByteArray} (hg : W.heap[g]? = some (.cells (splice cur 0 cs).toArray t (0, 0))) (hs : ∀ X : List Value, (cs ++ X).toArray.setIfInBounds j (.string p) = (cs2 ++ X).toArray) :
    (W.setCell ⟨g, j, none⟩ (.string p)).heap[g]? = some (.cells (cs2 ++ cur.drop cs.length).toArray t (0, 0)) := by
  have h := heap_setCell_same _ _ j _ _ (.string p) hg
  unfold splice at h
  rw [List.take_zero, List.nil_append, Nat.zero_add, hs] at h
  exact h
theorem copied_cell {W : World} {g j : Nat} {t : TypeId} {cs cur : List Value} (hg : W.heap[g]? = some (.cells (splice cur 0 cs).toArray t (0, 0))) (hj : j < cs.length) : W.cell? ⟨g, j, none⟩ = some (cs.getD j undef) := by
  rw [cell_of_row _ _ _ _ _ _ hg]
  unfold splice
  rw [List.take_zero, List.nil_append, List.getElem?_toArray, List.getElem?_append_left hj, List.getD_eq_getElem?_getD, List.getElem?_eq_getElem hj]; rfl
theorem implReb_any (v : Value) (L : List ByteArray) (p : ByteArray) (k : Int) (R : ByteArray) (c : Int) (w : World) (hv : StrsIn w v L) (hbig : ∀ i, i < L.length → (L.getD i ByteArray.empty).size ≤ 9223372036854775807) (hp : p.size ≤ 9223372036854775807) (hL : L.length ≤ 1048576) (hE : RebEnds L p k R c) :
    Calls Try.prog 9 #[v, .string p, .int .i64 k] w (XorPost R c w) := by
  rcases hE with ⟨hk, rfl, rfl⟩ | ⟨j, rfl, hj, hE⟩
  · obtain ⟨A, n, cap, rfl, hlc, hcm, hn, hA⟩ := hv
    have hnm : (n : Int) ≤ 1048576 := by omega
    rw [hn] at hk
    clear hA hn hbig hlc hcm hL hp
    by_cases h0 : k < 0
    · have d1 : decide (k < 0) = true := by simp; omega
      go_enter Try.func9, Try.ntmps9
      go_wp2
      go_ret2
      exact ⟨rfl, Below.refl _ _⟩
    · have d1 : decide (k < 0) = false := by simp; omega
      have d2 : decide (k ≥ (n : Int)) = true := by simp; omega
      have d3 : decide ((n : Int) ≤ k) = true := by simp; omega
      go_enter Try.func9, Try.ntmps9
      go_wp2
      go_ret2
      exact ⟨rfl, Below.refl _ _⟩
  · obtain ⟨A, n, cap, rfl, hlc, hcm, hn, hA⟩ := hv
    obtain ⟨b, off, rfl, hbl, hx⟩ := hA (by omega)
    have hnm : (n : Int) ≤ 1048576 := by omega
    have d1 : decide ((j : Int) < 0) = false := by simp
    have d2 : decide ((j : Int) ≥ (n : Int)) = false := by simp; omega
    have d3 : decide ((n : Int) ≤ (j : Int)) = false := by simp; omega
    rcases hE with ⟨h8, rfl, rfl⟩ | ⟨h8, hE⟩
    · have hd2 : decide ((8 : Int) < (n : Int)) = true := by simp; omega
      have hjn : (j : Int) < (n : Int) := by omega
      clear hA hx hn hbig hlc hcm hL hp h8 hj
      go_enter Try.func9, Try.ntmps9
      go_wp2
      go_ret2
      exact ⟨rfl, Below.refl _ _⟩
    · have hd2 : decide ((8 : Int) < (n : Int)) = false := by simp; omega
      have HX := Lib.hid hx
      have HN := Lib.hid hn
      have hjn : j < n := by omega
      have hn8 : n ≤ 8 := by omega
      have hji : (j : Int) < (n : Int) := by omega
      have HP := Lib.hid (fun (W : World) (v : Value) (h : StrsIn W v (L.set j p)) => implParOf_any v (L.set j p) R c W h (big_set (j := j) hbig hp) hE)
      have hzv := zero8
      obtain ⟨zs, hzs⟩ : ∃ zs, zs = ((List.replicate 8 ByteArray.empty).map Value.string).toArray := ⟨_, rfl⟩
      rw [← hzs] at hzv
      have HZ := Lib.hid hzs
      clear hA hx hn hbig hL hp hj h8 hE hzs
      have hcur : zs.toList.length = 8 := by rw [HZ.out]; rfl
      have HC := Lib.hid hcur
      have hzt : zs = zs.toList.toArray := by simp
      have HZT := Lib.hid hzt
      clear hcur hzt HZ
      generalize hcu : zs.toList = cur at *
      clear hcu
      go_enter Try.func9, Try.ntmps9
      have hg0 : (w.alloc (.cells zs 33)).heap[w.heap.size]? = some (.cells cur.toArray 33 (0, 0)) := by rw [← HZT.out]; exact Go.heap_alloc_new w _
      have HG0 := Lib.hid hg0
      have HCS := Lib.hid (show ∀ (i : Nat) (v : Value), (L.map Value.string)[i]? = some v → (w.alloc (.cells zs 33)).cell? ((⟨b, off, none⟩ : Addr).add i) = some v from fun i u hj => by
        have hjl : i < L.length := by
          rcases Nat.lt_or_ge i L.length with hlt | hge
          · exact hlt
          · rw [List.getElem?_eq_none (by simpa using hge)] at hj; cases hj
        have := HX.out i (by have := HN.out; omega)
        rw [List.getElem?_map, List.getElem?_eq_getElem hjl] at hj
        simp at hj
        subst hj
        rw [List.getD_eq_getElem?_getD, List.getElem?_eq_getElem hjl] at this
        have e : (⟨b, off, none⟩ : Addr).add i = ⟨b, off + i, none⟩ := by unfold Addr.add; split <;> simp_all
        rw [e, World.cell?_alloc_lt w _ _ hbl]
        simpa using this)
      clear hg0
      have HSR := Lib.hid (fun (X : List Value) => set_row L X j p (by have := HN.out; omega))
      obtain ⟨cs, hcs⟩ : ∃ cs, cs = L.map Value.string := ⟨_, rfl⟩
      have HCN := Lib.hid (show cs.length = n by rw [hcs, List.length_map]; exact HN.out)
      have HC1 := Lib.hid (show ∀ v ∈ cs, v.oneCell' = true from fun v hv => by rw [hcs] at hv; simp at hv; obtain ⟨s, _, rfl⟩ := hv; rfl)
      rw [← hcs] at HCS HSR
      have HRR := Lib.hid (fun (W : World) (X : List Value) (hg : W.heap[w.heap.size]? = some (.cells ((L.set j p).map Value.string ++ X).toArray 33 (0, 0))) => row_reads hg (by rw [List.length_set]; exact HN.out) hn8)
      clear hcs
      generalize (L.set j p).map Value.string = cs2 at *
      have hs2 := fun (W : World) => slice8_to w.heap.size n hn8 W
      go_wp2_with (with_reducible show wpList _ _ _ (⟨some 23, _, _, _, _, _⟩ :: _) _ _; go_must (refine wpList_copy_splice rfl (.tmp 21) (.tmp 22) _ _ rfl 9 Try.underlying24 sizeOne _ _ 8 8 n cap rfl rfl w.heap.size 0 cur 33 HG0.out cs (by rw [HCN.out]; exact (Nat.min_eq_left hn8).symm) (fun _ => ⟨rfl, _, rfl, HCS.out⟩) (by rw [HCN.out, HC.out]; omega) HC1.out w.heap.size w ((Below.refl _ _).alloc (Nat.le_refl _) _) (Nat.le_refl _) ?_; intro w1 HG hb1; rw [HCN.out]; have hcl := copied_cell HG.out (by rw [HCN.out]; exact hjn); have hfr := frozen_of_row _ _ j _ _ HG.out; have HG2 := Lib.hid (copied_row HG.out HSR.out); have hb2 := hb1.setCell (p := ⟨w.heap.size, j, none⟩) (Nat.le_refl _) (.string p); clear HG hb1))
      refine (HP.out _ _ (HRR.out _ _ HG2.out)).mono ?_
      rintro e w2 ⟨rfl, hb3⟩
      go_wp2
      go_ret2
      exact ⟨rfl, hb2.trans (hb3.mono hb2.size)⟩
end Go.Proofs.Ytegjppihopncoaa
