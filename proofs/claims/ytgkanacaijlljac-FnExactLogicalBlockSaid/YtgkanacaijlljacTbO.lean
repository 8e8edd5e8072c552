/- Tables, faults and lists of faults that come in as arguments of a law, opened: what is known of them. -/
import Derived.Test.YtgkanacaijlljacProg
import Derived.Test.YtgkanacaijlljacFlO
import Derived.Test.YtgkanacaijlljacTbM
import Derived.Test.YtgkanacaijlljacFtM
namespace Go.Proofs.Ytgkanacaijlljac
open Go.RowKit Go.ChangeShapes Go.WideShapes
set_option linter.unusedVariables false
instance : Inhabited Ft := ⟨Ft.zero⟩
def WfL (l : List Int) : Prop := ∀ i, i < l.length → WfI (l.getD i 0)
theorem WfI.j {n : Int} (h : WfI n) : -9223372036854775808 ≤ n ∧ n ≤ 9223372036854775807 := by
  simp [WfI, Lit.wf] at h
  have h1 : IntKind.i64.min = -9223372036854775808 := by decide
  have h2 : IntKind.i64.max = 9223372036854775807 := by decide
  omega
def TbW (T : Tb) : Prop := (WfI T.d ∧ WfI T.b ∧ WfI T.p ∧ WfI T.sp) ∧ WfL T.bad ∧ WfL T.rm
section
variable {H : Type} {enc : TypeId × Value → H} {W : World} {sp : Nat → Bool} {held : Bool}
theorem open_ints1 {fuel : Nat} {v : Value} {x : DataW H × List MemPlace} (h : DataW.trod enc Try.prog W 0 sp held fuel 24 [v] = some x) : ∃ L, NI W W.heap.size v L ∧ WfL L := by
  rcases open_ints Try.underlying24 Try.underlying2 (by kernel_rfl) h with ⟨hcs, _⟩ | ⟨a, l, c, zs, hcs, _, hl, hm, hz, _, hcell, hwz⟩
  · injection hcs with hcs
    subst hcs
    exact ⟨[], NI.nil _ _, fun i hi => by simp at hi⟩
  · injection hcs with hcs
    subst hcs
    have hzl : l ≤ zs.length := by rw [hz]; split <;> omega
    have e : ∀ i, i < l → (zs.take l).getD i 0 = zs.getD i 0 := fun i hi => by
      rw [List.getD_eq_getElem?_getD, List.getD_eq_getElem?_getD, List.getElem?_take, if_pos hi]
    refine ⟨zs.take l, ⟨some a, l, c, rfl, hl, by unfold maxLen at hm; omega, by rw [List.length_take]; omega, fun h0 => ?_⟩, fun i hi => ?_⟩
    · obtain ⟨b, off, spot⟩ := a
      have h00 := hcell 0 (by omega)
      have hspot : spot = none := by simpa [Addr.add] using World.cell?_spot h00
      subst hspot
      refine ⟨b, off, rfl, World.block_lt_of_cell? W ⟨b, off, none⟩ (by simpa [Addr.add] using h00), fun i hi => ?_⟩
      have := hcell i (by omega)
      have e2 : (⟨b, off, none⟩ : Addr).add i = ⟨b, off + i, none⟩ := by unfold Addr.add; split <;> simp_all
      rw [e2] at this
      rw [this, e i hi]
    · rw [List.length_take] at hi
      rw [e i (by omega), List.getD_eq_getElem?_getD, List.getElem?_eq_getElem (show i < zs.length by omega)]
      exact hwz _ (List.getElem_mem (show i < zs.length by omega))
theorem cellsL64 : Try.prog.cellsOf 24 = 1 := by kernel_rfl
theorem cellsLT : Try.prog.cellsOf 38 = 6 := by kernel_rfl
theorem cellsLG' : Try.prog.cellsOf 23 = 3 := by kernel_rfl
theorem cellsI' : Try.prog.cellsOf 2 = 1 := by kernel_rfl
theorem list6 {α : Type} {l : List α} (h : l.length = 6) : ∃ a b c d e f, l = [a, b, c, d, e, f] := by
  match l, h with
  | [a, b, c, d, e, f], _ => exact ⟨a, b, c, d, e, f, rfl⟩
theorem list4' {α : Type} {l : List α} (h : l.length = 4) : ∃ a b c d, l = [a, b, c, d] := by
  match l, h with
  | [a, b, c, d], _ => exact ⟨a, b, c, d, rfl⟩
theorem open_table {fuel : Nat} {cs : List Value} {x : DataW H × List MemPlace} (h : DataW.trod enc Try.prog W 0 sp held fuel 38 cs = some x) : ∃ T : Tb, TbIn W W.heap.size (.agg cs.toArray) T ∧ TbW T := by
  obtain ⟨hl, hf⟩ := field_of Try.underlying38 h
  rw [cellsLT] at hl
  obtain ⟨v0, v1, v2, v3, v4, v5, rfl⟩ := list6 hl
  obtain ⟨n0, y0, h0⟩ := hf 0 _ rfl
  obtain ⟨n1, y1, h1⟩ := hf 1 _ rfl
  obtain ⟨n2, y2, h2⟩ := hf 2 _ rfl
  obtain ⟨n3, y3, h3⟩ := hf 3 _ rfl
  simp [cellsI', cellsLG', cellsL64] at h0 h1 h2 h3
  obtain ⟨d, b, p, e, w1, w2, w3⟩ := open_geo h0
  obtain ⟨i1, rfl, w4⟩ := open_int1 h1
  obtain ⟨L, hL, wL⟩ := open_ints1 h2
  obtain ⟨M, hM, wM⟩ := open_ints1 h3
  injection e with e0 e
  injection e with e1 e
  injection e with e2 e
  subst e0 e1 e2
  exact ⟨⟨d, b, p, i1, L, M⟩, ⟨v4, v5, rfl, hL, hM⟩, ⟨w1, w2, w3, w4⟩, wL, wM⟩
theorem cellsLF4 : Try.prog.cellsOf 71 = 4 := by kernel_rfl
theorem open_fault {fuel : Nat} {cs : List Value} {x : DataW H × List MemPlace} (h : DataW.trod enc Try.prog W 0 sp held fuel 71 cs = some x) :
    ∃ a b c d, cs = [.int .i64 a, .int .i64 b, .int .i64 c, .int .i64 d] ∧ WfI a ∧ WfI b ∧ WfI c ∧ WfI d := by
  obtain ⟨hl, hf⟩ := field_of Try.underlying71 h
  rw [cellsLF4] at hl
  obtain ⟨v0, v1, v2, v3, rfl⟩ := list4' hl
  obtain ⟨n0, y0, h0⟩ := hf 0 _ rfl
  obtain ⟨n1, y1, h1⟩ := hf 1 _ rfl
  obtain ⟨n2, y2, h2⟩ := hf 2 _ rfl
  obtain ⟨n3, y3, h3⟩ := hf 3 _ rfl
  simp [cellsI'] at h0 h1 h2 h3
  obtain ⟨i0, rfl, w0⟩ := open_int1 h0
  obtain ⟨i1, rfl, w1⟩ := open_int1 h1
  obtain ⟨i2, rfl, w2⟩ := open_int1 h2
  obtain ⟨i3, rfl, w3⟩ := open_int1 h3
  exact ⟨_, _, _, _, rfl, w0, w1, w2, w3⟩
theorem open_faults {fuel : Nat} {v : Value} {x : DataW H × List MemPlace} (h : DataW.trod enc Try.prog W 0 sp held fuel 62 [v] = some x) : ∃ n L, QI W W.heap.size v n (flat L) ∧ L.length = n ∧ WfL (flat L) := by
  rcases Go.Deep.open_slice Try.underlying62 h with ⟨hcs, _⟩ | ⟨a, len, cap, m, n, D, Pl, hcs, _, hl, hm, hmm, _, hx⟩
  · injection hcs with hcs
    subst hcs
    exact ⟨0, [], ⟨none, 0, rfl, Nat.le_refl _, by omega, rfl, fun h => by omega⟩, rfl, fun i hi => by simp [flat] at hi⟩
  · injection hcs with hcs
    subst hcs
    have hlm : len ≤ m := by rw [hmm]; split <;> omega
    rw [cellsLF4] at hx
    have key : ∀ i, i < len → ∃ y : Ft, W.cells? 0 (a.add (i * 4)) 4 = some [.int .i64 y.k, .int .i64 y.b, .int .i64 y.p, .int .i64 y.t] ∧ WfI y.k ∧ WfI y.b ∧ WfI y.p ∧ WfI y.t := fun i hi => by
      obtain ⟨cs', h1, h2⟩ := hx i (by omega)
      obtain ⟨a, b, c, d, rfl, w⟩ := open_fault h2
      exact ⟨⟨a, b, c, d⟩, h1, w⟩
    obtain ⟨f, hf⟩ := Go.Deep.choose_lt key
    have gl : ((List.range len).map f).length = len := by simp
    have ge : ∀ i, i < len → ((List.range len).map f).getD i Ft.zero = f i := fun i hi => by simp [List.getD_eq_getElem?_getD, hi]
    refine ⟨len, (List.range len).map f, ⟨some a, cap, rfl, hl, by unfold maxLen at hm; omega, by rw [flat_length, gl], fun h0 => ?_⟩, gl, fun i hi => ?_⟩
    · obtain ⟨b, off, spot⟩ := a
      have hsp : spot = none := by
        obtain ⟨h1, _⟩ := hf 0 h0
        obtain ⟨_, _, hc⟩ := World.cells?_some h1
        have := hc 0 (by omega)
        simpa [Addr.add] using World.cell?_spot this
      subst hsp
      have cell : ∀ i, i < len → ∀ c, c < 4 → W.cell? ⟨b, off + (i * 4 + c), none⟩ = some (.int .i64 ((flat ((List.range len).map f)).getD (i * 4 + c) 0)) := fun i hi c hc4 => by
        obtain ⟨h1, _⟩ := hf i hi
        obtain ⟨_, _, hc⟩ := World.cells?_some h1
        have e : ((⟨b, off, none⟩ : Addr).add (i * 4)).add c = ⟨b, off + (i * 4 + c), none⟩ := by
          rw [Addr.add_lit, Addr.add_lit]; simp <;> omega
        have h2 := hc c hc4
        rw [e] at h2
        obtain ⟨f0, f1, f2, f3⟩ := flat_at ((List.range len).map f) i (by omega)
        rw [ge i hi] at f0 f1 f2 f3
        rw [h2]
        obtain rfl | rfl | rfl | rfl : c = 0 ∨ c = 1 ∨ c = 2 ∨ c = 3 := by omega
        · rw [Nat.add_zero, f0]; rfl
        · rw [f1]; rfl
        · rw [f2]; rfl
        · rw [f3]; rfl
      refine ⟨b, off, rfl, World.block_lt_of_cell? W _ (cell 0 h0 0 (by omega)), fun i hi => ?_⟩
      have := cell (i / 4) (by omega) (i % 4) (by omega)
      rw [show i / 4 * 4 + i % 4 = i by omega] at this
      exact this
    · rw [flat_length, gl] at hi
      obtain ⟨f0, f1, f2, f3⟩ := flat_at ((List.range len).map f) (i / 4) (by omega)
      rw [ge _ (by omega)] at f0 f1 f2 f3
      obtain ⟨_, w0, w1, w2, w3⟩ := hf (i / 4) (by omega)
      have e : i = i / 4 * 4 + i % 4 := by omega
      obtain h | h | h | h : i % 4 = 0 ∨ i % 4 = 1 ∨ i % 4 = 2 ∨ i % 4 = 3 := by omega
      · rw [e, h, Nat.add_zero, f0]; exact w0
      · rw [e, h, f1]; exact w1
      · rw [e, h, f2]; exact w2
      · rw [e, h, f3]; exact w3
end
end Go.Proofs.Ytgkanacaijlljac
