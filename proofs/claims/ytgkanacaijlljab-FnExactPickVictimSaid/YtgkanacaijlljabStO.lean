/- Slices of BlockStat that come in as an argument of a law, opened. -/
import Derived.Test.YtgkanacaijlljabProg
import Derived.Test.YtgkanacaijlljabFlO
import Derived.Test.YtgkanacaijlljabTbO
import Derived.Test.YtgkanacaijlljabStM
import Derived.Deep.Grids
namespace Go.Proofs.Ytgkanacaijlljab
open Go.RowKit Go.ChangeShapes Go.WideShapes
set_option linter.unusedVariables false
section
variable {H : Type} {enc : TypeId × Value → H} {W : World} {sp : Nat → Bool} {held : Bool}
theorem cellsLSt : Try.prog.cellsOf 111 = 3 := by kernel_rfl
theorem listSt {α : Type} {l : List α} (h : l.length = 3) : ∃ x0 x1 x2, l = [x0, x1, x2] := by
  match l, h with
  | [x0, x1, x2], _ => exact ⟨x0, x1, x2, rfl⟩
theorem cellsiSt : Try.prog.cellsOf 2 = 1 := by kernel_rfl
theorem cellsoSt : Try.prog.cellsOf 4 = 1 := by kernel_rfl
def stW (x : St) : Prop := WfI x.l ∧ WfI x.a
theorem open_st1 {fuel : Nat} {cs : List Value} {x : DataW H × List MemPlace} (h : DataW.trod enc Try.prog W 0 sp held fuel 111 cs = some x) : ∃ y : St, cs = stF y ∧ stW y := by
  obtain ⟨hl, hf⟩ := field_of Try.underlying111 h
  rw [cellsLSt] at hl
  obtain ⟨v0, v1, v2, rfl⟩ := listSt hl
  obtain ⟨n0, y0, h0⟩ := hf 0 _ rfl
  obtain ⟨n1, y1, h1⟩ := hf 1 _ rfl
  obtain ⟨n2, y2, h2⟩ := hf 2 _ rfl
  simp [cellsiSt, cellsoSt] at h0 h1 h2
  obtain ⟨i0, rfl, w0⟩ := open_int1 h0
  obtain ⟨i1, rfl, w1⟩ := open_int1 h1
  obtain ⟨i2, rfl⟩ := open_bool1 h2
  exact ⟨⟨i0, i1, i2⟩, rfl, w0, w1⟩
theorem open_sts {fuel : Nat} {v : Value} {x : DataW H × List MemPlace} (h : DataW.trod enc Try.prog W 0 sp held fuel 22 [v] = some x) : ∃ L, StI W W.heap.size v L ∧ ∀ i, i < L.length → stW (L.getD i St.zero) := by
  rcases Go.Deep.open_slice Try.underlying22 h with ⟨hcs, _⟩ | ⟨a, len, cap, m, n, D, Pl, hcs, _, hl, hm, hmm, _, hx⟩
  · injection hcs with hcs
    subst hcs
    exact ⟨[], VI.nil _ _, fun i hi => by simp at hi⟩
  · injection hcs with hcs
    subst hcs
    have hlm : len ≤ m := by rw [hmm]; split <;> omega
    rw [cellsLSt] at hx
    have key : ∀ i, i < len → ∃ y : St, W.cells? 0 (a.add (i * 3)) 3 = some (stF y) ∧ stW y := fun i hi => by
      obtain ⟨cs', h1, h2⟩ := hx i (by omega)
      obtain ⟨y, rfl, w⟩ := open_st1 h2
      exact ⟨y, h1, w⟩
    obtain ⟨f, hf⟩ := Go.Deep.choose_lt key
    have gl : ((List.range len).map f).length = len := by simp
    have ge : ∀ i, i < len → ((List.range len).map f).getD i St.zero = f i := fun i hi => by simp [List.getD_eq_getElem?_getD, hi]
    refine ⟨(List.range len).map f, ⟨some a, cap, by rw [gl], by rw [gl]; exact hl, by unfold maxLen at hm; omega, fun h0 => ?_⟩, fun i hi => ?_⟩
    · rw [gl] at h0
      obtain ⟨b, off, spot⟩ := a
      have hsp : spot = none := by
        obtain ⟨h1, _⟩ := hf 0 h0
        obtain ⟨_, _, hc⟩ := World.cells?_some h1
        have := hc 0 (by omega)
        simpa [Addr.add] using World.cell?_spot this
      subst hsp
      have cell : ∀ i, i < len → ∀ c, c < 3 → W.cell? ⟨b, off + (i * 3 + c), none⟩ = (stF (f i))[c]? := fun i hi c hc6 => by
        obtain ⟨h1, _⟩ := hf i hi
        obtain ⟨_, _, hc⟩ := World.cells?_some h1
        have e : ((⟨b, off, none⟩ : Addr).add (i * 3)).add c = ⟨b, off + (i * 3 + c), none⟩ := by
          rw [Addr.add_lit, Addr.add_lit]; simp <;> omega
        have h2 := hc c hc6
        rw [e] at h2
        exact h2
      refine ⟨b, off, rfl, World.block_lt_of_cell? W ⟨b, off, none⟩ (by have := cell 0 h0 0 (by omega); simpa [stF] using this), fun i hi => ?_⟩
      rw [gl] at hi
      have h1 : i / 3 < len := Nat.div_lt_of_lt_mul (by omega)
      have h2 : i % 3 < 3 := Nat.mod_lt _ (by omega)
      have e := fl_at (f := stF) stF_len St.zero ((List.range len).map f) (i / 3) (i % 3) (by rw [gl]; exact h1) h2
      have c := cell _ h1 _ h2
      rw [ge _ h1] at e
      rw [show i / 3 * 3 + i % 3 = i by omega] at e c
      rw [c, e]
    · rw [gl] at hi
      rw [ge i hi]
      exact (hf i hi).2
end
end Go.Proofs.Ytgkanacaijlljab
