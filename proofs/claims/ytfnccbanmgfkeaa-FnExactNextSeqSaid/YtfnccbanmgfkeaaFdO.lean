/- Lists of found pages that come in as arguments of a law, opened: what is known of them. -/
import Derived.Test.YtfnccbanmgfkeaaProg
import Derived.Test.YtfnccbanmgfkeaaFdV
import Derived.Test.YtfnccbanmgfkeaaPmO
namespace Go.Proofs.Ytfnccbanmgfkeaa
open Go.RowKit Go.ChangeShapes Go.WideShapes
set_option linter.unusedVariables false
set_option linter.unusedSimpArgs false
section
variable {H : Type} {enc : TypeId × Value → H} {W : World} {sp : Nat → Bool} {held : Bool}
theorem cellsLFd6 : Try.prog.cellsOf 92 = 6 := by kernel_rfl
theorem cellsLMt5 : Try.prog.cellsOf 53 = 5 := by kernel_rfl
theorem cellsI3 : Try.prog.cellsOf 2 = 1 := by kernel_rfl
theorem list6' {α : Type} {l : List α} (h : l.length = 6) : ∃ a b c d e f, l = [a, b, c, d, e, f] := by
  match l, h with
  | [a, b, c, d, e, f], _ => exact ⟨a, b, c, d, e, f, rfl⟩
theorem open_found {fuel : Nat} {cs : List Value} {x : DataW H × List MemPlace} (h : DataW.trod enc Try.prog W 0 sp held fuel 92 cs = some x) :
    ∃ a b c d e f, cs = [.int .i64 a, .int .i64 b, .int .i64 c, .int .i64 d, .int .i64 e, .int .i64 f] ∧ WfI a ∧ WfI b ∧ WfI c ∧ WfI d ∧ WfI e ∧ WfI f := by
  obtain ⟨hl, hf⟩ := field_of Try.underlying92 h
  rw [cellsLFd6] at hl
  obtain ⟨v0, v1, v2, v3, v4, v5, rfl⟩ := list6' hl
  obtain ⟨n0, y0, h0⟩ := hf 0 _ rfl
  obtain ⟨n1, y1, h1⟩ := hf 1 _ rfl
  simp [cellsI3, cellsLMt5] at h0 h1
  obtain ⟨i0, rfl, w0⟩ := open_int1 h0
  obtain ⟨b, c, d, e, f, q, w1, w2, w3, w4, w5⟩ := open_meta h1
  injection q with q1 q
  injection q with q2 q
  injection q with q3 q
  injection q with q4 q
  injection q with q5 q
  subst q1 q2 q3 q4 q5
  exact ⟨_, _, _, _, _, _, rfl, w0, w1, w2, w3, w4, w5⟩
theorem open_founds {fuel : Nat} {v : Value} {x : DataW H × List MemPlace} (h : DataW.trod enc Try.prog W 0 sp held fuel 58 [v] = some x) : ∃ n L, SI W W.heap.size v n (flat6 L) ∧ L.length = n ∧ WfL (flat6 L) := by
  rcases Go.Deep.open_slice Try.underlying58 h with ⟨hcs, _⟩ | ⟨a, len, cap, m, n, D, Pl, hcs, _, hl, hm, hmm, _, hx⟩
  · injection hcs with hcs
    subst hcs
    exact ⟨0, [], ⟨none, 0, rfl, Nat.le_refl _, by omega, rfl, fun h => by omega⟩, rfl, fun i hi => by simp [flat6] at hi⟩
  · injection hcs with hcs
    subst hcs
    have hlm : len ≤ m := by rw [hmm]; split <;> omega
    rw [cellsLFd6] at hx
    have key : ∀ i, i < len → ∃ y : Fd, W.cells? 0 (a.add (i * 6)) 6 = some [.int .i64 y.ph, .int .i64 y.k, .int .i64 y.l, .int .i64 y.s, .int .i64 y.f, .int .i64 y.c] ∧ WfI y.ph ∧ WfI y.k ∧ WfI y.l ∧ WfI y.s ∧ WfI y.f ∧ WfI y.c := fun i hi => by
      obtain ⟨cs', h1, h2⟩ := hx i (by omega)
      obtain ⟨a, b, c, d, e, f, rfl, w⟩ := open_found h2
      exact ⟨⟨a, b, c, d, e, f⟩, h1, w⟩
    obtain ⟨f, hf⟩ := Go.Deep.choose_lt key
    have gl : ((List.range len).map f).length = len := by simp
    have ge : ∀ i, i < len → ((List.range len).map f).getD i Fd.zero = f i := fun i hi => by simp [List.getD_eq_getElem?_getD, hi]
    refine ⟨len, (List.range len).map f, ⟨some a, cap, rfl, hl, by unfold maxLen at hm; omega, by rw [flat6_length, gl], fun h0 => ?_⟩, gl, fun i hi => ?_⟩
    · obtain ⟨b, off, spot⟩ := a
      have hsp : spot = none := by
        obtain ⟨h1, _⟩ := hf 0 h0
        obtain ⟨_, _, hc⟩ := World.cells?_some h1
        have := hc 0 (by omega)
        simpa [Addr.add] using World.cell?_spot this
      subst hsp
      have cell : ∀ i, i < len → ∀ c, c < 6 → W.cell? ⟨b, off + (i * 6 + c), none⟩ = some (.int .i64 ((flat6 ((List.range len).map f)).getD (i * 6 + c) 0)) := fun i hi c hc6 => by
        obtain ⟨h1, _⟩ := hf i hi
        obtain ⟨_, _, hc⟩ := World.cells?_some h1
        have e : ((⟨b, off, none⟩ : Addr).add (i * 6)).add c = ⟨b, off + (i * 6 + c), none⟩ := by
          rw [Addr.add_lit, Addr.add_lit]; simp <;> omega
        have h2 := hc c hc6
        rw [e] at h2
        obtain ⟨f0, f1, f2, f3, f4, f5⟩ := flat6_at ((List.range len).map f) i (by omega)
        rw [ge i hi] at f0 f1 f2 f3 f4 f5
        rw [h2]
        obtain rfl | rfl | rfl | rfl | rfl | rfl : c = 0 ∨ c = 1 ∨ c = 2 ∨ c = 3 ∨ c = 4 ∨ c = 5 := by omega
        · rw [Nat.add_zero, f0]; rfl
        · rw [f1]; rfl
        · rw [f2]; rfl
        · rw [f3]; rfl
        · rw [f4]; rfl
        · rw [f5]; rfl
      refine ⟨b, off, rfl, World.block_lt_of_cell? W _ (cell 0 h0 0 (by omega)), fun i hi => ?_⟩
      have := cell (i / 6) (by omega) (i % 6) (by omega)
      rw [show i / 6 * 6 + i % 6 = i by omega] at this
      exact this
    · rw [flat6_length, gl] at hi
      obtain ⟨f0, f1, f2, f3, f4, f5⟩ := flat6_at ((List.range len).map f) (i / 6) (by omega)
      rw [ge _ (by omega)] at f0 f1 f2 f3 f4 f5
      obtain ⟨_, w0, w1, w2, w3, w4, w5⟩ := hf (i / 6) (by omega)
      have e : i = i / 6 * 6 + i % 6 := by omega
      obtain h | h | h | h | h | h : i % 6 = 0 ∨ i % 6 = 1 ∨ i % 6 = 2 ∨ i % 6 = 3 ∨ i % 6 = 4 ∨ i % 6 = 5 := by omega
      · rw [e, h, Nat.add_zero, f0]; exact w0
      · rw [e, h, f1]; exact w1
      · rw [e, h, f2]; exact w2
      · rw [e, h, f3]; exact w3
      · rw [e, h, f4]; exact w4
      · rw [e, h, f5]; exact w5
end
end Go.Proofs.Ytfnccbanmgfkeaa
