/- The proof's own lemmas, part 17: FlO FtN. -/
import Derived.Test.YtgamoiagpglcmaaProg
import Derived.Test.YtgamoiagpglcmaaMg4
import Derived.WalkKit
import Derived.ProofKit
import Derived.OpenShut
import Derived.ShutString
import Derived.ChangeOld
import Derived.SliceStrings
import Derived.Deep.Slices
import Derived.Test.YtgamoiagpglcmaaMg3
/- An array that comes in as an argument of a law, opened: what is known of it. -/
namespace Go.Proofs.Ytgamoiagpglcmaa
open Go.RowKit Go.ChangeShapes Go.WideShapes
set_option linter.unusedVariables false
section
variable {H : Type} {enc : TypeId × Value → H} {W : World} {sp : Nat → Bool} {held : Bool}
theorem list3 {α : Type} {l : List α} (h : l.length = 3) : ∃ a b c, l = [a, b, c] := by
  match l, h with
  | [a, b, c], _ => exact ⟨a, b, c, rfl⟩
theorem list4 {α : Type} {l : List α} (h : l.length = 4) : ∃ a b c d, l = [a, b, c, d] := by
  match l, h with
  | [a, b, c, d], _ => exact ⟨a, b, c, d, rfl⟩
theorem list8 {α : Type} {l : List α} (h : l.length = 8) : ∃ a b c d e f g i, l = [a, b, c, d, e, f, g, i] := by
  match l, h with
  | [a, b, c, d, e, f, g, i], _ => exact ⟨a, b, c, d, e, f, g, i, rfl⟩
/-- One field of a struct. -/
theorem field_of {t : TypeId} {fs : Array Field} {fuel : Nat} {cs : List Value} {x : DataW H × List MemPlace} (ht : Try.prog.underlying t = some (.struct fs)) (h : DataW.trod enc Try.prog W 0 sp held fuel t cs = some x) :
    cs.length = Try.prog.cellsOf t ∧ ∀ (i : Nat) (f : Field), fs[i]? = some f → ∃ n y, DataW.trod enc Try.prog W 0 sp held n f.type ((cs.drop f.offset).take (Try.prog.cellsOf f.type)) = some y := by
  obtain ⟨xs, n, _, rfl, hl, hlen, hf⟩ := DataW.trod_struct ht h
  refine ⟨hl, fun i f hi => ?_⟩
  have hlt : i < fs.size := by
    rcases Nat.lt_or_ge i fs.size with a | a
    · exact a
    · rw [Array.getElem?_eq_none a] at hi; cases hi
  have := hf i f hi
  rw [List.getElem?_eq_getElem (show i < xs.length by omega)] at this
  exact ⟨n, _, this⟩
theorem open_pages {fuel : Nat} {v : Value} {x : DataW H × List MemPlace} (h : DataW.trod enc Try.prog W 0 sp held fuel 136 [v] = some x) : ∃ L, PgIn W 0 W.heap.size v L := by
  rcases open_strings Try.underlying136 Try.underlying9 (by kernel_rfl) h with ⟨hcs, _⟩ | ⟨a, l, c, zs, hcs, _, hl, hm, hz, _, hcell, hwz⟩
  · injection hcs with hcs
    subst hcs
    exact ⟨[], none, 0, 0, rfl, Nat.le_refl _, by omega, rfl, fun i hi => by omega, fun h => by omega⟩
  · injection hcs with hcs
    subst hcs
    have hzl : l ≤ zs.length := by rw [hz]; split <;> omega
    refine ⟨zs.take l, some a, l, c, rfl, hl, by unfold maxLen at hm; omega, by rw [List.length_take]; omega, fun i hi => ?_, fun h0 => ?_⟩
    · have e : (zs.take l).getD i ByteArray.empty = zs.getD i ByteArray.empty := by
        rw [List.getD_eq_getElem?_getD, List.getD_eq_getElem?_getD, List.getElem?_take, if_pos hi]
      rw [e, List.getD_eq_getElem?_getD, List.getElem?_eq_getElem (show i < zs.length by omega)]
      have := hwz _ (List.getElem_mem (show i < zs.length by omega))
      unfold maxLen at this
      exact this
    · obtain ⟨b, off, spot⟩ := a
      have h00 := hcell 0 (by omega)
      have hspot : spot = none := by simpa [Addr.add] using World.cell?_spot h00
      subst hspot
      refine ⟨b, off, rfl, Nat.zero_le _, World.block_lt_of_cell? W ⟨b, off, none⟩ (by simpa [Addr.add] using h00), fun i hi => ?_⟩
      have := hcell i (by omega)
      have e : (⟨b, off, none⟩ : Addr).add i = ⟨b, off + i, none⟩ := by unfold Addr.add; split <;> simp_all
      rw [e] at this
      rw [this, List.getD_eq_getElem?_getD, List.getD_eq_getElem?_getD, List.getElem?_take, if_pos hi]
theorem open_int1 {fuel : Nat} {v : Value} {x : DataW H × List MemPlace} (h : DataW.trod enc Try.prog W 0 sp held fuel 2 [v] = some x) : ∃ n, v = .int .i64 n ∧ (Lit.int .i64 n).wf = true := by
  obtain ⟨n, e, _, hw⟩ := DataW.trod_int Try.underlying2 h
  injection e with e
  exact ⟨n, e, hw⟩
theorem open_bool1 {fuel : Nat} {v : Value} {x : DataW H × List MemPlace} (h : DataW.trod enc Try.prog W 0 sp held fuel 4 [v] = some x) : ∃ b, v = .bool b := by
  obtain ⟨b, e, _⟩ := DataW.trod_bool Try.underlying4 h
  injection e with e
  exact ⟨b, e⟩
theorem cellsI : Try.prog.cellsOf 2 = 1 := by kernel_rfl
theorem cellsB : Try.prog.cellsOf 4 = 1 := by kernel_rfl
theorem cellsS : Try.prog.cellsOf 136 = 1 := by kernel_rfl
theorem cellsLB : Try.prog.cellsOf 173 = 4 := by kernel_rfl
theorem cellsLBs : Try.prog.cellsOf 71 = 1 := by kernel_rfl
theorem cellsLG : Try.prog.cellsOf 70 = 3 := by kernel_rfl
theorem cellsLF : Try.prog.cellsOf 73 = 8 := by kernel_rfl
theorem open_block {fuel : Nat} {cs : List Value} {x : DataW H × List MemPlace} (h : DataW.trod enc Try.prog W 0 sp held fuel 173 cs = some x) :
    ∃ (y : Blk) (u : Value), cs = [.int .i64 y.er, .int .i64 y.nx, .bool y.bad, u] ∧ PgIn W 0 W.heap.size u y.pg := by
  obtain ⟨hl, hf⟩ := field_of Try.underlying173 h
  rw [cellsLB] at hl
  obtain ⟨v0, v1, v2, v3, rfl⟩ := list4 hl
  obtain ⟨n0, y0, h0⟩ := hf 0 _ rfl
  obtain ⟨n1, y1, h1⟩ := hf 1 _ rfl
  obtain ⟨n2, y2, h2⟩ := hf 2 _ rfl
  obtain ⟨n3, y3, h3⟩ := hf 3 _ rfl
  simp [cellsI, cellsB, cellsS] at h0 h1 h2 h3
  obtain ⟨i0, rfl, _⟩ := open_int1 h0
  obtain ⟨i1, rfl, _⟩ := open_int1 h1
  obtain ⟨i2, rfl⟩ := open_bool1 h2
  obtain ⟨L, hL⟩ := open_pages h3
  exact ⟨⟨i0, i1, i2, L⟩, v3, rfl, hL⟩
theorem open_blocks {fuel : Nat} {v : Value} {x : DataW H × List MemPlace} (h : DataW.trod enc Try.prog W 0 sp held fuel 71 [v] = some x) : ∃ L, BksIn W 0 W.heap.size v L := by
  rcases Go.Deep.open_slice Try.underlying71 h with ⟨hcs, _⟩ | ⟨a, len, cap, m, n, D, Pl, hcs, _, hl, hm, hmm, _, hx⟩
  · injection hcs with hcs
    subst hcs
    exact ⟨[], none, 0, 0, rfl, Nat.le_refl _, by omega, rfl, fun h => by omega⟩
  · injection hcs with hcs
    subst hcs
    have hlm : len ≤ m := by rw [hmm]; split <;> omega
    rw [cellsLB] at hx
    have key : ∀ i, i < len → ∃ y : Blk, ∃ u, W.cells? 0 (a.add (i * 4)) 4 = some [.int .i64 y.er, .int .i64 y.nx, .bool y.bad, u] ∧ PgIn W 0 W.heap.size u y.pg := fun i hi => by
      obtain ⟨cs', h1, h2⟩ := hx i (by omega)
      obtain ⟨y, u, rfl, hu⟩ := open_block h2
      exact ⟨y, u, h1, hu⟩
    obtain ⟨f, hf⟩ := Go.Deep.choose_lt key
    refine ⟨(List.range len).map f, some a, len, cap, rfl, hl, by unfold maxLen at hm; omega, by simp, fun h0 => ?_⟩
    obtain ⟨b, off, spot⟩ := a
    have hsp : spot = none := by
      obtain ⟨u, h1, _⟩ := hf 0 h0
      obtain ⟨_, _, hc⟩ := World.cells?_some h1
      have := hc 0 (by omega)
      simpa [Addr.add] using World.cell?_spot this
    subst hsp
    have cell : ∀ i, i < len → ∃ u, BkAt W b (off + i * 4) (f i) u ∧ PgIn W 0 W.heap.size u (f i).pg := fun i hi => by
      obtain ⟨u, h1, h2⟩ := hf i hi
      obtain ⟨_, _, hc⟩ := World.cells?_some h1
      have e : ∀ c, ((⟨b, off, none⟩ : Addr).add (i * 4)).add c = ⟨b, off + i * 4 + c, none⟩ := fun c => by
        rw [Addr.add_lit, Addr.add_lit]
      have c0 := hc 0 (by omega)
      have c1 := hc 1 (by omega)
      have c2 := hc 2 (by omega)
      have c3 := hc 3 (by omega)
      rw [e] at c0 c1 c2 c3
      exact ⟨u, ⟨c0, c1, c2, c3⟩, h2⟩
    have hlt : b < W.heap.size := by
      obtain ⟨u, h1, _⟩ := cell 0 h0
      exact World.block_lt_of_cell? W _ h1.1
    refine ⟨b, off, rfl, Nat.zero_le _, hlt, fun i hi => ?_⟩
    have e : ((List.range len).map f).getD i Blk.zero = f i := by simp [List.getD_eq_getElem?_getD, hi]
    rw [e]
    exact cell i hi
def WfI (n : Int) : Prop := (Lit.int .i64 n).wf = true
theorem open_geo {fuel : Nat} {cs : List Value} {x : DataW H × List MemPlace} (h : DataW.trod enc Try.prog W 0 sp held fuel 70 cs = some x) :
    ∃ d b p, cs = [.int .i64 d, .int .i64 b, .int .i64 p] ∧ WfI d ∧ WfI b ∧ WfI p := by
  obtain ⟨hl, hf⟩ := field_of Try.underlying70 h
  rw [cellsLG] at hl
  obtain ⟨v0, v1, v2, rfl⟩ := list3 hl
  obtain ⟨n0, y0, h0⟩ := hf 0 _ rfl
  obtain ⟨n1, y1, h1⟩ := hf 1 _ rfl
  obtain ⟨n2, y2, h2⟩ := hf 2 _ rfl
  simp [cellsI] at h0 h1 h2
  obtain ⟨i0, rfl, w0⟩ := open_int1 h0
  obtain ⟨i1, rfl, w1⟩ := open_int1 h1
  obtain ⟨i2, rfl, w2⟩ := open_int1 h2
  exact ⟨i0, i1, i2, rfl, w0, w1, w2⟩
theorem open_flash {fuel : Nat} {cs : List Value} {x : DataW H × List MemPlace} (h : DataW.trod enc Try.prog W 0 sp held fuel 73 cs = some x) :
    ∃ F : Fl, FlIn W 0 W.heap.size (.agg cs.toArray) F := by
  obtain ⟨hl, hf⟩ := field_of Try.underlying73 h
  rw [cellsLF] at hl
  obtain ⟨v0, v1, v2, v3, v4, v5, v6, v7, rfl⟩ := list8 hl
  obtain ⟨n0, y0, h0⟩ := hf 0 _ rfl
  obtain ⟨n1, y1, h1⟩ := hf 1 _ rfl
  obtain ⟨n2, y2, h2⟩ := hf 2 _ rfl
  obtain ⟨n3, y3, h3⟩ := hf 3 _ rfl
  obtain ⟨n4, y4, h4⟩ := hf 4 _ rfl
  obtain ⟨n5, y5, h5⟩ := hf 5 _ rfl
  simp [cellsI, cellsB, cellsLG, cellsLBs] at h0 h1 h2 h3 h4 h5
  obtain ⟨d, b, p, e, _⟩ := open_geo h0
  obtain ⟨L, hL⟩ := open_blocks h1
  obtain ⟨i2, rfl, _⟩ := open_int1 h2
  obtain ⟨i3, rfl, _⟩ := open_int1 h3
  obtain ⟨i4, rfl⟩ := open_bool1 h4
  obtain ⟨i5, rfl, _⟩ := open_int1 h5
  injection e with e0 e
  injection e with e1 e
  injection e with e2 e
  subst e0 e1 e2
  exact ⟨⟨d, b, p, L, i2, i3, i4, i5⟩, v3, rfl, hL⟩
end
end Go.Proofs.Ytgamoiagpglcmaa
/- Faults and lists of them as plain data. No program in it. -/
namespace Go.Proofs.Ytgamoiagpglcmaa
open Go.RowKit
set_option linter.unusedVariables false
structure Ft where
  k : Int
  b : Int
  p : Int
  t : Int
def Ft.zero : Ft := ⟨0, 0, 0, 0⟩
def Ft.four (x : Ft) : List Int := [x.k, x.b, x.p, x.t]
def flat : List Ft → List Int
  | [] => []
  | x :: L => x.k :: x.b :: x.p :: x.t :: flat L
theorem flat_length : ∀ L : List Ft, (flat L).length = L.length * 4
  | [] => rfl
  | x :: L => by simp only [flat, List.length_cons, flat_length L]; omega
theorem flat_append : ∀ L M : List Ft, flat (L ++ M) = flat L ++ flat M
  | [], M => rfl
  | x :: L, M => by simp only [List.cons_append, flat, flat_append L M]
theorem flat_at : ∀ (L : List Ft) (i : Nat), i < L.length → (flat L).getD (i * 4) 0 = (L.getD i Ft.zero).k ∧ (flat L).getD (i * 4 + 1) 0 = (L.getD i Ft.zero).b ∧ (flat L).getD (i * 4 + 2) 0 = (L.getD i Ft.zero).p ∧ (flat L).getD (i * 4 + 3) 0 = (L.getD i Ft.zero).t
  | [], i, h => by simp at h
  | x :: L, 0, h => ⟨rfl, rfl, rfl, rfl⟩
  | x :: L, i + 1, h => by
    have ih := flat_at L i (by simpa using h)
    have e : ∀ c, (flat (x :: L)).getD ((i + 1) * 4 + c) 0 = (flat L).getD (i * 4 + c) 0 := fun c => by
      rw [show (i + 1) * 4 + c = i * 4 + c + 1 + 1 + 1 + 1 by omega]; rfl
    have e0 := e 0
    rw [Nat.add_zero, Nat.add_zero] at e0
    rw [e0, e 1, e 2, e 3]
    exact ih
theorem flat_inj {L M : List Ft} (h : flat L = flat M) : L = M := by
  induction L generalizing M with
  | nil => cases M with
    | nil => rfl
    | cons y M => simp [flat] at h
  | cons x L ih => cases M with
    | nil => simp [flat] at h
    | cons y M =>
      simp only [flat, List.cons.injEq] at h
      obtain ⟨h1, h2, h3, h4, h5⟩ := h
      rw [ih h5]
      obtain ⟨a, b, c, d⟩ := x
      obtain ⟨a', b', c', d'⟩ := y
      simp_all
end Go.Proofs.Ytgamoiagpglcmaa
