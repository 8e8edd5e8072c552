/- The proof's own lemmas, part 3: FlO TbN. -/
import Derived.Test.YtainlanblpccjaaProg
import Derived.Test.YtainlanblpccjaaMg1
import Derived.WalkKit
import Derived.ProofKit
import Derived.OpenShut
import Derived.ShutString
import Derived.ChangeOld
import Derived.SliceStrings
import Derived.Deep.Slices
import Derived.Test.YtainlanblpccjaaMg0
/- An array that comes in as an argument of a law, opened: what is known of it. -/
namespace Go.Proofs.Ytainlanblpccjaa
open Go.RowKit Go.ChangeShapes Go.WideShapes
set_option linter.unusedVariables false
section
variable {H : Type} {enc : TypeId × Value → H} {W : World} {sp : Nat → Bool} {held : Bool}
theorem list3 {α : Type} {l : List α} (h : l.length = 3) : ∃ a b c, l = [a, b, c] := by
  match l, h with
  | [a, b, c], _ => exact ⟨a, b, c, rfl⟩
theorem list4 {α : Type} {l : List α} (h : l.length = 4) : ∃ a b c d, l = [a, b, c, d] := by
  match l, h with
  | [a, b, c, d], _ => exact ⟨a, b, c, d, rfl⟩
theorem list8 {α : Type} {l : List α} (h : l.length = 8) : ∃ a b c d e f g i, l = [a, b, c, d, e, f, g, i] := by
  match l, h with
  | [a, b, c, d, e, f, g, i], _ => exact ⟨a, b, c, d, e, f, g, i, rfl⟩
/-- One field of a struct. -/
theorem field_of {t : TypeId} {fs : Array Field} {fuel : Nat} {cs : List Value} {x : DataW H × List MemPlace} (ht : Try.prog.underlying t = some (.struct fs)) (h : DataW.trod enc Try.prog W 0 sp held fuel t cs = some x) :
    cs.length = Try.prog.cellsOf t ∧ ∀ (i : Nat) (f : Field), fs[i]? = some f → ∃ n y, DataW.trod enc Try.prog W 0 sp held n f.type ((cs.drop f.offset).take (Try.prog.cellsOf f.type)) = some y := by
  obtain ⟨xs, n, _, rfl, hl, hlen, hf⟩ := DataW.trod_struct ht h
  refine ⟨hl, fun i f hi => ?_⟩
  have hlt : i < fs.size := by
    rcases Nat.lt_or_ge i fs.size with a | a
    · exact a
    · rw [Array.getElem?_eq_none a] at hi; cases hi
  have := hf i f hi
  rw [List.getElem?_eq_getElem (show i < xs.length by omega)] at this
  exact ⟨n, _, this⟩
theorem open_pages {fuel : Nat} {v : Value} {x : DataW H × List MemPlace} (h : DataW.trod enc Try.prog W 0 sp held fuel 145 [v] = some x) : ∃ L, PgIn W 0 W.heap.size v L := by
  rcases open_strings Try.underlying145 Try.underlying9 (by kernel_rfl) h with ⟨hcs, _⟩ | ⟨a, l, c, zs, hcs, _, hl, hm, hz, _, hcell, hwz⟩
  · injection hcs with hcs
    subst hcs
    exact ⟨[], none, 0, 0, rfl, Nat.le_refl _, by omega, rfl, fun i hi => by omega, fun h => by omega⟩
  · injection hcs with hcs
    subst hcs
    have hzl : l ≤ zs.length := by rw [hz]; split <;> omega
    refine ⟨zs.take l, some a, l, c, rfl, hl, by unfold maxLen at hm; omega, by rw [List.length_take]; omega, fun i hi => ?_, fun h0 => ?_⟩
    · have e : (zs.take l).getD i ByteArray.empty = zs.getD i ByteArray.empty := by
        rw [List.getD_eq_getElem?_getD, List.getD_eq_getElem?_getD, List.getElem?_take, if_pos hi]
      rw [e, List.getD_eq_getElem?_getD, List.getElem?_eq_getElem (show i < zs.length by omega)]
      have := hwz _ (List.getElem_mem (show i < zs.length by omega))
      unfold maxLen at this
      exact this
    · obtain ⟨b, off, spot⟩ := a
      have h00 := hcell 0 (by omega)
      have hspot : spot = none := by simpa [Addr.add] using World.cell?_spot h00
      subst hspot
      refine ⟨b, off, rfl, Nat.zero_le _, World.block_lt_of_cell? W ⟨b, off, none⟩ (by simpa [Addr.add] using h00), fun i hi => ?_⟩
      have := hcell i (by omega)
      have e : (⟨b, off, none⟩ : Addr).add i = ⟨b, off + i, none⟩ := by unfold Addr.add; split <;> simp_all
      rw [e] at this
      rw [this, List.getD_eq_getElem?_getD, List.getD_eq_getElem?_getD, List.getElem?_take, if_pos hi]
theorem open_int1 {fuel : Nat} {v : Value} {x : DataW H × List MemPlace} (h : DataW.trod enc Try.prog W 0 sp held fuel 2 [v] = some x) : ∃ n, v = .int .i64 n ∧ (Lit.int .i64 n).wf = true := by
  obtain ⟨n, e, _, hw⟩ := DataW.trod_int Try.underlying2 h
  injection e with e
  exact ⟨n, e, hw⟩
theorem open_bool1 {fuel : Nat} {v : Value} {x : DataW H × List MemPlace} (h : DataW.trod enc Try.prog W 0 sp held fuel 4 [v] = some x) : ∃ b, v = .bool b := by
  obtain ⟨b, e, _⟩ := DataW.trod_bool Try.underlying4 h
  injection e with e
  exact ⟨b, e⟩
theorem cellsI : Try.prog.cellsOf 2 = 1 := by kernel_rfl
theorem cellsB : Try.prog.cellsOf 4 = 1 := by kernel_rfl
theorem cellsS : Try.prog.cellsOf 145 = 1 := by kernel_rfl
theorem cellsLB : Try.prog.cellsOf 192 = 4 := by kernel_rfl
theorem cellsLBs : Try.prog.cellsOf 60 = 1 := by kernel_rfl
theorem cellsLG : Try.prog.cellsOf 59 = 3 := by kernel_rfl
theorem cellsLF : Try.prog.cellsOf 62 = 8 := by kernel_rfl
theorem open_block {fuel : Nat} {cs : List Value} {x : DataW H × List MemPlace} (h : DataW.trod enc Try.prog W 0 sp held fuel 192 cs = some x) :
    ∃ (y : Blk) (u : Value), cs = [.int .i64 y.er, .int .i64 y.nx, .bool y.bad, u] ∧ PgIn W 0 W.heap.size u y.pg := by
  obtain ⟨hl, hf⟩ := field_of Try.underlying192 h
  rw [cellsLB] at hl
  obtain ⟨v0, v1, v2, v3, rfl⟩ := list4 hl
  obtain ⟨n0, y0, h0⟩ := hf 0 _ rfl
  obtain ⟨n1, y1, h1⟩ := hf 1 _ rfl
  obtain ⟨n2, y2, h2⟩ := hf 2 _ rfl
  obtain ⟨n3, y3, h3⟩ := hf 3 _ rfl
  simp [cellsI, cellsB, cellsS] at h0 h1 h2 h3
  obtain ⟨i0, rfl, _⟩ := open_int1 h0
  obtain ⟨i1, rfl, _⟩ := open_int1 h1
  obtain ⟨i2, rfl⟩ := open_bool1 h2
  obtain ⟨L, hL⟩ := open_pages h3
  exact ⟨⟨i0, i1, i2, L⟩, v3, rfl, hL⟩
theorem open_blocks {fuel : Nat} {v : Value} {x : DataW H × List MemPlace} (h : DataW.trod enc Try.prog W 0 sp held fuel 60 [v] = some x) : ∃ L, BksIn W 0 W.heap.size v L := by
  rcases Go.Deep.open_slice Try.underlying60 h with ⟨hcs, _⟩ | ⟨a, len, cap, m, n, D, Pl, hcs, _, hl, hm, hmm, _, hx⟩
  · injection hcs with hcs
    subst hcs
    exact ⟨[], none, 0, 0, rfl, Nat.le_refl _, by omega, rfl, fun h => by omega⟩
  · injection hcs with hcs
    subst hcs
    have hlm : len ≤ m := by rw [hmm]; split <;> omega
    rw [cellsLB] at hx
    have key : ∀ i, i < len → ∃ y : Blk, ∃ u, W.cells? 0 (a.add (i * 4)) 4 = some [.int .i64 y.er, .int .i64 y.nx, .bool y.bad, u] ∧ PgIn W 0 W.heap.size u y.pg := fun i hi => by
      obtain ⟨cs', h1, h2⟩ := hx i (by omega)
      obtain ⟨y, u, rfl, hu⟩ := open_block h2
      exact ⟨y, u, h1, hu⟩
    obtain ⟨f, hf⟩ := Go.Deep.choose_lt key
    refine ⟨(List.range len).map f, some a, len, cap, rfl, hl, by unfold maxLen at hm; omega, by simp, fun h0 => ?_⟩
    obtain ⟨b, off, spot⟩ := a
    have hsp : spot = none := by
      obtain ⟨u, h1, _⟩ := hf 0 h0
      obtain ⟨_, _, hc⟩ := World.cells?_some h1
      have := hc 0 (by omega)
      simpa [Addr.add] using World.cell?_spot this
    subst hsp
    have cell : ∀ i, i < len → ∃ u, BkAt W b (off + i * 4) (f i) u ∧ PgIn W 0 W.heap.size u (f i).pg := fun i hi => by
      obtain ⟨u, h1, h2⟩ := hf i hi
      obtain ⟨_, _, hc⟩ := World.cells?_some h1
      have e : ∀ c, ((⟨b, off, none⟩ : Addr).add (i * 4)).add c = ⟨b, off + i * 4 + c, none⟩ := fun c => by
        rw [Addr.add_lit, Addr.add_lit]
      have c0 := hc 0 (by omega)
      have c1 := hc 1 (by omega)
      have c2 := hc 2 (by omega)
      have c3 := hc 3 (by omega)
      rw [e] at c0 c1 c2 c3
      exact ⟨u, ⟨c0, c1, c2, c3⟩, h2⟩
    have hlt : b < W.heap.size := by
      obtain ⟨u, h1, _⟩ := cell 0 h0
      exact World.block_lt_of_cell? W _ h1.1
    refine ⟨b, off, rfl, Nat.zero_le _, hlt, fun i hi => ?_⟩
    have e : ((List.range len).map f).getD i Blk.zero = f i := by simp [List.getD_eq_getElem?_getD, hi]
    rw [e]
    exact cell i hi
def WfI (n : Int) : Prop := (Lit.int .i64 n).wf = true
theorem open_geo {fuel : Nat} {cs : List Value} {x : DataW H × List MemPlace} (h : DataW.trod enc Try.prog W 0 sp held fuel 59 cs = some x) :
    ∃ d b p, cs = [.int .i64 d, .int .i64 b, .int .i64 p] ∧ WfI d ∧ WfI b ∧ WfI p := by
  obtain ⟨hl, hf⟩ := field_of Try.underlying59 h
  rw [cellsLG] at hl
  obtain ⟨v0, v1, v2, rfl⟩ := list3 hl
  obtain ⟨n0, y0, h0⟩ := hf 0 _ rfl
  obtain ⟨n1, y1, h1⟩ := hf 1 _ rfl
  obtain ⟨n2, y2, h2⟩ := hf 2 _ rfl
  simp [cellsI] at h0 h1 h2
  obtain ⟨i0, rfl, w0⟩ := open_int1 h0
  obtain ⟨i1, rfl, w1⟩ := open_int1 h1
  obtain ⟨i2, rfl, w2⟩ := open_int1 h2
  exact ⟨i0, i1, i2, rfl, w0, w1, w2⟩
theorem open_flash {fuel : Nat} {cs : List Value} {x : DataW H × List MemPlace} (h : DataW.trod enc Try.prog W 0 sp held fuel 62 cs = some x) :
    ∃ F : Fl, FlIn W 0 W.heap.size (.agg cs.toArray) F := by
  obtain ⟨hl, hf⟩ := field_of Try.underlying62 h
  rw [cellsLF] at hl
  obtain ⟨v0, v1, v2, v3, v4, v5, v6, v7, rfl⟩ := list8 hl
  obtain ⟨n0, y0, h0⟩ := hf 0 _ rfl
  obtain ⟨n1, y1, h1⟩ := hf 1 _ rfl
  obtain ⟨n2, y2, h2⟩ := hf 2 _ rfl
  obtain ⟨n3, y3, h3⟩ := hf 3 _ rfl
  obtain ⟨n4, y4, h4⟩ := hf 4 _ rfl
  obtain ⟨n5, y5, h5⟩ := hf 5 _ rfl
  simp [cellsI, cellsB, cellsLG, cellsLBs] at h0 h1 h2 h3 h4 h5
  obtain ⟨d, b, p, e, _⟩ := open_geo h0
  obtain ⟨L, hL⟩ := open_blocks h1
  obtain ⟨i2, rfl, _⟩ := open_int1 h2
  obtain ⟨i3, rfl, _⟩ := open_int1 h3
  obtain ⟨i4, rfl⟩ := open_bool1 h4
  obtain ⟨i5, rfl, _⟩ := open_int1 h5
  injection e with e0 e
  injection e with e1 e
  injection e with e2 e
  subst e0 e1 e2
  exact ⟨⟨d, b, p, L, i2, i3, i4, i5⟩, v3, rfl, hL⟩
end
end Go.Proofs.Ytainlanblpccjaa
/- A table of bad blocks as plain data. No program in it. -/
namespace Go.Proofs.Ytainlanblpccjaa
open Go.RowKit
set_option linter.unusedVariables false
structure Tb where
  d : Int
  b : Int
  p : Int
  sp : Int
  bad : List Int
  rm : List Int
def Tb.zero : Tb := ⟨0, 0, 0, 0, [], []⟩
/-- A strictly increasing list of numbers below hi. -/
def Rises (l : List Int) (hi : Int) : Prop := ∀ i, i < l.length → (0 ≤ l.getD i 0 ∧ l.getD i 0 < hi) ∧ (0 < i → l.getD (i - 1) 0 < l.getD i 0)
def Tb.prim (T : Tb) : Int := T.b - T.sp
def Tb.home (T : Tb) (i : Int) : Int := i / T.prim * T.b + i % T.prim
def SpareOf (T : Tb) (die x : Int) : Prop := (die + 1) * T.b - T.sp ≤ x ∧ x < (die + 1) * T.b
def TbShape (T : Tb) : Prop := GeoOk T.d T.b T.p ∧ (1 ≤ T.sp ∧ T.sp ≤ 4) ∧ T.sp < T.b - 1 ∧ Rises T.bad (T.d * T.b)
def EntryOk (T : Tb) (i : Nat) : Prop :=
  ¬ T.rm.getD i 0 ∈ T.bad ∧ ¬ T.rm.getD i 0 ∈ T.rm.take i ∧ (T.rm.getD i 0 = T.home i ∨ (SpareOf T (T.home i / T.b) (T.rm.getD i 0) ∧ T.home i ∈ T.bad))
def TbOk (T : Tb) : Prop := TbShape T ∧ (T.rm.length : Int) = T.d * T.prim ∧ ∀ i, i < T.rm.length → EntryOk T i
theorem mem_iff_getD {l : List Int} {x : Int} : x ∈ l ↔ ∃ i, i < l.length ∧ l.getD i 0 = x := by
  constructor
  · intro h
    obtain ⟨i, hi, rfl⟩ := List.getElem_of_mem h
    exact ⟨i, hi, by rw [List.getD_eq_getElem?_getD, List.getElem?_eq_getElem hi]; rfl⟩
  · rintro ⟨i, hi, rfl⟩
    rw [List.getD_eq_getElem?_getD, List.getElem?_eq_getElem hi]
    exact List.getElem_mem hi
theorem Rises.lt {l : List Int} {hi : Int} (h : Rises l hi) {i j : Nat} (hij : i < j) (hj : j < l.length) : l.getD i 0 < l.getD j 0 := by
  induction j with
  | zero => omega
  | succ j ih =>
    have h1 := (h (j + 1) hj).2 (by omega)
    rw [Nat.add_sub_cancel] at h1
    by_cases e : i = j
    · subst e; exact h1
    · have := ih (by omega) (by omega); omega
theorem Rises.le {l : List Int} {hi : Int} (h : Rises l hi) : l.Pairwise (· ≤ ·) := by
  rw [List.pairwise_iff_getElem]
  intro i j h1 h2 hij
  have := h.lt hij h2
  rw [List.getD_eq_getElem?_getD, List.getD_eq_getElem?_getD, List.getElem?_eq_getElem h1, List.getElem?_eq_getElem h2] at this
  simp only [Option.getD_some] at this
  omega
theorem Rises.long {l : List Int} {hi : Int} (h : Rises l hi) (h0 : 0 ≤ hi) : (l.length : Int) ≤ hi := by
  have key : ∀ i, i < l.length → (i : Int) ≤ l.getD i 0 := by
    intro i
    induction i with
    | zero => intro hi; exact (h 0 hi).1.1
    | succ i ih => intro hi; have := ih (by omega); have := h.lt (show i < i + 1 by omega) hi; omega
  rcases Nat.eq_zero_or_pos l.length with e | e
  · omega
  · have := key (l.length - 1) (by omega); have := (h (l.length - 1) (by omega)).1.2; omega
/-- What is known of the numbers of a table whose shape is right. -/
theorem TbShape.nums {T : Tb} (h : TbShape T) : 2 ≤ T.d ∧ T.d ≤ 3 ∧ 4 ≤ T.b ∧ T.b ≤ 12 ∧ 1 ≤ T.sp ∧ T.sp ≤ 4 ∧ 2 ≤ T.prim ∧ T.prim ≤ 11 ∧ T.prim = T.b - T.sp ∧ 8 ≤ T.d * T.b ∧ T.d * T.b ≤ 36 := by
  have hm := h.1.mul
  obtain ⟨⟨⟨h1, h2⟩, ⟨h3, h4⟩, _⟩, ⟨h5, h6⟩, h7, _⟩ := h
  refine ⟨h1, h2, h3, h4, h5, h6, ?_, ?_, rfl, hm.1, hm.2⟩ <;> (unfold Tb.prim; omega)
theorem TbShape.rmLen {T : Tb} (h : TbShape T) : 4 ≤ T.d * T.prim ∧ T.d * T.prim ≤ 33 := by
  obtain ⟨h1, h2, _, _, _, _, h3, h4, _⟩ := h.nums
  obtain e | e : T.d = 2 ∨ T.d = 3 := by omega
  all_goals (rw [e]; omega)
/-- The die of a home, and its place there. -/
theorem home_die {T : Tb} (h : TbShape T) {i : Int} (h0 : 0 ≤ i) : T.home i / T.b = i / T.prim ∧ 0 ≤ T.home i ∧ 0 ≤ i % T.prim ∧ i % T.prim < T.prim ∧ 0 ≤ i / T.prim := by
  obtain ⟨_, _, h3, h4, h5, h6, h7, h8, h9, _⟩ := h.nums
  have a := Int.emod_nonneg i (show T.prim ≠ 0 by omega)
  have b := Int.emod_lt_of_pos i (show 0 < T.prim by omega)
  have c := Int.ediv_nonneg h0 (show 0 ≤ T.prim by omega)
  refine ⟨?_, ?_, a, b, c⟩
  · unfold Tb.home
    rw [Int.add_comm, Int.add_mul_ediv_right _ _ (show T.b ≠ 0 by omega), Int.ediv_eq_zero_of_lt a (by omega), Int.zero_add]
  · unfold Tb.home
    have := Int.mul_nonneg c (show 0 ≤ T.b by omega)
    omega
theorem die_lt {T : Tb} (h : TbShape T) {i : Int} (h0 : 0 ≤ i) (hi : i < T.d * T.prim) : i / T.prim < T.d := by
  obtain ⟨_, _, h3, h4, h5, h6, h7, h8, h9, _⟩ := h.nums
  exact Int.ediv_lt_of_lt_mul (by omega) hi
theorem home_lt {T : Tb} (h : TbShape T) {i : Int} (h0 : 0 ≤ i) (hi : i < T.d * T.prim) : T.home i < T.d * T.b := by
  obtain ⟨h1, h2, h3, h4, h5, h6, h7, h8, h9, _⟩ := h.nums
  have a := die_lt h h0 hi
  have b := (home_die h h0).2.2.2.1
  unfold Tb.home
  have : (i / T.prim + 1) * T.b ≤ T.d * T.b := Int.mul_le_mul_of_nonneg_right (by omega) (by omega)
  rw [Int.add_mul, Int.one_mul] at this
  omega
/-- The home as the program reckons it: division that cuts toward zero. -/
theorem home_t {T : Tb} (h : TbShape T) {i : Int} (h0 : 0 ≤ i) : Int.tdiv i T.prim * T.b + Int.tmod i T.prim = T.home i := by
  unfold Tb.home
  rw [Int.tdiv_eq_ediv_of_nonneg h0, Int.tmod_eq_emod_of_nonneg h0]
end Go.Proofs.Ytainlanblpccjaa
