/- A slice of bytes that the call itself makes, grows by append and turns into a string. -/
import Derived.Test.YtnobgapdidpafaaDoorProg
import Derived.Test.YtnobgapdidpafaaDoorWords
import Derived.WalkKit
import Derived.ProofKit
import Derived.Lib.Hide
import Derived.Deep.RegionLaw
namespace Go.Proofs.YtnobgapdidpafaaDoor
open Go.RowKit

/-- The value v is a slice of the call's own (in a block from B on) that holds the bytes l. -/
def BytesOwn (w : World) (B : Nat) (v : Value) (l : List Int) : Prop := w.ownsRow B 5 1 v l.length (l.map (Value.int .u8))

theorem info8 : (Tryd.prog.info? 5).map (fun i => (i.zero, i.size, i.bytes)) = some (some (.int .u8 0), 1, 1) := by kernel_rfl

theorem BytesOwn.made (w : World) {B : Nat} (h : B ≤ w.heap.size) : BytesOwn (w.alloc (.cells #[] 5)) B (.slice (some ⟨w.heap.size, 0, none⟩) 0 0) [] :=
  World.ownsRow_made w #[] 0 h (by unfold maxLen; omega) rfl
theorem BytesOwn.nil (w : World) (B : Nat) : BytesOwn w B (.slice none 0 0) [] := World.ownsRow_nil w B _ 1
theorem BytesOwn.alloc {w : World} {B : Nat} {v : Value} {l : List Int} (h : BytesOwn w B v l) (o : Obj) : BytesOwn (w.alloc o) B v l := World.ownsRow.alloc h o
theorem BytesOwn.drew {w : World} {B : Nat} {v : Value} {l : List Int} (h : BytesOwn w B v l) : BytesOwn w.drew B v l := h
theorem BytesOwn.shape {w : World} {B : Nat} {v : Value} {l : List Int} (h : BytesOwn w B v l) :
    (v = .slice none 0 0 ∧ l = []) ∨ ∃ g cap, v = .slice (some ⟨g, 0, none⟩) l.length cap ∧ B ≤ g := by
  rcases h.2 with ⟨h1, h2⟩ | ⟨g, cap, cur, h1, h2, _⟩
  · exact .inl ⟨h1, List.eq_nil_of_length_eq_zero h2⟩
  · exact .inr ⟨g, cap, h1, h2⟩

theorem wpList_append_byte {Q : Exit → Act → World → Prop} {ops : Array Oper} {rest : List Oper} {o : Oper} {a : Act} {w0 wr : World} {B : Nat} (hgd : o.guard = none) (s x : Operand)
    (ho : o.op = .call { callee := .builtin .append, args := #[s, x], argTypes := #[32, 32] })
    (v : Value) (l : List Int) (hs : a.eval s = v) (hown : BytesOwn wr B v l) (hb : Below B w0 wr) (hB : B ≤ wr.heap.size)
    (b : Int) (c : Nat) (hx : a.eval x = .slice (some ⟨wr.heap.size, 0, none⟩) 1 c) (hl : l.length + 1 ≤ 140737488355328)
    (h : ∀ v' w', BytesOwn w' B v' (l ++ [b]) → Below B w0 w' → wpList Tryd.prog ops Q rest (a.put o.dst v') w') :
    wpList Tryd.prog ops Q (o :: rest) a (wr.alloc (.cells #[.int .u8 b] 5)) := by
  obtain ⟨i0, hi, hz0, hz1, hz2⟩ := info_parts info8
  refine wpList_append_own _ hgd s x _ ho B 5 i0 (.int .u8 0) 1 1 Tryd.underlying32 hi hz0 hz1 hz2 rfl (by decide) v l.length (l.map (Value.int .u8)) hs (World.ownsRow.alloc hown _) ⟨wr.heap.size, 0, none⟩ 1 c [.int .u8 b] hx rfl ?_ ?_ (by unfold maxLen; omega) (by omega) (by simp; omega) ?_
  · intro j u hj
    match j, hj with
    | 0, hj => simp at hj; subst hj; simp [Addr.add]
  · intro u hu; simp at hu; subst hu; rfl
  · intro v' w' h1 h2 _
    refine h v' w' ?_ ?_
    · unfold BytesOwn; simpa using h1
    · exact (hb.alloc hB _).grown h2 (by simp; omega) fun k hk => (World.ownsRow.lt hown k hk).1

/-- The same law inside a region that draws its order. -/
theorem step_append_byte {Q : Exit → Act → World → Prop} {K : Act → World → Prop} {E : Prop} {ops : Array Oper} {o : Oper} {a : Act} {w0 w : World} {B : Nat} (hgd : o.guard = none) (s x : Operand)
    (ho : o.op = .call { callee := .builtin .append, args := #[s, x], argTypes := #[32, 32] })
    (v : Value) (l : List Int) (hs : a.eval s = v) (hown : BytesOwn w B v l) (hb : Below B w0 w) (hB : B ≤ w.heap.size)
    (g c : Nat) (b : Int) (hx : a.eval x = .slice (some ⟨g, 0, none⟩) 1 c) (hcell : w.cell? ⟨g, 0, none⟩ = some (.int .u8 b)) (hl : l.length + 1 ≤ 140737488355328)
    (h : ∀ v' w', BytesOwn w' B v' (l ++ [b]) → Below B w0 w' → K (a.put o.dst v') w') :
    if Region.wanted o (yielded ops a.tmps) = true then Oper.wp Tryd.prog o a w K Q else E := by
  have hw : Region.wanted o (yielded ops a.tmps) = true := by simp [Region.wanted, hgd]
  rw [if_pos hw]
  obtain ⟨i0, hi, hz0, hz1, hz2⟩ := info_parts info8
  refine wp_append_own w s x _ ho B 5 i0 (.int .u8 0) 1 1 Tryd.underlying32 hi hz0 hz1 hz2 rfl (by decide) v l.length (l.map (Value.int .u8)) hs hown ⟨g, 0, none⟩ 1 c [.int .u8 b] hx rfl ?_ ?_ (by unfold maxLen; omega) (by omega) hB ?_
  · intro j u hj
    match j, hj with
    | 0, hj => simp at hj; subst hj; simpa [Addr.add] using hcell
  · intro u hu; simp at hu; subst hu; rfl
  · intro v' w' h1 h2 _
    refine h v' w' ?_ (hb.grown h2 hB fun k hk => (World.ownsRow.lt hown k hk).1)
    unfold BytesOwn; simpa using h1

theorem bytes_str {w : World} {B : Nat} {v : Value} {l : List Int} (h : BytesOwn w B v l) :
    (Go.convert 32 9 v).run Tryd.prog w = .ok (.string (strOfNums l)) w := by
  rcases h.shape with ⟨rfl, rfl⟩ | ⟨g, cap, rfl, _⟩
  · exact run_convert_bytes_nil w _ _ Tryd.underlying32 Tryd.underlying5 0 0 _ Tryd.underlying9
  · refine run_convert_bytes_arg w _ _ Tryd.underlying32 Tryd.underlying5 g 0 l.length cap l rfl (fun i hi => ?_) _ Tryd.underlying9
    have := World.ownsRow.cellAt h i (by omega)
    rw [Nat.zero_add, this]
    simp [hi]

theorem wpList_make_bytes {Q : Exit → Act → World → Prop} {ops : Array Oper} {rest : List Oper} {o : Oper} {a : Act} {w0 w : World} {B : Nat} (hgd : o.guard = none) (l c : Operand)
    (ho : o.op = Op.makeSlice 32 l c) (kl kc : IntKind) (L C : Int) (n : Nat) (hl : a.eval l = .int kl L) (hc : a.eval c = .int kc C) (hL : L = (n : Int)) (hC : C = (n : Int)) (hn : n ≤ 140737488355328)
    (hb : Below B w0 w) (hB : B ≤ w.heap.size)
    (h : ∀ w', BytesOwn w' B (.slice (some ⟨w.heap.size, 0, none⟩) n n) (List.replicate n 0) → Below B w0 w' → wpList Tryd.prog ops Q rest (a.put o.dst (.slice (some ⟨w.heap.size, 0, none⟩) n n)) w') :
    wpList Tryd.prog ops Q (o :: rest) a w := by
  obtain ⟨i0, hi, hz0, hz1, hz2⟩ := info_parts info8
  refine wpList_make_full w hgd l c _ ho B 5 i0 (.int .u8 0) 1 Tryd.underlying32 hi hz0 hz1 kl kc L C n hl hc hL hC (by rw [hz2]; omega) (by unfold maxLen; omega) hB ?_
  intro w' h1 h2
  refine h w' ?_ (hb.grown h2 hB fun k hk => by simp at hk)
  have e : (madeCells (Value.int .u8 0).cells (n * 1)).toList = (List.replicate n (0 : Int)).map (Value.int .u8) := by
    show (madeCells #[Value.int .u8 0] (n * 1)).toList = _
    rw [toList_madeCells_one]; simp
  rw [e] at h1
  unfold BytesOwn; simpa using h1

theorem BytesOwn.cell {w : World} {B g n cap : Nat} {l : List Int} (h : BytesOwn w B (.slice (some ⟨g, 0, none⟩) n cap) l) {j : Nat} (hn : l.length = n) (hj : j < n) : w.cell? ⟨g, j, none⟩ = some (.int .u8 (l.getD j 0)) := by
  unfold BytesOwn at h
  rw [hn] at h
  rw [World.ownsRow.cellAt h j (by omega)]
  simp [show j < l.length by omega]
theorem BytesOwn.free {w : World} {B g n cap : Nat} {l : List Int} (h : BytesOwn w B (.slice (some ⟨g, 0, none⟩) n cap) l) (hn : l.length = n) (j : Nat) : w.frozen? ⟨g, j, none⟩ = false := by
  unfold BytesOwn at h
  rw [hn] at h
  exact World.ownsRow.frozenAt h j
theorem BytesOwn.base {w : World} {B g n cap : Nat} {l : List Int} (h : BytesOwn w B (.slice (some ⟨g, 0, none⟩) n cap) l) : B ≤ g := by
  rcases h.shape with ⟨h1, _⟩ | ⟨g', cap', h1, h2⟩
  · simp at h1
  · simp at h1; omega
theorem BytesOwn.stored {w : World} {B g n cap : Nat} {l : List Int} (h : BytesOwn w B (.slice (some ⟨g, 0, none⟩) n cap) l) (hn : l.length = n) (j : Nat) (b : Int) :
    BytesOwn (w.setCell ⟨g, j, none⟩ (.int .u8 b)) B (.slice (some ⟨g, 0, none⟩) n cap) (l.set j b) := by
  unfold BytesOwn at h ⊢
  rw [hn] at h
  have := (World.ownsRow.stored h j (.int .u8 b)).1
  rw [List.length_set, hn, List.map_set]
  exact this
theorem arr_str {w : World} {g : Nat} {t : TypeId} {l : List Int} (h : Arr w g t .u8 l) (n cap : Nat) (hn : n ≤ l.length) :
    (Go.convert 32 9 (.slice (some ⟨g, 0, none⟩) n cap)).run Tryd.prog w = .ok (.string (strOfNums (l.take n))) w := by
  refine run_convert_bytes_arg w _ _ Tryd.underlying32 Tryd.underlying5 g 0 n cap (l.take n) (by simp; omega) (fun i hi => ?_) _ Tryd.underlying9
  rw [Nat.zero_add, h.cell (by omega)]
  simp [hi]
/-- Block g starts with the bytes l, none of them frozen. -/
def BytesAt (w : World) (g : Nat) (l : List Int) : Prop := ∀ j, j < l.length → w.cell? ⟨g, j, none⟩ = some (.int .u8 (l.getD j 0)) ∧ w.frozen? ⟨g, j, none⟩ = false
theorem BytesAt.drew {w : World} {g : Nat} {l : List Int} (h : BytesAt w g l) : BytesAt w.drew g l := h
theorem BytesAt.set_ {w : World} {g : Nat} {l : List Int} (h : BytesAt w g l) {k : Nat} (hk : k < l.length) (x : Int) : BytesAt (w.setCell ⟨g, k, none⟩ (.int .u8 x)) g (l.set k x) := by
  intro j hj
  rw [List.length_set] at hj
  refine ⟨?_, by rw [World.frozen?_setCell]; exact (h j hj).2⟩
  by_cases e : k = j
  · subst e
    rw [World.cell?_setCell_same w _ _ (h k hk).1]
    simp [hk]
  · rw [World.cell?_setCell_other w _ _ _ (fun h => e (congrArg Addr.off h)), (h j hj).1]
    simp [List.getElem?_set_ne e]
theorem BytesAt.below {w w' : World} {g B : Nat} {l : List Int} (h : BytesAt w g l) (hb : Below B w w') (hg : g < B) : BytesAt w' g l := fun j hj =>
  ⟨(hb.cell (p := ⟨g, j, none⟩) hg).trans (h j hj).1, (hb.frozen (p := ⟨g, j, none⟩) hg).trans (h j hj).2⟩
theorem BytesAt.str {w : World} {g cap : Nat} {l : List Int} (h : BytesAt w g l) :
    (Go.convert 32 9 (.slice (some ⟨g, 0, none⟩) l.length cap)).run Tryd.prog w = .ok (.string (strOfNums l)) w := by
  refine run_convert_bytes_arg w _ _ Tryd.underlying32 Tryd.underlying5 g 0 l.length cap l rfl (fun i hi => ?_) _ Tryd.underlying9
  rw [Nat.zero_add]; exact (h i hi).1

/-- A text turned into bytes. -/
theorem wpList_str_bytes {Q : Exit → Act → World → Prop} {ops : Array Oper} {rest : List Oper} {o : Oper} {a : Act} {w0 w : World} {B : Nat} (hgd : o.guard = none) (x : Operand)
    (ho : o.op = .convert 9 32 x) (s : ByteArray) (hx : a.eval x = .string s) (hb : Below B w0 w) (hB : B ≤ w.heap.size)
    (h : ∀ cap w', BytesAt w' w.heap.size (s.data.toList.map fun b => (b.toNat : Int)) → w.heap.size < w'.heap.size → Below B w0 w' → wpList Tryd.prog ops Q rest (a.put o.dst (.slice (some ⟨w.heap.size, 0, none⟩) s.size cap)) w') :
    wpList Tryd.prog ops Q (o :: rest) a w := by
  refine wpList_plain hgd fun K hK' => ?_
  have hrun := run_bytes_of_string (P := Tryd.prog) w 9 32 5 s Tryd.underlying9 Tryd.underlying32 Tryd.underlying5
  unfold Oper.wp
  simp only [execOp, ho, hx, hrun, Sem.run_bind, Sem.run_pure, Result.andThen]
  refine hK' _ _ (h _ _ ?_ ?_ (hb.drew.alloc hB _))
  · intro j hj
    have hj' : j < s.data.size := by simpa using hj
    refine ⟨?_, ?_⟩
    · have := World.cell?_alloc_mark w.drew (bytesRow s (grownCap w s.size 0 5)) 5 ((bytesRow s (grownCap w s.size 0 5)).size, (bytesRow s (grownCap w s.size 0 5)).size + 1) j
      have h2 := bytesRow_at s (grownCap w s.size 0 5) j hj'
      rw [h2] at this
      refine this.trans ?_
      rw [List.getD_eq_getElem?_getD, List.getElem?_map, Array.getElem?_toList, Array.getElem?_eq_getElem hj']; rfl
    · have := World.frozen?_alloc_mark w.drew (bytesRow s (grownCap w s.size 0 5)) 5 (bytesRow s (grownCap w s.size 0 5)).size ((bytesRow s (grownCap w s.size 0 5)).size + 1) j
      refine this.trans ?_
      have hsz : j < (bytesRow s (grownCap w s.size 0 5)).size := by
        unfold bytesRow; rw [Array.size_append, Array.size_map]; omega
      simp; omega
  · show w.heap.size < (w.heap.push _).size
    simp
end Go.Proofs.YtnobgapdidpafaaDoor
