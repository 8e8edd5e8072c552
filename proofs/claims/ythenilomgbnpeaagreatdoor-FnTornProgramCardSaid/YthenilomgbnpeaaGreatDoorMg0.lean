/- The proof's own lemmas, part 1: Tab Words Arg Bytes Data. -/
import Derived.WalkKit
import Derived.Below
import Derived.Lib.LaidTab
import Derived.Laws.OwnMore
import Derived.Laws.Rows
import Derived.Laws.Tables
import Derived.Test.YthenilomgbnpeaaGreatDoorProg
import Derived.ProofKit
import Derived.Lib.Hide
import Derived.Deep.RegionLaw
/- A package-level table: its cells, in this world and in later ones. -/
namespace Go.Proofs.YthenilomgbnpeaaGreatDoor
open Go.RowKit

/-- Block g holds the integers L of kind k. -/
def Tab (w : World) (g : Nat) (k : IntKind) (L : List Int) : Prop := (∀ j, j < L.length → w.cell? ⟨g, j, none⟩ = some (.int k (L.getD j 0))) ∧ g < w.heap.size
theorem Tab.below {w w' : World} {g B : Nat} {k : IntKind} {L : List Int} (h : Tab w g k L) (hb : Below B w w') (hB : w.heap.size ≤ B) : Tab w' g k L :=
  ⟨fun j hj => (hb.cell (p := ⟨g, j, none⟩) (Nat.lt_of_lt_of_le h.2 hB)).trans (h.1 j hj), by have := hb.size; have := h.2; omega⟩
theorem var_lt {P : Program} {W : World} {name : String} {g : Nat} {cs : Array Value} (hg : P.globalNamed name = some g) (h : W.var? P name = some cs) : g < W.heap.size := by
  unfold World.var? at h
  rw [hg] at h
  rcases Nat.lt_or_ge g W.heap.size with hlt | hge
  · exact hlt
  · simp only [Option.bind_some] at h
    rw [Array.getElem?_eq_none hge] at h; cases h
theorem var_below {P : Program} {W W' : World} {B : Nat} {name : String} {g : Nat} {cs : Array Value} (hg : P.globalNamed name = some g) (h : W.var? P name = some cs) (hb : Below B W W') (hlt : g < B) : W'.var? P name = some cs := by
  unfold World.var? at h ⊢
  rw [hg] at h ⊢
  simp only [Option.bind_some] at h ⊢
  rw [hb.block g hlt]
  exact h
end Go.Proofs.YthenilomgbnpeaaGreatDoor
/- Small words that every text of this seat uses: equal endings; a byte of a string. -/
namespace Go.Proofs.YthenilomgbnpeaaGreatDoor
open Go.RowKit
theorem ret_int {k : IntKind} {a b : Int} (h : a = b) : Ending.returned (.int k a) = .returned (.int k b) := by rw [h]
theorem ret_bool {a b : Bool} (h : a = b) : Ending.returned (.bool a) = .returned (.bool b) := by rw [h]
theorem ret_str {a b : ByteArray} (h : a = b) : Ending.returned (.string a) = .returned (.string b) := by rw [h]

theorem str_same {a b : ByteArray} (h : a = b) : (a.toList == b.toList) = true := by rw [h]; exact beq_self_eq_true _
theorem str_diff {a b : ByteArray} (h : ¬ a = b) : (a.toList == b.toList) = false := by
  rw [beq_eq_false_iff_ne, ByteArray.toList_eq, ByteArray.toList_eq]
  exact fun e => h (ByteArray.ext (Array.toList_inj.1 e))

/-- Byte k of a string, 0 behind its end. -/
def byteAt (s : ByteArray) (k : Nat) : Nat := (s.data.toList.getD k 0).toNat
theorem byteAt_eq {s : ByteArray} {k : Nat} (h : k < s.size) : s[k].toNat = byteAt s k := by
  have h' : k < s.data.toList.length := by simpa using h
  unfold byteAt
  rw [List.getD_eq_getElem?_getD, List.getElem?_eq_getElem h']; rfl
theorem byteAt_le (s : ByteArray) (k : Nat) : byteAt s k ≤ 255 := by
  have := UInt8.toNat_lt (s.data.toList.getD k 0); unfold byteAt; omega

/-- Block g is an array's row: the integers l of kind k, none frozen. -/
def Arr (w : World) (g : Nat) (t : TypeId) (k : IntKind) (l : List Int) : Prop := w.heap[g]? = some (.cells (l.map (Value.int k)).toArray t (0, 0))
section
variable {w w' : World} {g : Nat} {t : TypeId} {k : IntKind} {l : List Int}
theorem Arr.lt (h : Arr w g t k l) : g < w.heap.size := by
  rcases Nat.lt_or_ge g w.heap.size with hlt | hge
  · exact hlt
  · unfold Arr at h; rw [Array.getElem?_eq_none hge] at h; cases h
theorem Arr.cell (h : Arr w g t k l) {j : Nat} (hj : j < l.length) : w.cell? ⟨g, j, none⟩ = some (.int k (l.getD j 0)) := by
  rw [cell_of_row w g j _ t (0, 0) h]
  simp [hj]
theorem Arr.free (h : Arr w g t k l) (j : Nat) : w.frozen? ⟨g, j, none⟩ = false := frozen_of_row w g j _ t h
theorem Arr.new (w : World) (t : TypeId) (k : IntKind) (l : List Int) : Arr (w.alloc (.cells (l.map (Value.int k)).toArray t)) w.heap.size t k l := heap_alloc_new w _
theorem Arr.alloc (h : Arr w g t k l) (o : Obj) : Arr (w.alloc o) g t k l := (Below.heap_alloc w o g h.lt).trans h
theorem Arr.drew (h : Arr w g t k l) : Arr w.drew g t k l := h
theorem Arr.set_ (h : Arr w g t k l) (j : Nat) (u : Int) : Arr (w.setCell ⟨g, j, none⟩ (.int k u)) g t k (l.set j u) := by
  unfold Arr at h ⊢
  rw [heap_setCell_same w g j _ t _ h]
  simp [List.map_set]
theorem Arr.far (h : Arr w g t k l) {p : Addr} (hp : g ≠ p.block) (u : Value) : Arr (w.setCell p u) g t k l := (Below.heap_setCell w p u g hp).trans h
theorem Arr.row (h : Arr w g t k l) (l' : List Int) : Arr (w.setRow g (l'.map (Value.int k)).toArray) g t k l' := setRow_heap w g _ _ t _ h
theorem Arr.farRow (h : Arr w g t k l) {g' : Nat} (hg : g ≠ g') (cs : Array Value) : Arr (w.setRow g' cs) g t k l := by
  unfold Arr at h ⊢
  simp only [World.setRow, Array.getElem?_modify]
  rw [if_neg (fun e => hg e.symm)]
  exact h
theorem Arr.below {B : Nat} (h : Arr w g t k l) (hb : Below B w w') (hg : g < B) : Arr w' g t k l := (hb.block g hg).trans h
theorem below_setRow {B : Nat} {a w : World} (h : Below B a w) {g : Nat} (hg : B ≤ g) (cs : Array Value) : Below B a (w.setRow g cs) := by
  refine ⟨h.os, h.tape, h.output, ?_, fun i hi => ?_⟩
  · rw [size_setRow]; exact h.size
  · simp only [World.setRow, Array.getElem?_modify]
    rw [if_neg (by omega)]
    exact h.block i hi
end
theorem results_row_tmp {P : Program} {fn : Func} {p u : Tmp} {ty : TypeId} (h : fn.results = #[.cell p ty, .tmp u]) (tmps : Array Value) (w : World) (g : Nat) (t : TypeId) (cs : Array Value) (fr : Nat × Nat) (d : TypeDesc)
    (hp : tmps.getD p undef = .pointer (some ⟨g, 0, none⟩)) (hg : w.heap[g]? = some (.cells cs t fr))
    (hu : P.underlying ty = some d) (hd : (match d with | .struct _ | .array _ _ => true | _ => false) = true) (hi : (P.info? ty).map (·.size) = some cs.size) :
    (results fn tmps).run P w = .ok (.tuple #[.agg cs, tmps.getD u undef]) w := by
  rw [results_cell_tmp h, hp]
  simp [asAddr, run_loadVar_row w g t ty cs fr d hg hu hd hi]
end Go.Proofs.YthenilomgbnpeaaGreatDoor
/- The arguments' bytes as they come in; the laws' helpers b10Long and b10At. -/
namespace Go.Proofs.YthenilomgbnpeaaGreatDoor
open Go.RowKit

/-- The bytes that a source reads lie below block B and are bytes. -/
def CodeIs (w : World) (B : Nat) (v : Value) : Prop := ∃ (A : Option Addr) (len cap : Nat), v = .slice A len cap ∧ len ≤ 1048576 ∧ (0 < len → ∃ b off, A = some ⟨b, off, none⟩ ∧ b < B ∧ ∀ i, i < len → ∃ x : Int, w.cell? ⟨b, off + i, none⟩ = some (.int .u8 x) ∧ 0 ≤ x ∧ x ≤ 255)
theorem CodeIs.keep {w w' : World} {B : Nat} {v : Value} (h : CodeIs w B v) (hk : ∀ b, b < B → w'.heap[b]? = w.heap[b]?) : CodeIs w' B v := by
  obtain ⟨A, len, cap, rfl, hl, hc⟩ := h
  refine ⟨A, len, cap, rfl, hl, fun h0 => ?_⟩
  obtain ⟨b, off, rfl, hb, hx⟩ := hc h0
  refine ⟨b, off, rfl, hb, fun i hi => ?_⟩
  obtain ⟨x, h1, h2⟩ := hx i hi
  exact ⟨x, (World.cell?_of_block (w := w) (hk b hb)).trans h1, h2⟩

/-- What is known of a slice of integers that came in: it is nil, or leads to a row of 'cap' cells with the numbers zs, each of its kind. -/
def IsRow (k : IntKind) (w : World) (a : Option Addr) (len cap : Nat) (zs : List Int) : Prop :=
  (a = none ∧ len = 0 ∧ cap = 0 ∧ zs = []) ∨
  ∃ x, a = some x ∧ len ≤ cap ∧ cap ≤ maxLen ∧ zs.length = cap ∧ (∀ i, i < zs.length → w.cell? (x.add i) = some (.int k (zs.getD i 0))) ∧ ∀ n ∈ zs, (Lit.int k n).wf = true
theorem bounds_u8 {n : Int} (h : (Lit.int .u8 n).wf = true) : 0 ≤ n ∧ n ≤ 255 := by
  simp [Lit.wf] at h
  have h1 : IntKind.u8.min = 0 := by decide
  have h2 : IntKind.u8.max = 255 := by decide
  omega
theorem IsRow.len {k : IntKind} {w : World} {a : Option Addr} {len cap : Nat} {zs : List Int} (h : IsRow k w a len cap zs) : len ≤ 9223372036854775807 := by
  rcases h with ⟨_, h, _⟩ | ⟨x, _, h1, h2, _⟩
  · omega
  · unfold maxLen at h2; omega
theorem IsRow.code {w : World} {a : Option Addr} {len cap : Nat} {zs : List Int} (h : IsRow .u8 w a len cap zs) (hl : len ≤ 1048576) : CodeIs w w.heap.size (.slice a len cap) := by
  refine ⟨a, len, cap, rfl, hl, fun h0 => ?_⟩
  rcases h with ⟨_, h, _⟩ | ⟨x, rfl, h1, h2, h3, hc, hw⟩
  · omega
  · obtain ⟨b, off, spot⟩ := x
    have h00 := hc 0 (by omega)
    have hspot : spot = none := by simpa [Addr.add] using World.cell?_spot h00
    subst hspot
    refine ⟨b, off, rfl, ?_, fun i hi => ?_⟩
    · exact World.block_lt_of_cell? w ⟨b, off, none⟩ (by simpa [Addr.add] using h00)
    · have hi2 : i < zs.length := by omega
      have := hc i hi2
      have e : (⟨b, off, none⟩ : Addr).add i = ⟨b, off + i, none⟩ := by unfold Addr.add; split <;> simp_all
      rw [e] at this
      refine ⟨_, this, ?_⟩
      rw [List.getD_eq_getElem?_getD, List.getElem?_eq_getElem hi2]
      exact bounds_u8 (hw _ (List.getElem_mem hi2))

theorem long_no (a0 a1 : Option Addr) (len0 cap0 len1 cap1 : Nat) (w : World) (h0 : len0 ≤ 1048576) (h1 : len1 ≤ 1048576) :
    Calls Tryz.prog 4 #[.slice a0 len0 cap0, .slice a1 len1 cap1] w fun e w' => e = .returned (.bool false) ∧ w = w' := by
  have hd : decide (1048576 < (len0 : Int)) = false := by simp; omega
  have hd1 : decide (1048576 < (len1 : Int)) = false := by simp; omega
  go_enter Tryz.func4, Tryz.ntmps4
  go_wp2
  go_ret
  exact ⟨ret_bool (by first | rfl | simp | (simp; omega)), rfl⟩
theorem long_yes (a0 a1 : Option Addr) (len0 cap0 len1 cap1 : Nat) (w : World) (b0 : len0 ≤ 9223372036854775807) (b1 : len1 ≤ 9223372036854775807) (h : ¬ (len0 ≤ 1048576 ∧ len1 ≤ 1048576)) :
    Calls Tryz.prog 4 #[.slice a0 len0 cap0, .slice a1 len1 cap1] w fun e w' => e = .returned (.bool true) ∧ w = w' := by
  by_cases h0 : 1048576 < len0
  · have hd : decide (1048576 < (len0 : Int)) = true := by simp; omega
    clear h
    go_enter Tryz.func4, Tryz.ntmps4
    go_wp2
    go_ret
    exact ⟨ret_bool (by first | rfl | simp | (simp; omega)), rfl⟩
  · have hd : decide (1048576 < (len0 : Int)) = false := by simp; omega
    have hd1 : decide (1048576 < (len1 : Int)) = true := by simp; omega
    clear h
    go_enter Tryz.func4, Tryz.ntmps4
    go_wp2
    go_ret
    exact ⟨ret_bool (by first | rfl | simp | (simp; omega)), rfl⟩

def AtPost (n : Int) (W : World) (e : Ending) (w' : World) : Prop := ∃ x : Int, e = .returned (.int .i64 x) ∧ 0 ≤ x ∧ x ≤ n - 1 ∧ W = w'
theorem b10At_any (B : Nat) (v : Value) (i : Nat) (n : Int) (w : World) (h : CodeIs w B v) (hi : i ≤ 100000000) (hn : 2 ≤ n) (hn2 : n ≤ 1000000000000) :
    Calls Tryz.prog 7 #[v, .int .i64 i, .int .i64 n] w (AtPost n w) := by
  have HF : Hid (∀ x : Int, 0 ≤ x % n ∧ x % n ≤ n - 1) := Lib.hid (fun x => ⟨Int.emod_nonneg x (by omega), by have := Int.emod_lt_of_pos x (show 0 < n by omega); omega⟩)
  obtain ⟨A, len, cap, rfl, hl, hc⟩ := h
  by_cases hlt : i < len
  · obtain ⟨b, off, rfl, _, hx⟩ := hc (by omega)
    obtain ⟨x, hcell, hx0, hx1⟩ := hx i hlt
    have hI : (i : Int) < (len : Int) := by omega
    clear hc hx
    go_enter Tryz.func7, Tryz.ntmps7
    go_wp2
    go_ret
    exact ⟨_, rfl, (HF.out x).1, (HF.out x).2, rfl⟩
  · have hI : ¬ (i : Int) < (len : Int) := by omega
    clear hc
    go_enter Tryz.func7, Tryz.ntmps7
    go_wp2
    go_ret
    exact ⟨_, rfl, (HF.out _).1, (HF.out _).2, rfl⟩
end Go.Proofs.YthenilomgbnpeaaGreatDoor
/- A slice of bytes that the call itself makes, grows by append and turns into a string. -/
namespace Go.Proofs.YthenilomgbnpeaaGreatDoor
open Go.RowKit

/-- The value v is a slice of the call's own (in a block from B on) that holds the bytes l. -/
def BytesOwn (w : World) (B : Nat) (v : Value) (l : List Int) : Prop := w.ownsRow B 5 1 v l.length (l.map (Value.int .u8))

theorem info8 : (Tryz.prog.info? 5).map (fun i => (i.zero, i.size, i.bytes)) = some (some (.int .u8 0), 1, 1) := by kernel_rfl

theorem BytesOwn.made (w : World) {B : Nat} (h : B ≤ w.heap.size) : BytesOwn (w.alloc (.cells #[] 5)) B (.slice (some ⟨w.heap.size, 0, none⟩) 0 0) [] :=
  World.ownsRow_made w #[] 0 h (by unfold maxLen; omega) rfl
theorem BytesOwn.nil (w : World) (B : Nat) : BytesOwn w B (.slice none 0 0) [] := World.ownsRow_nil w B _ 1
theorem BytesOwn.alloc {w : World} {B : Nat} {v : Value} {l : List Int} (h : BytesOwn w B v l) (o : Obj) : BytesOwn (w.alloc o) B v l := World.ownsRow.alloc h o
theorem BytesOwn.drew {w : World} {B : Nat} {v : Value} {l : List Int} (h : BytesOwn w B v l) : BytesOwn w.drew B v l := h
theorem BytesOwn.shape {w : World} {B : Nat} {v : Value} {l : List Int} (h : BytesOwn w B v l) :
    (v = .slice none 0 0 ∧ l = []) ∨ ∃ g cap, v = .slice (some ⟨g, 0, none⟩) l.length cap ∧ B ≤ g := by
  rcases h.2 with ⟨h1, h2⟩ | ⟨g, cap, cur, h1, h2, _⟩
  · exact .inl ⟨h1, List.eq_nil_of_length_eq_zero h2⟩
  · exact .inr ⟨g, cap, h1, h2⟩

theorem wpList_append_byte {Q : Exit → Act → World → Prop} {ops : Array Oper} {rest : List Oper} {o : Oper} {a : Act} {w0 wr : World} {B : Nat} (hgd : o.guard = none) (s x : Operand)
    (ho : o.op = .call { callee := .builtin .append, args := #[s, x], argTypes := #[22, 22] })
    (v : Value) (l : List Int) (hs : a.eval s = v) (hown : BytesOwn wr B v l) (hb : Below B w0 wr) (hB : B ≤ wr.heap.size)
    (b : Int) (c : Nat) (hx : a.eval x = .slice (some ⟨wr.heap.size, 0, none⟩) 1 c) (hl : l.length + 1 ≤ 140737488355328)
    (h : ∀ v' w', BytesOwn w' B v' (l ++ [b]) → Below B w0 w' → wpList Tryz.prog ops Q rest (a.put o.dst v') w') :
    wpList Tryz.prog ops Q (o :: rest) a (wr.alloc (.cells #[.int .u8 b] 5)) := by
  obtain ⟨i0, hi, hz0, hz1, hz2⟩ := info_parts info8
  refine wpList_append_own _ hgd s x _ ho B 5 i0 (.int .u8 0) 1 1 Tryz.underlying22 hi hz0 hz1 hz2 rfl (by decide) v l.length (l.map (Value.int .u8)) hs (World.ownsRow.alloc hown _) ⟨wr.heap.size, 0, none⟩ 1 c [.int .u8 b] hx rfl ?_ ?_ (by unfold maxLen; omega) (by omega) (by simp; omega) ?_
  · intro j u hj
    match j, hj with
    | 0, hj => simp at hj; subst hj; simp [Addr.add]
  · intro u hu; simp at hu; subst hu; rfl
  · intro v' w' h1 h2 _
    refine h v' w' ?_ ?_
    · unfold BytesOwn; simpa using h1
    · exact (hb.alloc hB _).grown h2 (by simp; omega) fun k hk => (World.ownsRow.lt hown k hk).1

/-- The same law inside a region that draws its order. -/
theorem step_append_byte {Q : Exit → Act → World → Prop} {K : Act → World → Prop} {E : Prop} {ops : Array Oper} {o : Oper} {a : Act} {w0 w : World} {B : Nat} (hgd : o.guard = none) (s x : Operand)
    (ho : o.op = .call { callee := .builtin .append, args := #[s, x], argTypes := #[22, 22] })
    (v : Value) (l : List Int) (hs : a.eval s = v) (hown : BytesOwn w B v l) (hb : Below B w0 w) (hB : B ≤ w.heap.size)
    (g c : Nat) (b : Int) (hx : a.eval x = .slice (some ⟨g, 0, none⟩) 1 c) (hcell : w.cell? ⟨g, 0, none⟩ = some (.int .u8 b)) (hl : l.length + 1 ≤ 140737488355328)
    (h : ∀ v' w', BytesOwn w' B v' (l ++ [b]) → Below B w0 w' → K (a.put o.dst v') w') :
    if Region.wanted o (yielded ops a.tmps) = true then Oper.wp Tryz.prog o a w K Q else E := by
  have hw : Region.wanted o (yielded ops a.tmps) = true := by simp [Region.wanted, hgd]
  rw [if_pos hw]
  obtain ⟨i0, hi, hz0, hz1, hz2⟩ := info_parts info8
  refine wp_append_own w s x _ ho B 5 i0 (.int .u8 0) 1 1 Tryz.underlying22 hi hz0 hz1 hz2 rfl (by decide) v l.length (l.map (Value.int .u8)) hs hown ⟨g, 0, none⟩ 1 c [.int .u8 b] hx rfl ?_ ?_ (by unfold maxLen; omega) (by omega) hB ?_
  · intro j u hj
    match j, hj with
    | 0, hj => simp at hj; subst hj; simpa [Addr.add] using hcell
  · intro u hu; simp at hu; subst hu; rfl
  · intro v' w' h1 h2 _
    refine h v' w' ?_ (hb.grown h2 hB fun k hk => (World.ownsRow.lt hown k hk).1)
    unfold BytesOwn; simpa using h1

theorem bytes_str {w : World} {B : Nat} {v : Value} {l : List Int} (h : BytesOwn w B v l) :
    (Go.convert 22 9 v).run Tryz.prog w = .ok (.string (strOfNums l)) w := by
  rcases h.shape with ⟨rfl, rfl⟩ | ⟨g, cap, rfl, _⟩
  · exact run_convert_bytes_nil w _ _ Tryz.underlying22 Tryz.underlying5 0 0 _ Tryz.underlying9
  · refine run_convert_bytes_arg w _ _ Tryz.underlying22 Tryz.underlying5 g 0 l.length cap l rfl (fun i hi => ?_) _ Tryz.underlying9
    have := World.ownsRow.cellAt h i (by omega)
    rw [Nat.zero_add, this]
    simp [hi]

theorem wpList_make_bytes {Q : Exit → Act → World → Prop} {ops : Array Oper} {rest : List Oper} {o : Oper} {a : Act} {w0 w : World} {B : Nat} (hgd : o.guard = none) (l c : Operand)
    (ho : o.op = Op.makeSlice 22 l c) (kl kc : IntKind) (L C : Int) (n : Nat) (hl : a.eval l = .int kl L) (hc : a.eval c = .int kc C) (hL : L = (n : Int)) (hC : C = (n : Int)) (hn : n ≤ 140737488355328)
    (hb : Below B w0 w) (hB : B ≤ w.heap.size)
    (h : ∀ w', BytesOwn w' B (.slice (some ⟨w.heap.size, 0, none⟩) n n) (List.replicate n 0) → Below B w0 w' → wpList Tryz.prog ops Q rest (a.put o.dst (.slice (some ⟨w.heap.size, 0, none⟩) n n)) w') :
    wpList Tryz.prog ops Q (o :: rest) a w := by
  obtain ⟨i0, hi, hz0, hz1, hz2⟩ := info_parts info8
  refine wpList_make_full w hgd l c _ ho B 5 i0 (.int .u8 0) 1 Tryz.underlying22 hi hz0 hz1 kl kc L C n hl hc hL hC (by rw [hz2]; omega) (by unfold maxLen; omega) hB ?_
  intro w' h1 h2
  refine h w' ?_ (hb.grown h2 hB fun k hk => by simp at hk)
  have e : (madeCells (Value.int .u8 0).cells (n * 1)).toList = (List.replicate n (0 : Int)).map (Value.int .u8) := by
    show (madeCells #[Value.int .u8 0] (n * 1)).toList = _
    rw [toList_madeCells_one]; simp
  rw [e] at h1
  unfold BytesOwn; simpa using h1

theorem BytesOwn.cell {w : World} {B g n cap : Nat} {l : List Int} (h : BytesOwn w B (.slice (some ⟨g, 0, none⟩) n cap) l) {j : Nat} (hn : l.length = n) (hj : j < n) : w.cell? ⟨g, j, none⟩ = some (.int .u8 (l.getD j 0)) := by
  unfold BytesOwn at h
  rw [hn] at h
  rw [World.ownsRow.cellAt h j (by omega)]
  simp [show j < l.length by omega]
theorem BytesOwn.free {w : World} {B g n cap : Nat} {l : List Int} (h : BytesOwn w B (.slice (some ⟨g, 0, none⟩) n cap) l) (hn : l.length = n) (j : Nat) : w.frozen? ⟨g, j, none⟩ = false := by
  unfold BytesOwn at h
  rw [hn] at h
  exact World.ownsRow.frozenAt h j
theorem BytesOwn.base {w : World} {B g n cap : Nat} {l : List Int} (h : BytesOwn w B (.slice (some ⟨g, 0, none⟩) n cap) l) : B ≤ g := by
  rcases h.shape with ⟨h1, _⟩ | ⟨g', cap', h1, h2⟩
  · simp at h1
  · simp at h1; omega
theorem BytesOwn.stored {w : World} {B g n cap : Nat} {l : List Int} (h : BytesOwn w B (.slice (some ⟨g, 0, none⟩) n cap) l) (hn : l.length = n) (j : Nat) (b : Int) :
    BytesOwn (w.setCell ⟨g, j, none⟩ (.int .u8 b)) B (.slice (some ⟨g, 0, none⟩) n cap) (l.set j b) := by
  unfold BytesOwn at h ⊢
  rw [hn] at h
  have := (World.ownsRow.stored h j (.int .u8 b)).1
  rw [List.length_set, hn, List.map_set]
  exact this
theorem arr_str {w : World} {g : Nat} {t : TypeId} {l : List Int} (h : Arr w g t .u8 l) (n cap : Nat) (hn : n ≤ l.length) :
    (Go.convert 22 9 (.slice (some ⟨g, 0, none⟩) n cap)).run Tryz.prog w = .ok (.string (strOfNums (l.take n))) w := by
  refine run_convert_bytes_arg w _ _ Tryz.underlying22 Tryz.underlying5 g 0 n cap (l.take n) (by simp; omega) (fun i hi => ?_) _ Tryz.underlying9
  rw [Nat.zero_add, h.cell (by omega)]
  simp [hi]
/-- Block g starts with the bytes l, none of them frozen. -/
def BytesAt (w : World) (g : Nat) (l : List Int) : Prop := ∀ j, j < l.length → w.cell? ⟨g, j, none⟩ = some (.int .u8 (l.getD j 0)) ∧ w.frozen? ⟨g, j, none⟩ = false
theorem BytesAt.drew {w : World} {g : Nat} {l : List Int} (h : BytesAt w g l) : BytesAt w.drew g l := h
theorem BytesAt.set_ {w : World} {g : Nat} {l : List Int} (h : BytesAt w g l) {k : Nat} (hk : k < l.length) (x : Int) : BytesAt (w.setCell ⟨g, k, none⟩ (.int .u8 x)) g (l.set k x) := by
  intro j hj
  rw [List.length_set] at hj
  refine ⟨?_, by rw [World.frozen?_setCell]; exact (h j hj).2⟩
  by_cases e : k = j
  · subst e
    rw [World.cell?_setCell_same w _ _ (h k hk).1]
    simp [hk]
  · rw [World.cell?_setCell_other w _ _ _ (fun h => e (congrArg Addr.off h)), (h j hj).1]
    simp [List.getElem?_set_ne e]
theorem BytesAt.below {w w' : World} {g B : Nat} {l : List Int} (h : BytesAt w g l) (hb : Below B w w') (hg : g < B) : BytesAt w' g l := fun j hj =>
  ⟨(hb.cell (p := ⟨g, j, none⟩) hg).trans (h j hj).1, (hb.frozen (p := ⟨g, j, none⟩) hg).trans (h j hj).2⟩
theorem BytesAt.str {w : World} {g cap : Nat} {l : List Int} (h : BytesAt w g l) :
    (Go.convert 22 9 (.slice (some ⟨g, 0, none⟩) l.length cap)).run Tryz.prog w = .ok (.string (strOfNums l)) w := by
  refine run_convert_bytes_arg w _ _ Tryz.underlying22 Tryz.underlying5 g 0 l.length cap l rfl (fun i hi => ?_) _ Tryz.underlying9
  rw [Nat.zero_add]; exact (h i hi).1

/-- A text turned into bytes. -/
theorem wpList_str_bytes {Q : Exit → Act → World → Prop} {ops : Array Oper} {rest : List Oper} {o : Oper} {a : Act} {w0 w : World} {B : Nat} (hgd : o.guard = none) (x : Operand)
    (ho : o.op = .convert 9 22 x) (s : ByteArray) (hx : a.eval x = .string s) (hb : Below B w0 w) (hB : B ≤ w.heap.size)
    (h : ∀ cap w', BytesAt w' w.heap.size (s.data.toList.map fun b => (b.toNat : Int)) → w.heap.size < w'.heap.size → Below B w0 w' → wpList Tryz.prog ops Q rest (a.put o.dst (.slice (some ⟨w.heap.size, 0, none⟩) s.size cap)) w') :
    wpList Tryz.prog ops Q (o :: rest) a w := by
  refine wpList_plain hgd fun K hK' => ?_
  have hrun := run_bytes_of_string (P := Tryz.prog) w 9 22 5 s Tryz.underlying9 Tryz.underlying22 Tryz.underlying5
  unfold Oper.wp
  simp only [execOp, ho, hx, hrun, Sem.run_bind, Sem.run_pure, Result.andThen]
  refine hK' _ _ (h _ _ ?_ ?_ (hb.drew.alloc hB _))
  · intro j hj
    have hj' : j < s.data.size := by simpa using hj
    refine ⟨?_, ?_⟩
    · have := World.cell?_alloc_mark w.drew (bytesRow s (grownCap w s.size 0 5)) 5 ((bytesRow s (grownCap w s.size 0 5)).size, (bytesRow s (grownCap w s.size 0 5)).size + 1) j
      have h2 := bytesRow_at s (grownCap w s.size 0 5) j hj'
      rw [h2] at this
      refine this.trans ?_
      rw [List.getD_eq_getElem?_getD, List.getElem?_map, Array.getElem?_toList, Array.getElem?_eq_getElem hj']; rfl
    · have := World.frozen?_alloc_mark w.drew (bytesRow s (grownCap w s.size 0 5)) 5 (bytesRow s (grownCap w s.size 0 5)).size ((bytesRow s (grownCap w s.size 0 5)).size + 1) j
      refine this.trans ?_
      have hsz : j < (bytesRow s (grownCap w s.size 0 5)).size := by
        unfold bytesRow; rw [Array.size_append, Array.size_map]; omega
      simp; omega
  · show w.heap.size < (w.heap.push _).size
    simp
end Go.Proofs.YthenilomgbnpeaaGreatDoor
/- The laws' helper b10Data: a text of n bytes. -/
namespace Go.Proofs.YthenilomgbnpeaaGreatDoor
open Go.RowKit

theorem CodeIs.wide {w : World} {B B' : Nat} {v : Value} (h : CodeIs w B v) (hB : B ≤ B') : CodeIs w B' v := by
  obtain ⟨A, len, cap, rfl, hl, hh⟩ := h
  refine ⟨A, len, cap, rfl, hl, fun hp => ?_⟩
  obtain ⟨b, off, hA, hb, hc⟩ := hh hp
  exact ⟨b, off, hA, by omega, hc⟩
theorem b10At_sum (B : Nat) (v : Value) (i k : Nat) (n : Int) (w : World) (h : CodeIs w B v) (hi : i + k ≤ 100000000) (hn : 2 ≤ n) (hn2 : n ≤ 1000000000000) :
    Calls Tryz.prog 7 #[v, .int .i64 ((i : Int) + (k : Int)), .int .i64 n] w (AtPost n w) := by
  have := b10At_any B v (i + k) n w h hi hn hn2
  rw [Int.natCast_add] at this
  exact this
def DataPost (n : Nat) (w : World) (e : Ending) (w' : World) : Prop := ∃ s : ByteArray, e = .returned (.string s) ∧ s.size = n ∧ Below w.heap.size w w'
set_option maxRecDepth 100000 in
theorem b10Data_any (B : Nat) (v : Value) (i n : Nat) (w : World) (h : CodeIs w B v) (hB : B ≤ w.heap.size) (hi : i ≤ 1000000) (hn : n ≤ 100000) :
    Calls Tryz.prog 9 #[v, .int .i64 i, .int .i64 n] w (DataPost n w) := by
  have HC := Lib.hid h
  have hii : (i : Int) ≤ 1000000 := by omega
  obtain ⟨A, len, cap, rfl, _⟩ := h
  obtain ⟨v, hv⟩ : ∃ v, v = Value.slice A len cap := ⟨_, rfl⟩
  rw [← hv] at HC ⊢
  clear hv
  go_enter Tryz.func9, Tryz.ntmps9
  go_wp2
  go_loopw [7, 8] (fun u j wr => ∃ (k : Nat) (l : List Int), k ≤ n ∧ j = .int .i64 k ∧ l.length = k ∧ BytesOwn wr w.heap.size u l ∧ Below w.heap.size w wr) (fun _ j _ => n - (intOf j).toNat)
  case atStart => exact ⟨0, [], by omega, rfl, rfl, BytesOwn.made _ (Nat.le_refl _), (Below.refl _ _).alloc (Nat.le_refl _) _⟩
  case round =>
    obtain ⟨k, l, hk, rfl, hl, hown, hb⟩ := hrel
    have hz := hb.size
    by_cases hlt : k < n
    · have hc := HC.out.keep (w' := wr) (fun b hbl => hb.block b (by omega))
      have hkn : (k : Int) < (n : Int) := by omega
      have hkm : (k : Int) ≤ 100000 := by omega
      go_wp2_with (first
        | (go_at_call 7; refine (b10At_sum B _ i k 256 _ hc (by omega) (by omega) (by omega)).mono ?_; rintro e w' ⟨x, rfl, hx0, hx1, rfl⟩)
        | (at_builtin; refine wpList_append_byte rfl _ _ rfl _ l rfl hown hb hz _ _ rfl (by omega) ?_; intro v' w1 hown' hb'; clear hown hb))
      go_roundw
      case rel => exact ⟨k + 1, _, by omega, by go_num, by simp [hl], hown', hb'⟩
      case measure => simp [intOf]; omega
    · obtain rfl : k = n := by omega
      have hcv := bytes_str hown
      have hs := strOfNums_size l
      have HS := Lib.hid hs
      have HL := Lib.hid hl
      clear hs hl
      go_wp2
      go_ret
      exact ⟨_, rfl, by rw [HS.out, HL.out], hb⟩
end Go.Proofs.YthenilomgbnpeaaGreatDoor
