/- The proof's own lemmas, part 1: Fin Words Arg Bytes Data Src Pick Draw2 Bits UvN Uv Draw1 FlN Rw Geo Pg Lfsr KeyN Key Xor Scr EncN CodN Fixed FixN WordN. -/
import Derived.Test.YteigdjocjcjkiaaRows
import Derived.ProofKit
import Derived.WalkKit
import Derived.Laws.OwnMore
import Derived.Laws.Rows
import Derived.Laws.Tables
import Derived.Test.YteigdjocjcjkiaaProg
import Derived.Lib.Hide
import Derived.Deep.RegionLaw
import Derived.Deep.QuietTactic
import Derived.BigQuiet
import Derived.Deep.RegionHeld3
import Derived.Test.YteigdjocjcjkiaaShelfR
import Derived.Deep.DeepMust
import Derived.StillTailTactics
/- What the rows ask of the program alone, once for all laws of this translation. -/
namespace Go.Proofs.Yteigdjocjcjkiaa
theorem finMay : Try.pinned.checked.prog.mayEnter = true := by kernel_rfl
theorem finLift : Try.pinned.checked.prog.liftsFinal = false := by kernel_rfl
theorem finMake : Try.pinned.checked.prog.make = some .cut := by kernel_rfl
theorem finHeard : Try.pinned.checked.prog.stopsHeard = true := by kernel_rfl
theorem finLaid : laidOutB Try.pinned.checked.prog = true := by kernel_rfl
theorem finMaps : mapsRowed Try.pinned.checked.prog = true := by kernel_rfl
end Go.Proofs.Yteigdjocjcjkiaa
/- Small words that every text of this seat uses: equal endings; a byte of a string. -/
namespace Go.Proofs.Yteigdjocjcjkiaa
open Go.RowKit
theorem ret_int {k : IntKind} {a b : Int} (h : a = b) : Ending.returned (.int k a) = .returned (.int k b) := by rw [h]
theorem ret_bool {a b : Bool} (h : a = b) : Ending.returned (.bool a) = .returned (.bool b) := by rw [h]
theorem ret_str {a b : ByteArray} (h : a = b) : Ending.returned (.string a) = .returned (.string b) := by rw [h]

theorem str_same {a b : ByteArray} (h : a = b) : (a.toList == b.toList) = true := by rw [h]; exact beq_self_eq_true _
theorem str_diff {a b : ByteArray} (h : ¬ a = b) : (a.toList == b.toList) = false := by
  rw [beq_eq_false_iff_ne, ByteArray.toList_eq, ByteArray.toList_eq]
  exact fun e => h (ByteArray.ext (Array.toList_inj.1 e))

/-- Byte k of a string, 0 behind its end. -/
def byteAt (s : ByteArray) (k : Nat) : Nat := (s.data.toList.getD k 0).toNat
theorem byteAt_eq {s : ByteArray} {k : Nat} (h : k < s.size) : s[k].toNat = byteAt s k := by
  have h' : k < s.data.toList.length := by simpa using h
  unfold byteAt
  rw [List.getD_eq_getElem?_getD, List.getElem?_eq_getElem h']; rfl
theorem byteAt_le (s : ByteArray) (k : Nat) : byteAt s k ≤ 255 := by
  have := UInt8.toNat_lt (s.data.toList.getD k 0); unfold byteAt; omega

/-- Block g is an array's row: the integers l of kind k, none frozen. -/
def Arr (w : World) (g : Nat) (t : TypeId) (k : IntKind) (l : List Int) : Prop := w.heap[g]? = some (.cells (l.map (Value.int k)).toArray t (0, 0))
section
variable {w w' : World} {g : Nat} {t : TypeId} {k : IntKind} {l : List Int}
theorem Arr.lt (h : Arr w g t k l) : g < w.heap.size := by
  rcases Nat.lt_or_ge g w.heap.size with hlt | hge
  · exact hlt
  · unfold Arr at h; rw [Array.getElem?_eq_none hge] at h; cases h
theorem Arr.cell (h : Arr w g t k l) {j : Nat} (hj : j < l.length) : w.cell? ⟨g, j, none⟩ = some (.int k (l.getD j 0)) := by
  rw [cell_of_row w g j _ t (0, 0) h]
  simp [hj]
theorem Arr.free (h : Arr w g t k l) (j : Nat) : w.frozen? ⟨g, j, none⟩ = false := frozen_of_row w g j _ t h
theorem Arr.new (w : World) (t : TypeId) (k : IntKind) (l : List Int) : Arr (w.alloc (.cells (l.map (Value.int k)).toArray t)) w.heap.size t k l := heap_alloc_new w _
theorem Arr.alloc (h : Arr w g t k l) (o : Obj) : Arr (w.alloc o) g t k l := (Below.heap_alloc w o g h.lt).trans h
theorem Arr.drew (h : Arr w g t k l) : Arr w.drew g t k l := h
theorem Arr.set_ (h : Arr w g t k l) (j : Nat) (u : Int) : Arr (w.setCell ⟨g, j, none⟩ (.int k u)) g t k (l.set j u) := by
  unfold Arr at h ⊢
  rw [heap_setCell_same w g j _ t _ h]
  simp [List.map_set]
theorem Arr.far (h : Arr w g t k l) {p : Addr} (hp : g ≠ p.block) (u : Value) : Arr (w.setCell p u) g t k l := (Below.heap_setCell w p u g hp).trans h
theorem Arr.row (h : Arr w g t k l) (l' : List Int) : Arr (w.setRow g (l'.map (Value.int k)).toArray) g t k l' := setRow_heap w g _ _ t _ h
theorem Arr.farRow (h : Arr w g t k l) {g' : Nat} (hg : g ≠ g') (cs : Array Value) : Arr (w.setRow g' cs) g t k l := by
  unfold Arr at h ⊢
  simp only [World.setRow, Array.getElem?_modify]
  rw [if_neg (fun e => hg e.symm)]
  exact h
theorem Arr.below {B : Nat} (h : Arr w g t k l) (hb : Below B w w') (hg : g < B) : Arr w' g t k l := (hb.block g hg).trans h
theorem below_setRow {B : Nat} {a w : World} (h : Below B a w) {g : Nat} (hg : B ≤ g) (cs : Array Value) : Below B a (w.setRow g cs) := by
  refine ⟨h.os, h.tape, h.output, ?_, fun i hi => ?_⟩
  · rw [size_setRow]; exact h.size
  · simp only [World.setRow, Array.getElem?_modify]
    rw [if_neg (by omega)]
    exact h.block i hi
end
theorem results_row_tmp {P : Program} {fn : Func} {p u : Tmp} {ty : TypeId} (h : fn.results = #[.cell p ty, .tmp u]) (tmps : Array Value) (w : World) (g : Nat) (t : TypeId) (cs : Array Value) (fr : Nat × Nat) (d : TypeDesc)
    (hp : tmps.getD p undef = .pointer (some ⟨g, 0, none⟩)) (hg : w.heap[g]? = some (.cells cs t fr))
    (hu : P.underlying ty = some d) (hd : (match d with | .struct _ | .array _ _ => true | _ => false) = true) (hi : (P.info? ty).map (·.size) = some cs.size) :
    (results fn tmps).run P w = .ok (.tuple #[.agg cs, tmps.getD u undef]) w := by
  rw [results_cell_tmp h, hp]
  simp [asAddr, run_loadVar_row w g t ty cs fr d hg hu hd hi]
end Go.Proofs.Yteigdjocjcjkiaa
/- The arguments' bytes as they come in; the laws' helpers b10Long and b10At. -/
namespace Go.Proofs.Yteigdjocjcjkiaa
open Go.RowKit

/-- The bytes that a source reads lie below block B and are bytes. -/
def CodeIs (w : World) (B : Nat) (v : Value) : Prop := ∃ (A : Option Addr) (len cap : Nat), v = .slice A len cap ∧ len ≤ 1048576 ∧ (0 < len → ∃ b off, A = some ⟨b, off, none⟩ ∧ b < B ∧ ∀ i, i < len → ∃ x : Int, w.cell? ⟨b, off + i, none⟩ = some (.int .u8 x) ∧ 0 ≤ x ∧ x ≤ 255)
theorem CodeIs.keep {w w' : World} {B : Nat} {v : Value} (h : CodeIs w B v) (hk : ∀ b, b < B → w'.heap[b]? = w.heap[b]?) : CodeIs w' B v := by
  obtain ⟨A, len, cap, rfl, hl, hc⟩ := h
  refine ⟨A, len, cap, rfl, hl, fun h0 => ?_⟩
  obtain ⟨b, off, rfl, hb, hx⟩ := hc h0
  refine ⟨b, off, rfl, hb, fun i hi => ?_⟩
  obtain ⟨x, h1, h2⟩ := hx i hi
  exact ⟨x, (World.cell?_of_block (w := w) (hk b hb)).trans h1, h2⟩

/-- What is known of a slice of integers that came in: it is nil, or leads to a row of 'cap' cells with the numbers zs, each of its kind. -/
def IsRow (k : IntKind) (w : World) (a : Option Addr) (len cap : Nat) (zs : List Int) : Prop :=
  (a = none ∧ len = 0 ∧ cap = 0 ∧ zs = []) ∨
  ∃ x, a = some x ∧ len ≤ cap ∧ cap ≤ maxLen ∧ zs.length = cap ∧ (∀ i, i < zs.length → w.cell? (x.add i) = some (.int k (zs.getD i 0))) ∧ ∀ n ∈ zs, (Lit.int k n).wf = true
theorem bounds_u8 {n : Int} (h : (Lit.int .u8 n).wf = true) : 0 ≤ n ∧ n ≤ 255 := by
  simp [Lit.wf] at h
  have h1 : IntKind.u8.min = 0 := by decide
  have h2 : IntKind.u8.max = 255 := by decide
  omega
theorem IsRow.len {k : IntKind} {w : World} {a : Option Addr} {len cap : Nat} {zs : List Int} (h : IsRow k w a len cap zs) : len ≤ 9223372036854775807 := by
  rcases h with ⟨_, h, _⟩ | ⟨x, _, h1, h2, _⟩
  · omega
  · unfold maxLen at h2; omega
theorem IsRow.code {w : World} {a : Option Addr} {len cap : Nat} {zs : List Int} (h : IsRow .u8 w a len cap zs) (hl : len ≤ 1048576) : CodeIs w w.heap.size (.slice a len cap) := by
  refine ⟨a, len, cap, rfl, hl, fun h0 => ?_⟩
  rcases h with ⟨_, h, _⟩ | ⟨x, rfl, h1, h2, h3, hc, hw⟩
  · omega
  · obtain ⟨b, off, spot⟩ := x
    have h00 := hc 0 (by omega)
    have hspot : spot = none := by simpa [Addr.add] using World.cell?_spot h00
    subst hspot
    refine ⟨b, off, rfl, ?_, fun i hi => ?_⟩
    · exact World.block_lt_of_cell? w ⟨b, off, none⟩ (by simpa [Addr.add] using h00)
    · have hi2 : i < zs.length := by omega
      have := hc i hi2
      have e : (⟨b, off, none⟩ : Addr).add i = ⟨b, off + i, none⟩ := by unfold Addr.add; split <;> simp_all
      rw [e] at this
      refine ⟨_, this, ?_⟩
      rw [List.getD_eq_getElem?_getD, List.getElem?_eq_getElem hi2]
      exact bounds_u8 (hw _ (List.getElem_mem hi2))

theorem long_no (a0 a1 : Option Addr) (len0 cap0 len1 cap1 : Nat) (w : World) (h0 : len0 ≤ 1048576) (h1 : len1 ≤ 1048576) :
    Calls Try.prog 19 #[.slice a0 len0 cap0, .slice a1 len1 cap1] w fun e w' => e = .returned (.bool false) ∧ w = w' := by
  have hd : decide (1048576 < (len0 : Int)) = false := by simp; omega
  have hd1 : decide (1048576 < (len1 : Int)) = false := by simp; omega
  go_enter Try.func19, Try.ntmps19
  go_wp2
  go_ret
  exact ⟨ret_bool (by first | rfl | simp | (simp; omega)), rfl⟩
theorem long_yes (a0 a1 : Option Addr) (len0 cap0 len1 cap1 : Nat) (w : World) (b0 : len0 ≤ 9223372036854775807) (b1 : len1 ≤ 9223372036854775807) (h : ¬ (len0 ≤ 1048576 ∧ len1 ≤ 1048576)) :
    Calls Try.prog 19 #[.slice a0 len0 cap0, .slice a1 len1 cap1] w fun e w' => e = .returned (.bool true) ∧ w = w' := by
  by_cases h0 : 1048576 < len0
  · have hd : decide (1048576 < (len0 : Int)) = true := by simp; omega
    clear h
    go_enter Try.func19, Try.ntmps19
    go_wp2
    go_ret
    exact ⟨ret_bool (by first | rfl | simp | (simp; omega)), rfl⟩
  · have hd : decide (1048576 < (len0 : Int)) = false := by simp; omega
    have hd1 : decide (1048576 < (len1 : Int)) = true := by simp; omega
    clear h
    go_enter Try.func19, Try.ntmps19
    go_wp2
    go_ret
    exact ⟨ret_bool (by first | rfl | simp | (simp; omega)), rfl⟩

def AtPost (n : Int) (W : World) (e : Ending) (w' : World) : Prop := ∃ x : Int, e = .returned (.int .i64 x) ∧ 0 ≤ x ∧ x ≤ n - 1 ∧ W = w'
theorem b10At_any (B : Nat) (v : Value) (i : Nat) (n : Int) (w : World) (h : CodeIs w B v) (hi : i ≤ 100000000) (hn : 2 ≤ n) (hn2 : n ≤ 1000000000000) :
    Calls Try.prog 26 #[v, .int .i64 i, .int .i64 n] w (AtPost n w) := by
  have HF : Hid (∀ x : Int, 0 ≤ x % n ∧ x % n ≤ n - 1) := Lib.hid (fun x => ⟨Int.emod_nonneg x (by omega), by have := Int.emod_lt_of_pos x (show 0 < n by omega); omega⟩)
  obtain ⟨A, len, cap, rfl, hl, hc⟩ := h
  by_cases hlt : i < len
  · obtain ⟨b, off, rfl, _, hx⟩ := hc (by omega)
    obtain ⟨x, hcell, hx0, hx1⟩ := hx i hlt
    have hI : (i : Int) < (len : Int) := by omega
    clear hc hx
    go_enter Try.func26, Try.ntmps26
    go_wp2
    go_ret
    exact ⟨_, rfl, (HF.out x).1, (HF.out x).2, rfl⟩
  · have hI : ¬ (i : Int) < (len : Int) := by omega
    clear hc
    go_enter Try.func26, Try.ntmps26
    go_wp2
    go_ret
    exact ⟨_, rfl, (HF.out _).1, (HF.out _).2, rfl⟩
end Go.Proofs.Yteigdjocjcjkiaa
/- A slice of bytes that the call itself makes, grows by append and turns into a string. -/
namespace Go.Proofs.Yteigdjocjcjkiaa
open Go.RowKit

/-- The value v is a slice of the call's own (in a block from B on) that holds the bytes l. -/
def BytesOwn (w : World) (B : Nat) (v : Value) (l : List Int) : Prop := w.ownsRow B 5 1 v l.length (l.map (Value.int .u8))

theorem info8 : (Try.prog.info? 5).map (fun i => (i.zero, i.size, i.bytes)) = some (some (.int .u8 0), 1, 1) := by kernel_rfl

theorem BytesOwn.made (w : World) {B : Nat} (h : B ≤ w.heap.size) : BytesOwn (w.alloc (.cells #[] 5)) B (.slice (some ⟨w.heap.size, 0, none⟩) 0 0) [] :=
  World.ownsRow_made w #[] 0 h (by unfold maxLen; omega) rfl
theorem BytesOwn.nil (w : World) (B : Nat) : BytesOwn w B (.slice none 0 0) [] := World.ownsRow_nil w B _ 1
theorem BytesOwn.alloc {w : World} {B : Nat} {v : Value} {l : List Int} (h : BytesOwn w B v l) (o : Obj) : BytesOwn (w.alloc o) B v l := World.ownsRow.alloc h o
theorem BytesOwn.drew {w : World} {B : Nat} {v : Value} {l : List Int} (h : BytesOwn w B v l) : BytesOwn w.drew B v l := h
theorem BytesOwn.shape {w : World} {B : Nat} {v : Value} {l : List Int} (h : BytesOwn w B v l) :
    (v = .slice none 0 0 ∧ l = []) ∨ ∃ g cap, v = .slice (some ⟨g, 0, none⟩) l.length cap ∧ B ≤ g := by
  rcases h.2 with ⟨h1, h2⟩ | ⟨g, cap, cur, h1, h2, _⟩
  · exact .inl ⟨h1, List.eq_nil_of_length_eq_zero h2⟩
  · exact .inr ⟨g, cap, h1, h2⟩

theorem wpList_append_byte {Q : Exit → Act → World → Prop} {ops : Array Oper} {rest : List Oper} {o : Oper} {a : Act} {w0 wr : World} {B : Nat} (hgd : o.guard = none) (s x : Operand)
    (ho : o.op = .call { callee := .builtin .append, args := #[s, x], argTypes := #[43, 43] })
    (v : Value) (l : List Int) (hs : a.eval s = v) (hown : BytesOwn wr B v l) (hb : Below B w0 wr) (hB : B ≤ wr.heap.size)
    (b : Int) (c : Nat) (hx : a.eval x = .slice (some ⟨wr.heap.size, 0, none⟩) 1 c) (hl : l.length + 1 ≤ 140737488355328)
    (h : ∀ v' w', BytesOwn w' B v' (l ++ [b]) → Below B w0 w' → wpList Try.prog ops Q rest (a.put o.dst v') w') :
    wpList Try.prog ops Q (o :: rest) a (wr.alloc (.cells #[.int .u8 b] 5)) := by
  obtain ⟨i0, hi, hz0, hz1, hz2⟩ := info_parts info8
  refine wpList_append_own _ hgd s x _ ho B 5 i0 (.int .u8 0) 1 1 Try.underlying43 hi hz0 hz1 hz2 rfl (by decide) v l.length (l.map (Value.int .u8)) hs (World.ownsRow.alloc hown _) ⟨wr.heap.size, 0, none⟩ 1 c [.int .u8 b] hx rfl ?_ ?_ (by unfold maxLen; omega) (by omega) (by simp; omega) ?_
  · intro j u hj
    match j, hj with
    | 0, hj => simp at hj; subst hj; simp [Addr.add]
  · intro u hu; simp at hu; subst hu; rfl
  · intro v' w' h1 h2 _
    refine h v' w' ?_ ?_
    · unfold BytesOwn; simpa using h1
    · exact (hb.alloc hB _).grown h2 (by simp; omega) fun k hk => (World.ownsRow.lt hown k hk).1

/-- The same law inside a region that draws its order. -/
theorem step_append_byte {Q : Exit → Act → World → Prop} {K : Act → World → Prop} {E : Prop} {ops : Array Oper} {o : Oper} {a : Act} {w0 w : World} {B : Nat} (hgd : o.guard = none) (s x : Operand)
    (ho : o.op = .call { callee := .builtin .append, args := #[s, x], argTypes := #[43, 43] })
    (v : Value) (l : List Int) (hs : a.eval s = v) (hown : BytesOwn w B v l) (hb : Below B w0 w) (hB : B ≤ w.heap.size)
    (g c : Nat) (b : Int) (hx : a.eval x = .slice (some ⟨g, 0, none⟩) 1 c) (hcell : w.cell? ⟨g, 0, none⟩ = some (.int .u8 b)) (hl : l.length + 1 ≤ 140737488355328)
    (h : ∀ v' w', BytesOwn w' B v' (l ++ [b]) → Below B w0 w' → K (a.put o.dst v') w') :
    if Region.wanted o (yielded ops a.tmps) = true then Oper.wp Try.prog o a w K Q else E := by
  have hw : Region.wanted o (yielded ops a.tmps) = true := by simp [Region.wanted, hgd]
  rw [if_pos hw]
  obtain ⟨i0, hi, hz0, hz1, hz2⟩ := info_parts info8
  refine wp_append_own w s x _ ho B 5 i0 (.int .u8 0) 1 1 Try.underlying43 hi hz0 hz1 hz2 rfl (by decide) v l.length (l.map (Value.int .u8)) hs hown ⟨g, 0, none⟩ 1 c [.int .u8 b] hx rfl ?_ ?_ (by unfold maxLen; omega) (by omega) hB ?_
  · intro j u hj
    match j, hj with
    | 0, hj => simp at hj; subst hj; simpa [Addr.add] using hcell
  · intro u hu; simp at hu; subst hu; rfl
  · intro v' w' h1 h2 _
    refine h v' w' ?_ (hb.grown h2 hB fun k hk => (World.ownsRow.lt hown k hk).1)
    unfold BytesOwn; simpa using h1

theorem bytes_str {w : World} {B : Nat} {v : Value} {l : List Int} (h : BytesOwn w B v l) :
    (Go.convert 43 9 v).run Try.prog w = .ok (.string (strOfNums l)) w := by
  rcases h.shape with ⟨rfl, rfl⟩ | ⟨g, cap, rfl, _⟩
  · exact run_convert_bytes_nil w _ _ Try.underlying43 Try.underlying5 0 0 _ Try.underlying9
  · refine run_convert_bytes_arg w _ _ Try.underlying43 Try.underlying5 g 0 l.length cap l rfl (fun i hi => ?_) _ Try.underlying9
    have := World.ownsRow.cellAt h i (by omega)
    rw [Nat.zero_add, this]
    simp [hi]

theorem wpList_make_bytes {Q : Exit → Act → World → Prop} {ops : Array Oper} {rest : List Oper} {o : Oper} {a : Act} {w0 w : World} {B : Nat} (hgd : o.guard = none) (l c : Operand)
    (ho : o.op = Op.makeSlice 43 l c) (kl kc : IntKind) (L C : Int) (n : Nat) (hl : a.eval l = .int kl L) (hc : a.eval c = .int kc C) (hL : L = (n : Int)) (hC : C = (n : Int)) (hn : n ≤ 140737488355328)
    (hb : Below B w0 w) (hB : B ≤ w.heap.size)
    (h : ∀ w', BytesOwn w' B (.slice (some ⟨w.heap.size, 0, none⟩) n n) (List.replicate n 0) → Below B w0 w' → wpList Try.prog ops Q rest (a.put o.dst (.slice (some ⟨w.heap.size, 0, none⟩) n n)) w') :
    wpList Try.prog ops Q (o :: rest) a w := by
  obtain ⟨i0, hi, hz0, hz1, hz2⟩ := info_parts info8
  refine wpList_make_full w hgd l c _ ho B 5 i0 (.int .u8 0) 1 Try.underlying43 hi hz0 hz1 kl kc L C n hl hc hL hC (by rw [hz2]; omega) (by unfold maxLen; omega) hB ?_
  intro w' h1 h2
  refine h w' ?_ (hb.grown h2 hB fun k hk => by simp at hk)
  have e : (madeCells (Value.int .u8 0).cells (n * 1)).toList = (List.replicate n (0 : Int)).map (Value.int .u8) := by
    show (madeCells #[Value.int .u8 0] (n * 1)).toList = _
    rw [toList_madeCells_one]; simp
  rw [e] at h1
  unfold BytesOwn; simpa using h1

theorem BytesOwn.cell {w : World} {B g n cap : Nat} {l : List Int} (h : BytesOwn w B (.slice (some ⟨g, 0, none⟩) n cap) l) {j : Nat} (hn : l.length = n) (hj : j < n) : w.cell? ⟨g, j, none⟩ = some (.int .u8 (l.getD j 0)) := by
  unfold BytesOwn at h
  rw [hn] at h
  rw [World.ownsRow.cellAt h j (by omega)]
  simp [show j < l.length by omega]
theorem BytesOwn.free {w : World} {B g n cap : Nat} {l : List Int} (h : BytesOwn w B (.slice (some ⟨g, 0, none⟩) n cap) l) (hn : l.length = n) (j : Nat) : w.frozen? ⟨g, j, none⟩ = false := by
  unfold BytesOwn at h
  rw [hn] at h
  exact World.ownsRow.frozenAt h j
theorem BytesOwn.base {w : World} {B g n cap : Nat} {l : List Int} (h : BytesOwn w B (.slice (some ⟨g, 0, none⟩) n cap) l) : B ≤ g := by
  rcases h.shape with ⟨h1, _⟩ | ⟨g', cap', h1, h2⟩
  · simp at h1
  · simp at h1; omega
theorem BytesOwn.stored {w : World} {B g n cap : Nat} {l : List Int} (h : BytesOwn w B (.slice (some ⟨g, 0, none⟩) n cap) l) (hn : l.length = n) (j : Nat) (b : Int) :
    BytesOwn (w.setCell ⟨g, j, none⟩ (.int .u8 b)) B (.slice (some ⟨g, 0, none⟩) n cap) (l.set j b) := by
  unfold BytesOwn at h ⊢
  rw [hn] at h
  have := (World.ownsRow.stored h j (.int .u8 b)).1
  rw [List.length_set, hn, List.map_set]
  exact this
theorem arr_str {w : World} {g : Nat} {t : TypeId} {l : List Int} (h : Arr w g t .u8 l) (n cap : Nat) (hn : n ≤ l.length) :
    (Go.convert 43 9 (.slice (some ⟨g, 0, none⟩) n cap)).run Try.prog w = .ok (.string (strOfNums (l.take n))) w := by
  refine run_convert_bytes_arg w _ _ Try.underlying43 Try.underlying5 g 0 n cap (l.take n) (by simp; omega) (fun i hi => ?_) _ Try.underlying9
  rw [Nat.zero_add, h.cell (by omega)]
  simp [hi]
/-- Block g starts with the bytes l, none of them frozen. -/
def BytesAt (w : World) (g : Nat) (l : List Int) : Prop := ∀ j, j < l.length → w.cell? ⟨g, j, none⟩ = some (.int .u8 (l.getD j 0)) ∧ w.frozen? ⟨g, j, none⟩ = false
theorem BytesAt.drew {w : World} {g : Nat} {l : List Int} (h : BytesAt w g l) : BytesAt w.drew g l := h
theorem BytesAt.set_ {w : World} {g : Nat} {l : List Int} (h : BytesAt w g l) {k : Nat} (hk : k < l.length) (x : Int) : BytesAt (w.setCell ⟨g, k, none⟩ (.int .u8 x)) g (l.set k x) := by
  intro j hj
  rw [List.length_set] at hj
  refine ⟨?_, by rw [World.frozen?_setCell]; exact (h j hj).2⟩
  by_cases e : k = j
  · subst e
    rw [World.cell?_setCell_same w _ _ (h k hk).1]
    simp [hk]
  · rw [World.cell?_setCell_other w _ _ _ (fun h => e (congrArg Addr.off h)), (h j hj).1]
    simp [List.getElem?_set_ne e]
theorem BytesAt.below {w w' : World} {g B : Nat} {l : List Int} (h : BytesAt w g l) (hb : Below B w w') (hg : g < B) : BytesAt w' g l := fun j hj =>
  ⟨(hb.cell (p := ⟨g, j, none⟩) hg).trans (h j hj).1, (hb.frozen (p := ⟨g, j, none⟩) hg).trans (h j hj).2⟩
theorem BytesAt.str {w : World} {g cap : Nat} {l : List Int} (h : BytesAt w g l) :
    (Go.convert 43 9 (.slice (some ⟨g, 0, none⟩) l.length cap)).run Try.prog w = .ok (.string (strOfNums l)) w := by
  refine run_convert_bytes_arg w _ _ Try.underlying43 Try.underlying5 g 0 l.length cap l rfl (fun i hi => ?_) _ Try.underlying9
  rw [Nat.zero_add]; exact (h i hi).1

/-- A text turned into bytes. -/
theorem wpList_str_bytes {Q : Exit → Act → World → Prop} {ops : Array Oper} {rest : List Oper} {o : Oper} {a : Act} {w0 w : World} {B : Nat} (hgd : o.guard = none) (x : Operand)
    (ho : o.op = .convert 9 43 x) (s : ByteArray) (hx : a.eval x = .string s) (hb : Below B w0 w) (hB : B ≤ w.heap.size)
    (h : ∀ cap w', BytesAt w' w.heap.size (s.data.toList.map fun b => (b.toNat : Int)) → w.heap.size < w'.heap.size → Below B w0 w' → wpList Try.prog ops Q rest (a.put o.dst (.slice (some ⟨w.heap.size, 0, none⟩) s.size cap)) w') :
    wpList Try.prog ops Q (o :: rest) a w := by
  refine wpList_plain hgd fun K hK' => ?_
  have hrun := run_bytes_of_string (P := Try.prog) w 9 43 5 s Try.underlying9 Try.underlying43 Try.underlying5
  unfold Oper.wp
  simp only [execOp, ho, hx, hrun, Sem.run_bind, Sem.run_pure, Result.andThen]
  refine hK' _ _ (h _ _ ?_ ?_ (hb.drew.alloc hB _))
  · intro j hj
    have hj' : j < s.data.size := by simpa using hj
    refine ⟨?_, ?_⟩
    · have := World.cell?_alloc_mark w.drew (bytesRow s (grownCap w s.size 0 5)) 5 ((bytesRow s (grownCap w s.size 0 5)).size, (bytesRow s (grownCap w s.size 0 5)).size + 1) j
      have h2 := bytesRow_at s (grownCap w s.size 0 5) j hj'
      rw [h2] at this
      refine this.trans ?_
      rw [List.getD_eq_getElem?_getD, List.getElem?_map, Array.getElem?_toList, Array.getElem?_eq_getElem hj']; rfl
    · have := World.frozen?_alloc_mark w.drew (bytesRow s (grownCap w s.size 0 5)) 5 (bytesRow s (grownCap w s.size 0 5)).size ((bytesRow s (grownCap w s.size 0 5)).size + 1) j
      refine this.trans ?_
      have hsz : j < (bytesRow s (grownCap w s.size 0 5)).size := by
        unfold bytesRow; rw [Array.size_append, Array.size_map]; omega
      simp; omega
  · show w.heap.size < (w.heap.push _).size
    simp
end Go.Proofs.Yteigdjocjcjkiaa
/- The laws' helper b10Data: a text of n bytes. -/
namespace Go.Proofs.Yteigdjocjcjkiaa
open Go.RowKit

theorem CodeIs.wide {w : World} {B B' : Nat} {v : Value} (h : CodeIs w B v) (hB : B ≤ B') : CodeIs w B' v := by
  obtain ⟨A, len, cap, rfl, hl, hh⟩ := h
  refine ⟨A, len, cap, rfl, hl, fun hp => ?_⟩
  obtain ⟨b, off, hA, hb, hc⟩ := hh hp
  exact ⟨b, off, hA, by omega, hc⟩
theorem b10At_sum (B : Nat) (v : Value) (i k : Nat) (n : Int) (w : World) (h : CodeIs w B v) (hi : i + k ≤ 100000000) (hn : 2 ≤ n) (hn2 : n ≤ 1000000000000) :
    Calls Try.prog 26 #[v, .int .i64 ((i : Int) + (k : Int)), .int .i64 n] w (AtPost n w) := by
  have := b10At_any B v (i + k) n w h hi hn hn2
  rw [Int.natCast_add] at this
  exact this
def DataPost (n : Nat) (w : World) (e : Ending) (w' : World) : Prop := ∃ s : ByteArray, e = .returned (.string s) ∧ s.size = n ∧ Below w.heap.size w w'
end Go.Proofs.Yteigdjocjcjkiaa
/- The model's source of choices: reading a byte, picking a number, making a text. Only that each returns, within its bounds, is said. -/
namespace Go.Proofs.Yteigdjocjcjkiaa
open Go.RowKit

/-- Block g holds a source: its bytes' slice, how many were read, its seed. -/
def SrcAt (w : World) (g : Nat) (v : Value) (at_ : Nat) (seed : Int) : Prop := w.heap[g]? = some (.cells #[v, .int .i64 at_, .int .u64 seed] 103 (0, 0))
def NextPost (g : Nat) (v : Value) (at_ : Nat) (w : World) (e : Ending) (w' : World) : Prop :=
  ∃ (x : Int) (seed : Int), e = .returned (.int .i64 x) ∧ 0 ≤ x ∧ x ≤ 255 ∧ SrcAt w' g v (at_ + 1) seed ∧ w.grownBy w' (some g)

section
variable {w w' : World} {g at_ : Nat} {v : Value} {seed : Int}
theorem SrcAt.cell0 (h : SrcAt w g v at_ seed) : w.cell? ⟨g, 0, none⟩ = some v := by rw [cell_of_row w g 0 _ _ (0, 0) h]; rfl
theorem SrcAt.cell1 (h : SrcAt w g v at_ seed) : w.cell? ⟨g, 1, none⟩ = some (.int .i64 at_) := by rw [cell_of_row w g 1 _ _ (0, 0) h]; rfl
theorem SrcAt.cell2 (h : SrcAt w g v at_ seed) : w.cell? ⟨g, 2, none⟩ = some (.int .u64 seed) := by rw [cell_of_row w g 2 _ _ (0, 0) h]; rfl
theorem SrcAt.free (h : SrcAt w g v at_ seed) (j : Nat) : w.frozen? ⟨g, j, none⟩ = false := frozen_of_row w g j _ _ h
theorem SrcAt.step (h : SrcAt w g v at_ seed) (x : Int) (a' : Nat) : SrcAt ((w.setCell ⟨g, 1, none⟩ (.int .i64 (a' : Int))).setCell ⟨g, 2, none⟩ (.int .u64 x)) g v a' x := by
  unfold SrcAt at h ⊢
  have h1 := heap_setCell_same w g 1 _ _ (.int .i64 (a' : Int)) h
  have h2 := heap_setCell_same _ g 2 _ _ (.int .u64 x) h1
  rw [h2]; rfl
theorem grown_two (w : World) (g : Nat) (x y : Value) (i j : Nat) : w.grownBy ((w.setCell ⟨g, i, none⟩ x).setCell ⟨g, j, none⟩ y) (some g) :=
  ⟨rfl, rfl, rfl, by simp, fun k _ hk => by
    rw [heap_setCell_other _ _ k _ (fun e => hk (by simp [e])), heap_setCell_other _ _ k _ (fun e => hk (by simp [e]))]⟩
theorem grown_twoN (w : World) (g p q : Nat) (x y : Value) (i j : Nat) : w.grownBy ((((w.drewN p).setCell ⟨g, i, none⟩ x).setCell ⟨g, j, none⟩ y).drewN q) (some g) :=
  ⟨rfl, rfl, rfl, (grown_two w g x y i j).size, (grown_two w g x y i j).block⟩
theorem grown_drew {row : Option Nat} (h : w.grownBy w' row) : w.grownBy w'.drew row := ⟨h.os, h.tape, h.output, h.size, h.block⟩
theorem grown_trans {w'' : World} {row : Option Nat} (h : w.grownBy w' row) (h' : w'.grownBy w'' row) : w.grownBy w'' row :=
  ⟨h'.os.trans h.os, h'.tape.trans h.tape, h'.output.trans h.output, Nat.le_trans h.size h'.size, fun k hk hr => (h'.block k (Nat.lt_of_lt_of_le hk h.size) hr).trans (h.block k hk hr)⟩
end
theorem and255_u64 (x : Int) : 0 ≤ bits .and .u64 x 255 ∧ bits .and .u64 x 255 ≤ 255 := by
  have h : (BitVec.ofInt 64 x &&& BitVec.ofInt 64 255).toNat ≤ 255 := by
    rw [BitVec.toNat_and]
    exact Nat.le_trans Nat.and_le_right (by decide)
  have e : bits .and .u64 x 255 = IntKind.u64.wrap ((BitVec.ofInt 64 x &&& BitVec.ofInt 64 255).toNat : Int) := rfl
  rw [e]
  have : IntKind.u64.wrap ((BitVec.ofInt 64 x &&& BitVec.ofInt 64 255).toNat : Int) = ((BitVec.ofInt 64 x &&& BitVec.ofInt 64 255).toNat : Int) % 18446744073709551616 := rfl
  omega

theorem and255_wrap (x : Int) : 0 ≤ wrap64 (bits .and .u64 x 255) ∧ wrap64 (bits .and .u64 x 255) ≤ 255 := by
  have h := and255_u64 x
  rw [IntWalk.wrap64_in _ (by omega)]; exact h

set_option maxRecDepth 100000 in
theorem next_in (g b off len cap at_ : Nat) (seed x : Int) (w : World) (hS : SrcAt w g (.slice (some ⟨b, off, none⟩) len cap) at_ seed) (hlt : at_ < len) (hm : len ≤ 1048576)
    (hc : w.cell? ⟨b, off + at_, none⟩ = some (.int .u8 x)) (hx0 : 0 ≤ x) (hx1 : x ≤ 255) :
    Calls Try.prog 79 #[.pointer (some ⟨g, 0, none⟩)] w (NextPost g (.slice (some ⟨b, off, none⟩) len cap) at_ w) := by
  have h0 := hS.cell0
  have h1 := hS.cell1
  have h2 := hS.cell2
  have f1 := hS.free 1
  have f2 := hS.free 2
  have hI : (at_ : Int) < (len : Int) := by omega
  go_enter Try.func79, Try.ntmps79
  go_wp2
  go_quiet (fail)
  go_wp2
  go_quiet (fail)
  go_wp2
  go_quiet (fail)
  go_wp2
  go_ret
  exact ⟨x, _, rfl, hx0, hx1, hS.step _ (at_ + 1), grown_twoN w g _ _ _ _ 1 2⟩

set_option maxRecDepth 100000 in
theorem next_out (g len cap at_ : Nat) (A : Option Addr) (seed : Int) (w : World) (hS : SrcAt w g (.slice A len cap) at_ seed) (hlt : len ≤ at_) (hm : at_ ≤ 1000000000000) :
    Calls Try.prog 79 #[.pointer (some ⟨g, 0, none⟩)] w (NextPost g (.slice A len cap) at_ w) := by
  have h0 := hS.cell0
  have h1 := hS.cell1
  have h2 := hS.cell2
  have f1 := hS.free 1
  have f2 := hS.free 2
  have hI : ¬ (at_ : Int) < (len : Int) := by omega
  have hI2 : ¬ (at_ : Int) + 1 ≤ (len : Int) := by omega
  go_enter Try.func79, Try.ntmps79
  go_wp2
  go_quiet (fail)
  go_wp2
  go_quiet (fail)
  go_wp2
  go_ret
  exact ⟨_, _, rfl, (and255_wrap _).1, (and255_wrap _).2, hS.step _ (at_ + 1), grown_twoN w g _ _ _ _ 1 2⟩

/-- A source at block g, its bytes below block B. -/
def Src (w : World) (B g : Nat) (n : Nat) : Prop := ∃ v at_ seed, SrcAt w g v at_ seed ∧ at_ ≤ n ∧ CodeIs w B v ∧ B ≤ g
theorem Src.lt {w : World} {B g n : Nat} (h : Src w B g n) : g < w.heap.size := by
  obtain ⟨v, a, s, h1, _⟩ := h
  rcases Nat.lt_or_ge g w.heap.size with hlt | hge
  · exact hlt
  · unfold SrcAt at h1; rw [Array.getElem?_eq_none hge] at h1; cases h1
theorem Src.base {w : World} {B g n : Nat} (h : Src w B g n) : B ≤ g := h.elim fun _ h => h.elim fun _ h => h.elim fun _ h => h.2.2.2
theorem Src.keep {w w' : World} {B g n : Nat} (h : Src w B g n) (hb : Below w.heap.size w w') : Src w' B g n := by
  have hlt := h.lt
  obtain ⟨v, a, s, h1, h2, h3, h4⟩ := h
  exact ⟨v, a, s, (hb.block g hlt).trans h1, h2, h3.keep fun b hb' => hb.block b (by omega), h4⟩
/-- What every choice does to the world: block g alone may change. -/
def Chose (P : Value → Prop) (B g n : Nat) (w : World) (e : Ending) (w' : World) : Prop := ∃ v, e = .returned v ∧ P v ∧ Src w' B g n ∧ w.grownBy w' (some g)
def IntIn (lo hi : Int) (v : Value) : Prop := ∃ x : Int, v = .int .i64 x ∧ lo ≤ x ∧ x ≤ hi

theorem next_any (B g n : Nat) (w : World) (h : Src w B g n) (hn : n ≤ 1000000000000) :
    Calls Try.prog 79 #[.pointer (some ⟨g, 0, none⟩)] w (Chose (IntIn 0 255) B g (n + 1) w) := by
  have hlt := h.lt
  obtain ⟨v, a, s, h1, h2, h3, h4⟩ := h
  have fin : ∀ e w', NextPost g v a w e w' → Chose (IntIn 0 255) B g (n + 1) w e w' := by
    rintro e w' ⟨x, s', rfl, hx0, hx1, hS, hg⟩
    exact ⟨_, rfl, ⟨x, rfl, hx0, hx1⟩, ⟨v, a + 1, s', hS, by omega, h3.keep fun b hb => hg.block b (by omega) (fun e => by injection e; omega), h4⟩, hg⟩
  obtain ⟨A, len, cap, rfl, hl, hc⟩ := h3
  by_cases hlt2 : a < len
  · obtain ⟨b, off, rfl, hb, hx⟩ := hc (by omega)
    obtain ⟨x, hcell, hx0, hx1⟩ := hx a hlt2
    exact (next_in g b off len cap a s x w h1 hlt2 hl hcell hx0 hx1).mono fin
  · exact (next_out g len cap a A s w h1 (by omega) (by omega)).mono fin
end Go.Proofs.Yteigdjocjcjkiaa
/- The model's source of choices: picking among numbers, making a text. Only that each returns, within its bounds, is said. -/
namespace Go.Proofs.Yteigdjocjcjkiaa
open Go.RowKit

theorem Chose.mono {P Q : Value → Prop} {B g n n' : Nat} {w w' : World} {e : Ending} (hPQ : ∀ v, P v → Q v) (hn : n ≤ n') : Chose P B g n w e w' → Chose Q B g n' w e w' := by
  rintro ⟨v, he, hP, ⟨u, a, s, h1, h2, h3⟩, hg⟩
  exact ⟨v, he, hPQ v hP, ⟨u, a, s, h1, by omega, h3⟩, hg⟩

theorem l00From_any (w : World) (v : Value) (h : CodeIs w w.heap.size v) :
    Calls Try.prog 48 #[v] w fun e w' => e = .returned (.pointer (some ⟨w.heap.size, 0, none⟩)) ∧ Src w' w.heap.size w.heap.size 0 ∧ Below w.heap.size w w' := by
  have h' := h.keep (w' := w.alloc (.cells #[v, .int .i64 0, .int .u64 0] 103)) (fun b hb => Below.heap_alloc w _ b hb)
  obtain ⟨A, len, cap, rfl, _⟩ := h
  go_enter Try.func48, Try.ntmps48
  go_wp2
  go_ret
  exact ⟨rfl, ⟨_, 0, 0, heap_alloc_new w _, Nat.le_refl _, h', Nat.le_refl _⟩, (Below.refl _ _).alloc (Nat.le_refl _) _⟩

/-- The upper bound of a choice below n. -/
def pickMax (n : Int) : Int := if n ≤ 1 then 0 else n - 1
theorem pick_any (B g n : Nat) (m : Int) (w : World) (h : Src w B g n) (hn : n ≤ 900000000000) (hm : m ≤ 1000000000000) (hm0 : -1000000000000 ≤ m) :
    Calls Try.prog 50 #[.pointer (some ⟨g, 0, none⟩), .int .i64 m] w (Chose (IntIn 0 (pickMax m)) B g (n + 2) w) := by
  by_cases h1 : m ≤ 1
  · have HM : Hid (pickMax m = 0) := by show _ = _; rw [pickMax, if_pos h1]
    go_enter Try.func50, Try.ntmps50
    go_wp2
    go_ret
    rw [HM.out]
    obtain ⟨u, a, s, g1, g2, g3⟩ := h
    exact ⟨_, rfl, ⟨0, rfl, by omega, by omega⟩, ⟨u, a, s, g1, by omega, g3⟩, ⟨rfl, rfl, rfl, Nat.le_refl _, fun _ _ _ => rfl⟩⟩
  · have HM : Hid (pickMax m = m - 1) := by show _ = _; rw [pickMax, if_neg h1]
    have HF : ∀ x : Int, 0 ≤ x → IntIn 0 (pickMax m) (.int .i64 (x % m)) := fun x hx => ⟨_, rfl, Int.emod_nonneg x (by omega), by rw [HM.out]; have := Int.emod_lt_of_pos x (show 0 < m by omega); omega⟩
    by_cases h2 : 200 < m
    · go_enter Try.func50, Try.ntmps50
      go_wp2_with (first
        | (go_at_call 79; refine (next_any B g n _ h (by omega)).mono ?_; rintro e w1 ⟨v1, rfl, ⟨x, rfl, hx0, hx1⟩, hS1, hg1⟩; clear h)
        | (go_at_call 79; refine (next_any B g (n + 1) _ hS1 (by omega)).mono ?_; rintro e w2 ⟨v2, rfl, ⟨y, rfl, hy0, hy1⟩, hS2, hg2⟩; clear hS1))
      go_ret
      exact ⟨_, rfl, HF _ (by omega), hS2, grown_trans hg1 hg2⟩
    · go_enter Try.func50, Try.ntmps50
      go_wp2_with (go_at_call 79; refine (next_any B g n _ h (by omega)).mono ?_; rintro e w1 ⟨v1, rfl, ⟨x, rfl, hx0, hx1⟩, hS1, hg1⟩; clear h)
      go_ret
      obtain ⟨u, a, s, g1, g2, g3⟩ := hS1
      exact ⟨_, rfl, HF _ hx0, ⟨u, a, s, g1, by omega, g3⟩, hg1⟩

def BoolAny (v : Value) : Prop := ∃ b : Bool, v = .bool b
theorem one_any (B g n : Nat) (m : Int) (w : World) (h : Src w B g n) (hn : n ≤ 900000000000) (hm : m ≤ 1000000000000) (hm0 : -1000000000000 ≤ m) :
    Calls Try.prog 51 #[.pointer (some ⟨g, 0, none⟩), .int .i64 m] w (Chose BoolAny B g (n + 2) w) := by
  go_enter Try.func51, Try.ntmps51
  go_wp2_with (go_at_call 50; refine (pick_any B g n m _ h hn hm hm0).mono ?_; rintro e w1 ⟨v1, rfl, ⟨x, rfl, hx0, hx1⟩, hS1, hg1⟩)
  go_ret
  exact ⟨_, rfl, ⟨_, rfl⟩, hS1, hg1⟩

theorem among_any (Q : Int → Prop) (B g n b len cap : Nat) (w : World) (h : Src w B g n) (hn : n ≤ 900000000000) (hlen : 0 < len) (hl2 : len ≤ 1000000) (hbg : b ≠ g)
    (hc : ∀ i, i < len → ∃ x : Int, w.cell? ⟨b, i, none⟩ = some (.int .i64 x) ∧ Q x) :
    Calls Try.prog 52 #[.pointer (some ⟨g, 0, none⟩), .slice (some ⟨b, 0, none⟩) len cap] w (Chose (fun v => ∃ x : Int, v = .int .i64 x ∧ Q x) B g (n + 2) w) := by
  have HC := Lib.hid hc
  have HP : Hid (pickMax (len : Int) ≤ (len : Int) - 1) := by show _ ≤ _; unfold pickMax; split <;> omega
  clear hc
  go_enter Try.func52, Try.ntmps52
  go_wp2_with (
    go_at_call 50; refine (pick_any B g n (len : Int) _ h hn (by omega) (by omega)).mono ?_; rintro e w1 ⟨v1, rfl, ⟨x, rfl, hx0, hx1⟩, hS1, hg1⟩
    obtain ⟨i, rfl⟩ := Int.eq_ofNat_of_zero_le hx0
    have hil : (i : Int) < (len : Int) := by have := HP.out; omega
    obtain ⟨y, hy, hQ⟩ := HC.out i (by omega)
    have hcell := hg1.cell hy (by simp; omega)
    have HQ := Lib.hid hQ
    clear hy hQ h)
  go_ret
  exact ⟨_, rfl, ⟨y, rfl, HQ.out⟩, hS1, hg1⟩

theorem Src.keepB {w w' : World} {B B' g n : Nat} (h : Src w B g n) (hb : Below B' w w') (hg : g < B') : Src w' B g n := by
  obtain ⟨v, a, s, h1, h2, h3, h4⟩ := h
  exact ⟨v, a, s, (hb.block g hg).trans h1, h2, h3.keep fun b hb' => hb.block b (by omega), h4⟩
theorem grown_below {w wr w' : World} {row : Option Nat} (h : w.grownBy wr row) (hb : Below w.heap.size wr w') : w.grownBy w' row :=
  ⟨hb.os.trans h.os, hb.tape.trans h.tape, hb.output.trans h.output, Nat.le_trans h.size hb.size, fun k hk hr => (hb.block k hk).trans (h.block k hk hr)⟩
theorem BytesOwn.grown {w w' : World} {B g : Nat} {v : Value} {l : List Int} (h : BytesOwn w B v l) (hg : w.grownBy w' (some g)) (hgB : g < B) : BytesOwn w' B v l := by
  refine World.ownsRow.kept h hg ?_
  cases e : v.ownBlock with
  | none => exact .inl rfl
  | some k => exact .inr (fun e2 => by injection e2 with e2; have := (World.ownsRow.lt h k e).1; omega)
theorem Src.more {w : World} {B g n n' : Nat} (h : Src w B g n) (hn : n ≤ n') : Src w B g n' := by
  obtain ⟨u, a, s, g1, g2, g3⟩ := h
  exact ⟨u, a, s, g1, by omega, g3⟩

def StrLe (m : Int) (v : Value) : Prop := ∃ s : ByteArray, v = .string s ∧ (s.size : Int) ≤ m
set_option maxRecDepth 100000 in
theorem word_any (B g n : Nat) (m : Int) (w : World) (h : Src w B g n) (hn : n ≤ 800000000000) (hm : m ≤ 1000) (hm0 : 0 ≤ m) :
    Calls Try.prog 104 #[.pointer (some ⟨g, 0, none⟩), .int .i64 m] w (Chose (StrLe (pickMax m)) B g (n + 2000) w) := by
  have hlt := h.lt
  have HP : Hid (pickMax m ≤ 1000) := by show _ ≤ _; unfold pickMax; split <;> omega
  have h0 := h.keep ((Below.refl w.heap.size w).alloc (Nat.le_refl _) (.cells #[] 5))
  have hg0 : w.grownBy (w.alloc (.cells #[] 5)) (some g) := World.grownBy_alloc w _ _
  have hown0 := BytesOwn.made w (Nat.le_refl w.heap.size)
  clear h
  go_enter Try.func104, Try.ntmps104
  go_wp2_with (go_at_call 50; refine (pick_any B g n m _ h0 (by omega) (by omega) (by omega)).mono ?_; rintro e w1 ⟨v1, rfl, ⟨x, rfl, hx0, hx1⟩, hS1, hg1⟩)
  have hown1 := hown0.grown hg1 hlt
  have hgr1 := grown_trans hg0 hg1
  have hxm : x ≤ 1000 := by have := HP.out; omega
  have HX := Lib.hid hx1
  obtain ⟨K, rfl⟩ := Int.eq_ofNat_of_zero_le hx0
  clear h0 hg0 hown0 hg1 hx1
  go_loopw [5, 6] (fun v i wr => ∃ (k : Nat) (l : List Int), i = .int .i64 k ∧ k + l.length = K ∧ BytesOwn wr w.heap.size v l ∧ Src wr B g (n + 2 + l.length) ∧ w.grownBy wr (some g)) (fun _ i _ => (intOf i).toNat)
  case atStart => exact ⟨K, [], rfl, by simp, hown1, hS1, hgr1⟩
  case round =>
    clear hown1 hS1 hgr1
    obtain ⟨k, l, rfl, hk, hown, hS, hgr⟩ := hrel
    have hz := hgr.size
    by_cases hk0 : 0 < k
    · have hki : (0 : Int) < (k : Int) := by omega
      have hkl : (k : Int) ≤ 1000 := by omega
      go_wp2_with (first
        | (
           go_at_call 79; refine (next_any B g (n + 2 + l.length) _ hS (by omega)).mono ?_; rintro e w2 ⟨v2, rfl, ⟨y, rfl, hy0, hy1⟩, hS2, hg2⟩
           have hown2 := hown.grown hg2 hlt
           have hgr2 := grown_trans hgr hg2
           have hz2 := hgr2.size
           clear hown hS hgr hg2)
        | (
           at_builtin; refine wpList_append_byte rfl _ _ rfl _ l rfl hown2 (Below.refl _ _) hz2 _ _ rfl (by omega) ?_
           intro v' w3 hown3 hb3
           have hS3 := hS2.keepB hb3 hlt
           have hgr3 := grown_below hgr2 hb3
           clear hown2 hS2 hgr2 hb3))
      go_roundw
      case rel => exact ⟨k - 1, _, by go_num, by simp; omega, hown3, by simpa [Nat.add_assoc] using hS3, hgr3⟩
      case measure => simp [intOf]; omega
    · obtain rfl : k = 0 := by omega
      have hcv := bytes_str hown
      have hls : (strOfNums l).size = l.length := strOfNums_size l
      have HL := Lib.hid hls
      clear hls
      go_wp2
      go_ret
      exact ⟨_, rfl, ⟨_, rfl, by have := HL.out; have := HX.out; omega⟩, hS.more (by omega), hgr⟩
end Go.Proofs.Yteigdjocjcjkiaa
/- Chapter 2's generators: a state, a page and a text. Only that each returns, within its bounds, is said. -/
namespace Go.Proofs.Yteigdjocjcjkiaa
open Go.RowKit

theorem newCells (w : World) (t : TypeId) (l : List Value) (n : Nat) (hn : l.length = n) {Q : Int → Prop} (h : ∀ v ∈ l, ∃ x : Int, v = .int .i64 x ∧ Q x) :
    ∀ i, i < n → ∃ x : Int, (w.alloc (.cells l.toArray t)).cell? ⟨w.heap.size, i, none⟩ = some (.int .i64 x) ∧ Q x := by
  intro i hi
  obtain ⟨x, hx, hq⟩ := h l[i] (List.getElem_mem (by omega))
  refine ⟨x, ?_, hq⟩
  rw [World.cell?_alloc_at _ _ _ _ rfl, ← hx]
  simp [hn, hi]
/-- What a generator does: it answers, and what was there before is as it was. -/
def Drawn (P : Value → Prop) (w : World) (e : Ending) (w' : World) : Prop := ∃ v, e = .returned v ∧ P v ∧ Below w.heap.size w w'
end Go.Proofs.Yteigdjocjcjkiaa
/- Plain facts on bits of integers: Go's and, or, exclusive or on int64 and uint16, as operations on natural numbers; one step of the register on natural numbers. -/
namespace Go.Proofs.Yteigdjocjcjkiaa
open Go.RowKit

theorem wrap_i64_nat (a : Nat) (h : a < 2 ^ 63) : IntKind.i64.wrap (a : Int) = a := IntWalk.i64_in _ (by omega)
theorem ofInt_i64 (a : Nat) (ha : a < 2 ^ 63) : (BitVec.ofInt 64 (a : Int)).toNat = a := by
  rw [BitVec.ofInt_natCast, BitVec.toNat_ofNat]; exact Nat.mod_eq_of_lt (by omega)
theorem i64_and_nat (a b : Nat) (ha : a < 2 ^ 63) (hb : b < 2 ^ 63) : bits .and .i64 (a : Int) (b : Int) = ((a &&& b : Nat) : Int) := by
  have hx : a &&& b < 2 ^ 63 := Nat.and_lt_two_pow _ (by omega)
  show IntKind.i64.wrap ((BitVec.ofInt 64 (a : Int) &&& BitVec.ofInt 64 (b : Int)).toNat : Int) = _
  rw [BitVec.toNat_and, ofInt_i64 a ha, ofInt_i64 b hb, wrap_i64_nat _ hx]
theorem i64_or_nat (a b : Nat) (ha : a < 2 ^ 63) (hb : b < 2 ^ 63) : bits .or .i64 (a : Int) (b : Int) = ((a ||| b : Nat) : Int) := by
  have hx : a ||| b < 2 ^ 63 := Nat.or_lt_two_pow (by omega) (by omega)
  show IntKind.i64.wrap ((BitVec.ofInt 64 (a : Int) ||| BitVec.ofInt 64 (b : Int)).toNat : Int) = _
  rw [BitVec.toNat_or, ofInt_i64 a ha, ofInt_i64 b hb, wrap_i64_nat _ hx]
theorem i64_xor_nat (a b : Nat) (ha : a < 2 ^ 63) (hb : b < 2 ^ 63) : bits .xor .i64 (a : Int) (b : Int) = ((a ^^^ b : Nat) : Int) := by
  have hx : a ^^^ b < 2 ^ 63 := Nat.xor_lt_two_pow (by omega) (by omega)
  show IntKind.i64.wrap ((BitVec.ofInt 64 (a : Int) ^^^ BitVec.ofInt 64 (b : Int)).toNat : Int) = _
  rw [BitVec.toNat_xor, ofInt_i64 a ha, ofInt_i64 b hb, wrap_i64_nat _ hx]

theorem and1_i64 (a : Nat) (ha : a < 2 ^ 63) : bits .and .i64 (a : Int) 1 = ((a % 2 : Nat) : Int) := by
  have := i64_and_nat a 1 ha (by omega); rw [Nat.and_one_is_mod] at this; exact this
theorem and1_u16 (a : Nat) (ha : a < 65536) : bits .and .u16 (a : Int) 1 = ((a % 2 : Nat) : Int) := by
  have := u16_and_nat a 1 ha (by omega); rw [Nat.and_one_is_mod] at this; exact this

/-- One step of the register. -/
def stepN (s : Nat) : Nat := if s % 2 = 1 then s / 2 ^^^ 46080 else s / 2
theorem stepN_lt (s : Nat) (h : s < 65536) : stepN s < 65536 := by
  unfold stepN; split
  · exact Nat.xor_lt_two_pow (n := 16) (by omega) (by omega)
  · omega
theorem stepN_odd {s : Nat} (h : s % 2 = 1) : stepN s = s / 2 ^^^ 46080 := by rw [stepN, if_pos h]
theorem stepN_even {s : Nat} (h : ¬ s % 2 = 1) : stepN s = s / 2 := by rw [stepN, if_neg h]
theorem xor_step_u16 (s : Nat) (h : s < 65536) : bits .xor .u16 ((s : Int) / 2) 46080 = ((s / 2 ^^^ 46080 : Nat) : Int) := by
  have := u16_xor_nat (s / 2) 46080 (by omega) (by omega); rw [← this]; simp
theorem xor_step_i64 (s : Nat) (h : s < 65536) : bits .xor .i64 ((s : Int) / 2) 46080 = ((s / 2 ^^^ 46080 : Nat) : Int) := by
  have := i64_xor_nat (s / 2) 46080 (by omega) (by omega); rw [← this]; simp

/-- The state before. -/
def backN (s : Nat) : Nat := if 32768 ≤ s then (s ^^^ 46080) * 2 ||| 1 else s * 2
theorem backN_hi {s : Nat} (h : 32768 ≤ s) : backN s = (s ^^^ 46080) * 2 ||| 1 := by rw [backN, if_pos h]
theorem backN_lo {s : Nat} (h : ¬ 32768 ≤ s) : backN s = s * 2 := by rw [backN, if_neg h]
theorem xor_back (s : Nat) (h : s < 65536) : s ^^^ 46080 < 65536 := Nat.xor_lt_two_pow (n := 16) (by omega) (by omega)
theorem back_val (s : Nat) (h : s < 65536) : bits .or .i64 (wrap64 (bits .xor .i64 (s : Int) 46080 * 2)) 1 = (((s ^^^ 46080) * 2 ||| 1 : Nat) : Int) := by
  have hx := i64_xor_nat s 46080 (by omega) (by omega)
  have hl := xor_back s h
  have e : bits .xor .i64 (s : Int) 46080 = ((s ^^^ 46080 : Nat) : Int) := hx
  rw [e, IntWalk.wrap64_in _ (by omega)]
  have := i64_or_nat ((s ^^^ 46080) * 2) 1 (by omega) (by omega)
  rw [← this]; simp
theorem and_top (s : Nat) (h : s < 65536) : bits .and .i64 (s : Int) 32768 = ((s / 32768 * 32768 : Nat) : Int) := by
  have := i64_and_nat s 32768 (by omega) (by omega)
  have e : s &&& 32768 = s / 32768 * 32768 := by
    apply Nat.eq_of_testBit_eq
    intro i
    rw [Nat.testBit_and, show (32768 : Nat) = 2 ^ 15 from rfl, Nat.testBit_two_pow]
    by_cases hc : 32768 ≤ s
    · rw [show s / 2 ^ 15 * 2 ^ 15 = 2 ^ 15 by omega, Nat.testBit_two_pow]
      by_cases hi : 15 = i
      · subst hi
        have : s.testBit 15 = true := by rw [Nat.testBit_eq_decide_div_mod_eq]; simp; omega
        simp [this]
      · simp [hi]
    · rw [show s / 2 ^ 15 * 2 ^ 15 = 0 by omega, Nat.zero_testBit]
      by_cases hi : 15 = i
      · subst hi
        rw [Nat.testBit_lt_two_pow (by omega)]; rfl
      · simp [hi]
  rw [← e, ← this]; rfl
end Go.Proofs.Yteigdjocjcjkiaa
/- Plain facts on the variable-length encoding of natural numbers: groups of seven bits, the least significant group first. -/
namespace Go.Proofs.Yteigdjocjcjkiaa
open Go.RowKit

/-- The encoding's bytes. -/
def uv (n : Nat) : List Int := if n < 128 then [(n : Int)] else ((n % 128 + 128 : Nat) : Int) :: uv (n / 128)
termination_by n
decreasing_by omega

theorem uv_small {n : Nat} (h : n < 128) : uv n = [(n : Int)] := by rw [uv, if_pos h]
theorem uv_big {n : Nat} (h : ¬ n < 128) : uv n = ((n % 128 + 128 : Nat) : Int) :: uv (n / 128) := by rw [uv, if_neg h]

theorem uv_room {x k : Nat} (h : x * 128 ^ k < 2 ^ 63) (hx : 128 ≤ x) : k < 8 ∧ x / 128 * 128 ^ (k + 1) < 2 ^ 63 := by
  have h1 : 128 ^ (k + 1) ≤ x * 128 ^ k := by rw [Nat.pow_succ, Nat.mul_comm]; exact Nat.mul_le_mul_right _ hx
  refine ⟨?_, ?_⟩
  · have h2 : 128 ^ (k + 1) < 128 ^ 9 := by
      have : (128 : Nat) ^ 9 = 2 ^ 63 := by decide
      omega
    have := (Nat.pow_lt_pow_iff_right (by decide : 1 < 128)).1 h2
    omega
  · have : x / 128 * 128 ^ (k + 1) ≤ x * 128 ^ k := by
      rw [Nat.pow_succ, Nat.mul_comm (128 ^ k), ← Nat.mul_assoc]
      exact Nat.mul_le_mul_right _ (Nat.div_mul_le_self x 128)
    omega
theorem uv_length_le : ∀ (f x k : Nat), k + f = 9 → k ≤ 8 → x * 128 ^ k < 2 ^ 63 → (uv x).length + k ≤ 9
  | 0, x, k, hf, hk, h => by omega
  | f + 1, x, k, hf, hk, h => by
    by_cases hx : x < 128
    · rw [uv_small hx]; simp; omega
    · have hr := uv_room h (by omega)
      rw [uv_big hx]
      have := uv_length_le f (x / 128) (k + 1) (by omega) (by omega) hr.2
      simp; omega
theorem uv_len {n : Nat} (h : n < 2 ^ 63) : (uv n).length ≤ 9 := by
  have := uv_length_le 9 n 0 rfl (by omega) (by simpa using h)
  omega
theorem uv_pos (n : Nat) : 1 ≤ (uv n).length := by
  by_cases hx : n < 128
  · rw [uv_small hx]; simp
  · rw [uv_big hx]; simp

theorem or128 {a : Nat} (h : a < 128) : a ||| 128 = a + 128 := by
  have := Nat.two_pow_add_eq_or_of_lt (i := 7) h 1
  rw [show 2 ^ 7 * 1 = 128 from rfl, Nat.or_comm] at this
  omega
theorem or128' (x : Nat) : x % 256 ||| 128 = x % 128 + 128 := by
  by_cases h : x % 256 < 128
  · rw [or128 h]; omega
  · have e : x % 256 = x % 128 ||| 128 := by rw [or128 (by omega)]; omega
    rw [e, Nat.or_assoc, Nat.or_self, or128 (by omega)]
theorem enc_spec (x : Nat) : bits .or .i64 (bits .and .i64 (x : Int) 127) 128 % 256 = ((x % 128 + 128 : Nat) : Int) := by
  rw [i64_and127]
  have := i64_or_nat (x % 128) 128 (by omega) (by omega)
  rw [or128 (by omega)] at this
  rw [show (x : Int) % 128 = ((x % 128 : Nat) : Int) by omega, show (128 : Int) = ((128 : Nat) : Int) by rfl, this]
  omega
theorem enc_impl (x : Nat) : bits .or .u8 ((x : Int) % 256) 128 = ((x % 128 + 128 : Nat) : Int) := by
  have := u8_or_nat (x % 256) 128 (by omega) (by omega)
  rw [or128'] at this
  rw [← this]; rfl
theorem enc_last {x : Nat} (h : x < 128) : (x : Int) % 256 = x := by omega
theorem uv_bytes : ∀ (f n : Nat), n < 128 ^ f → ∀ x ∈ uv n, 0 ≤ x ∧ x < 256
  | 0, n, h, x, hx => by
    have : n < 128 := by simp at h; omega
    rw [uv_small this] at hx; simp at hx; omega
  | f + 1, n, h, x, hx => by
    by_cases hn : n < 128
    · rw [uv_small hn] at hx; simp at hx; omega
    · rw [uv_big hn] at hx
      rcases List.mem_cons.1 hx with rfl | hx
      · omega
      · exact uv_bytes f (n / 128) (by rw [Nat.div_lt_iff_lt_mul (by decide)]; rw [Nat.pow_succ] at h; exact h) x hx
/-- The encoding with zeros behind it, nine bytes. -/
def pad9 (l : List Int) : List Int := l ++ List.replicate (9 - l.length) 0
theorem pad9_length {l : List Int} (h : l.length ≤ 9) : (pad9 l).length = 9 := by simp [pad9]; omega
theorem pad9_bytes {l : List Int} (h : ∀ x ∈ l, 0 ≤ x ∧ x < 256) : ∀ x ∈ pad9 l, 0 ≤ x ∧ x < 256 := by
  intro x hx
  rcases List.mem_append.1 hx with hx | hx
  · exact h x hx
  · have := List.eq_of_mem_replicate hx; omega
/-- What the first k bytes of a string stand for. -/
def acc (s : ByteArray) : Nat → Nat
  | 0 => 0
  | k + 1 => acc s k + byteAt s k % 128 * 128 ^ k
theorem acc_lt (s : ByteArray) : ∀ k, acc s k < 128 ^ k
  | 0 => by simp [acc]
  | k + 1 => by
    have h := acc_lt s k
    have h2 : byteAt s k % 128 * 128 ^ k ≤ 127 * 128 ^ k := Nat.mul_le_mul_right _ (by omega)
    rw [acc, Nat.pow_succ]
    omega
theorem and127_u8 (b : Nat) (h : b ≤ 255) : bits .and .u8 (b : Int) 127 = ((b % 128 : Nat) : Int) := by
  have := u8_and_nat b 127 (by omega) (by omega)
  rw [show (127 : Nat) = 2 ^ 7 - 1 from rfl, Nat.and_two_pow_sub_one_eq_mod] at this
  exact this
theorem acc_step (s : ByteArray) (k b : Nat) (hk : k < 9) (hb : b = byteAt s k) :
    bits .or .i64 ((acc s k : Nat) : Int) (wrap64 (wrap64 (bits .and .u8 (b : Int) 127) * 2 ^ (7 * k))) = ((acc s (k + 1) : Nat) : Int) := by
  have hle : b ≤ 255 := by rw [hb]; exact byteAt_le s k
  have h := acc_lt s k
  have e : (2 : Nat) ^ (7 * k) = 128 ^ k := by rw [Nat.pow_mul]
  have h9 : 128 ^ (k + 1) ≤ 128 ^ 9 := Nat.pow_le_pow_right (by decide) (by omega)
  have e9 : (128 : Nat) ^ 9 = 2 ^ 63 := by decide
  rw [Nat.pow_succ] at h9
  have h2 : b % 128 * 128 ^ k ≤ 127 * 128 ^ k := Nat.mul_le_mul_right _ (by omega)
  rw [and127_u8 b hle, IntWalk.wrap64_in ((b % 128 : Nat) : Int) (by omega)]
  have ec : ((b % 128 : Nat) : Int) * 2 ^ (7 * k) = ((b % 128 * 128 ^ k : Nat) : Int) := by
    rw [Int.natCast_mul, ← e, Int.natCast_pow]; rfl
  rw [ec, IntWalk.wrap64_in ((b % 128 * 128 ^ k : Nat) : Int) (by omega), i64_or_nat _ _ (by omega) (by omega), acc, ← hb, Nat.or_comm, ← e]
  have := Nat.two_pow_add_eq_or_of_lt (i := 7 * k) (b := acc s k) (by rw [e]; exact h) (b % 128)
  rw [Nat.mul_comm (b % 128), ← this, Nat.add_comm]
/-- The first k bytes of a string, as integers. -/
def takeB (s : ByteArray) (k : Nat) : List Int := (s.data.toList.take k).map fun b => (b.toNat : Int)
theorem takeB_length {s : ByteArray} {k : Nat} (h : k ≤ s.size) : (takeB s k).length = k := by
  unfold takeB; simp; omega
theorem takeB_succ {s : ByteArray} {k : Nat} (h : k < s.size) : takeB s (k + 1) = takeB s k ++ [(byteAt s k : Int)] := by
  have h' : k < s.data.toList.length := by simpa using h
  unfold takeB byteAt
  rw [List.take_succ_eq_append_getElem h', List.map_append, List.getD_eq_getElem?_getD, List.getElem?_eq_getElem h']
  rfl
theorem takeB_bytes (s : ByteArray) (k : Nat) : ∀ x ∈ takeB s k, 0 ≤ x ∧ x < 256 := by
  intro x hx
  obtain ⟨b, _, rfl⟩ := List.mem_map.1 hx
  have := UInt8.toNat_lt b
  omega
theorem takeB_mem {s : ByteArray} {x : Int} : ∀ {k : Nat}, k ≤ s.size → x ∈ takeB s k → ∃ j, j < k ∧ x = byteAt s j
  | 0, _, h => by simp [takeB] at h
  | k + 1, hk, h => by
    rw [takeB_succ (by omega)] at h
    rcases List.mem_append.1 h with h | h
    · obtain ⟨j, h1, h2⟩ := takeB_mem (by omega) h
      exact ⟨j, by omega, h2⟩
    · exact ⟨k, by omega, by simpa using h⟩
theorem takeB_str (s : ByteArray) (k : Nat) : strOfNums (takeB s k) = s.extract 0 k := by
  apply ByteArray.ext
  unfold strOfNums takeB
  rw [List.map_map, ByteArray.data_extract]
  apply Array.toList_inj.1
  rw [List.toList_toArray, Array.toList_extract]
  simp [Function.comp_def]
theorem strOfNums_inj {l l' : List Int} (h : ∀ x ∈ l, 0 ≤ x ∧ x < 256) (h' : ∀ x ∈ l', 0 ≤ x ∧ x < 256) : strOfNums l = strOfNums l' ↔ l = l' := by
  constructor
  · intro e
    have e2 := congrArg (fun b => b.data.toList.map fun b => (b.toNat : Int)) e
    simp only [strOfNums_data, List.map_map] at e2
    have key : ∀ {l : List Int}, (∀ x ∈ l, 0 ≤ x ∧ x < 256) → l.map ((fun b : UInt8 => (b.toNat : Int)) ∘ fun n => UInt8.ofNat n.toNat) = l := by
      intro l hl
      conv => rhs; rw [← List.map_id l]
      apply List.map_congr_left
      intro x hx
      have := hl x hx
      simp only [Function.comp_apply, UInt8.toNat_ofNat', id]
      omega
    rwa [key h, key h'] at e2
  · rintro rfl; rfl

/-- Two encodings that are the same with zeros behind them are the same: only the last byte is below 128. -/
def Enc (l : List Int) : Prop := ∃ i x, l = i ++ [x] ∧ x < 128 ∧ ∀ y ∈ i, 128 ≤ y
theorem uv_enc : ∀ (f n : Nat), n < 128 ^ f → Enc (uv n)
  | 0, n, h => ⟨[], n, by rw [uv_small (by simp at h; omega)]; rfl, by simp at h; omega, by simp⟩
  | f + 1, n, h => by
    by_cases hn : n < 128
    · exact ⟨[], n, by rw [uv_small hn]; rfl, by omega, by simp⟩
    · obtain ⟨i, x, h1, h2, h3⟩ := uv_enc f (n / 128) (by rw [Nat.div_lt_iff_lt_mul (by decide)]; rw [Nat.pow_succ] at h; exact h)
      refine ⟨((n % 128 + 128 : Nat) : Int) :: i, x, by rw [uv_big hn, h1]; rfl, h2, ?_⟩
      intro y hy
      rcases List.mem_cons.1 hy with rfl | hy
      · omega
      · exact h3 y hy
theorem enc_pad {i j a b : List Int} {x y : Int} (h : i ++ x :: a = j ++ y :: b) (hx : x < 128) (hy : y < 128) (hi : ∀ z ∈ i, 128 ≤ z) (hj : ∀ z ∈ j, 128 ≤ z) : i = j ∧ x = y := by
  induction i generalizing j with
  | nil =>
    match j with
    | [] => simp at h; exact ⟨rfl, h.1⟩
    | z :: j => simp at h; have := hj z (by simp); omega
  | cons c i ih =>
    match j with
    | [] => simp at h; have := hi c (by simp); omega
    | z :: j =>
      simp at h
      obtain ⟨e1, e2⟩ := ih h.2 (fun w hw => hi w (by simp [hw])) (fun w hw => hj w (by simp [hw]))
      exact ⟨by rw [h.1, e1], e2⟩
theorem pad9_enc {l l' : List Int} (h : Enc l) (h' : Enc l') : pad9 l = pad9 l' ↔ l = l' := by
  constructor
  · intro e
    obtain ⟨i, x, rfl, hx, hi⟩ := h
    obtain ⟨j, y, rfl, hy, hj⟩ := h'
    unfold pad9 at e
    rw [List.append_assoc, List.append_assoc] at e
    obtain ⟨rfl, rfl⟩ := enc_pad e hx hy hi hj
    rfl
  · rintro rfl; rfl

theorem takeB_enc {s : ByteArray} {k : Nat} (hlt : k < s.size) (h : byteAt s k < 128) (hge : ∀ j, j < k → 128 ≤ byteAt s j) : Enc (takeB s (k + 1)) := by
  refine ⟨takeB s k, byteAt s k, takeB_succ hlt, by omega, fun y hy => ?_⟩
  obtain ⟨j, h1, rfl⟩ := takeB_mem (by omega) hy
  have := hge j h1
  omega

/-- How many bytes the decoder consumes from byte i on, f bytes at most; 0: the text is refused. -/
def decF (s : ByteArray) : Nat → Nat → Nat
  | 0, _ => 0
  | f + 1, i => if i < s.size ∧ i < 9 then (if byteAt s i < 128 then (if uv (acc s (i + 1)) = takeB s (i + 1) then i + 1 else 0) else decF s f (i + 1)) else 0
def decUv (s : ByteArray) : Nat := decF s 10 0
theorem decF_end {s : ByteArray} {f i : Nat} (h : ¬ (i < s.size ∧ i < 9)) : decF s (f + 1) i = 0 := by rw [decF, if_neg h]
theorem decF_next {s : ByteArray} {f i : Nat} (h1 : i < s.size) (h2 : i < 9) (h3 : ¬ byteAt s i < 128) : decF s (f + 1) i = decF s f (i + 1) := by rw [decF, if_pos ⟨h1, h2⟩, if_neg h3]
theorem decF_yes {s : ByteArray} {f i : Nat} (h1 : i < s.size) (h2 : i < 9) (h3 : byteAt s i < 128) (h4 : uv (acc s (i + 1)) = takeB s (i + 1)) : decF s (f + 1) i = i + 1 := by rw [decF, if_pos ⟨h1, h2⟩, if_pos h3, if_pos h4]
theorem decF_no {s : ByteArray} {f i : Nat} (h1 : i < s.size) (h2 : i < 9) (h3 : byteAt s i < 128) (h4 : ¬ uv (acc s (i + 1)) = takeB s (i + 1)) : decF s (f + 1) i = 0 := by rw [decF, if_pos ⟨h1, h2⟩, if_pos h3, if_neg h4]
theorem decF_le (s : ByteArray) : ∀ f i, decF s f i ≤ s.size ∧ decF s f i ≤ 9
  | 0, i => by simp [decF]
  | f + 1, i => by
    unfold decF
    split
    · split
      · split
        · omega
        · omega
      · exact decF_le s f (i + 1)
    · omega
theorem decUv_le (s : ByteArray) : decUv s ≤ s.size ∧ decUv s ≤ 9 := decF_le s 10 0
theorem acc_lt63 (s : ByteArray) {k : Nat} (h : k ≤ 9) : acc s k < 2 ^ 63 := by
  have h1 := acc_lt s k
  have h2 : (128 : Nat) ^ k ≤ 128 ^ 9 := Nat.pow_le_pow_right (by decide) h
  rw [show (128 : Nat) ^ 9 = 2 ^ 63 by decide] at h2
  omega
end Go.Proofs.Yteigdjocjcjkiaa
/- The variable-length integers, in the model and in the program: their contracts. -/
namespace Go.Proofs.Yteigdjocjcjkiaa
open Go.RowKit



theorem pad9_set {l : List Int} (h : l.length < 9) (u : Int) : (pad9 l).set l.length u = pad9 (l ++ [u]) := by
  unfold pad9
  rw [List.set_append_right _ _ (Nat.le_refl _), Nat.sub_self, show 9 - l.length = (9 - (l ++ [u]).length) + 1 by simp; omega, List.replicate_succ, List.set_cons_zero, List.append_assoc]
  simp

theorem size9 {l l' : List Int} (h : l.length ≤ 9) (h' : l'.length ≤ 9) : ((pad9 l).map (Value.int .u8)).toArray.size = ((pad9 l').map (Value.int .u8)).toArray.size := by
  simp [pad9_length h, pad9_length h']
theorem one9 (l : List Int) : (l.map (Value.int .u8)).toArray.all (·.oneCell') = true := by simp [Value.oneCell']

end Go.Proofs.Yteigdjocjcjkiaa
/- Chapter 1's generators: an integer, a text, a damaged text. Only that each returns, within its bounds, is said. -/
namespace Go.Proofs.Yteigdjocjcjkiaa
open Go.RowKit

def I64 (v : Value) : Prop := ∃ x : Int, v = .int .i64 x ∧ -9223372036854775808 ≤ x ∧ x ≤ 9223372036854775807
def Tx (m : Nat) (v : Value) : Prop := ∃ s : ByteArray, v = .string s ∧ s.size ≤ m

theorem newTexts (w : World) (t : TypeId) (l : List Value) (n m : Nat) (hn : l.length = n) (h : ∀ v ∈ l, Tx m v) :
    ∀ i, i < n → ∃ s : ByteArray, (w.alloc (.cells l.toArray t)).cell? ⟨w.heap.size, i, none⟩ = some (.string s) ∧ s.size ≤ m := by
  intro i hi
  obtain ⟨x, hx, hq⟩ := h l[i] (List.getElem_mem (by omega))
  refine ⟨x, ?_, hq⟩
  rw [World.cell?_alloc_at _ _ _ _ rfl, ← hx]
  simp [hn, hi]

theorem BytesAt.grown {w w' : World} {g b : Nat} {l : List Int} (h : BytesAt w b l) (hg : w.grownBy w' (some g)) (hne : b ≠ g) (hb : b < w.heap.size) : BytesAt w' b l := fun j hj => by
  have e := hg.block b hb (fun e => hne (by injection e))
  exact ⟨(World.cell?_of_block (w := w) (a := ⟨b, j, none⟩) e).trans (h j hj).1, (World.frozen?_of_block (w := w) (a := ⟨b, j, none⟩) e).trans (h j hj).2⟩
set_option maxRecDepth 100000 in
theorem damage_any (B g n : Nat) (t : ByteArray) (w : World) (h : Src w B g n) (hn : n ≤ 700000000000) (ht : t.size ≤ 300) :
    Calls Try.prog 85 #[.pointer (some ⟨g, 0, none⟩), .string t] w (Chose (Tx 400) B g (n + 3000) w) := by
  have hlt := h.lt
  have P6 : Hid (pickMax 6 = 5) := by show _ = _; decide
  have P3 : Hid (pickMax 3 = 2) := by show _ = _; decide
  have P8 : Hid (pickMax 8 = 7) := by show _ = _; decide
  go_enter Try.func85, Try.ntmps85
  go_wp2_with fail
  refine (pick_any B g n 6 _ h (by omega) (by omega) (by omega)).mono ?_
  rintro e w1 ⟨v1, rfl, ⟨x, rfl, hx0, hx1⟩, hS1, hg1⟩
  clear h hx1
  have hz1 := hg1.size
  by_cases h0 : x = 0
  · subst h0
    go_wp2_with fail
    refine (word_any B g (n + 2) 3 _ hS1 (by omega) (by omega) (by omega)).mono ?_
    rintro e w2 ⟨v2, rfl, ⟨s, rfl, hs⟩, hS2, hg2⟩
    rw [P3.out] at hs
    go_wp2
    go_ret
    exact ⟨_, rfl, ⟨_, rfl, by rw [ByteArray.size_append]; omega⟩, hS2.more (by omega), grown_trans hg1 hg2⟩
  · by_cases h1 : x = 1
    · subst h1
      have HP : Hid (pickMax ((t.size : Int) + 1) ≤ (t.size : Int)) := by show _ ≤ _; unfold pickMax; split <;> omega
      go_wp2_with fail
      refine (pick_any B g (n + 2) ((t.size : Int) + 1) _ hS1 (by omega) (by omega) (by omega)).mono ?_
      rintro e w2 ⟨v2, rfl, ⟨y, rfl, hy0, hy1⟩, hS2, hg2⟩
      obtain ⟨k, rfl⟩ := Int.eq_ofNat_of_zero_le hy0
      have hk : (k : Int) ≤ (t.size : Int) := by have := HP.out; omega
      clear hy1
      go_wp2
      go_ret
      exact ⟨_, rfl, ⟨_, rfl, by rw [ByteArray.size_extract]; omega⟩, hS2.more (by omega), grown_trans hg1 hg2⟩
    · by_cases h2 : x = 2 ∧ 0 < t.size
      · obtain ⟨rfl, hpos⟩ := h2
        have hpi : (0 : Int) < (t.size : Int) := by omega
        go_wp2_with (refine wpList_str_bytes rfl _ rfl t rfl (Below.refl _ _) (Nat.le_refl _) ?_; intro cap w2 hat hz2 hb2)
        have hS2 := hS1.keepB hb2 (by omega)
        have HP : Hid (pickMax (t.size : Int) ≤ (t.size : Int) - 1) := by show _ ≤ _; unfold pickMax; split <;> omega
        refine (pick_any B g (n + 2) (t.size : Int) _ hS2 (by omega) (by omega) (by omega)).mono ?_
        rintro e w3 ⟨v3, rfl, ⟨y, rfl, hy0, hy1⟩, hS3, hg3⟩
        obtain ⟨k, rfl⟩ := Int.eq_ofNat_of_zero_le hy0
        have hkI : (k : Int) < (t.size : Int) := by have := HP.out; omega
        clear hy1 hS1 hS2
        have hat3 := hat.grown hg3 (by omega) hz2
        clear hat
        go_wp2_with fail
        have hne : w1.heap.size ≠ g := by omega
        have hLl : (t.data.toList.map fun b => (b.toNat : Int)).length = t.size := by simp
        obtain ⟨L, hL⟩ : ∃ L, L = t.data.toList.map fun b => (b.toNat : Int) := ⟨_, rfl⟩
        rw [← hL] at hat3 hLl
        obtain ⟨z, hz⟩ : ∃ z, z = L.getD k 0 := ⟨_, rfl⟩
        have hc3 : w3.drew.cell? ⟨w1.heap.size, k, none⟩ = some (.int .u8 z) := by rw [hz]; exact (hat3 k (by omega)).1
        clear hL
        refine wp_region_held_drew (S := fun _ => True) (by kernel_rfl) trivial (fun hHeld => ?_)
        refine wpAnyH_take (i := 0) (oi := _) (v := .slice (some ⟨w1.heap.size, 0, none⟩) t.size cap) rfl (by kernel_rfl) (by kernel_rfl) (by kernel_rfl) (fun _ _ _ h => h) (Or.inl ⟨by rfl, fun w hSw => by go_simp⟩) hHeld ?_
        refine wpAnyH_take (i := 1) (oi := _) (v := .int .i64 (k : Int)) rfl (by kernel_rfl) (by kernel_rfl) (by kernel_rfl) (fun _ _ _ h => h) (Or.inl ⟨by rfl, fun w hSw => by go_simp⟩) hHeld ?_
        refine wpAnyH_take (i := 2) (oi := _) (v := .slice (some ⟨w1.heap.size, 0, none⟩) t.size cap) rfl (by kernel_rfl) (by kernel_rfl) (by kernel_rfl) (fun _ _ _ h => h) (Or.inl ⟨by rfl, fun w hSw => by go_simp⟩) hHeld ?_
        refine wpAnyH_take (i := 3) (oi := _) (v := .int .i64 (k : Int)) rfl (by kernel_rfl) (by kernel_rfl) (by kernel_rfl) (fun _ _ _ h => h) (Or.inl ⟨by rfl, fun w hSw => by go_simp⟩) hHeld ?_
        refine wpAnyH_take (i := 4) (oi := _) (v := .pointer (some ⟨w1.heap.size, k, none⟩)) rfl (by kernel_rfl) (by kernel_rfl) (by kernel_rfl) (fun _ _ _ h => h) (Or.inl ⟨by rfl, fun w hSw => by go_simp⟩) hHeld ?_
        refine wpAnyH_take (i := 6) (oi := _) (v := .pointer (some ⟨g, 0, none⟩)) rfl (by kernel_rfl) (by kernel_rfl) (by kernel_rfl) (fun _ _ _ h => h) (Or.inl ⟨by rfl, fun w hSw => by go_simp⟩) hHeld ?_
        refine wpAnyH_ready (rs := [5, 7]) (by kernel_rfl) (by simp) ?_
        refine AllReadyH.cons (o := _) rfl (fun K hK => ?_) (AllReadyH.cons (o := _) rfl (fun K hK => ?_) AllReadyH.nil)
        · go_simp
          refine hK.out _ _ trivial (fun hHeld => ?_)
          clear hK K
          refine wpAnyH_ready (rs := [7]) (by kernel_rfl) (by simp) ?_
          refine AllReadyH.cons (o := _) rfl (fun K hK => ?_) AllReadyH.nil
          go_simp
          go_at_call 50
          refine (pick_any B g (n + 4) 8 _ (show Src w3.drew B g (n + 4) from hS3) (by omega) (by omega) (by omega)).mono ?_
          rintro e w4 ⟨v4, rfl, ⟨q, rfl, hq0, hq1⟩, hS4, hg4⟩
          rw [P8.out] at hq1
          obtain ⟨j, rfl⟩ := Int.eq_ofNat_of_zero_le hq0
          have hj : (j : Int) ≤ 7 := hq1
          have hat4 := hat3.drew.grown hg4 hne (Nat.lt_of_lt_of_le hz2 hg3.size)
          have hgr4 := grown_trans (grown_drew hg3) hg4
          clear hq0
          refine hK.out _ _ trivial (fun hHeld => ?_)
          clear hK K
          refine wpAnyH_ready (rs := [8]) (by kernel_rfl) (by simp) ?_
          refine AllReadyH.cons (o := _) rfl (fun K hK => ?_) AllReadyH.nil
          go_simp
          refine hK.out _ _ trivial (fun hHeld => ?_)
          clear hK K
          refine wpAnyH_ready (rs := [9]) (by kernel_rfl) (by simp) ?_
          refine AllReadyH.cons (o := _) rfl (fun K hK => ?_) AllReadyH.nil
          go_simp
          refine hK.out _ _ trivial (fun hHeld => ?_)
          clear hK K
          refine wpAnyH_ready (rs := [10]) (by kernel_rfl) (by simp) ?_
          refine AllReadyH.cons (o := _) rfl (fun K hK => ?_) AllReadyH.nil
          go_simp
          refine hK.out _ _ trivial (fun hHeld => ?_)
          clear hK K
          refine wpAnyH_ready (rs := [11]) (by kernel_rfl) (by simp) ?_
          refine AllReadyH.cons (o := _) rfl (fun K hK => ?_) AllReadyH.nil
          go_simp
          refine hK.out _ _ trivial (fun hHeld => ?_)
          clear hK K
          refine wpAnyH_ready (rs := [12]) (by kernel_rfl) (by simp) ?_
          refine AllReadyH.cons (o := _) rfl (fun K hK => ?_) AllReadyH.nil
          have hc4 := (hat4 k (by omega)).1
          have hf4 := (hat4 k (by omega)).2
          go_simp
          refine hK.out _ _ trivial (fun hHeld => ?_)
          clear hK K
          refine wpAnyH_done (by kernel_rfl) ?_ _
          have hcv : ∀ E : Int, (Go.convert 43 9 (.slice (some ⟨w1.heap.size, 0, none⟩) t.size cap)).run Try.prog (w4.setCell ⟨w1.heap.size, k, none⟩ (.int .u8 E)) = .ok (.string (strOfNums (L.set k E))) (w4.setCell ⟨w1.heap.size, k, none⟩ (.int .u8 E)) := fun E => by
            have := (hat4.set_ (k := k) (by omega) E).str (cap := cap)
            rw [List.length_set, hLl] at this
            exact this
          go_wp2
          go_ret
          have G1 := grown_below hg1 (hb2.mono hz1)
          have G2 := grown_trans G1 hgr4
          exact ⟨_, rfl, ⟨_, rfl, by rw [strOfNums_size, List.length_set, hLl]; omega⟩, (hS4.keepB ((Below.refl w1.heap.size w4).setCell (p := ⟨w1.heap.size, k, none⟩) (Nat.le_refl _) _) (by omega)).more (by omega), grown_below G2 (((Below.refl w1.heap.size w4).setCell (p := ⟨w1.heap.size, k, none⟩) (Nat.le_refl _) _).mono hz1)⟩
        · go_simp
          go_at_call 50
          refine (pick_any B g (n + 4) 8 _ (show Src w3.drew B g (n + 4) from hS3) (by omega) (by omega) (by omega)).mono ?_
          rintro e w4 ⟨v4, rfl, ⟨q, rfl, hq0, hq1⟩, hS4, hg4⟩
          rw [P8.out] at hq1
          obtain ⟨j, rfl⟩ := Int.eq_ofNat_of_zero_le hq0
          have hj : (j : Int) ≤ 7 := hq1
          have hat4 := hat3.drew.grown hg4 hne (Nat.lt_of_lt_of_le hz2 hg3.size)
          have hgr4 := grown_trans (grown_drew hg3) hg4
          clear hq0
          have hc4 := (hat4 k (by omega)).1
          have hf4 := (hat4 k (by omega)).2
          refine hK.out _ _ trivial (fun hHeld => ?_)
          clear hK K
          refine wpAnyH_take (i := 8) (oi := _) (v := .int .u64 (IntKind.u64.wrap (j : Int))) rfl (by kernel_rfl) (by kernel_rfl) (by kernel_rfl) (fun _ _ _ h => h) (Or.inl ⟨by rfl, fun w hSw => by go_simp⟩) hHeld ?_
          refine wpAnyH_take (i := 9) (oi := _) (v := .int .u8 (IntKind.u8.wrap (2 ^ min (IntKind.u64.wrap (j : Int)).toNat 8))) rfl (by kernel_rfl) (by kernel_rfl) (by kernel_rfl) (fun _ _ _ h => h) (Or.inl ⟨by rfl, fun w hSw => by go_simp⟩) hHeld ?_
          refine wpAnyH_ready (rs := [5]) (by kernel_rfl) (by simp) ?_
          refine AllReadyH.cons (o := _) rfl (fun K hK => ?_) AllReadyH.nil
          go_simp
          refine hK.out _ _ trivial (fun hHeld => ?_)
          clear hK K
          refine wpAnyH_ready (rs := [10]) (by kernel_rfl) (by simp) ?_
          refine AllReadyH.cons (o := _) rfl (fun K hK => ?_) AllReadyH.nil
          go_simp
          refine hK.out _ _ trivial (fun hHeld => ?_)
          clear hK K
          refine wpAnyH_ready (rs := [11]) (by kernel_rfl) (by simp) ?_
          refine AllReadyH.cons (o := _) rfl (fun K hK => ?_) AllReadyH.nil
          go_simp
          refine hK.out _ _ trivial (fun hHeld => ?_)
          clear hK K
          refine wpAnyH_ready (rs := [12]) (by kernel_rfl) (by simp) ?_
          refine AllReadyH.cons (o := _) rfl (fun K hK => ?_) AllReadyH.nil
          go_simp
          refine hK.out _ _ trivial (fun hHeld => ?_)
          clear hK K
          refine wpAnyH_done (by kernel_rfl) ?_ _
          have hcv : ∀ E : Int, (Go.convert 43 9 (.slice (some ⟨w1.heap.size, 0, none⟩) t.size cap)).run Try.prog (w4.setCell ⟨w1.heap.size, k, none⟩ (.int .u8 E)) = .ok (.string (strOfNums (L.set k E))) (w4.setCell ⟨w1.heap.size, k, none⟩ (.int .u8 E)) := fun E => by
            have := (hat4.set_ (k := k) (by omega) E).str (cap := cap)
            rw [List.length_set, hLl] at this
            exact this
          go_wp2
          go_ret
          have G1 := grown_below hg1 (hb2.mono hz1)
          have G2 := grown_trans G1 hgr4
          exact ⟨_, rfl, ⟨_, rfl, by rw [strOfNums_size, List.length_set, hLl]; omega⟩, (hS4.keepB ((Below.refl w1.heap.size w4).setCell (p := ⟨w1.heap.size, k, none⟩) (Nat.le_refl _) _) (by omega)).more (by omega), grown_below G2 (((Below.refl w1.heap.size w4).setCell (p := ⟨w1.heap.size, k, none⟩) (Nat.le_refl _) _).mono hz1)⟩
      · by_cases e2 : x = 2
        · subst e2
          have hz0 : ¬ (0 : Int) < (t.size : Int) := by omega
          go_wp2
          go_ret
          exact ⟨_, rfl, ⟨t, rfl, by omega⟩, hS1.more (by omega), hg1⟩
        · have d0 : (x == 0) = false := by simpa using h0
          have d1 : (x == 1) = false := by simpa using h1
          have d2 : (x == 2) = false := by simpa using e2
          go_wp2
          go_ret
          exact ⟨_, rfl, ⟨t, rfl, by omega⟩, hS1.more (by omega), hg1⟩

end Go.Proofs.Yteigdjocjcjkiaa
/- The flash array as plain data, and what each operation makes of it. No program in it. -/
namespace Go.Proofs.Yteigdjocjcjkiaa
open Go.RowKit

structure Blk where
  er : Int
  nx : Int
  bad : Bool
  pg : List ByteArray
instance : Inhabited Blk := ⟨⟨0, 0, false, []⟩⟩
structure Fl where
  d : Int
  b : Int
  p : Int
  bs : List Blk
  fu : Int
  ke : Int
  off : Bool
  op : Int
def Blk.zero : Blk := ⟨0, 0, false, []⟩
def Fl.zero : Fl := ⟨0, 0, 0, [], 0, 0, false, 0⟩
/-- Page i of a block, block i of an array. -/
def Blk.at (x : Blk) (i : Nat) : ByteArray := x.pg.getD i ByteArray.empty
def Fl.blk (F : Fl) (i : Nat) : Blk := F.bs.getD i Blk.zero

def GeoOk (d b p : Int) : Prop := (2 ≤ d ∧ d ≤ 3) ∧ (4 ≤ b ∧ b ≤ 12) ∧ (p = 8 ∨ p = 16)
def PageOk (nx : Int) (i : Nat) (s : ByteArray) : Prop := s.size = 0 ∨ (s.size = 91 ∧ (i : Int) < nx)
def BlkOk (p : Int) (x : Blk) : Prop := (0 ≤ x.er ∧ x.er ≤ 1000) ∧ (0 ≤ x.nx ∧ x.nx ≤ p) ∧ (x.pg.length : Int) = p ∧ ∀ i, i < x.pg.length → PageOk x.nx i (x.at i)
def FlOk (F : Fl) : Prop := GeoOk F.d F.b F.p ∧ (F.bs.length : Int) = F.d * F.b ∧ (∀ i, i < F.bs.length → BlkOk F.p (F.blk i)) ∧ (-1 ≤ F.fu ∧ F.fu ≤ 1000000) ∧ (0 ≤ F.ke ∧ F.ke ≤ 91) ∧ 0 ≤ F.op
theorem GeoOk.mul {d b p : Int} (h : GeoOk d b p) : 8 ≤ d * b ∧ d * b ≤ 36 := by
  obtain ⟨⟨h1, h2⟩, ⟨h3, h4⟩, _⟩ := h
  obtain rfl | rfl : d = 2 ∨ d = 3 := by omega
  all_goals omega
theorem GeoOk.p16 {d b p : Int} (h : GeoOk d b p) : 8 ≤ p ∧ p ≤ 16 := by
  obtain ⟨_, _, h5⟩ := h; omega
theorem FlOk.len {F : Fl} (h : FlOk F) : 8 ≤ F.bs.length ∧ F.bs.length ≤ 36 := by
  have := h.1.mul; have := h.2.1; omega
theorem FlOk.plen {F : Fl} (h : FlOk F) {i : Nat} (hi : i < F.bs.length) : 8 ≤ (F.blk i).pg.length ∧ (F.blk i).pg.length ≤ 16 ∧ ((F.blk i).pg.length : Int) = F.p := by
  have := (h.2.2.1 i hi).2.2.1; have := h.1.p16; omega
/-- All texts are small enough for Go. -/
def maxI : Nat := 9223372036854775807

/-! The pages' contents. -/
def fillB (c : Nat) (n : Nat) : ByteArray := ⟨(List.replicate n (UInt8.ofNat c)).toArray⟩
theorem fillB_size (c n : Nat) : (fillB c n).size = n := by show (List.replicate n _).toArray.size = n; simp
def erasedB : ByteArray := fillB 255 91
def destB : ByteArray := fillB 0 91
theorem erasedB_size : erasedB.size = 91 := fillB_size _ _
theorem destB_size : destB.size = 91 := fillB_size _ _
def tornB (raw : ByteArray) (k : Nat) : ByteArray := raw.extract 0 k ++ fillB 255 (91 - k)
theorem tornB_size {raw : ByteArray} {k : Nat} (h : raw.size = 91) (hk : k ≤ 91) : (tornB raw k).size = 91 := by
  unfold tornB; rw [ByteArray.size_append, ByteArray.size_extract, fillB_size]; omega
theorem tornB_all {raw : ByteArray} (h : raw.size = 91) : tornB raw 91 = raw := by
  unfold tornB
  rw [← h, ByteArray.extract_zero_size]
  have : fillB 255 (raw.size - raw.size) = ByteArray.empty := by rw [Nat.sub_self]; rfl
  rw [this, ByteArray.append_empty]

/-! The operations. -/
def Fl.upd (F : Fl) (k : Nat) (x : Blk) : Fl := { F with bs := F.bs.set k x }
def Fl.tick (F : Fl) : Fl :=
  { F with op := wrap64 (F.op + 1), off := if F.fu = 0 then true else F.off, fu := if F.fu = 0 then -1 else if 0 < F.fu then F.fu - 1 else F.fu }
/-- What is programmed: a page written whole. -/
def Blk.prog (x : Blk) (raw : ByteArray) : Blk := { x with pg := x.pg.set x.nx.toNat raw, nx := x.nx + 1 }
/-- The page written torn, its pair destroyed. -/
def Blk.torn (x : Blk) (raw : ByteArray) (ke : Int) : Blk :=
  { x with pg := (if x.nx.toNat % 2 = 1 ∧ ke < 91 then x.pg.set (x.nx.toNat - 1) destB else x.pg).set x.nx.toNat (tornB raw ke.toNat), nx := x.nx + 1 }
def Fl.prog (F : Fl) (k : Nat) (raw : ByteArray) : Fl :=
  if F.fu = 0 then (if F.ke = 0 then F.tick else F.tick.upd k ((F.blk k).torn raw F.ke)) else F.tick.upd k ((F.blk k).prog raw)
/-- The first m pages emptied. -/
def emptied (l : List ByteArray) (m : Nat) : List ByteArray := List.replicate (min m l.length) ByteArray.empty ++ l.drop m
theorem emptied_length (l : List ByteArray) (m : Nat) : (emptied l m).length = l.length := by simp [emptied]; omega
def Blk.erase (x : Blk) (m : Nat) : Blk := { x with er := x.er + 1, nx := if m < x.pg.length then (x.pg.length : Int) else 0, pg := emptied x.pg m }
def Fl.erase (F : Fl) (k : Nat) : Fl := F.tick.upd k ((F.blk k).erase (if F.fu = 0 then F.ke.toNat else 91))
/-- The code of an operation that is started. -/
def Fl.code (F : Fl) : Int := if F.fu = 0 then 8 else 0

/-- What ProgramPage answers: the array and the code. -/
inductive ProgEnds (F : Fl) (block page : Int) (raw : ByteArray) : Fl → Int → Prop
  | invalid (h : ¬ FlOk F ∨ raw.size ≠ 91) : ProgEnds F block page raw Fl.zero 1
  | off (h : FlOk F) (hr : raw.size = 91) (h1 : F.off = true) : ProgEnds F block page raw F 8
  | range (h : FlOk F) (hr : raw.size = 91) (h1 : F.off = false) (h2 : ¬ (0 ≤ block ∧ block < (F.bs.length : Int)) ∨ ¬ (0 ≤ page ∧ page < F.p)) : ProgEnds F block page raw Fl.zero 2
  | bad (h : FlOk F) (hr : raw.size = 91) (h1 : F.off = false) (k n : Nat) (hk : block = k) (hn : page = n) (hkl : k < F.bs.length) (hnp : page < F.p) (h2 : (F.blk k).bad = true) : ProgEnds F block page raw Fl.zero 7
  | state (h : FlOk F) (hr : raw.size = 91) (h1 : F.off = false) (k n : Nat) (hk : block = k) (hn : page = n) (hkl : k < F.bs.length) (hnp : page < F.p) (h2 : (F.blk k).bad = false) (h3 : (F.blk k).nx ≠ page) : ProgEnds F block page raw Fl.zero 5
  | done (h : FlOk F) (hr : raw.size = 91) (h1 : F.off = false) (k n : Nat) (hk : block = k) (hn : page = n) (hkl : k < F.bs.length) (hnp : page < F.p) (h2 : (F.blk k).bad = false) (h3 : (F.blk k).nx = page) : ProgEnds F block page raw (F.prog k raw) F.code
theorem progEnds (F : Fl) (block page : Int) (raw : ByteArray) : ∃ G c, ProgEnds F block page raw G c := by
  by_cases h : FlOk F
  case neg => exact ⟨_, _, .invalid (.inl h)⟩
  by_cases hr : raw.size = 91
  case neg => exact ⟨_, _, .invalid (.inr hr)⟩
  cases ho : F.off with
  | true => exact ⟨_, _, .off h hr ho⟩
  | false =>
    by_cases h1 : 0 ≤ block ∧ block < (F.bs.length : Int)
    case neg => exact ⟨_, _, .range h hr ho (.inl h1)⟩
    by_cases h2 : 0 ≤ page ∧ page < F.p
    case neg => exact ⟨_, _, .range h hr ho (.inr h2)⟩
    have hk : block = (block.toNat : Int) := by omega
    have hn : page = (page.toNat : Int) := by omega
    have hkl : block.toNat < F.bs.length := by omega
    cases hb : (F.blk block.toNat).bad with
    | true => exact ⟨_, _, .bad h hr ho _ _ hk hn hkl h2.2 hb⟩
    | false =>
      by_cases h3 : (F.blk block.toNat).nx = page
      · exact ⟨_, _, .done h hr ho _ _ hk hn hkl h2.2 hb h3⟩
      · exact ⟨_, _, .state h hr ho _ _ hk hn hkl h2.2 hb h3⟩
/-- What EraseBlock answers. -/
inductive EraEnds (F : Fl) (block : Int) : Fl → Int → Prop
  | invalid (h : ¬ FlOk F) : EraEnds F block Fl.zero 1
  | off (h : FlOk F) (h1 : F.off = true) : EraEnds F block F 8
  | range (h : FlOk F) (h1 : F.off = false) (h2 : ¬ (0 ≤ block ∧ block < (F.bs.length : Int))) : EraEnds F block Fl.zero 2
  | bad (h : FlOk F) (h1 : F.off = false) (k : Nat) (hk : block = k) (hkl : k < F.bs.length) (h2 : (F.blk k).bad = true ∨ (F.blk k).er = 1000) : EraEnds F block Fl.zero 7
  | done (h : FlOk F) (h1 : F.off = false) (k : Nat) (hk : block = k) (hkl : k < F.bs.length) (h2 : (F.blk k).bad = false) (h3 : (F.blk k).er ≠ 1000) : EraEnds F block (F.erase k) F.code
theorem eraEnds (F : Fl) (block : Int) : ∃ G c, EraEnds F block G c := by
  by_cases h : FlOk F
  case neg => exact ⟨_, _, .invalid h⟩
  cases ho : F.off with
  | true => exact ⟨_, _, .off h ho⟩
  | false =>
    by_cases h1 : 0 ≤ block ∧ block < (F.bs.length : Int)
    case neg => exact ⟨_, _, .range h ho h1⟩
    have hk : block = (block.toNat : Int) := by omega
    have hkl : block.toNat < F.bs.length := by omega
    cases hb : (F.blk block.toNat).bad with
    | true => exact ⟨_, _, .bad h ho _ hk hkl (.inl hb)⟩
    | false =>
      by_cases h3 : (F.blk block.toNat).er = 1000
      · exact ⟨_, _, .bad h ho _ hk hkl (.inr h3)⟩
      · exact ⟨_, _, .done h ho _ hk hkl hb h3⟩
/-- What NewFlash makes. -/
def newFl (d b p : Int) : Fl := ⟨d, b, p, List.replicate (d * b).toNat ⟨0, 0, false, List.replicate p.toNat ByteArray.empty⟩, -1, 0, false, 0⟩
/-- What PowerOn makes; what ArmFuse makes. -/
def Fl.on (F : Fl) : Fl := { F with off := false, fu := -1 }
def Fl.arm (F : Fl) (fu ke : Int) : Fl := { F with fu := fu, ke := ke }
inductive ArmEnds (F : Fl) (fu ke : Int) : Fl → Int → Prop
  | invalid (h : ¬ FlOk F) : ArmEnds F fu ke Fl.zero 1
  | off (h : FlOk F) (h1 : F.off = true) : ArmEnds F fu ke Fl.zero 8
  | range (h : FlOk F) (h1 : F.off = false) (h2 : ¬ (-1 ≤ fu ∧ fu ≤ 1000000) ∨ ¬ (0 ≤ ke ∧ ke ≤ 91)) : ArmEnds F fu ke Fl.zero 2
  | done (h : FlOk F) (h1 : F.off = false) (h2 : -1 ≤ fu ∧ fu ≤ 1000000) (h3 : 0 ≤ ke ∧ ke ≤ 91) : ArmEnds F fu ke (F.arm fu ke) 0
theorem armEnds (F : Fl) (fu ke : Int) : ∃ G c, ArmEnds F fu ke G c := by
  by_cases h : FlOk F
  case neg => exact ⟨_, _, .invalid h⟩
  cases ho : F.off with
  | true => exact ⟨_, _, .off h ho⟩
  | false =>
    by_cases h1 : -1 ≤ fu ∧ fu ≤ 1000000
    case neg => exact ⟨_, _, .range h ho (.inl h1)⟩
    by_cases h2 : 0 ≤ ke ∧ ke ≤ 91
    case neg => exact ⟨_, _, .range h ho (.inr h2)⟩
    exact ⟨_, _, .done h ho h1 h2⟩
/-- What ReadRaw answers. -/
inductive ReadEnds (F : Fl) (block page : Int) : ByteArray → Int → Prop
  | invalid (h : ¬ FlOk F) : ReadEnds F block page ⟨#[]⟩ 1
  | off (h : FlOk F) (h1 : F.off = true) : ReadEnds F block page ⟨#[]⟩ 8
  | range (h : FlOk F) (h1 : F.off = false) (h2 : ¬ (0 ≤ block ∧ block < (F.bs.length : Int)) ∨ ¬ (0 ≤ page ∧ page < F.p)) : ReadEnds F block page ⟨#[]⟩ 2
  | empty (h : FlOk F) (h1 : F.off = false) (k n : Nat) (hk : block = k) (hn : page = n) (hkl : k < F.bs.length) (hnp : page < F.p) (h2 : (F.blk k).at n = ByteArray.empty) : ReadEnds F block page erasedB 0
  | full (h : FlOk F) (h1 : F.off = false) (k n : Nat) (hk : block = k) (hn : page = n) (hkl : k < F.bs.length) (hnp : page < F.p) (h2 : (F.blk k).at n ≠ ByteArray.empty) : ReadEnds F block page ((F.blk k).at n) 0
theorem readEnds (F : Fl) (block page : Int) : ∃ s c, ReadEnds F block page s c := by
  by_cases h : FlOk F
  case neg => exact ⟨_, _, .invalid h⟩
  cases ho : F.off with
  | true => exact ⟨_, _, .off h ho⟩
  | false =>
    by_cases h1 : 0 ≤ block ∧ block < (F.bs.length : Int)
    case neg => exact ⟨_, _, .range h ho (.inl h1)⟩
    by_cases h2 : 0 ≤ page ∧ page < F.p
    case neg => exact ⟨_, _, .range h ho (.inr h2)⟩
    have hk : block = (block.toNat : Int) := by omega
    have hn : page = (page.toNat : Int) := by omega
    have hkl : block.toNat < F.bs.length := by omega
    by_cases h3 : (F.blk block.toNat).at page.toNat = ByteArray.empty
    · exact ⟨_, _, .empty h ho _ _ hk hn hkl h2.2 h3⟩
    · exact ⟨_, _, .full h ho _ _ hk hn hkl h2.2 h3⟩

/-! The marks that the laws' helpers write. -/
/-- The digits of a number, in tens. -/
def digs (k : Nat) : List Int := if k = 0 then [] else digs (k / 10) ++ [((48 + k % 10 : Nat) : Int)]
  termination_by k
  decreasing_by omega
theorem digs_pos {k : Nat} (h : 0 < k) : digs k = digs (k / 10) ++ [((48 + k % 10 : Nat) : Int)] := by
  rw [digs, if_neg (by omega)]
theorem digs_zero : digs 0 = [] := by rw [digs]; rfl
def markT (k : Nat) : ByteArray := strOfNums (109 :: digs k)
def markB (k : Nat) (x : Blk) : Blk := ⟨(k : Int), ((k + 1 : Nat) : Int), decide ((k + 2) % 3 = 0), (List.range x.pg.length).map fun t => markT (k + 3 + t)⟩
def markLs : Nat → List Blk → List Blk
  | _, [] => []
  | k, x :: L => markB k x :: markLs (k + 3 + x.pg.length) L
/-- How many marks the first i blocks take. -/
def markN : List Blk → Nat
  | [] => 0
  | x :: L => 3 + x.pg.length + markN L
theorem markLs_length : ∀ (L : List Blk) (k : Nat), (markLs k L).length = L.length
  | [], _ => rfl
  | x :: L, k => by simp [markLs, markLs_length L]
theorem markN_append : ∀ (L M : List Blk), markN (L ++ M) = markN L + markN M
  | [], M => by simp [markN]
  | x :: L, M => by simp only [List.cons_append, markN, markN_append L M]; omega
theorem markLs_append : ∀ (L M : List Blk) (k : Nat), markLs k (L ++ M) = markLs k L ++ markLs (k + markN L) M
  | [], M, k => by simp [markLs, markN]
  | x :: L, M, k => by
    simp only [List.cons_append, markLs, markN, markLs_append L M]
    rw [show k + 3 + x.pg.length + markN L = k + (3 + x.pg.length + markN L) by omega]
theorem markN_take {L : List Blk} {i : Nat} (h : i < L.length) : markN (L.take (i + 1)) = markN (L.take i) + (3 + (L.getD i Blk.zero).pg.length) := by
  rw [List.take_succ_eq_append_getElem h, markN_append, List.getD_eq_getElem?_getD, List.getElem?_eq_getElem h]
  simp [markN]
theorem markLs_take {L : List Blk} {i : Nat} (k : Nat) (h : i < L.length) : markLs k (L.take (i + 1)) = markLs k (L.take i) ++ [markB (k + markN (L.take i)) (L.getD i Blk.zero)] := by
  rw [List.take_succ_eq_append_getElem h, markLs_append, List.getD_eq_getElem?_getD, List.getElem?_eq_getElem h]
  simp [markLs]
theorem markN_le {L : List Blk} (i : Nat) : markN (L.take i) ≤ markN L := by
  have := markN_append (L.take i) (L.drop i)
  rw [List.take_append_drop] at this
  omega
theorem markLs_at {L : List Blk} {i : Nat} (k : Nat) (h : i < L.length) : (markLs k L).getD i Blk.zero = markB (k + markN (L.take i)) (L.getD i Blk.zero) := by
  have e : markLs k L = markLs k (L.take (i + 1)) ++ markLs (k + markN (L.take (i + 1))) (L.drop (i + 1)) := by rw [← markLs_append, List.take_append_drop]
  rw [e, markLs_take k h, List.getD_eq_getElem?_getD, List.append_assoc, List.getElem?_append_right (by rw [markLs_length]; simp; omega), markLs_length, List.length_take, Nat.min_eq_left (by omega), Nat.sub_self]
  rfl
end Go.Proofs.Yteigdjocjcjkiaa
/- A block of memory whose cells are all known (a variable of a struct's type, say). -/
namespace Go.Proofs.Yteigdjocjcjkiaa
open Go.RowKit
/-- Block g is a row of the cells cs, none frozen. -/
def Rw (w : World) (g : Nat) (t : TypeId) (cs : Array Value) : Prop := w.heap[g]? = some (.cells cs t (0, 0))
section
variable {w w' : World} {g B : Nat} {t : TypeId} {cs : Array Value}
theorem Rw.lt (h : Rw w g t cs) : g < w.heap.size := by
  rcases Nat.lt_or_ge g w.heap.size with hlt | hge
  · exact hlt
  · unfold Rw at h; rw [Array.getElem?_eq_none hge] at h; cases h
theorem Rw.cell (h : Rw w g t cs) (j : Nat) : w.cell? ⟨g, j, none⟩ = cs[j]? := cell_of_row w g j _ t (0, 0) h
theorem Rw.free (h : Rw w g t cs) (j : Nat) : w.frozen? ⟨g, j, none⟩ = false := frozen_of_row w g j _ t h
theorem Rw.below (h : Rw w g t cs) (hb : Below B w w') (hg : g < B) : Rw w' g t cs := (hb.block g hg).trans h
theorem Rw.set_ (h : Rw w g t cs) (j : Nat) (u : Value) : Rw (w.setCell ⟨g, j, none⟩ u) g t (cs.setIfInBounds j u) := by
  unfold Rw at h ⊢; exact heap_setCell_same w g j _ t _ h
theorem Rw.far (h : Rw w g t cs) {p : Addr} (hp : g ≠ p.block) (u : Value) : Rw (w.setCell p u) g t cs := (Below.heap_setCell w p u g hp).trans h
theorem Rw.alloc (h : Rw w g t cs) (o : Obj) : Rw (w.alloc o) g t cs := (Below.heap_alloc w o g h.lt).trans h
theorem Rw.new (w : World) (t : TypeId) (cs : Array Value) : Rw (w.alloc (.cells cs t)) w.heap.size t cs := heap_alloc_new w _
theorem Rw.four {a b c d : Value} (h : Rw w g t #[a, b, c, d]) : w.cell? ⟨g, 0, none⟩ = some a ∧ w.cell? ⟨g, 1, none⟩ = some b ∧ w.cell? ⟨g, 2, none⟩ = some c ∧ w.cell? ⟨g, 3, none⟩ = some d :=
  ⟨h.cell 0, h.cell 1, h.cell 2, h.cell 3⟩
theorem Rw.three {a b c : Value} (h : Rw w g t #[a, b, c]) : w.cell? ⟨g, 0, none⟩ = some a ∧ w.cell? ⟨g, 1, none⟩ = some b ∧ w.cell? ⟨g, 2, none⟩ = some c :=
  ⟨h.cell 0, h.cell 1, h.cell 2⟩
theorem Rw.eight {a b c d e f i j : Value} (h : Rw w g t #[a, b, c, d, e, f, i, j]) : w.cell? ⟨g, 0, none⟩ = some a ∧ w.cell? ⟨g, 1, none⟩ = some b ∧ w.cell? ⟨g, 2, none⟩ = some c ∧ w.cell? ⟨g, 3, none⟩ = some d ∧
    w.cell? ⟨g, 4, none⟩ = some e ∧ w.cell? ⟨g, 5, none⟩ = some f ∧ w.cell? ⟨g, 6, none⟩ = some i ∧ w.cell? ⟨g, 7, none⟩ = some j :=
  ⟨h.cell 0, h.cell 1, h.cell 2, h.cell 3, h.cell 4, h.cell 5, h.cell 6, h.cell 7⟩
theorem Rw.frees (h : Rw w g t cs) : w.frozen? ⟨g, 0, none⟩ = false ∧ w.frozen? ⟨g, 1, none⟩ = false ∧ w.frozen? ⟨g, 2, none⟩ = false ∧ w.frozen? ⟨g, 3, none⟩ = false ∧
    w.frozen? ⟨g, 4, none⟩ = false ∧ w.frozen? ⟨g, 5, none⟩ = false ∧ w.frozen? ⟨g, 6, none⟩ = false ∧ w.frozen? ⟨g, 7, none⟩ = false :=
  ⟨h.free 0, h.free 1, h.free 2, h.free 3, h.free 4, h.free 5, h.free 6, h.free 7⟩
theorem Rw.two_new (w : World) (t1 t2 : TypeId) (c1 c2 : Array Value) : Rw ((w.alloc (.cells c1 t1)).alloc (.cells c2 t2)) w.heap.size t1 c1 ∧
    Rw ((w.alloc (.cells c1 t1)).alloc (.cells c2 t2)) (w.heap.size + 1) t2 c2 ∧ Below w.heap.size w ((w.alloc (.cells c1 t1)).alloc (.cells c2 t2)) := by
  refine ⟨(Rw.new w t1 c1).alloc _, ?_, ((Below.refl w.heap.size w).alloc (Nat.le_refl _) _).alloc (by simp) _⟩
  have := Rw.new (w.alloc (.cells c1 t1)) t2 c2
  simpa using this
theorem Rw.three_new (w : World) (t1 t2 t3 : TypeId) (c1 c2 c3 : Array Value) : Rw (((w.alloc (.cells c1 t1)).alloc (.cells c2 t2)).alloc (.cells c3 t3)) w.heap.size t1 c1 ∧
    Rw (((w.alloc (.cells c1 t1)).alloc (.cells c2 t2)).alloc (.cells c3 t3)) (w.heap.size + 1) t2 c2 ∧ Rw (((w.alloc (.cells c1 t1)).alloc (.cells c2 t2)).alloc (.cells c3 t3)) (w.heap.size + 1 + 1) t3 c3 ∧
    Below w.heap.size w (((w.alloc (.cells c1 t1)).alloc (.cells c2 t2)).alloc (.cells c3 t3)) := by
  obtain ⟨h1, h2, h3⟩ := Rw.two_new w t1 t2 c1 c2
  refine ⟨h1.alloc _, h2.alloc _, ?_, h3.alloc (by simp; omega) _⟩
  have := Rw.new ((w.alloc (.cells c1 t1)).alloc (.cells c2 t2)) t3 c3
  simpa using this
theorem Rw.farA (h : Rw w g t cs) {g' k : Nat} (hp : g ≠ g') (u : Value) : Rw (w.setCell ⟨g', k, none⟩ u) g t cs := h.far (p := ⟨g', k, none⟩) hp u
theorem bset {a : World} (h : Below B a w) {g k : Nat} (hg : B ≤ g) (u : Value) : Below B a (w.setCell ⟨g, k, none⟩ u) := h.setCell (p := ⟨g, k, none⟩) hg u
end
end Go.Proofs.Yteigdjocjcjkiaa
/- Numbers between bounds, geometries, in the model and in the program: the contracts. -/
namespace Go.Proofs.Yteigdjocjcjkiaa
open Go.RowKit
set_option linter.unusedVariables false

theorem inr_any (n l h : Int) (w : World) : Calls Try.prog 47 #[.int .i64 n, .int .i64 l, .int .i64 h] w fun e w' => e = .returned (.bool (decide (l ≤ n) && decide (n ≤ h))) ∧ w = w' := by
  by_cases h1 : l ≤ n
  · have d1 : decide (l ≤ n) = true := by simp; omega
    have d2 : decide (n ≥ l) = true := by simp; omega
    go_enter Try.func47, Try.ntmps47
    go_wp2
    go_ret
    exact ⟨ret_bool (by simp [h1]), rfl⟩
  · have d1 : decide (l ≤ n) = false := by simp; omega
    have d2 : decide (n ≥ l) = false := by simp; omega
    go_enter Try.func47, Try.ntmps47
    go_wp2
    go_ret
    exact ⟨ret_bool (by simp), rfl⟩
theorem inr_yes (n l h : Int) (w : World) (h1 : l ≤ n) (h2 : n ≤ h) : Calls Try.prog 47 #[.int .i64 n, .int .i64 l, .int .i64 h] w fun e w' => e = .returned (.bool true) ∧ w = w' := by
  have := inr_any n l h w
  rwa [show (decide (l ≤ n) && decide (n ≤ h)) = true by simp [h1, h2]] at this
theorem inr_no (n l h : Int) (w : World) (h1 : ¬ (l ≤ n ∧ n ≤ h)) : Calls Try.prog 47 #[.int .i64 n, .int .i64 l, .int .i64 h] w fun e w' => e = .returned (.bool false) ∧ w = w' := by
  have := inr_any n l h w
  rwa [show (decide (l ≤ n) && decide (n ≤ h)) = false by
    by_cases a : l ≤ n
    · have : ¬ n ≤ h := fun b => h1 ⟨a, b⟩
      simp [this]
    · simp [a]] at this
theorem bool_of {P : Prop} (b : Bool) (h : b = true ↔ P) : (P → b = true) ∧ (¬ P → b = false) := by
  refine ⟨h.2, fun n => ?_⟩
  cases b with
  | true => exact absurd (h.1 rfl) n
  | false => rfl
theorem prop_dec' (P : Prop) : ∃ b : Bool, b = true ↔ P := by
  by_cases h : P
  · exact ⟨true, by simp [h]⟩
  · exact ⟨false, by simp [h]⟩
theorem geo_not {d b p : Int} (h : ¬ GeoOk d b p) : ¬ (2 ≤ d ∧ d ≤ 3) ∨ ((2 ≤ d ∧ d ≤ 3) ∧ ¬ (4 ≤ b ∧ b ≤ 12)) ∨ ((2 ≤ d ∧ d ≤ 3) ∧ (4 ≤ b ∧ b ≤ 12) ∧ p ≠ 8 ∧ p ≠ 16) := by
  unfold GeoOk at h
  by_cases h1 : 2 ≤ d ∧ d ≤ 3
  · by_cases h2 : 4 ≤ b ∧ b ≤ 12
    · by_cases h3 : p = 8
      · exact absurd ⟨h1, h2, .inl h3⟩ h
      · by_cases h4 : p = 16
        · exact absurd ⟨h1, h2, .inr h4⟩ h
        · exact .inr (.inr ⟨h1, h2, h3, h4⟩)
    · exact .inr (.inl ⟨h1, h2⟩)
  · exact .inl h1
theorem specGeo_any (d b p : Int) (r : Bool) (w : World) (h : r = true ↔ GeoOk d b p) :
    Calls Try.prog 54 #[.agg #[.int .i64 d, .int .i64 b, .int .i64 p]] w fun e w' => e = .returned (.bool r) ∧ Below w.heap.size w w' := by
  have hb0 := (Below.refl w.heap.size w).alloc (Nat.le_refl _) (.cells #[.int .i64 d, .int .i64 b, .int .i64 p] 28)
  obtain ⟨hy, hn⟩ := bool_of r h
  by_cases hg : GeoOk d b p
  · obtain rfl := hy hg
    obtain ⟨h1, h2, h3⟩ := hg
    clear h hy hn
    rcases h3 with rfl | rfl
    all_goals
      go_enter Try.func54, Try.ntmps54
      go_wp2_with fail
      refine (inr_yes d 2 3 _ h1.1 h1.2).mono ?_
      rintro e w1 ⟨rfl, rfl⟩
      go_wp2_with fail
      refine (inr_yes b 4 12 _ h2.1 h2.2).mono ?_
      rintro e w1 ⟨rfl, rfl⟩
      go_wp2
      go_ret
      exact ⟨rfl, hb0⟩
  · obtain rfl := hn hg
    clear h hy hn
    rcases geo_not hg with h1 | ⟨h1, h2⟩ | ⟨h1, h2, h3, h4⟩
    · go_enter Try.func54, Try.ntmps54
      go_wp2_with fail
      refine (inr_no d 2 3 _ h1).mono ?_
      rintro e w1 ⟨rfl, rfl⟩
      go_wp2
      go_ret
      exact ⟨rfl, hb0⟩
    · go_enter Try.func54, Try.ntmps54
      go_wp2_with fail
      refine (inr_yes d 2 3 _ h1.1 h1.2).mono ?_
      rintro e w1 ⟨rfl, rfl⟩
      go_wp2_with fail
      refine (inr_no b 4 12 _ h2).mono ?_
      rintro e w1 ⟨rfl, rfl⟩
      go_wp2
      go_ret
      exact ⟨rfl, hb0⟩
    · have q1 : (p == 8) = false := by simp [h3]
      have q2 : (p == 16) = false := by simp [h4]
      go_enter Try.func54, Try.ntmps54
      go_wp2_with fail
      refine (inr_yes d 2 3 _ h1.1 h1.2).mono ?_
      rintro e w1 ⟨rfl, rfl⟩
      go_wp2_with fail
      refine (inr_yes b 4 12 _ h2.1 h2.2).mono ?_
      rintro e w1 ⟨rfl, rfl⟩
      go_wp2
      go_ret
      exact ⟨rfl, hb0⟩
theorem implGeo_any (d b p : Int) (r : Bool) (w : World) (h : r = true ↔ GeoOk d b p) :
    Calls Try.prog 68 #[.agg #[.int .i64 d, .int .i64 b, .int .i64 p]] w fun e w' => e = .returned (.bool r) ∧ Below w.heap.size w w' := by
  have hb0 := (Below.refl w.heap.size w).alloc (Nat.le_refl _) (.cells #[.int .i64 d, .int .i64 b, .int .i64 p] 28)
  obtain ⟨hy, hn⟩ := bool_of r h
  have hd1 : ∀ a c : Int, (2 : Int) ≤ d → decide (d ≥ 2) = true := fun _ _ h => by simp; omega
  have key : r = (decide (d ≥ 2) && decide (d ≤ 3) && decide (b ≥ 4) && decide (b ≤ 12) && (p == 8 || p == 16)) := by
    rw [Bool.eq_iff_iff, h]
    unfold GeoOk
    simp
    omega
  clear h hy hn hd1
  have HKey := Lib.hid key
  clear key
  have E : ∀ x : Bool, ((decide (d ≥ 2) && decide (d ≤ 3) && decide (b ≥ 4) && decide (b ≤ 12) && (p == 8 || p == 16)) = x) → x = r := fun x hx => by rw [HKey.out, hx]
  have HE := Lib.hid E
  clear E
  by_cases h1 : 2 ≤ d
  · by_cases h2 : d ≤ 3
    · by_cases h3 : 4 ≤ b
      · by_cases h4 : b ≤ 12
        · by_cases h5 : p = 8
          · subst h5
            go_enter Try.func68, Try.ntmps68
            go_wp2
            go_ret
            exact ⟨ret_bool (HE.out _ (by simp [h1, h2, h3, h4])), hb0⟩
          · have h6 : (p == 8) = false := by simp [h5]
            go_enter Try.func68, Try.ntmps68
            go_wp2
            go_ret
            exact ⟨ret_bool (HE.out _ (by simp [h1, h2, h3, h4, h6])), hb0⟩
        · go_enter Try.func68, Try.ntmps68
          go_wp2
          go_ret
          exact ⟨ret_bool (HE.out _ (by simp; omega)), hb0⟩
      · go_enter Try.func68, Try.ntmps68
        go_wp2
        go_ret
        exact ⟨ret_bool (HE.out _ (by simp; omega)), hb0⟩
    · go_enter Try.func68, Try.ntmps68
      go_wp2
      go_ret
      exact ⟨ret_bool (HE.out _ (by simp; omega)), hb0⟩
  · go_enter Try.func68, Try.ntmps68
    go_wp2
    go_ret
    exact ⟨ret_bool (HE.out _ (by simp; omega)), hb0⟩
theorem total_any (d b p : Int) (w : World) (h : GeoOk d b p) : Calls Try.prog 69 #[.agg #[.int .i64 d, .int .i64 b, .int .i64 p]] w fun e w' => e = .returned (.int .i64 (d * b)) ∧ Below w.heap.size w w' := by
  have hm := h.mul
  have hw : IntKind.i64.wrap (d * b) = d * b := IntWalk.i64_in _ (by omega)
  have B0 := Lib.hid ((Below.refl w.heap.size w).alloc (Nat.le_refl _) (.cells #[.int .i64 d, .int .i64 b, .int .i64 p] 28))
  clear h
  go_enter Try.func69, Try.ntmps69
  go_wp2
  go_ret
  exact ⟨rfl, B0.out⟩
end Go.Proofs.Yteigdjocjcjkiaa
/- Pages without error correction, in the model and in the program: erased, torn, destroyed, a bit inverted: the contracts. -/
namespace Go.Proofs.Yteigdjocjcjkiaa
open Go.RowKit
set_option linter.unusedVariables false

/-- n bytes c, as a list of numbers. -/
theorem fillB_nums (c n : Nat) : strOfNums (List.replicate n (c : Int)) = fillB c n := by
  unfold strOfNums fillB
  rw [List.map_replicate]
  rfl
def FillPost (c n : Nat) (w : World) (e : Ending) (w' : World) : Prop := e = .returned (.string (fillB c n)) ∧ Below w.heap.size w w'
set_option maxRecDepth 100000 in
theorem fill_any (c n : Nat) (w : World) (hc : c < 256) (hn : n ≤ 1048576) :
    Calls Try.prog 94 #[.int .u8 c, .int .i64 n] w (FillPost c n w) := by
  have hni : (n : Int) ≤ 1048576 := by omega
  have hci : (c : Int) < 256 := by omega
  go_enter Try.func94, Try.ntmps94
  go_wp2
  go_loopw [5, 6] (fun u i wr => ∃ k : Nat, k ≤ n ∧ i = .int .i64 k ∧ BytesOwn wr w.heap.size u (List.replicate k (c : Int)) ∧ Below w.heap.size w wr) (fun _ i _ => n - (intOf i).toNat)
  case atStart => exact ⟨0, by omega, rfl, BytesOwn.made w (Nat.le_refl _), (Below.refl _ _).alloc (Nat.le_refl _) _⟩
  case round =>
    obtain ⟨k, hk, rfl, hown, hb⟩ := hrel
    have hz := hb.size
    by_cases hlt : k < n
    · have hki : (k : Int) < (n : Int) := by omega
      go_wp2_with (at_builtin; refine wpList_append_byte rfl _ _ rfl _ _ rfl hown hb hz _ _ rfl (by simp; omega) ?_; intro v' w1 hown' hb'; clear hown hb)
      go_roundw
      case rel => exact ⟨k + 1, by omega, by go_num, by rw [List.replicate_succ']; exact hown', hb'⟩
      case measure => simp [intOf]; omega
    · obtain rfl : k = n := by omega
      have hcv := bytes_str hown
      rw [fillB_nums] at hcv
      clear hown
      go_wp2
      go_ret
      exact ⟨rfl, hb⟩
theorem repeatExtra : Go.Proofs.Builder.Extra Try.prog Try.laysRepeat_ren := {
  sizeBuilder := by kernel_rfl
  liesBuilder := by kernel_rfl
  t5 := Try.laysRepeat.t5
  a5 := Try.laysRepeat.a5
  z5 := Try.laysRepeat.z5
  v5 := Try.laysRepeat.v5
  infoByte := by kernel_rfl
  cellsByte := by kernel_rfl
  sizeByte := by kernel_rfl
  neB5 := by decide }
theorem repeat_any (c n : Nat) (w : World) (hn : n ≤ 1048576) :
    Calls Try.prog 61 #[.string (strOfNums [(c : Int)]), .int .i64 n] w (FillPost c n w) := by
  have h := Go.Proofs.Any.strings_Repeat Try.laysRepeat repeatExtra (strOfNums [(c : Int)]) n w (by omega) (by rw [strOfNums_size]; simp; omega)
  refine Calls.mono (show Calls Try.prog 61 _ _ _ from h) ?_
  rintro e w' ⟨rfl, hb⟩
  refine ⟨ret_str ?_, hb⟩
  unfold fillB strOfNums
  simp only [List.map_cons, List.map_nil]
  apply ByteArray.ext
  show (Lib.repeatL [UInt8.ofNat (c : Int).toNat] n).toArray = (List.replicate n (UInt8.ofNat c)).toArray
  rw [Int.toNat_natCast]
  congr 1
  clear h hb hn
  induction n with
  | zero => rfl
  | succ n ih => simp only [Lib.repeatL, ih, List.replicate_succ]; rfl
theorem specErased_any (w : World) : Calls Try.prog 76 #[] w (FillPost 255 91 w) := by
  go_enter Try.func76, Try.ntmps76
  go_wp2_with fail
  refine (fill_any 255 91 w (by omega) (by omega)).mono ?_
  rintro e w1 ⟨rfl, hb⟩
  go_wp2
  go_ret
  exact ⟨rfl, hb⟩
theorem specDestroyed_any (w : World) : Calls Try.prog 66 #[] w (FillPost 0 91 w) := by
  go_enter Try.func66, Try.ntmps66
  go_wp2_with fail
  refine (fill_any 0 91 w (by omega) (by omega)).mono ?_
  rintro e w1 ⟨rfl, hb⟩
  go_wp2
  go_ret
  exact ⟨rfl, hb⟩
theorem implErased_any (w : World) : Calls Try.prog 57 #[] w (FillPost 255 91 w) := by
  go_enter Try.func57, Try.ntmps57
  go_wp2_with fail
  refine (repeat_any 255 91 w (by omega)).mono ?_
  rintro e w1 ⟨rfl, hb⟩
  go_wp2
  go_ret
  exact ⟨rfl, hb⟩
theorem implDestroyed_any (w : World) : Calls Try.prog 29 #[] w (FillPost 0 91 w) := by
  go_enter Try.func29, Try.ntmps29
  go_wp2_with fail
  refine (repeat_any 0 91 w (by omega)).mono ?_
  rintro e w1 ⟨rfl, hb⟩
  go_wp2
  go_ret
  exact ⟨rfl, hb⟩
set_option maxRecDepth 100000 in
theorem torn_any (raw : ByteArray) (k : Nat) (w : World) (hr : raw.size = 91) (hk : k ≤ 91) :
    Calls Try.prog 65 #[.string raw, .int .i64 k] w fun e w' => e = .returned (.string (tornB raw k)) ∧ Below w.heap.size w w' := by
  have HS := Lib.hid (tornB_size hr hk)
  have hki : (k : Int) ≤ 91 := by omega
  have hkr : (k : Int) ≤ (raw.size : Int) := by omega
  have e : IntKind.i64.wrap ((91 : Int) - (k : Int)) = ((91 - k : Nat) : Int) := by rw [IntKind.wrap_i64]; omega
  have HF := Lib.hid (fun (W : World) => (show Calls Try.prog 94 #[.int .u8 255, .int .i64 (IntKind.i64.wrap (91 - (k : Int)))] W (FillPost 255 (91 - k) W) by rw [e]; exact fill_any 255 (91 - k) W (by omega) (by omega)))
  have h1 := fillB_size 255 (91 - k)
  clear e
  go_enter Try.func65, Try.ntmps65
  go_wp2_with fail
  go_region_held3 (fun w' => Below w.heap.size w w')
    (first
      | exact (Below.refl _ _).drew
      | exact (Below.refl w.heap.size w).drew.trans hb1)
    (first
      | (go_at_call 94
         refine (HF.out _).mono ?_
         rintro e w1 ⟨rfl, hb1⟩))
  rename_i hS1
  go_wp2
  go_ret
  exact ⟨rfl, hS1⟩
theorem fillB_extract (c n k : Nat) : (fillB c n).extract k n = fillB c (n - k) := by
  apply ByteArray.ext
  unfold fillB
  simp
/-- What TornPage answers. -/
inductive TornEnds (raw : ByteArray) (k : Int) : ByteArray → Int → Prop
  | invalid (h : raw.size ≠ 91) : TornEnds raw k ⟨#[]⟩ 1
  | range (h : raw.size = 91) (h1 : ¬ (0 ≤ k ∧ k ≤ 91)) : TornEnds raw k ⟨#[]⟩ 2
  | done (h : raw.size = 91) (n : Nat) (hn : k = n) (h1 : n ≤ 91) : TornEnds raw k (tornB raw n) 0
theorem tornEnds (raw : ByteArray) (k : Int) : ∃ s c, TornEnds raw k s c := by
  by_cases h : raw.size = 91
  case neg => exact ⟨_, _, .invalid h⟩
  by_cases h1 : 0 ≤ k ∧ k ≤ 91
  case neg => exact ⟨_, _, .range h h1⟩
  exact ⟨_, _, .done h k.toNat (by omega) (by omega)⟩
def PairPost (s : ByteArray) (c : Int) (w : World) (e : Ending) (w' : World) : Prop := e = .returned (.tuple #[.string s, .int .i64 c]) ∧ Below w.heap.size w w'
theorem validKeep_any (k : Int) (b : Bool) (w : World) (hb : b = true ↔ (0 ≤ k ∧ k ≤ 91)) : Calls Try.prog 60 #[.int .i64 k] w fun e w' => e = .returned (.bool b) ∧ w = w' := by
  by_cases h1 : 0 ≤ k
  · have d1 : decide (0 ≤ k) = true := by simp; omega
    have d2 : decide (k ≥ 0) = true := by simp; omega
    go_enter Try.func60, Try.ntmps60
    go_wp2
    go_ret
    exact ⟨ret_bool (by rw [Bool.eq_iff_iff, hb]; simp [h1]), rfl⟩
  · have d1 : decide (0 ≤ k) = false := by simp; omega
    have d2 : decide (k ≥ 0) = false := by simp; omega
    go_enter Try.func60, Try.ntmps60
    go_wp2
    go_ret
    exact ⟨ret_bool (by rw [Bool.eq_iff_iff, hb]; simp; omega), rfl⟩
set_option maxRecDepth 100000 in
theorem implTorn_any (raw : ByteArray) (k : Int) (s : ByteArray) (c : Int) (w : World) (hs : raw.size ≤ 9223372036854775807) (h : TornEnds raw k s c) :
    Calls Try.prog 96 #[.string raw, .int .i64 k] w (PairPost s c w) := by
  rcases h with h | ⟨h, h1⟩ | ⟨h, n, rfl, h1⟩
  · have hd : ((raw.size : Int) != 91) = true := by simp; omega
    go_enter Try.func96, Try.ntmps96
    go_wp2
    go_ret2
    exact ⟨rfl, Below.refl _ _⟩
  · have hd : ((raw.size : Int) != 91) = false := by rw [h]; rfl
    go_enter Try.func96, Try.ntmps96
    go_wp2_with fail
    refine (validKeep_any k false w (by simp; omega)).mono ?_
    rintro e w' ⟨rfl, rfl⟩
    go_wp2
    go_ret2
    exact ⟨rfl, Below.refl _ _⟩
  · have hd : ((raw.size : Int) != 91) = false := by rw [h]; rfl
    have HI := Lib.hid (fun (W : World) => validKeep_any (n : Int) true W (by simp; omega))
    have HT := Lib.hid (show raw.extract 0 n ++ (fillB 255 91).extract n 91 = tornB raw n by
      unfold tornB
      rw [fillB_extract])
    have HS := Lib.hid (tornB_size h h1)
    generalize tornB raw n = t at *
    have hni : (n : Int) ≤ 91 := by omega
    have hr : (n : Int) ≤ (raw.size : Int) := by omega
    have h9 := fillB_size 255 91
    generalize hq : fillB 255 91 = q at *
    have HQ0 := Lib.hid hq
    clear hq
    go_enter Try.func96, Try.ntmps96
    go_wp2_with fail
    refine (HI.out _).mono ?_
    rintro e w' ⟨rfl, rfl⟩
    go_wp2_with fail
    have HE := Lib.hid (fun (W : World) => implErased_any W)
    have HQ := Lib.hid (show fillB 255 91 = q from HQ0.out)
    go_region_held3 (fun w' => Below w.heap.size w w')
      (first
        | exact (Below.refl _ _).drew
        | exact (Below.refl w.heap.size w).drew.trans hb1)
      (first
        | (go_at_call 57
           refine (HE.out _).mono ?_
           rintro e w1 ⟨rfl, hb1⟩
           rw [HQ.out]))
    rename_i hS1
    go_wp2
    go_ret2
    exact ⟨by rw [HT.out]; rfl, hS1⟩
theorem implIsErased_any (raw : ByteArray) (b : Bool) (w : World) (hs : raw.size ≤ 9223372036854775807) (hb : b = true ↔ raw = erasedB) :
    Calls Try.prog 24 #[.string raw] w fun e w' => e = .returned (.bool b) ∧ Below w.heap.size w w' := by
  have HE := Lib.hid (fun (W : World) => implErased_any W)
  have HB : (raw.toList == (fillB 255 91).toList) = b := by
    by_cases h : raw = fillB 255 91
    · rw [str_same h]; exact (hb.2 h).symm
    · rw [str_diff h]; cases b with
      | true => exact absurd (hb.1 rfl) h
      | false => rfl
  clear hb
  have h9 := fillB_size 255 91
  generalize hq : fillB 255 91 = q at *
  have HQ := Lib.hid hq
  clear hq
  go_enter Try.func24, Try.ntmps24
  go_wp2_with fail
  refine (HE.out _).mono ?_
  rintro e w1 ⟨rfl, hb⟩
  rw [HQ.out]
  go_wp2
  go_ret
  exact ⟨rfl, hb⟩
end Go.Proofs.Yteigdjocjcjkiaa
/- The register's functions, in the model and in the program: their contracts. -/
namespace Go.Proofs.Yteigdjocjcjkiaa
open Go.RowKit


theorem l00In_any (n lo hi : Int) (w : World) :
    Calls Try.prog 47 #[.int .i64 n, .int .i64 lo, .int .i64 hi] w fun e w' => e = .returned (.bool (decide (lo ≤ n ∧ n ≤ hi))) ∧ w = w' := by
  by_cases h1 : lo ≤ n
  all_goals by_cases h2 : n ≤ hi
  all_goals
    go_enter Try.func47, Try.ntmps47
    go_wp2
    go_ret
    exact ⟨ret_bool (by simp [h1, h2]), rfl⟩

theorem l02Step_any (s : Nat) (w : World) (h : s < 65536) :
    Calls Try.prog 118 #[.int .i64 s] w fun e w' => e = .returned (.int .i64 (stepN s)) ∧ w = w' := by
  have h1 : (s : Int) ≤ 65535 := by omega
  have ha := and1_i64 s (by omega)
  have hx := xor_step_i64 s h
  by_cases ho : s % 2 = 1
  · have hb : (bits .and .i64 (s : Int) 1 == 1) = true := by rw [ha, ho]; rfl
    have hX := Lib.hid hx; clear hx ha
    go_enter Try.func118, Try.ntmps118
    go_wp2
    go_ret
    exact ⟨ret_int (by rw [hX.out, stepN_odd ho]), rfl⟩
  · have hb : (bits .and .i64 (s : Int) 1 == 1) = false := by rw [ha]; simp; omega
    clear hx ha
    go_enter Try.func118, Try.ntmps118
    go_wp2
    go_ret
    exact ⟨ret_int (by rw [stepN_even ho]; simp), rfl⟩

theorem l00In_yes (n lo hi : Int) (w : World) (h1 : lo ≤ n) (h2 : n ≤ hi) :
    Calls Try.prog 47 #[.int .i64 n, .int .i64 lo, .int .i64 hi] w fun e w' => e = .returned (.bool true) ∧ w = w' :=
  (l00In_any n lo hi w).mono fun _ _ ⟨he, hw⟩ => ⟨by rw [he]; exact ret_bool (by simp [h1, h2]), hw⟩
theorem l00In_no (n lo hi : Int) (w : World) (h : n < lo ∨ hi < n) :
    Calls Try.prog 47 #[.int .i64 n, .int .i64 lo, .int .i64 hi] w fun e w' => e = .returned (.bool false) ∧ w = w' :=
  (l00In_any n lo hi w).mono fun _ _ ⟨he, hw⟩ => ⟨by rw [he]; exact ret_bool (by simp; omega), hw⟩
end Go.Proofs.Yteigdjocjcjkiaa
/- Plain facts on the keystream: the states of the register one after the other, eight bits a byte. -/
namespace Go.Proofs.Yteigdjocjcjkiaa
open Go.RowKit

/-- The state k steps on. -/
def stepI (s : Nat) : Nat → Nat
  | 0 => s
  | k + 1 => stepN (stepI s k)
theorem stepI_lt (s : Nat) (h : s < 65536) : ∀ k, stepI s k < 65536
  | 0 => h
  | k + 1 => stepN_lt _ (stepI_lt s h k)
theorem stepI_add (s j : Nat) : ∀ k, stepI s (j + k) = stepI (stepI s j) k
  | 0 => rfl
  | k + 1 => by rw [← Nat.add_assoc]; show stepN _ = stepN _; rw [stepI_add s j k]
/-- The number of the first k bits from a state on. -/
def keyP (s : Nat) : Nat → Nat
  | 0 => 0
  | k + 1 => keyP s k + stepI s k % 2 * 2 ^ k
theorem keyP_lt (s : Nat) : ∀ k, keyP s k < 2 ^ k
  | 0 => by simp [keyP]
  | k + 1 => by
    have h := keyP_lt s k
    have h2 : stepI s k % 2 * 2 ^ k ≤ 1 * 2 ^ k := Nat.mul_le_mul_right _ (by omega)
    rw [keyP, Nat.pow_succ]
    omega
theorem keyP_or (s k : Nat) : keyP s k ||| stepI s k % 2 * 2 ^ k = keyP s (k + 1) := by
  have := Nat.two_pow_add_eq_or_of_lt (keyP_lt s k) (stepI s k % 2)
  rw [Nat.or_comm, Nat.mul_comm (stepI s k % 2), ← this, keyP, Nat.add_comm, Nat.mul_comm]
theorem bit_lt (x : Nat) {k : Nat} (h : k < 8) : x % 2 * 2 ^ k < 256 := by
  have h1 : x % 2 * 2 ^ k ≤ 1 * 2 ^ k := Nat.mul_le_mul_right _ (by omega)
  have h2 : (2 : Nat) ^ k ≤ 2 ^ 7 := Nat.pow_le_pow_right (by decide) (by omega)
  omega
theorem keyP_256 (s : Nat) {k : Nat} (h : k ≤ 8) : keyP s k < 256 := by
  have h1 := keyP_lt s k
  have h2 : (2 : Nat) ^ k ≤ 2 ^ 8 := Nat.pow_le_pow_right (by decide) h
  omega
theorem cast_bit (x k : Nat) : ((x % 2 : Nat) : Int) * 2 ^ k = ((x % 2 * 2 ^ k : Nat) : Int) := by
  rw [Int.natCast_mul, Int.natCast_pow]; rfl
/-- One round of the model's inner loop. -/
theorem key_spec (s k : Nat) (hk : k < 8) (h : stepI s k < 65536) :
    bits .or .i64 ((keyP s k : Nat) : Int) (wrap64 (bits .and .i64 ((stepI s k : Nat) : Int) 1 * 2 ^ k)) = ((keyP s (k + 1) : Nat) : Int) := by
  have h1 := bit_lt (stepI s k) hk
  have h2 := keyP_256 s (k := k) (by omega)
  rw [and1_i64 _ (by omega), cast_bit, IntWalk.wrap64_in _ (by omega), i64_or_nat _ _ (by omega) (by omega), keyP_or]
/-- One round of the program's inner loop. -/
theorem key_impl (s k : Nat) (hk : k < 8) (h : stepI s k < 65536) :
    bits .or .u8 ((keyP s k : Nat) : Int) (bits .and .u16 ((stepI s k : Nat) : Int) 1 % 256 * 2 ^ k % 256) = ((keyP s (k + 1) : Nat) : Int) := by
  have h1 := bit_lt (stepI s k) hk
  have h2 := keyP_256 s (k := k) (by omega)
  rw [and1_u16 _ h, show (((stepI s k % 2 : Nat) : Int)) % 256 = ((stepI s k % 2 : Nat) : Int) by omega, cast_bit, show (((stepI s k % 2 * 2 ^ k : Nat) : Int)) % 256 = ((stepI s k % 2 * 2 ^ k : Nat) : Int) by omega,
    u8_or_nat _ _ h2 h1, keyP_or]
theorem set_mid (l r : List Int) (x y : Int) (k : Nat) (h : l.length = k) : (l ++ x :: r).set k y = l ++ y :: r := by
  rw [List.set_append_right _ _ (by omega), h, Nat.sub_self, List.set_cons_zero]
/-- The bytes of the stream. -/
def streamL (s : Nat) : Nat → List Int
  | 0 => []
  | n + 1 => streamL s n ++ [((keyP (stepI s (8 * n)) 8 : Nat) : Int)]
theorem streamL_length (s : Nat) : ∀ n, (streamL s n).length = n
  | 0 => rfl
  | n + 1 => by simp [streamL, streamL_length s n]
end Go.Proofs.Yteigdjocjcjkiaa
/- The keystream, in the model and in the program: the contracts. -/
namespace Go.Proofs.Yteigdjocjcjkiaa
open Go.RowKit

theorem specStream_any (s m : Nat) (w : World) (h : s < 65536) (hm : m ≤ 1048576) :
    Calls Try.prog 112 #[.int .i64 s, .int .i64 m] w fun e w' => e = .returned (.string (strOfNums (streamL s m))) ∧ Below w.heap.size w w' := by
  go_enter Try.func112, Try.ntmps112
  go_wp2
  go_loopw [0, 5, 6] (fun u v i wr => ∃ k : Nat, k ≤ m ∧ i = .int .i64 k ∧ u = .int .i64 (stepI s (8 * k) : Nat) ∧ BytesOwn wr w.heap.size v (streamL s k) ∧ Below w.heap.size w wr) (fun _ _ i _ => m - (intOf i).toNat)
  case atStart => exact ⟨0, Nat.zero_le _, rfl, rfl, BytesOwn.made _ (Nat.le_refl _), (Below.refl _ _).alloc (Nat.le_refl _) _⟩
  case round =>
    obtain ⟨k, hk, rfl, rfl, hown, hb⟩ := hrel
    have hz := hb.size
    have hlen := streamL_length s k
    obtain ⟨t, ht⟩ : ∃ t, t = stepI s (8 * k) := ⟨_, rfl⟩
    have htl : t < 65536 := by rw [ht]; exact stepI_lt s h _
    rw [← ht]
    have HT := Lib.hid ht
    clear ht
    by_cases hlt : k < m
    · go_wp2
      obtain ⟨wo, hwo⟩ : ∃ wo : World, wo = wr := ⟨_, rfl⟩
      subst hwo
      go_loop [0, 7, 8] (fun u b j => ∃ i : Nat, i ≤ 8 ∧ j = .int .i64 i ∧ u = .int .i64 (stepI t i : Nat) ∧ b = .int .i64 (keyP t i : Nat)) (fun _ _ j => 8 - (intOf j).toNat)
      case atStart => exact ⟨0, by omega, rfl, rfl, rfl⟩
      case round =>
        obtain ⟨i, hi, rfl, rfl, rfl⟩ := hrel
        have hsl := stepI_lt t htl i
        by_cases hi8 : i < 8
        · have hks := key_spec t i hi8 hsl
          go_wp2_with (go_at_call 118; refine (l02Step_any _ _ hsl).mono ?_; rintro e w' ⟨rfl, rfl⟩)
          go_round
          case rel => exact ⟨i + 1, by omega, by go_num, rfl, rfl⟩
          case measure => simp [intOf]; omega
        · obtain rfl : i = 8 := by omega
          have hkb := keyP_256 t (k := 8) (by omega)
          go_wp2_with (at_builtin; refine wpList_append_byte rfl _ _ rfl _ _ rfl hown hb hz _ _ rfl (by omega) ?_; intro v' w1 hown' hb'; clear hown hb)
          rw [HT.out] at hown'
          go_roundw
          case rel => exact ⟨k + 1, by omega, by go_num, by rw [HT.out, ← stepI_add]; rfl, hown', hb'⟩
          case measure => simp [intOf]; omega
    · have hcv := bytes_str hown
      go_wp2
      go_ret
      exact ⟨ret_str (by rw [show m = k by omega]), hb⟩
end Go.Proofs.Yteigdjocjcjkiaa
/- The exclusive or of two texts, in the model. -/
namespace Go.Proofs.Yteigdjocjcjkiaa
open Go.RowKit

/-- The first k bytes of the exclusive or. -/
def xorL (a b : ByteArray) : Nat → List Int
  | 0 => []
  | k + 1 => xorL a b k ++ [((byteAt a k ^^^ byteAt b k : Nat) : Int)]
theorem xorL_length (a b : ByteArray) : ∀ k, (xorL a b k).length = k
  | 0 => rfl
  | k + 1 => by simp [xorL, xorL_length a b k]

set_option maxRecDepth 100000 in
theorem specXor_any (a b : ByteArray) (w : World) (hab : a.size = b.size) (ha : a.size ≤ 1048576) :
    Calls Try.prog 111 #[.string a, .string b] w fun e w' => e = .returned (.string (strOfNums (xorL a b a.size))) ∧ Below w.heap.size w w' := by
  go_enter Try.func111, Try.ntmps111
  go_wp2
  go_loopw [5, 6] (fun v i wr => ∃ k : Nat, k ≤ a.size ∧ i = .int .i64 k ∧ BytesOwn wr w.heap.size v (xorL a b k) ∧ Below w.heap.size w wr) (fun _ i _ => a.size - (intOf i).toNat)
  case atStart => exact ⟨0, Nat.zero_le _, rfl, BytesOwn.made _ (Nat.le_refl _), (Below.refl _ _).alloc (Nat.le_refl _) _⟩
  case round =>
    obtain ⟨k, hk, rfl, hown, hb⟩ := hrel
    have hz := hb.size
    have hlen := xorL_length a b k
    by_cases hlt : k < a.size
    · have hlt2 : k < b.size := by omega
      have hi1 : (k : Int) < (a.size : Int) := by omega
      have hi2 : (k : Int) < (b.size : Int) := by omega
      have HX : Hid (bits .xor .u8 (a[k].toNat : Int) (b[k].toNat : Int) = ((byteAt a k ^^^ byteAt b k : Nat) : Int)) := by
        have h1 := byteAt_le a k
        have h2 := byteAt_le b k
        rw [byteAt_eq hlt, byteAt_eq hlt2]; exact u8_xor_nat _ _ (by omega) (by omega)
      go_wp2
      have hcell : ∀ (W : World) (x : Value), (W.alloc (.cells #[x] 5)).cell? ⟨W.heap.size, 0, none⟩ = some x := fun W x => by rw [World.cell?_alloc_at _ _ _ _ rfl]; rfl
      have HC := Lib.hid hcell
      clear hcell
      go_region_law (refine step_append_byte rfl (.tmp 14) (.tmp 22) rfl u5 _ (by simp [Act.eval]) ((hown.alloc _).drew) ((hb.alloc hz _).drew) (by simp; omega) wr.heap.size 1 (bits .xor .u8 (a[k].toNat : Int) (b[k].toNat : Int)) (by simp [Act.eval]) (HC.out _ _) (by omega) ?_; intro v' w1 hown' hb')
      all_goals
        rw [HX.out] at hown'
        go_wp2
        go_roundw
        case rel => exact ⟨k + 1, by omega, by go_num, hown', hb'⟩
        case measure => simp [intOf]; omega
    · have hcv := bytes_str hown
      go_wp2
      go_ret
      exact ⟨ret_str (by rw [show a.size = k by omega]), hb⟩
end Go.Proofs.Yteigdjocjcjkiaa
/- Scrambling, in the model and in the program: the contracts. -/
namespace Go.Proofs.Yteigdjocjcjkiaa
open Go.RowKit

theorem xorL_set (s key : ByteArray) (n k : Nat) (hk : k < n) : ∀ (r : List Int), r.length = n → ((xorL s key k ++ r.drop k).set k ((byteAt s k ^^^ byteAt key k : Nat) : Int)) = xorL s key (k + 1) ++ r.drop (k + 1) := by
  intro r hr
  have e : r.drop k = r[k] :: r.drop (k + 1) := List.drop_eq_getElem_cons (by omega)
  rw [List.set_append_right _ _ (by rw [xorL_length]; omega), xorL_length, Nat.sub_self, e, List.set_cons_zero, xorL, List.append_assoc]
  rfl
/-- The bytes of a text as integers. -/
def nums (s : ByteArray) : List Int := s.data.toList.map fun b => (b.toNat : Int)
theorem nums_length (s : ByteArray) : (nums s).length = s.size := by simp [nums]
theorem nums_get (s : ByteArray) (k : Nat) (h : k < s.size) : (nums s).getD k 0 = (byteAt s k : Int) := by
  have h' : k < s.data.toList.length := by simpa using h
  unfold nums byteAt
  rw [List.getD_eq_getElem?_getD, List.getElem?_map, List.getD_eq_getElem?_getD, List.getElem?_eq_getElem h']; rfl

theorem specScr_yes (p : Int) (s : ByteArray) (w : World) (h0 : 0 ≤ p) (h1 : p ≤ 65534) (hs : s.size ≤ 256) :
    Calls Try.prog 102 #[.int .i64 p, .string s] w fun e w' => e = .returned (.tuple #[.string (strOfNums (xorL s (strOfNums (streamL (p.toNat + 1) s.size)) s.size)), .int .i64 0]) ∧ Below w.heap.size w w' := by
  obtain ⟨n, rfl⟩ := Int.eq_ofNat_of_zero_le h0
  rw [Int.toNat_natCast]
  have hn2 : n + 1 < 65536 := by omega
  have hkey : s.size = (strOfNums (streamL (n + 1) s.size)).size := by rw [strOfNums_size, streamL_length]
  have HKey := Lib.hid hkey
  have hd : decide (256 < (s.size : Int)) = false := by simp; omega
  clear hkey
  go_enter Try.func102, Try.ntmps102
  go_wp2_with (first
    | (go_at_call 47; refine (l00In_yes _ _ _ _ h0 h1).mono ?_; rintro e w' ⟨rfl, rfl⟩)
    | (go_at_call 112; refine (specStream_any (n + 1) s.size _ hn2 (by omega)).mono ?_; rintro e w1 ⟨rfl, hb1⟩)
    | (go_at_call 111; refine (specXor_any s _ _ HKey.out (by omega)).mono ?_; rintro e w2 ⟨rfl, hb2⟩))
  go_ret2
  exact ⟨rfl, hb1.trans (hb2.mono hb1.size)⟩
theorem specScr_no (p : Int) (s : ByteArray) (w : World) (h : (p < 0 ∨ 65534 < p) ∨ 256 < s.size) (hs : s.size ≤ 9223372036854775807) :
    Calls Try.prog 102 #[.int .i64 p, .string s] w fun e w' => e = .returned (.tuple #[.string ⟨#[]⟩, .int .i64 2]) ∧ Below w.heap.size w w' := by
  by_cases hp : p < 0 ∨ 65534 < p
  · clear h
    go_enter Try.func102, Try.ntmps102
    go_wp2_with (go_at_call 47; refine (l00In_no _ _ _ _ hp).mono ?_; rintro e w' ⟨rfl, rfl⟩)
    go_ret2
    exact ⟨rfl, Below.refl _ _⟩
  · have h0 : 0 ≤ p := by omega
    have h1 : p ≤ 65534 := by omega
    have h2 : 256 < s.size := by omega
    have hd : decide (256 < (s.size : Int)) = true := by simp; omega
    clear h hp
    go_enter Try.func102, Try.ntmps102
    go_wp2_with (go_at_call 47; refine (l00In_yes _ _ _ _ h0 h1).mono ?_; rintro e w' ⟨rfl, rfl⟩)
    go_ret2
    exact ⟨rfl, Below.refl _ _⟩
end Go.Proofs.Yteigdjocjcjkiaa
/- Plain facts on the fixed-size encoding. -/
namespace Go.Proofs.Yteigdjocjcjkiaa
open Go.RowKit

/-- The bytes of the first k. -/
def encF (n : Int) : Nat → List Int
  | 0 => []
  | k + 1 => encF n k ++ [IntKind.u8.wrap (n / 2 ^ (8 * k))]
theorem encF_length (n : Int) : ∀ k, (encF n k).length = k
  | 0 => rfl
  | k + 1 => by simp [encF, encF_length n k]

end Go.Proofs.Yteigdjocjcjkiaa
/- Plain facts on the codec: what the decoders answer at what the encoders made, bytes behind it or not. -/
namespace Go.Proofs.Yteigdjocjcjkiaa
open Go.RowKit

theorem byteAt_app (l : List Int) (r : ByteArray) (k : Nat) (hk : k < l.length) (hb : ∀ x ∈ l, 0 ≤ x ∧ x < 256) : (byteAt (strOfNums l ++ r) k : Int) = l.getD k 0 := by
  have h1 := hb _ (List.getElem_mem hk)
  unfold byteAt
  rw [ByteArray.data_append, Array.toList_append, strOfNums_data, List.getD_eq_getElem?_getD, List.getElem?_append_left (by simpa using hk), List.getElem?_map, List.getD_eq_getElem?_getD, List.getElem?_eq_getElem hk]
  simp only [Option.map_some, Option.getD_some]
  rw [UInt8.toNat_ofNat']
  omega

def Reads (t : ByteArray) (i x : Nat) : Prop := ∀ j, j < (uv x).length → (byteAt t (i + j) : Int) = (uv x).getD j 0
theorem reads_small {t : ByteArray} {i x : Nat} (h : Reads t i x) (hx : x < 128) : byteAt t i = x := by
  have := h 0 (by rw [uv_small hx]; simp)
  rw [uv_small hx] at this
  simp at this
  omega
theorem reads_big {t : ByteArray} {i x : Nat} (h : Reads t i x) (hx : ¬ x < 128) : byteAt t i = x % 128 + 128 ∧ Reads t (i + 1) (x / 128) := by
  constructor
  · have := h 0 (by rw [uv_big hx]; simp)
    rw [uv_big hx] at this
    simp at this
    omega
  · intro j hj
    have := h (j + 1) (by rw [uv_big hx]; simpa using hj)
    rw [uv_big hx] at this
    rw [show i + 1 + j = i + (j + 1) by omega, this]
    simp
theorem acc_reads (t : ByteArray) : ∀ (f x i : Nat), x < 128 ^ f → Reads t i x → acc t (i + (uv x).length) = acc t i + x * 128 ^ i
  | 0, x, i, hf, h => by
    have hx : x < 128 := by simp at hf; omega
    have hb := reads_small h hx
    rw [uv_small hx]
    show acc t (i + 1) = _
    rw [acc, hb, Nat.mod_eq_of_lt hx]
  | f + 1, x, i, hf, h => by
    by_cases hx : x < 128
    · have hb := reads_small h hx
      rw [uv_small hx]
      show acc t (i + 1) = _
      rw [acc, hb, Nat.mod_eq_of_lt hx]
    · obtain ⟨hb, hr⟩ := reads_big h hx
      have ih := acc_reads t f (x / 128) (i + 1) (by rw [Nat.div_lt_iff_lt_mul (by decide)]; rw [Nat.pow_succ] at hf; exact hf) hr
      rw [uv_big hx, List.length_cons, show i + ((uv (x / 128)).length + 1) = i + 1 + (uv (x / 128)).length by omega, ih, acc, hb]
      have e1 : (x % 128 + 128) % 128 = x % 128 := by omega
      have e2 : x / 128 * 128 ^ (i + 1) = (128 * (x / 128)) * 128 ^ i := by rw [Nat.pow_succ, Nat.mul_comm (128 ^ i), ← Nat.mul_assoc, Nat.mul_comm (x / 128)]
      rw [e1, e2, Nat.add_assoc, ← Nat.add_mul, show x % 128 + 128 * (x / 128) = x by omega]
theorem decF_reads (t : ByteArray) : ∀ (f x i : Nat), (uv x).length ≤ f → i + (uv x).length ≤ t.size → i + (uv x).length ≤ 9 → Reads t i x → uv (acc t (i + (uv x).length)) = takeB t (i + (uv x).length) → decF t f i = i + (uv x).length
  | 0, x, i, hf, _, _, _, _ => by have := uv_pos x; omega
  | f + 1, x, i, hf, hs, h9, h, hc => by
    by_cases hx : x < 128
    · have hb := reads_small h hx
      rw [uv_small hx] at hs h9 hc ⊢
      exact decF_yes (by simp at hs; omega) (by simp at h9; omega) (by omega) hc
    · obtain ⟨hb, hr⟩ := reads_big h hx
      have hp := uv_pos (x / 128)
      rw [uv_big hx, List.length_cons] at hf hs h9 hc ⊢
      rw [decF_next (by omega) (by omega) (by omega)]
      have e : i + ((uv (x / 128)).length + 1) = i + 1 + (uv (x / 128)).length := by omega
      rw [e] at hs h9 hc ⊢
      exact decF_reads t f (x / 128) (i + 1) (by omega) hs h9 hr hc
theorem uv_bytes9 {n : Nat} (h : n < 2 ^ 63) : ∀ x ∈ uv n, 0 ≤ x ∧ x < 256 :=
  uv_bytes 9 n (by rw [show (128 : Nat) ^ 9 = 2 ^ 63 by decide]; exact h)
theorem size_app (a b : ByteArray) : (a ++ b).size = a.size + b.size := ByteArray.size_append
theorem takeB_app (l : List Int) (r : ByteArray) (hb : ∀ x ∈ l, 0 ≤ x ∧ x < 256) : takeB (strOfNums l ++ r) l.length = l := by
  apply List.ext_getElem
  · rw [takeB_length (by rw [size_app, strOfNums_size]; omega)]
  · intro k h1 h2
    have hb2 := hb _ (List.getElem_mem h2)
    unfold takeB
    simp only [ByteArray.data_append, Array.toList_append, strOfNums_data]
    rw [List.getElem_map, List.getElem_take, List.getElem_append_left (by simpa using h2), List.getElem_map, UInt8.toNat_ofNat']
    omega
/-- The decoder answers the number, whatever follows. -/
theorem dec_enc (n : Nat) (r : ByteArray) (h : n < 2 ^ 63) : decUv (strOfNums (uv n) ++ r) = (uv n).length ∧ acc (strOfNums (uv n) ++ r) (uv n).length = n := by
  have hl := uv_len h
  have hr : Reads (strOfNums (uv n) ++ r) 0 n := fun j hj => by rw [Nat.zero_add]; exact byteAt_app _ _ _ hj (uv_bytes9 h)
  have ha := acc_reads (strOfNums (uv n) ++ r) 9 n 0 (by rw [show (128 : Nat) ^ 9 = 2 ^ 63 by decide]; exact h) hr
  rw [Nat.zero_add, Nat.pow_zero, Nat.mul_one] at ha
  have h0 : acc (strOfNums (uv n) ++ r) 0 = 0 := rfl
  rw [h0, Nat.zero_add] at ha
  refine ⟨?_, ha⟩
  have := decF_reads (strOfNums (uv n) ++ r) 10 n 0 (by omega) (by rw [size_app, strOfNums_size]; omega) (by omega) hr (by rw [Nat.zero_add, ha, takeB_app _ _ (uv_bytes9 h)])
  rw [Nat.zero_add] at this
  exact this
/-- What the decoder accepts is the encoding. -/
theorem dec_ok (s : ByteArray) : ∀ f i, 0 < decF s f i → uv (acc s (decF s f i)) = takeB s (decF s f i)
  | 0, i, h => by simp [decF] at h
  | f + 1, i, h => by
    unfold decF at h ⊢
    by_cases h1 : i < s.size ∧ i < 9
    · rw [if_pos h1] at h ⊢
      by_cases h2 : byteAt s i < 128
      · rw [if_pos h2] at h ⊢
        by_cases h3 : uv (acc s (i + 1)) = takeB s (i + 1)
        · rw [if_pos h3]; exact h3
        · rw [if_neg h3] at h; omega
      · rw [if_neg h2] at h ⊢
        exact dec_ok s f (i + 1) h
    · rw [if_neg h1] at h; omega
end Go.Proofs.Yteigdjocjcjkiaa
/- DecodeFixed, in the model and in the program: their contracts. -/
namespace Go.Proofs.Yteigdjocjcjkiaa
open Go.RowKit

/-- The integer of the first k bytes. -/
def fixF (s : ByteArray) : Nat → Int
  | 0 => 0
  | k + 1 => bits .or .i64 (fixF s k) (wrap64 ((byteAt s k : Int) * 2 ^ (8 * k)))

end Go.Proofs.Yteigdjocjcjkiaa
/- Plain facts on the fixed-size encoding: eight bytes give the integer back. -/
namespace Go.Proofs.Yteigdjocjcjkiaa
open Go.RowKit

theorem or_wrap (a b : Nat) (ha : a < 2 ^ 64) (hb : b < 2 ^ 64) : bits .or .i64 (wrap64 (a : Int)) (wrap64 (b : Int)) = wrap64 ((a ||| b : Nat) : Int) := by
  have e : ∀ x : Nat, x < 2 ^ 64 → (BitVec.ofInt 64 (wrap64 (x : Int))).toNat = x := by
    intro x hx
    rw [BitVec.toNat_ofInt]
    unfold wrap64
    omega
  have h1 : bits .or .i64 (wrap64 (a : Int)) (wrap64 (b : Int)) = IntKind.i64.wrap ((BitVec.ofInt 64 (wrap64 (a : Int)) ||| BitVec.ofInt 64 (wrap64 (b : Int))).toNat : Int) := rfl
  rw [h1, BitVec.toNat_or, e a ha, e b hb]
  exact IntWalk.i64_left _
theorem fix_bytes (s : ByteArray) (U : Nat) (hU : U < 2 ^ 64) (hb : ∀ k, k < 8 → byteAt s k = U / 256 ^ k % 256) : ∀ k, k ≤ 8 → fixF s k = wrap64 ((U % 256 ^ k : Nat) : Int)
  | 0, _ => by rw [Nat.pow_zero, Nat.mod_one, fixF]; unfold wrap64; omega
  | k + 1, hk => by
    have ih := fix_bytes s U hU hb k (by omega)
    have e256 : (256 : Nat) ^ k = 2 ^ (8 * k) := by rw [Nat.pow_mul]
    have hp : (256 : Nat) ^ k ≤ 256 ^ 7 := Nat.pow_le_pow_right (by decide) (by omega)
    have h7 : (256 : Nat) ^ 7 = 72057594037927936 := by decide
    have hlt : U % 256 ^ k < 2 ^ (8 * k) := by rw [← e256]; exact Nat.mod_lt _ (Nat.pow_pos (by decide))
    have hby : U / 256 ^ k % 256 * 256 ^ k ≤ 255 * 256 ^ k := Nat.mul_le_mul_right _ (by omega)
    have ec : ((byteAt s k : Nat) : Int) * 2 ^ (8 * k) = ((U / 256 ^ k % 256 * 256 ^ k : Nat) : Int) := by
      rw [hb k (by omega), Int.natCast_mul, e256, Int.natCast_pow]; rfl
    rw [fixF, ih, ec, or_wrap _ _ (by omega) (by omega)]
    congr 2
    have := Nat.two_pow_add_eq_or_of_lt hlt (U / 256 ^ k % 256)
    rw [Nat.mod_pow_succ, Nat.or_comm, Nat.mul_comm (U / 256 ^ k % 256), Nat.add_comm]
    rw [← e256] at this
    exact this.symm
theorem encF_getD (n : Int) : ∀ (m k : Nat), k < m → (encF n m).getD k 0 = IntKind.u8.wrap (n / 2 ^ (8 * k))
  | 0, k, h => by omega
  | m + 1, k, h => by
    rw [encF]
    by_cases hk : k < m
    · have := encF_getD n m k hk
      rw [List.getD_eq_getElem?_getD] at this ⊢
      rw [List.getElem?_append_left (by rw [encF_length]; exact hk)]
      exact this
    · obtain rfl : k = m := by omega
      rw [List.getD_eq_getElem?_getD, List.getElem?_append_right (by rw [encF_length]; omega), encF_length, Nat.sub_self]
      rfl
theorem u8_wrap_mod (x : Int) : IntKind.u8.wrap x = x % 256 := by rw [IntKind.wrap_u8']
theorem enc_byte (n : Int) (h1 : -9223372036854775808 ≤ n) (h2 : n ≤ 9223372036854775807) (k : Nat) (hk : k < 8) : n / 2 ^ (8 * k) % 256 = (((n % 18446744073709551616).toNat / 256 ^ k % 256 : Nat) : Int) := by
  match k, hk with
  | 0, _ => simp only [Nat.mul_zero, Int.pow_zero, Nat.pow_zero]; omega
  | 1, _ => rw [show (2 : Int) ^ (8 * 1) = 256 by decide, show (256 : Nat) ^ 1 = 256 by decide]; omega
  | 2, _ => rw [show (2 : Int) ^ (8 * 2) = 65536 by decide, show (256 : Nat) ^ 2 = 65536 by decide]; omega
  | 3, _ => rw [show (2 : Int) ^ (8 * 3) = 16777216 by decide, show (256 : Nat) ^ 3 = 16777216 by decide]; omega
  | 4, _ => rw [show (2 : Int) ^ (8 * 4) = 4294967296 by decide, show (256 : Nat) ^ 4 = 4294967296 by decide]; omega
  | 5, _ => rw [show (2 : Int) ^ (8 * 5) = 1099511627776 by decide, show (256 : Nat) ^ 5 = 1099511627776 by decide]; omega
  | 6, _ => rw [show (2 : Int) ^ (8 * 6) = 281474976710656 by decide, show (256 : Nat) ^ 6 = 281474976710656 by decide]; omega
  | 7, _ => rw [show (2 : Int) ^ (8 * 7) = 72057594037927936 by decide, show (256 : Nat) ^ 7 = 72057594037927936 by decide]; omega
theorem fix_back (n : Int) (h1 : -9223372036854775808 ≤ n) (h2 : n ≤ 9223372036854775807) : fixF (strOfNums (encF n 8)) 8 = n := by
  obtain ⟨U, hU⟩ : ∃ U, U = (n % 18446744073709551616).toNat := ⟨_, rfl⟩
  have hUl : U < 2 ^ 64 := by omega
  have hb : ∀ k, k < 8 → byteAt (strOfNums (encF n 8)) k = U / 256 ^ k % 256 := by
    intro k hk
    have e := encF_getD n 8 k hk
    have e2 := enc_byte n h1 h2 k hk
    rw [u8_wrap_mod, e2, ← hU] at e
    have hs := byteAt_app (encF n 8) ByteArray.empty k (by rw [encF_length]; exact hk) (by
      intro x hx
      obtain ⟨j, hj, rfl⟩ := List.mem_iff_getElem.1 hx
      have := encF_getD n 8 j (by rw [encF_length] at hj; exact hj)
      rw [List.getD_eq_getElem?_getD, List.getElem?_eq_getElem hj, u8_wrap_mod] at this
      simp only [Option.getD_some] at this
      omega)
    rw [ByteArray.append_empty, e] at hs
    omega
  have := fix_bytes _ U hUl hb 8 (by omega)
  rw [this, Nat.mod_eq_of_lt (by rw [show (256 : Nat) ^ 8 = 2 ^ 64 by decide]; exact hUl)]
  unfold wrap64
  omega

/-- A text with its length before it, whatever follows. -/
theorem str_back (w r : ByteArray) (h : w.size < 2 ^ 63) : (strOfNums (uv w.size) ++ w ++ r).extract (uv w.size).length ((uv w.size).length + w.size) = w := by
  apply ByteArray.ext
  apply Array.toList_inj.1
  rw [ByteArray.data_extract, Array.toList_extract, ByteArray.data_append, ByteArray.data_append, Array.toList_append, Array.toList_append, strOfNums_data]
  have e : (uv w.size).length = ((uv w.size).map fun n => UInt8.ofNat n.toNat).length := by simp
  have hw : w.data.toList.length = w.size := by simp
  rw [List.append_assoc]
  simp only [List.extract_eq_take_drop]
  rw [e, List.drop_left, show ((uv w.size).map fun n => UInt8.ofNat n.toNat).length + w.size - ((uv w.size).map fun n => UInt8.ofNat n.toNat).length = w.data.toList.length by omega, List.take_left]
end Go.Proofs.Yteigdjocjcjkiaa
/- Plain facts on words of eight bytes: the number of a text, the text of a number, a bit inverted. -/
namespace Go.Proofs.Yteigdjocjcjkiaa
open Go.RowKit

/-- The number of the bytes f 0, f 1, .. below k. -/
def wN (f : Nat → Nat) : Nat → Nat
  | 0 => 0
  | k + 1 => wN f k + f k * 256 ^ k
theorem wN_lt {f : Nat → Nat} (h : ∀ j, f j < 256) : ∀ k, wN f k < 256 ^ k
  | 0 => by simp [wN]
  | k + 1 => by
    have := wN_lt h k
    have h2 : f k * 256 ^ k ≤ 255 * 256 ^ k := Nat.mul_le_mul_right _ (by have := h k; omega)
    rw [wN, Nat.pow_succ]; omega
theorem wN_at {f : Nat → Nat} (h : ∀ j, f j < 256) : ∀ k j, j < k → wN f k / 256 ^ j % 256 = f j
  | 0, j, hj => by omega
  | k + 1, j, hj => by
    have hp : 0 < 256 ^ j := Nat.pow_pos (by decide)
    by_cases hjk : j < k
    · have e : 256 ^ k = 256 ^ j * (256 * 256 ^ (k - j - 1)) := by
        rw [show (256 : Nat) * 256 ^ (k - j - 1) = 256 ^ (k - j) by rw [Nat.mul_comm, ← Nat.pow_succ]; congr 1; omega, ← Nat.pow_add]; congr 1; omega
      rw [wN, e, show f k * (256 ^ j * (256 * 256 ^ (k - j - 1))) = 256 ^ j * (256 * (f k * 256 ^ (k - j - 1))) by
        rw [Nat.mul_left_comm, Nat.mul_left_comm (f k)], Nat.add_mul_div_left _ _ hp, Nat.add_mul_mod_self_left]
      exact wN_at h k j hjk
    · obtain rfl : j = k := by omega
      rw [wN, Nat.add_mul_div_right _ _ hp, Nat.div_eq_of_lt (wN_lt h j), Nat.zero_add]
      exact Nat.mod_eq_of_lt (h j)
theorem wN_congr {f g : Nat → Nat} : ∀ k, (∀ j, j < k → f j = g j) → wN f k = wN g k
  | 0, _ => rfl
  | k + 1, h => by rw [wN, wN, wN_congr k (fun j hj => h j (by omega)), h k (by omega)]
theorem wN_digits (x : Nat) : ∀ k, wN (fun j => x / 256 ^ j % 256) k = x % 256 ^ k
  | 0 => by rw [Nat.pow_zero, Nat.mod_one]; rfl
  | k + 1 => by rw [wN, wN_digits x k, Nat.mod_pow_succ, Nat.mul_comm]
/-- A number is known by its bytes. -/
theorem bytes_ext {x y : Nat} (hx : x < 2 ^ 64) (hy : y < 2 ^ 64) (h : ∀ j, j < 8 → x / 256 ^ j % 256 = y / 256 ^ j % 256) : x = y := by
  have e := wN_congr (f := fun j => x / 256 ^ j % 256) (g := fun j => y / 256 ^ j % 256) 8 h
  rw [wN_digits, wN_digits, Nat.mod_eq_of_lt (by rw [show (256 : Nat) ^ 8 = 2 ^ 64 by decide]; exact hx), Nat.mod_eq_of_lt (by rw [show (256 : Nat) ^ 8 = 2 ^ 64 by decide]; exact hy)] at e
  exact e

/-- The number of a text's first eight bytes. -/
def wordN (s : ByteArray) : Nat := wN (byteAt s) 8
theorem byteAt_lt (s : ByteArray) (k : Nat) : byteAt s k < 256 := by have := byteAt_le s k; omega
theorem wordN_lt (s : ByteArray) : wordN s < 2 ^ 64 := wN_lt (byteAt_lt s) 8
theorem wordN_at (s : ByteArray) {j : Nat} (h : j < 8) : wordN s / 256 ^ j % 256 = byteAt s j := wN_at (byteAt_lt s) 8 j h
theorem bit_byte (x b : Nat) : x / 2 ^ b % 2 = x / 256 ^ (b / 8) % 256 / 2 ^ (b % 8) % 2 := by
  have e : x / 2 ^ b = x / 256 ^ (b / 8) / 2 ^ (b % 8) := by
    rw [show (256 : Nat) ^ (b / 8) = 2 ^ (8 * (b / 8)) by rw [Nat.pow_mul], Nat.div_div_eq_div_mul, ← Nat.pow_add]
    congr 2; omega
  rw [e]
  generalize x / 256 ^ (b / 8) = y
  have h := Nat.mod_lt b (show 0 < 8 by decide)
  generalize b % 8 = r at *
  match r, h with
  | 0, _ => simp only [Nat.pow_zero]; omega
  | 1, _ => omega
  | 2, _ => omega
  | 3, _ => omega
  | 4, _ => omega
  | 5, _ => omega
  | 6, _ => omega
  | 7, _ => omega
theorem wordN_bit (s : ByteArray) {b : Nat} (h : b < 64) : wordN s / 2 ^ b % 2 = byteAt s (b / 8) / 2 ^ (b % 8) % 2 := by
  rw [bit_byte, wordN_at s (by omega)]
theorem xor_byte (x y j : Nat) : (x ^^^ y) / 256 ^ j % 256 = (x / 256 ^ j % 256) ^^^ (y / 256 ^ j % 256) := by
  rw [show (256 : Nat) ^ j = 2 ^ (8 * j) by rw [Nat.pow_mul], Nat.xor_div_two_pow]
  exact Nat.xor_mod_two_pow (n := 8)
theorem two_byte (b j : Nat) : 2 ^ b / 256 ^ j % 256 = if j = b / 8 then 2 ^ (b % 8) else 0 := by
  rw [show (256 : Nat) ^ j = 2 ^ (8 * j) by rw [Nat.pow_mul]]
  by_cases h1 : b < 8 * j
  · rw [Nat.div_eq_of_lt (Nat.pow_lt_pow_right (by decide) h1), if_neg (by omega)]
  · rw [Nat.pow_div (by omega) (by decide)]
    by_cases h2 : j = b / 8
    · rw [if_pos h2, show b - 8 * j = b % 8 by omega, Nat.mod_eq_of_lt]
      exact Nat.pow_lt_pow_right (n := 8) (by decide) (by omega)
    · rw [if_neg h2, show b - 8 * j = 8 + (b - 8 * j - 8) by omega, Nat.pow_add]
      exact Nat.mul_mod_right ..

theorem str_ext {s t : ByteArray} (hs : s.size = t.size) (h : ∀ j, j < s.size → byteAt s j = byteAt t j) : s = t := by
  apply ByteArray.ext
  apply Array.toList_inj.1
  apply List.ext_getElem
  · simpa using hs
  · intro k h1 h2
    have h1' : k < s.size := by simpa using h1
    have := h k h1'
    unfold byteAt at this
    rw [List.getD_eq_getElem?_getD, List.getElem?_eq_getElem h1, List.getD_eq_getElem?_getD, List.getElem?_eq_getElem h2] at this
    simpa using UInt8.toNat_inj.1 this
theorem nums_at (l : List Int) (k : Nat) (hk : k < l.length) (hb : ∀ x ∈ l, 0 ≤ x ∧ x < 256) : (byteAt (strOfNums l) k : Int) = l.getD k 0 := by
  have := byteAt_app l ByteArray.empty k hk hb
  rwa [ByteArray.append_empty] at this
/-- The eight bytes of a number. -/
def wL (x : Nat) : List Int := (List.range 8).map fun j => ((x / 256 ^ j % 256 : Nat) : Int)
theorem wL_length (x : Nat) : (wL x).length = 8 := by simp [wL]
theorem wL_at (x : Nat) {j : Nat} (h : j < 8) : (wL x).getD j 0 = ((x / 256 ^ j % 256 : Nat) : Int) := by simp [wL, List.getD_eq_getElem?_getD, h]
theorem wL_ok (x : Nat) : ∀ y ∈ wL x, 0 ≤ y ∧ y < 256 := by
  intro y hy
  simp only [wL, List.mem_map] at hy
  obtain ⟨j, _, rfl⟩ := hy
  omega
/-- The text of a number. -/
def wStr (x : Nat) : ByteArray := strOfNums (wL x)
theorem wStr_size (x : Nat) : (wStr x).size = 8 := by unfold wStr; rw [strOfNums_size, wL_length]
theorem wStr_at (x : Nat) {j : Nat} (h : j < 8) : byteAt (wStr x) j = x / 256 ^ j % 256 := by
  have := nums_at (wL x) j (by rw [wL_length]; exact h) (wL_ok x)
  rw [wL_at x h] at this
  exact Int.ofNat_inj.1 this
theorem wStr_word {x : Nat} (h : x < 2 ^ 64) : wordN (wStr x) = x :=
  bytes_ext (wordN_lt _) h fun j hj => by rw [wordN_at _ hj, wStr_at _ hj]
theorem word_wStr {s : ByteArray} (h : s.size = 8) : wStr (wordN s) = s :=
  str_ext (by rw [wStr_size, h]) fun j hj => by rw [wStr_size] at hj; rw [wStr_at _ hj, wordN_at _ hj]
theorem wStr_inj {x y : Nat} (hx : x < 2 ^ 64) (hy : y < 2 ^ 64) (h : wStr x = wStr y) : x = y := by
  rw [← wStr_word hx, ← wStr_word hy, h]
/-- The bytes with a bit inverted are those of the number with it inverted. -/
theorem wL_flip (x b : Nat) : (wL x).set (b / 8) ((x / 256 ^ (b / 8) % 256 ^^^ 2 ^ (b % 8) : Nat) : Int) = wL (x ^^^ 2 ^ b) := by
  apply List.ext_getElem
  · simp [wL_length]
  · intro k h1 h2
    rw [wL_length] at h2
    have e1 := wL_at x h2
    have e2 := wL_at (x ^^^ 2 ^ b) h2
    rw [List.getD_eq_getElem?_getD, List.getElem?_eq_getElem (by rw [wL_length]; exact h2)] at e1 e2
    simp only [Option.getD_some] at e1 e2
    rw [List.getElem_set, e2, xor_byte, two_byte]
    by_cases hk : b / 8 = k
    · rw [if_pos hk, if_pos hk.symm, ← hk]
    · rw [if_neg hk, if_neg (fun e => hk e.symm), e1, Nat.xor_zero]
/-- What EncodeFixed makes of the integer with these bits. -/
theorem encF_word {x : Nat} (h : x < 2 ^ 64) : encF (wrap64 (x : Int)) 8 = wL x := by
  have hn1 : -9223372036854775808 ≤ wrap64 (x : Int) := by unfold wrap64; omega
  have hn2 : wrap64 (x : Int) ≤ 9223372036854775807 := by unfold wrap64; omega
  have hm : (wrap64 (x : Int) % 18446744073709551616).toNat = x := by unfold wrap64; omega
  apply List.ext_getElem
  · rw [encF_length, wL_length]
  · intro k h1 h2
    rw [wL_length] at h2
    have e1 := encF_getD (wrap64 (x : Int)) 8 k h2
    have e2 := wL_at x h2
    rw [List.getD_eq_getElem?_getD, List.getElem?_eq_getElem h1] at e1
    rw [List.getD_eq_getElem?_getD, List.getElem?_eq_getElem (by rw [wL_length]; exact h2)] at e2
    simp only [Option.getD_some] at e1 e2
    rw [e1, e2, u8_wrap_mod, enc_byte _ hn1 hn2 k h2, hm]
/-- What DecodeFixed makes of a word. -/
theorem fix_word (s : ByteArray) : fixF s 8 = wrap64 (wordN s : Int) := by
  have := fix_bytes s (wordN s) (wordN_lt s) (fun k hk => (wordN_at s hk).symm) 8 (by omega)
  rw [this, Nat.mod_eq_of_lt (by rw [show (256 : Nat) ^ 8 = 2 ^ 64 by decide]; exact wordN_lt s)]
end Go.Proofs.Yteigdjocjcjkiaa
