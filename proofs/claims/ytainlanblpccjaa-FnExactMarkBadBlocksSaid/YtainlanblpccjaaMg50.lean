/- The proof's own lemmas, part 51: Bytes Pg. -/
import Derived.Test.YtainlanblpccjaaProg
import Derived.Test.YtainlanblpccjaaMg0
import Derived.WalkKit
import Derived.ProofKit
import Derived.Lib.Hide
import Derived.Deep.RegionLaw
import Derived.Test.YtainlanblpccjaaMg13
import Derived.Test.YtainlanblpccjaaShelfR
import Derived.Deep.DeepMust
import Derived.Deep.RegionHeld3
/- A slice of bytes that the call itself makes, grows by append and turns into a string. -/
namespace Go.Proofs.Ytainlanblpccjaa
open Go.RowKit

/-- The value v is a slice of the call's own (in a block from B on) that holds the bytes l. -/
def BytesOwn (w : World) (B : Nat) (v : Value) (l : List Int) : Prop := w.ownsRow B 5 1 v l.length (l.map (Value.int .u8))

theorem info8 : (Try.prog.info? 5).map (fun i => (i.zero, i.size, i.bytes)) = some (some (.int .u8 0), 1, 1) := by kernel_rfl

theorem BytesOwn.made (w : World) {B : Nat} (h : B ≤ w.heap.size) : BytesOwn (w.alloc (.cells #[] 5)) B (.slice (some ⟨w.heap.size, 0, none⟩) 0 0) [] :=
  World.ownsRow_made w #[] 0 h (by unfold maxLen; omega) rfl
theorem BytesOwn.nil (w : World) (B : Nat) : BytesOwn w B (.slice none 0 0) [] := World.ownsRow_nil w B _ 1
theorem BytesOwn.alloc {w : World} {B : Nat} {v : Value} {l : List Int} (h : BytesOwn w B v l) (o : Obj) : BytesOwn (w.alloc o) B v l := World.ownsRow.alloc h o
theorem BytesOwn.drew {w : World} {B : Nat} {v : Value} {l : List Int} (h : BytesOwn w B v l) : BytesOwn w.drew B v l := h
theorem BytesOwn.shape {w : World} {B : Nat} {v : Value} {l : List Int} (h : BytesOwn w B v l) :
    (v = .slice none 0 0 ∧ l = []) ∨ ∃ g cap, v = .slice (some ⟨g, 0, none⟩) l.length cap ∧ B ≤ g := by
  rcases h.2 with ⟨h1, h2⟩ | ⟨g, cap, cur, h1, h2, _⟩
  · exact .inl ⟨h1, List.eq_nil_of_length_eq_zero h2⟩
  · exact .inr ⟨g, cap, h1, h2⟩

theorem wpList_append_byte {Q : Exit → Act → World → Prop} {ops : Array Oper} {rest : List Oper} {o : Oper} {a : Act} {w0 wr : World} {B : Nat} (hgd : o.guard = none) (s x : Operand)
    (ho : o.op = .call { callee := .builtin .append, args := #[s, x], argTypes := #[38, 38] })
    (v : Value) (l : List Int) (hs : a.eval s = v) (hown : BytesOwn wr B v l) (hb : Below B w0 wr) (hB : B ≤ wr.heap.size)
    (b : Int) (c : Nat) (hx : a.eval x = .slice (some ⟨wr.heap.size, 0, none⟩) 1 c) (hl : l.length + 1 ≤ 140737488355328)
    (h : ∀ v' w', BytesOwn w' B v' (l ++ [b]) → Below B w0 w' → wpList Try.prog ops Q rest (a.put o.dst v') w') :
    wpList Try.prog ops Q (o :: rest) a (wr.alloc (.cells #[.int .u8 b] 5)) := by
  obtain ⟨i0, hi, hz0, hz1, hz2⟩ := info_parts info8
  refine wpList_append_own _ hgd s x _ ho B 5 i0 (.int .u8 0) 1 1 Try.underlying38 hi hz0 hz1 hz2 rfl (by decide) v l.length (l.map (Value.int .u8)) hs (World.ownsRow.alloc hown _) ⟨wr.heap.size, 0, none⟩ 1 c [.int .u8 b] hx rfl ?_ ?_ (by unfold maxLen; omega) (by omega) (by simp; omega) ?_
  · intro j u hj
    match j, hj with
    | 0, hj => simp at hj; subst hj; simp [Addr.add]
  · intro u hu; simp at hu; subst hu; rfl
  · intro v' w' h1 h2 _
    refine h v' w' ?_ ?_
    · unfold BytesOwn; simpa using h1
    · exact (hb.alloc hB _).grown h2 (by simp; omega) fun k hk => (World.ownsRow.lt hown k hk).1

/-- The same law inside a region that draws its order. -/
theorem step_append_byte {Q : Exit → Act → World → Prop} {K : Act → World → Prop} {E : Prop} {ops : Array Oper} {o : Oper} {a : Act} {w0 w : World} {B : Nat} (hgd : o.guard = none) (s x : Operand)
    (ho : o.op = .call { callee := .builtin .append, args := #[s, x], argTypes := #[38, 38] })
    (v : Value) (l : List Int) (hs : a.eval s = v) (hown : BytesOwn w B v l) (hb : Below B w0 w) (hB : B ≤ w.heap.size)
    (g c : Nat) (b : Int) (hx : a.eval x = .slice (some ⟨g, 0, none⟩) 1 c) (hcell : w.cell? ⟨g, 0, none⟩ = some (.int .u8 b)) (hl : l.length + 1 ≤ 140737488355328)
    (h : ∀ v' w', BytesOwn w' B v' (l ++ [b]) → Below B w0 w' → K (a.put o.dst v') w') :
    if Region.wanted o (yielded ops a.tmps) = true then Oper.wp Try.prog o a w K Q else E := by
  have hw : Region.wanted o (yielded ops a.tmps) = true := by simp [Region.wanted, hgd]
  rw [if_pos hw]
  obtain ⟨i0, hi, hz0, hz1, hz2⟩ := info_parts info8
  refine wp_append_own w s x _ ho B 5 i0 (.int .u8 0) 1 1 Try.underlying38 hi hz0 hz1 hz2 rfl (by decide) v l.length (l.map (Value.int .u8)) hs hown ⟨g, 0, none⟩ 1 c [.int .u8 b] hx rfl ?_ ?_ (by unfold maxLen; omega) (by omega) hB ?_
  · intro j u hj
    match j, hj with
    | 0, hj => simp at hj; subst hj; simpa [Addr.add] using hcell
  · intro u hu; simp at hu; subst hu; rfl
  · intro v' w' h1 h2 _
    refine h v' w' ?_ (hb.grown h2 hB fun k hk => (World.ownsRow.lt hown k hk).1)
    unfold BytesOwn; simpa using h1

theorem bytes_str {w : World} {B : Nat} {v : Value} {l : List Int} (h : BytesOwn w B v l) :
    (Go.convert 38 9 v).run Try.prog w = .ok (.string (strOfNums l)) w := by
  rcases h.shape with ⟨rfl, rfl⟩ | ⟨g, cap, rfl, _⟩
  · exact run_convert_bytes_nil w _ _ Try.underlying38 Try.underlying5 0 0 _ Try.underlying9
  · refine run_convert_bytes_arg w _ _ Try.underlying38 Try.underlying5 g 0 l.length cap l rfl (fun i hi => ?_) _ Try.underlying9
    have := World.ownsRow.cellAt h i (by omega)
    rw [Nat.zero_add, this]
    simp [hi]

theorem wpList_make_bytes {Q : Exit → Act → World → Prop} {ops : Array Oper} {rest : List Oper} {o : Oper} {a : Act} {w0 w : World} {B : Nat} (hgd : o.guard = none) (l c : Operand)
    (ho : o.op = Op.makeSlice 38 l c) (kl kc : IntKind) (L C : Int) (n : Nat) (hl : a.eval l = .int kl L) (hc : a.eval c = .int kc C) (hL : L = (n : Int)) (hC : C = (n : Int)) (hn : n ≤ 140737488355328)
    (hb : Below B w0 w) (hB : B ≤ w.heap.size)
    (h : ∀ w', BytesOwn w' B (.slice (some ⟨w.heap.size, 0, none⟩) n n) (List.replicate n 0) → Below B w0 w' → wpList Try.prog ops Q rest (a.put o.dst (.slice (some ⟨w.heap.size, 0, none⟩) n n)) w') :
    wpList Try.prog ops Q (o :: rest) a w := by
  obtain ⟨i0, hi, hz0, hz1, hz2⟩ := info_parts info8
  refine wpList_make_full w hgd l c _ ho B 5 i0 (.int .u8 0) 1 Try.underlying38 hi hz0 hz1 kl kc L C n hl hc hL hC (by rw [hz2]; omega) (by unfold maxLen; omega) hB ?_
  intro w' h1 h2
  refine h w' ?_ (hb.grown h2 hB fun k hk => by simp at hk)
  have e : (madeCells (Value.int .u8 0).cells (n * 1)).toList = (List.replicate n (0 : Int)).map (Value.int .u8) := by
    show (madeCells #[Value.int .u8 0] (n * 1)).toList = _
    rw [toList_madeCells_one]; simp
  rw [e] at h1
  unfold BytesOwn; simpa using h1

theorem BytesOwn.cell {w : World} {B g n cap : Nat} {l : List Int} (h : BytesOwn w B (.slice (some ⟨g, 0, none⟩) n cap) l) {j : Nat} (hn : l.length = n) (hj : j < n) : w.cell? ⟨g, j, none⟩ = some (.int .u8 (l.getD j 0)) := by
  unfold BytesOwn at h
  rw [hn] at h
  rw [World.ownsRow.cellAt h j (by omega)]
  simp [show j < l.length by omega]
theorem BytesOwn.free {w : World} {B g n cap : Nat} {l : List Int} (h : BytesOwn w B (.slice (some ⟨g, 0, none⟩) n cap) l) (hn : l.length = n) (j : Nat) : w.frozen? ⟨g, j, none⟩ = false := by
  unfold BytesOwn at h
  rw [hn] at h
  exact World.ownsRow.frozenAt h j
theorem BytesOwn.base {w : World} {B g n cap : Nat} {l : List Int} (h : BytesOwn w B (.slice (some ⟨g, 0, none⟩) n cap) l) : B ≤ g := by
  rcases h.shape with ⟨h1, _⟩ | ⟨g', cap', h1, h2⟩
  · simp at h1
  · simp at h1; omega
theorem BytesOwn.stored {w : World} {B g n cap : Nat} {l : List Int} (h : BytesOwn w B (.slice (some ⟨g, 0, none⟩) n cap) l) (hn : l.length = n) (j : Nat) (b : Int) :
    BytesOwn (w.setCell ⟨g, j, none⟩ (.int .u8 b)) B (.slice (some ⟨g, 0, none⟩) n cap) (l.set j b) := by
  unfold BytesOwn at h ⊢
  rw [hn] at h
  have := (World.ownsRow.stored h j (.int .u8 b)).1
  rw [List.length_set, hn, List.map_set]
  exact this
theorem arr_str {w : World} {g : Nat} {t : TypeId} {l : List Int} (h : Arr w g t .u8 l) (n cap : Nat) (hn : n ≤ l.length) :
    (Go.convert 38 9 (.slice (some ⟨g, 0, none⟩) n cap)).run Try.prog w = .ok (.string (strOfNums (l.take n))) w := by
  refine run_convert_bytes_arg w _ _ Try.underlying38 Try.underlying5 g 0 n cap (l.take n) (by simp; omega) (fun i hi => ?_) _ Try.underlying9
  rw [Nat.zero_add, h.cell (by omega)]
  simp [hi]
/-- Block g starts with the bytes l, none of them frozen. -/
def BytesAt (w : World) (g : Nat) (l : List Int) : Prop := ∀ j, j < l.length → w.cell? ⟨g, j, none⟩ = some (.int .u8 (l.getD j 0)) ∧ w.frozen? ⟨g, j, none⟩ = false
theorem BytesAt.drew {w : World} {g : Nat} {l : List Int} (h : BytesAt w g l) : BytesAt w.drew g l := h
theorem BytesAt.set_ {w : World} {g : Nat} {l : List Int} (h : BytesAt w g l) {k : Nat} (hk : k < l.length) (x : Int) : BytesAt (w.setCell ⟨g, k, none⟩ (.int .u8 x)) g (l.set k x) := by
  intro j hj
  rw [List.length_set] at hj
  refine ⟨?_, by rw [World.frozen?_setCell]; exact (h j hj).2⟩
  by_cases e : k = j
  · subst e
    rw [World.cell?_setCell_same w _ _ (h k hk).1]
    simp [hk]
  · rw [World.cell?_setCell_other w _ _ _ (fun h => e (congrArg Addr.off h)), (h j hj).1]
    simp [List.getElem?_set_ne e]
theorem BytesAt.below {w w' : World} {g B : Nat} {l : List Int} (h : BytesAt w g l) (hb : Below B w w') (hg : g < B) : BytesAt w' g l := fun j hj =>
  ⟨(hb.cell (p := ⟨g, j, none⟩) hg).trans (h j hj).1, (hb.frozen (p := ⟨g, j, none⟩) hg).trans (h j hj).2⟩
theorem BytesAt.str {w : World} {g cap : Nat} {l : List Int} (h : BytesAt w g l) :
    (Go.convert 38 9 (.slice (some ⟨g, 0, none⟩) l.length cap)).run Try.prog w = .ok (.string (strOfNums l)) w := by
  refine run_convert_bytes_arg w _ _ Try.underlying38 Try.underlying5 g 0 l.length cap l rfl (fun i hi => ?_) _ Try.underlying9
  rw [Nat.zero_add]; exact (h i hi).1

/-- A text turned into bytes. -/
theorem wpList_str_bytes {Q : Exit → Act → World → Prop} {ops : Array Oper} {rest : List Oper} {o : Oper} {a : Act} {w0 w : World} {B : Nat} (hgd : o.guard = none) (x : Operand)
    (ho : o.op = .convert 9 38 x) (s : ByteArray) (hx : a.eval x = .string s) (hb : Below B w0 w) (hB : B ≤ w.heap.size)
    (h : ∀ cap w', BytesAt w' w.heap.size (s.data.toList.map fun b => (b.toNat : Int)) → w.heap.size < w'.heap.size → Below B w0 w' → wpList Try.prog ops Q rest (a.put o.dst (.slice (some ⟨w.heap.size, 0, none⟩) s.size cap)) w') :
    wpList Try.prog ops Q (o :: rest) a w := by
  refine wpList_plain hgd fun K hK' => ?_
  have hrun := run_bytes_of_string (P := Try.prog) w 9 38 5 s Try.underlying9 Try.underlying38 Try.underlying5
  unfold Oper.wp
  simp only [execOp, ho, hx, hrun, Sem.run_bind, Sem.run_pure, Result.andThen]
  refine hK' _ _ (h _ _ ?_ ?_ (hb.drew.alloc hB _))
  · intro j hj
    have hj' : j < s.data.size := by simpa using hj
    refine ⟨?_, ?_⟩
    · have := World.cell?_alloc_mark w.drew (bytesRow s (grownCap w s.size 0 5)) 5 ((bytesRow s (grownCap w s.size 0 5)).size, (bytesRow s (grownCap w s.size 0 5)).size + 1) j
      have h2 := bytesRow_at s (grownCap w s.size 0 5) j hj'
      rw [h2] at this
      refine this.trans ?_
      rw [List.getD_eq_getElem?_getD, List.getElem?_map, Array.getElem?_toList, Array.getElem?_eq_getElem hj']; rfl
    · have := World.frozen?_alloc_mark w.drew (bytesRow s (grownCap w s.size 0 5)) 5 (bytesRow s (grownCap w s.size 0 5)).size ((bytesRow s (grownCap w s.size 0 5)).size + 1) j
      refine this.trans ?_
      have hsz : j < (bytesRow s (grownCap w s.size 0 5)).size := by
        unfold bytesRow; rw [Array.size_append, Array.size_map]; omega
      simp; omega
  · show w.heap.size < (w.heap.push _).size
    simp
end Go.Proofs.Ytainlanblpccjaa
/- Pages without error correction, in the model and in the program: erased, torn, destroyed, a bit inverted: the contracts. -/
namespace Go.Proofs.Ytainlanblpccjaa
open Go.RowKit
set_option linter.unusedVariables false

/-- n bytes c, as a list of numbers. -/
theorem fillB_nums (c n : Nat) : strOfNums (List.replicate n (c : Int)) = fillB c n := by
  unfold strOfNums fillB
  rw [List.map_replicate]
  rfl
def FillPost (c n : Nat) (w : World) (e : Ending) (w' : World) : Prop := e = .returned (.string (fillB c n)) ∧ Below w.heap.size w w'
set_option maxRecDepth 100000 in
theorem fill_any (c n : Nat) (w : World) (hc : c < 256) (hn : n ≤ 1048576) :
    Calls Try.prog 180 #[.int .u8 c, .int .i64 n] w (FillPost c n w) := by
  have hni : (n : Int) ≤ 1048576 := by omega
  have hci : (c : Int) < 256 := by omega
  go_enter Try.func180, Try.ntmps180
  go_wp2
  go_loopw [5, 6] (fun u i wr => ∃ k : Nat, k ≤ n ∧ i = .int .i64 k ∧ BytesOwn wr w.heap.size u (List.replicate k (c : Int)) ∧ Below w.heap.size w wr) (fun _ i _ => n - (intOf i).toNat)
  case atStart => exact ⟨0, by omega, rfl, BytesOwn.made w (Nat.le_refl _), (Below.refl _ _).alloc (Nat.le_refl _) _⟩
  case round =>
    obtain ⟨k, hk, rfl, hown, hb⟩ := hrel
    have hz := hb.size
    by_cases hlt : k < n
    · have hki : (k : Int) < (n : Int) := by omega
      go_wp2_with (at_builtin; refine wpList_append_byte rfl _ _ rfl _ _ rfl hown hb hz _ _ rfl (by simp; omega) ?_; intro v' w1 hown' hb'; clear hown hb)
      go_roundw
      case rel => exact ⟨k + 1, by omega, by go_num, by rw [List.replicate_succ']; exact hown', hb'⟩
      case measure => simp [intOf]; omega
    · obtain rfl : k = n := by omega
      have hcv := bytes_str hown
      rw [fillB_nums] at hcv
      clear hown
      go_wp2
      go_ret
      exact ⟨rfl, hb⟩
theorem repeatExtra : Go.Proofs.Builder.Extra Try.prog Try.laysRepeat_ren := {
  sizeBuilder := by kernel_rfl
  liesBuilder := by kernel_rfl
  t5 := Try.laysRepeat.t5
  a5 := Try.laysRepeat.a5
  z5 := Try.laysRepeat.z5
  v5 := Try.laysRepeat.v5
  infoByte := by kernel_rfl
  cellsByte := by kernel_rfl
  sizeByte := by kernel_rfl
  neB5 := by decide }
theorem repeat_any (c n : Nat) (w : World) (hn : n ≤ 1048576) :
    Calls Try.prog 263 #[.string (strOfNums [(c : Int)]), .int .i64 n] w (FillPost c n w) := by
  have h := Go.Proofs.Any.strings_Repeat Try.laysRepeat repeatExtra (strOfNums [(c : Int)]) n w (by omega) (by rw [strOfNums_size]; simp; omega)
  refine Calls.mono (show Calls Try.prog 263 _ _ _ from h) ?_
  rintro e w' ⟨rfl, hb⟩
  refine ⟨ret_str ?_, hb⟩
  unfold fillB strOfNums
  simp only [List.map_cons, List.map_nil]
  apply ByteArray.ext
  show (Lib.repeatL [UInt8.ofNat (c : Int).toNat] n).toArray = (List.replicate n (UInt8.ofNat c)).toArray
  rw [Int.toNat_natCast]
  congr 1
  clear h hb hn
  induction n with
  | zero => rfl
  | succ n ih => simp only [Lib.repeatL, ih, List.replicate_succ]; rfl
theorem specDestroyed_any (w : World) : Calls Try.prog 120 #[] w (FillPost 0 91 w) := by
  go_enter Try.func120, Try.ntmps120
  go_wp2_with fail
  refine (fill_any 0 91 w (by omega) (by omega)).mono ?_
  rintro e w1 ⟨rfl, hb⟩
  go_wp2
  go_ret
  exact ⟨rfl, hb⟩
theorem implErased_any (w : World) : Calls Try.prog 279 #[] w (FillPost 255 91 w) := by
  go_enter Try.func279, Try.ntmps279
  go_wp2_with fail
  refine (repeat_any 255 91 w (by omega)).mono ?_
  rintro e w1 ⟨rfl, hb⟩
  go_wp2
  go_ret
  exact ⟨rfl, hb⟩
theorem implDestroyed_any (w : World) : Calls Try.prog 260 #[] w (FillPost 0 91 w) := by
  go_enter Try.func260, Try.ntmps260
  go_wp2_with fail
  refine (repeat_any 0 91 w (by omega)).mono ?_
  rintro e w1 ⟨rfl, hb⟩
  go_wp2
  go_ret
  exact ⟨rfl, hb⟩
set_option maxRecDepth 100000 in
theorem torn_any (raw : ByteArray) (k : Nat) (w : World) (hr : raw.size = 91) (hk : k ≤ 91) :
    Calls Try.prog 218 #[.string raw, .int .i64 k] w fun e w' => e = .returned (.string (tornB raw k)) ∧ Below w.heap.size w w' := by
  have HS := Lib.hid (tornB_size hr hk)
  have hki : (k : Int) ≤ 91 := by omega
  have hkr : (k : Int) ≤ (raw.size : Int) := by omega
  have e : IntKind.i64.wrap ((91 : Int) - (k : Int)) = ((91 - k : Nat) : Int) := by rw [IntKind.wrap_i64]; omega
  have HF := Lib.hid (fun (W : World) => (show Calls Try.prog 180 #[.int .u8 255, .int .i64 (IntKind.i64.wrap (91 - (k : Int)))] W (FillPost 255 (91 - k) W) by rw [e]; exact fill_any 255 (91 - k) W (by omega) (by omega)))
  have h1 := fillB_size 255 (91 - k)
  clear e
  go_enter Try.func218, Try.ntmps218
  go_wp2_with fail
  go_region_held3 (fun w' => Below w.heap.size w w')
    (first
      | exact (Below.refl _ _).drew
      | exact (Below.refl w.heap.size w).drew.trans hb1)
    (first
      | (go_at_call 180
         refine (HF.out _).mono ?_
         rintro e w1 ⟨rfl, hb1⟩))
  rename_i hS1
  go_wp2
  go_ret
  exact ⟨rfl, hS1⟩
theorem fillB_extract (c n k : Nat) : (fillB c n).extract k n = fillB c (n - k) := by
  apply ByteArray.ext
  unfold fillB
  simp
/-- What TornPage answers. -/
inductive TornEnds (raw : ByteArray) (k : Int) : ByteArray → Int → Prop
  | invalid (h : raw.size ≠ 91) : TornEnds raw k ⟨#[]⟩ 1
  | range (h : raw.size = 91) (h1 : ¬ (0 ≤ k ∧ k ≤ 91)) : TornEnds raw k ⟨#[]⟩ 2
  | done (h : raw.size = 91) (n : Nat) (hn : k = n) (h1 : n ≤ 91) : TornEnds raw k (tornB raw n) 0
theorem tornEnds (raw : ByteArray) (k : Int) : ∃ s c, TornEnds raw k s c := by
  by_cases h : raw.size = 91
  case neg => exact ⟨_, _, .invalid h⟩
  by_cases h1 : 0 ≤ k ∧ k ≤ 91
  case neg => exact ⟨_, _, .range h h1⟩
  exact ⟨_, _, .done h k.toNat (by omega) (by omega)⟩
def PairPost (s : ByteArray) (c : Int) (w : World) (e : Ending) (w' : World) : Prop := e = .returned (.tuple #[.string s, .int .i64 c]) ∧ Below w.heap.size w w'
theorem validKeep_any (k : Int) (b : Bool) (w : World) (hb : b = true ↔ (0 ≤ k ∧ k ≤ 91)) : Calls Try.prog 186 #[.int .i64 k] w fun e w' => e = .returned (.bool b) ∧ w = w' := by
  by_cases h1 : 0 ≤ k
  · have d1 : decide (0 ≤ k) = true := by simp; omega
    have d2 : decide (k ≥ 0) = true := by simp; omega
    go_enter Try.func186, Try.ntmps186
    go_wp2
    go_ret
    exact ⟨ret_bool (by rw [Bool.eq_iff_iff, hb]; simp [h1]), rfl⟩
  · have d1 : decide (0 ≤ k) = false := by simp; omega
    have d2 : decide (k ≥ 0) = false := by simp; omega
    go_enter Try.func186, Try.ntmps186
    go_wp2
    go_ret
    exact ⟨ret_bool (by rw [Bool.eq_iff_iff, hb]; simp; omega), rfl⟩
set_option maxRecDepth 100000 in
theorem implTorn_any (raw : ByteArray) (k : Int) (s : ByteArray) (c : Int) (w : World) (hs : raw.size ≤ 9223372036854775807) (h : TornEnds raw k s c) :
    Calls Try.prog 273 #[.string raw, .int .i64 k] w (PairPost s c w) := by
  rcases h with h | ⟨h, h1⟩ | ⟨h, n, rfl, h1⟩
  · have hd : ((raw.size : Int) != 91) = true := by simp; omega
    go_enter Try.func273, Try.ntmps273
    go_wp2
    go_ret2
    exact ⟨rfl, Below.refl _ _⟩
  · have hd : ((raw.size : Int) != 91) = false := by rw [h]; rfl
    go_enter Try.func273, Try.ntmps273
    go_wp2_with fail
    refine (validKeep_any k false w (by simp; omega)).mono ?_
    rintro e w' ⟨rfl, rfl⟩
    go_wp2
    go_ret2
    exact ⟨rfl, Below.refl _ _⟩
  · have hd : ((raw.size : Int) != 91) = false := by rw [h]; rfl
    have HI := Lib.hid (fun (W : World) => validKeep_any (n : Int) true W (by simp; omega))
    have HT := Lib.hid (show raw.extract 0 n ++ (fillB 255 91).extract n 91 = tornB raw n by
      unfold tornB
      rw [fillB_extract])
    have HS := Lib.hid (tornB_size h h1)
    generalize tornB raw n = t at *
    have hni : (n : Int) ≤ 91 := by omega
    have hr : (n : Int) ≤ (raw.size : Int) := by omega
    have h9 := fillB_size 255 91
    generalize hq : fillB 255 91 = q at *
    have HQ0 := Lib.hid hq
    clear hq
    go_enter Try.func273, Try.ntmps273
    go_wp2_with fail
    refine (HI.out _).mono ?_
    rintro e w' ⟨rfl, rfl⟩
    go_wp2_with fail
    have HE := Lib.hid (fun (W : World) => implErased_any W)
    have HQ := Lib.hid (show fillB 255 91 = q from HQ0.out)
    go_region_held3 (fun w' => Below w.heap.size w w')
      (first
        | exact (Below.refl _ _).drew
        | exact (Below.refl w.heap.size w).drew.trans hb1)
      (first
        | (go_at_call 279
           refine (HE.out _).mono ?_
           rintro e w1 ⟨rfl, hb1⟩
           rw [HQ.out]))
    rename_i hS1
    go_wp2
    go_ret2
    exact ⟨by rw [HT.out]; rfl, hS1⟩
end Go.Proofs.Ytainlanblpccjaa
