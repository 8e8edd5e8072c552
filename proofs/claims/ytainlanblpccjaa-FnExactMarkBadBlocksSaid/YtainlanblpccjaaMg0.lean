/- The proof's own lemmas, part 1: Fin Words FlN. -/
import Derived.Test.YtainlanblpccjaaRows
import Derived.ProofKit
import Derived.WalkKit
import Derived.Laws.OwnMore
import Derived.Laws.Rows
import Derived.Laws.Tables
/- What the rows ask of the program alone, once for all laws of this translation. -/
namespace Go.Proofs.Ytainlanblpccjaa
theorem finMay : Try.pinned.checked.prog.mayEnter = true := by kernel_rfl
theorem finLift : Try.pinned.checked.prog.liftsFinal = false := by kernel_rfl
theorem finMake : Try.pinned.checked.prog.make = some .cut := by kernel_rfl
theorem finHeard : Try.pinned.checked.prog.stopsHeard = true := by kernel_rfl
theorem finLaid : laidOutB Try.pinned.checked.prog = true := by kernel_rfl
theorem finMaps : mapsRowed Try.pinned.checked.prog = true := by kernel_rfl
end Go.Proofs.Ytainlanblpccjaa
/- Small words that every text of this seat uses: equal endings; a byte of a string. -/
namespace Go.Proofs.Ytainlanblpccjaa
open Go.RowKit
theorem ret_int {k : IntKind} {a b : Int} (h : a = b) : Ending.returned (.int k a) = .returned (.int k b) := by rw [h]
theorem ret_bool {a b : Bool} (h : a = b) : Ending.returned (.bool a) = .returned (.bool b) := by rw [h]
theorem ret_str {a b : ByteArray} (h : a = b) : Ending.returned (.string a) = .returned (.string b) := by rw [h]

theorem str_same {a b : ByteArray} (h : a = b) : (a.toList == b.toList) = true := by rw [h]; exact beq_self_eq_true _
theorem str_diff {a b : ByteArray} (h : ¬ a = b) : (a.toList == b.toList) = false := by
  rw [beq_eq_false_iff_ne, ByteArray.toList_eq, ByteArray.toList_eq]
  exact fun e => h (ByteArray.ext (Array.toList_inj.1 e))

/-- Byte k of a string, 0 behind its end. -/
def byteAt (s : ByteArray) (k : Nat) : Nat := (s.data.toList.getD k 0).toNat
theorem byteAt_eq {s : ByteArray} {k : Nat} (h : k < s.size) : s[k].toNat = byteAt s k := by
  have h' : k < s.data.toList.length := by simpa using h
  unfold byteAt
  rw [List.getD_eq_getElem?_getD, List.getElem?_eq_getElem h']; rfl
theorem byteAt_le (s : ByteArray) (k : Nat) : byteAt s k ≤ 255 := by
  have := UInt8.toNat_lt (s.data.toList.getD k 0); unfold byteAt; omega

/-- Block g is an array's row: the integers l of kind k, none frozen. -/
def Arr (w : World) (g : Nat) (t : TypeId) (k : IntKind) (l : List Int) : Prop := w.heap[g]? = some (.cells (l.map (Value.int k)).toArray t (0, 0))
section
variable {w w' : World} {g : Nat} {t : TypeId} {k : IntKind} {l : List Int}
theorem Arr.lt (h : Arr w g t k l) : g < w.heap.size := by
  rcases Nat.lt_or_ge g w.heap.size with hlt | hge
  · exact hlt
  · unfold Arr at h; rw [Array.getElem?_eq_none hge] at h; cases h
theorem Arr.cell (h : Arr w g t k l) {j : Nat} (hj : j < l.length) : w.cell? ⟨g, j, none⟩ = some (.int k (l.getD j 0)) := by
  rw [cell_of_row w g j _ t (0, 0) h]
  simp [hj]
theorem Arr.free (h : Arr w g t k l) (j : Nat) : w.frozen? ⟨g, j, none⟩ = false := frozen_of_row w g j _ t h
theorem Arr.new (w : World) (t : TypeId) (k : IntKind) (l : List Int) : Arr (w.alloc (.cells (l.map (Value.int k)).toArray t)) w.heap.size t k l := heap_alloc_new w _
theorem Arr.alloc (h : Arr w g t k l) (o : Obj) : Arr (w.alloc o) g t k l := (Below.heap_alloc w o g h.lt).trans h
theorem Arr.drew (h : Arr w g t k l) : Arr w.drew g t k l := h
theorem Arr.set_ (h : Arr w g t k l) (j : Nat) (u : Int) : Arr (w.setCell ⟨g, j, none⟩ (.int k u)) g t k (l.set j u) := by
  unfold Arr at h ⊢
  rw [heap_setCell_same w g j _ t _ h]
  simp [List.map_set]
theorem Arr.far (h : Arr w g t k l) {p : Addr} (hp : g ≠ p.block) (u : Value) : Arr (w.setCell p u) g t k l := (Below.heap_setCell w p u g hp).trans h
theorem Arr.row (h : Arr w g t k l) (l' : List Int) : Arr (w.setRow g (l'.map (Value.int k)).toArray) g t k l' := setRow_heap w g _ _ t _ h
theorem Arr.farRow (h : Arr w g t k l) {g' : Nat} (hg : g ≠ g') (cs : Array Value) : Arr (w.setRow g' cs) g t k l := by
  unfold Arr at h ⊢
  simp only [World.setRow, Array.getElem?_modify]
  rw [if_neg (fun e => hg e.symm)]
  exact h
theorem Arr.below {B : Nat} (h : Arr w g t k l) (hb : Below B w w') (hg : g < B) : Arr w' g t k l := (hb.block g hg).trans h
theorem below_setRow {B : Nat} {a w : World} (h : Below B a w) {g : Nat} (hg : B ≤ g) (cs : Array Value) : Below B a (w.setRow g cs) := by
  refine ⟨h.os, h.tape, h.output, ?_, fun i hi => ?_⟩
  · rw [size_setRow]; exact h.size
  · simp only [World.setRow, Array.getElem?_modify]
    rw [if_neg (by omega)]
    exact h.block i hi
end
theorem results_row_tmp {P : Program} {fn : Func} {p u : Tmp} {ty : TypeId} (h : fn.results = #[.cell p ty, .tmp u]) (tmps : Array Value) (w : World) (g : Nat) (t : TypeId) (cs : Array Value) (fr : Nat × Nat) (d : TypeDesc)
    (hp : tmps.getD p undef = .pointer (some ⟨g, 0, none⟩)) (hg : w.heap[g]? = some (.cells cs t fr))
    (hu : P.underlying ty = some d) (hd : (match d with | .struct _ | .array _ _ => true | _ => false) = true) (hi : (P.info? ty).map (·.size) = some cs.size) :
    (results fn tmps).run P w = .ok (.tuple #[.agg cs, tmps.getD u undef]) w := by
  rw [results_cell_tmp h, hp]
  simp [asAddr, run_loadVar_row w g t ty cs fr d hg hu hd hi]
end Go.Proofs.Ytainlanblpccjaa
/- The flash array as plain data, and what each operation makes of it. No program in it. -/
namespace Go.Proofs.Ytainlanblpccjaa
open Go.RowKit

structure Blk where
  er : Int
  nx : Int
  bad : Bool
  pg : List ByteArray
instance : Inhabited Blk := ⟨⟨0, 0, false, []⟩⟩
structure Fl where
  d : Int
  b : Int
  p : Int
  bs : List Blk
  fu : Int
  ke : Int
  off : Bool
  op : Int
def Blk.zero : Blk := ⟨0, 0, false, []⟩
def Fl.zero : Fl := ⟨0, 0, 0, [], 0, 0, false, 0⟩
/-- Page i of a block, block i of an array. -/
def Blk.at (x : Blk) (i : Nat) : ByteArray := x.pg.getD i ByteArray.empty
def Fl.blk (F : Fl) (i : Nat) : Blk := F.bs.getD i Blk.zero

def GeoOk (d b p : Int) : Prop := (2 ≤ d ∧ d ≤ 3) ∧ (4 ≤ b ∧ b ≤ 12) ∧ (p = 8 ∨ p = 16)
def PageOk (nx : Int) (i : Nat) (s : ByteArray) : Prop := s.size = 0 ∨ (s.size = 91 ∧ (i : Int) < nx)
def BlkOk (p : Int) (x : Blk) : Prop := (0 ≤ x.er ∧ x.er ≤ 1000) ∧ (0 ≤ x.nx ∧ x.nx ≤ p) ∧ (x.pg.length : Int) = p ∧ ∀ i, i < x.pg.length → PageOk x.nx i (x.at i)
def FlOk (F : Fl) : Prop := GeoOk F.d F.b F.p ∧ (F.bs.length : Int) = F.d * F.b ∧ (∀ i, i < F.bs.length → BlkOk F.p (F.blk i)) ∧ (-1 ≤ F.fu ∧ F.fu ≤ 1000000) ∧ (0 ≤ F.ke ∧ F.ke ≤ 91) ∧ 0 ≤ F.op
theorem GeoOk.mul {d b p : Int} (h : GeoOk d b p) : 8 ≤ d * b ∧ d * b ≤ 36 := by
  obtain ⟨⟨h1, h2⟩, ⟨h3, h4⟩, _⟩ := h
  obtain rfl | rfl : d = 2 ∨ d = 3 := by omega
  all_goals omega
theorem GeoOk.p16 {d b p : Int} (h : GeoOk d b p) : 8 ≤ p ∧ p ≤ 16 := by
  obtain ⟨_, _, h5⟩ := h; omega
theorem FlOk.len {F : Fl} (h : FlOk F) : 8 ≤ F.bs.length ∧ F.bs.length ≤ 36 := by
  have := h.1.mul; have := h.2.1; omega
theorem FlOk.plen {F : Fl} (h : FlOk F) {i : Nat} (hi : i < F.bs.length) : 8 ≤ (F.blk i).pg.length ∧ (F.blk i).pg.length ≤ 16 ∧ ((F.blk i).pg.length : Int) = F.p := by
  have := (h.2.2.1 i hi).2.2.1; have := h.1.p16; omega
/-- All texts are small enough for Go. -/
def maxI : Nat := 9223372036854775807

/-! The pages' contents. -/
def fillB (c : Nat) (n : Nat) : ByteArray := ⟨(List.replicate n (UInt8.ofNat c)).toArray⟩
theorem fillB_size (c n : Nat) : (fillB c n).size = n := by show (List.replicate n _).toArray.size = n; simp
def erasedB : ByteArray := fillB 255 91
def destB : ByteArray := fillB 0 91
theorem erasedB_size : erasedB.size = 91 := fillB_size _ _
theorem destB_size : destB.size = 91 := fillB_size _ _
def tornB (raw : ByteArray) (k : Nat) : ByteArray := raw.extract 0 k ++ fillB 255 (91 - k)
theorem tornB_size {raw : ByteArray} {k : Nat} (h : raw.size = 91) (hk : k ≤ 91) : (tornB raw k).size = 91 := by
  unfold tornB; rw [ByteArray.size_append, ByteArray.size_extract, fillB_size]; omega
theorem tornB_all {raw : ByteArray} (h : raw.size = 91) : tornB raw 91 = raw := by
  unfold tornB
  rw [← h, ByteArray.extract_zero_size]
  have : fillB 255 (raw.size - raw.size) = ByteArray.empty := by rw [Nat.sub_self]; rfl
  rw [this, ByteArray.append_empty]

/-! The operations. -/
def Fl.upd (F : Fl) (k : Nat) (x : Blk) : Fl := { F with bs := F.bs.set k x }
def Fl.tick (F : Fl) : Fl :=
  { F with op := wrap64 (F.op + 1), off := if F.fu = 0 then true else F.off, fu := if F.fu = 0 then -1 else if 0 < F.fu then F.fu - 1 else F.fu }
/-- What is programmed: a page written whole. -/
def Blk.prog (x : Blk) (raw : ByteArray) : Blk := { x with pg := x.pg.set x.nx.toNat raw, nx := x.nx + 1 }
/-- The page written torn, its pair destroyed. -/
def Blk.torn (x : Blk) (raw : ByteArray) (ke : Int) : Blk :=
  { x with pg := (if x.nx.toNat % 2 = 1 ∧ ke < 91 then x.pg.set (x.nx.toNat - 1) destB else x.pg).set x.nx.toNat (tornB raw ke.toNat), nx := x.nx + 1 }
def Fl.prog (F : Fl) (k : Nat) (raw : ByteArray) : Fl :=
  if F.fu = 0 then (if F.ke = 0 then F.tick else F.tick.upd k ((F.blk k).torn raw F.ke)) else F.tick.upd k ((F.blk k).prog raw)
/-- The first m pages emptied. -/
def emptied (l : List ByteArray) (m : Nat) : List ByteArray := List.replicate (min m l.length) ByteArray.empty ++ l.drop m
theorem emptied_length (l : List ByteArray) (m : Nat) : (emptied l m).length = l.length := by simp [emptied]; omega
def Blk.erase (x : Blk) (m : Nat) : Blk := { x with er := x.er + 1, nx := if m < x.pg.length then (x.pg.length : Int) else 0, pg := emptied x.pg m }
def Fl.erase (F : Fl) (k : Nat) : Fl := F.tick.upd k ((F.blk k).erase (if F.fu = 0 then F.ke.toNat else 91))
/-- The code of an operation that is started. -/
def Fl.code (F : Fl) : Int := if F.fu = 0 then 8 else 0

/-- What ProgramPage answers: the array and the code. -/
inductive ProgEnds (F : Fl) (block page : Int) (raw : ByteArray) : Fl → Int → Prop
  | invalid (h : ¬ FlOk F ∨ raw.size ≠ 91) : ProgEnds F block page raw Fl.zero 1
  | off (h : FlOk F) (hr : raw.size = 91) (h1 : F.off = true) : ProgEnds F block page raw F 8
  | range (h : FlOk F) (hr : raw.size = 91) (h1 : F.off = false) (h2 : ¬ (0 ≤ block ∧ block < (F.bs.length : Int)) ∨ ¬ (0 ≤ page ∧ page < F.p)) : ProgEnds F block page raw Fl.zero 2
  | bad (h : FlOk F) (hr : raw.size = 91) (h1 : F.off = false) (k n : Nat) (hk : block = k) (hn : page = n) (hkl : k < F.bs.length) (hnp : page < F.p) (h2 : (F.blk k).bad = true) : ProgEnds F block page raw Fl.zero 7
  | state (h : FlOk F) (hr : raw.size = 91) (h1 : F.off = false) (k n : Nat) (hk : block = k) (hn : page = n) (hkl : k < F.bs.length) (hnp : page < F.p) (h2 : (F.blk k).bad = false) (h3 : (F.blk k).nx ≠ page) : ProgEnds F block page raw Fl.zero 5
  | done (h : FlOk F) (hr : raw.size = 91) (h1 : F.off = false) (k n : Nat) (hk : block = k) (hn : page = n) (hkl : k < F.bs.length) (hnp : page < F.p) (h2 : (F.blk k).bad = false) (h3 : (F.blk k).nx = page) : ProgEnds F block page raw (F.prog k raw) F.code
theorem progEnds (F : Fl) (block page : Int) (raw : ByteArray) : ∃ G c, ProgEnds F block page raw G c := by
  by_cases h : FlOk F
  case neg => exact ⟨_, _, .invalid (.inl h)⟩
  by_cases hr : raw.size = 91
  case neg => exact ⟨_, _, .invalid (.inr hr)⟩
  cases ho : F.off with
  | true => exact ⟨_, _, .off h hr ho⟩
  | false =>
    by_cases h1 : 0 ≤ block ∧ block < (F.bs.length : Int)
    case neg => exact ⟨_, _, .range h hr ho (.inl h1)⟩
    by_cases h2 : 0 ≤ page ∧ page < F.p
    case neg => exact ⟨_, _, .range h hr ho (.inr h2)⟩
    have hk : block = (block.toNat : Int) := by omega
    have hn : page = (page.toNat : Int) := by omega
    have hkl : block.toNat < F.bs.length := by omega
    cases hb : (F.blk block.toNat).bad with
    | true => exact ⟨_, _, .bad h hr ho _ _ hk hn hkl h2.2 hb⟩
    | false =>
      by_cases h3 : (F.blk block.toNat).nx = page
      · exact ⟨_, _, .done h hr ho _ _ hk hn hkl h2.2 hb h3⟩
      · exact ⟨_, _, .state h hr ho _ _ hk hn hkl h2.2 hb h3⟩
/-- What EraseBlock answers. -/
inductive EraEnds (F : Fl) (block : Int) : Fl → Int → Prop
  | invalid (h : ¬ FlOk F) : EraEnds F block Fl.zero 1
  | off (h : FlOk F) (h1 : F.off = true) : EraEnds F block F 8
  | range (h : FlOk F) (h1 : F.off = false) (h2 : ¬ (0 ≤ block ∧ block < (F.bs.length : Int))) : EraEnds F block Fl.zero 2
  | bad (h : FlOk F) (h1 : F.off = false) (k : Nat) (hk : block = k) (hkl : k < F.bs.length) (h2 : (F.blk k).bad = true ∨ (F.blk k).er = 1000) : EraEnds F block Fl.zero 7
  | done (h : FlOk F) (h1 : F.off = false) (k : Nat) (hk : block = k) (hkl : k < F.bs.length) (h2 : (F.blk k).bad = false) (h3 : (F.blk k).er ≠ 1000) : EraEnds F block (F.erase k) F.code
theorem eraEnds (F : Fl) (block : Int) : ∃ G c, EraEnds F block G c := by
  by_cases h : FlOk F
  case neg => exact ⟨_, _, .invalid h⟩
  cases ho : F.off with
  | true => exact ⟨_, _, .off h ho⟩
  | false =>
    by_cases h1 : 0 ≤ block ∧ block < (F.bs.length : Int)
    case neg => exact ⟨_, _, .range h ho h1⟩
    have hk : block = (block.toNat : Int) := by omega
    have hkl : block.toNat < F.bs.length := by omega
    cases hb : (F.blk block.toNat).bad with
    | true => exact ⟨_, _, .bad h ho _ hk hkl (.inl hb)⟩
    | false =>
      by_cases h3 : (F.blk block.toNat).er = 1000
      · exact ⟨_, _, .bad h ho _ hk hkl (.inr h3)⟩
      · exact ⟨_, _, .done h ho _ hk hkl hb h3⟩
/-- What NewFlash makes. -/
def newFl (d b p : Int) : Fl := ⟨d, b, p, List.replicate (d * b).toNat ⟨0, 0, false, List.replicate p.toNat ByteArray.empty⟩, -1, 0, false, 0⟩
/-- What PowerOn makes; what ArmFuse makes. -/
def Fl.on (F : Fl) : Fl := { F with off := false, fu := -1 }
def Fl.arm (F : Fl) (fu ke : Int) : Fl := { F with fu := fu, ke := ke }
inductive ArmEnds (F : Fl) (fu ke : Int) : Fl → Int → Prop
  | invalid (h : ¬ FlOk F) : ArmEnds F fu ke Fl.zero 1
  | off (h : FlOk F) (h1 : F.off = true) : ArmEnds F fu ke Fl.zero 8
  | range (h : FlOk F) (h1 : F.off = false) (h2 : ¬ (-1 ≤ fu ∧ fu ≤ 1000000) ∨ ¬ (0 ≤ ke ∧ ke ≤ 91)) : ArmEnds F fu ke Fl.zero 2
  | done (h : FlOk F) (h1 : F.off = false) (h2 : -1 ≤ fu ∧ fu ≤ 1000000) (h3 : 0 ≤ ke ∧ ke ≤ 91) : ArmEnds F fu ke (F.arm fu ke) 0
theorem armEnds (F : Fl) (fu ke : Int) : ∃ G c, ArmEnds F fu ke G c := by
  by_cases h : FlOk F
  case neg => exact ⟨_, _, .invalid h⟩
  cases ho : F.off with
  | true => exact ⟨_, _, .off h ho⟩
  | false =>
    by_cases h1 : -1 ≤ fu ∧ fu ≤ 1000000
    case neg => exact ⟨_, _, .range h ho (.inl h1)⟩
    by_cases h2 : 0 ≤ ke ∧ ke ≤ 91
    case neg => exact ⟨_, _, .range h ho (.inr h2)⟩
    exact ⟨_, _, .done h ho h1 h2⟩
/-- What ReadRaw answers. -/
inductive ReadEnds (F : Fl) (block page : Int) : ByteArray → Int → Prop
  | invalid (h : ¬ FlOk F) : ReadEnds F block page ⟨#[]⟩ 1
  | off (h : FlOk F) (h1 : F.off = true) : ReadEnds F block page ⟨#[]⟩ 8
  | range (h : FlOk F) (h1 : F.off = false) (h2 : ¬ (0 ≤ block ∧ block < (F.bs.length : Int)) ∨ ¬ (0 ≤ page ∧ page < F.p)) : ReadEnds F block page ⟨#[]⟩ 2
  | empty (h : FlOk F) (h1 : F.off = false) (k n : Nat) (hk : block = k) (hn : page = n) (hkl : k < F.bs.length) (hnp : page < F.p) (h2 : (F.blk k).at n = ByteArray.empty) : ReadEnds F block page erasedB 0
  | full (h : FlOk F) (h1 : F.off = false) (k n : Nat) (hk : block = k) (hn : page = n) (hkl : k < F.bs.length) (hnp : page < F.p) (h2 : (F.blk k).at n ≠ ByteArray.empty) : ReadEnds F block page ((F.blk k).at n) 0
theorem readEnds (F : Fl) (block page : Int) : ∃ s c, ReadEnds F block page s c := by
  by_cases h : FlOk F
  case neg => exact ⟨_, _, .invalid h⟩
  cases ho : F.off with
  | true => exact ⟨_, _, .off h ho⟩
  | false =>
    by_cases h1 : 0 ≤ block ∧ block < (F.bs.length : Int)
    case neg => exact ⟨_, _, .range h ho (.inl h1)⟩
    by_cases h2 : 0 ≤ page ∧ page < F.p
    case neg => exact ⟨_, _, .range h ho (.inr h2)⟩
    have hk : block = (block.toNat : Int) := by omega
    have hn : page = (page.toNat : Int) := by omega
    have hkl : block.toNat < F.bs.length := by omega
    by_cases h3 : (F.blk block.toNat).at page.toNat = ByteArray.empty
    · exact ⟨_, _, .empty h ho _ _ hk hn hkl h2.2 h3⟩
    · exact ⟨_, _, .full h ho _ _ hk hn hkl h2.2 h3⟩

/-! The marks that the laws' helpers write. -/
/-- The digits of a number, in tens. -/
def digs (k : Nat) : List Int := if k = 0 then [] else digs (k / 10) ++ [((48 + k % 10 : Nat) : Int)]
  termination_by k
  decreasing_by omega
theorem digs_pos {k : Nat} (h : 0 < k) : digs k = digs (k / 10) ++ [((48 + k % 10 : Nat) : Int)] := by
  rw [digs, if_neg (by omega)]
theorem digs_zero : digs 0 = [] := by rw [digs]; rfl
def markT (k : Nat) : ByteArray := strOfNums (109 :: digs k)
def markB (k : Nat) (x : Blk) : Blk := ⟨(k : Int), ((k + 1 : Nat) : Int), decide ((k + 2) % 3 = 0), (List.range x.pg.length).map fun t => markT (k + 3 + t)⟩
def markLs : Nat → List Blk → List Blk
  | _, [] => []
  | k, x :: L => markB k x :: markLs (k + 3 + x.pg.length) L
/-- How many marks the first i blocks take. -/
def markN : List Blk → Nat
  | [] => 0
  | x :: L => 3 + x.pg.length + markN L
theorem markLs_length : ∀ (L : List Blk) (k : Nat), (markLs k L).length = L.length
  | [], _ => rfl
  | x :: L, k => by simp [markLs, markLs_length L]
theorem markN_append : ∀ (L M : List Blk), markN (L ++ M) = markN L + markN M
  | [], M => by simp [markN]
  | x :: L, M => by simp only [List.cons_append, markN, markN_append L M]; omega
theorem markLs_append : ∀ (L M : List Blk) (k : Nat), markLs k (L ++ M) = markLs k L ++ markLs (k + markN L) M
  | [], M, k => by simp [markLs, markN]
  | x :: L, M, k => by
    simp only [List.cons_append, markLs, markN, markLs_append L M]
    rw [show k + 3 + x.pg.length + markN L = k + (3 + x.pg.length + markN L) by omega]
theorem markN_take {L : List Blk} {i : Nat} (h : i < L.length) : markN (L.take (i + 1)) = markN (L.take i) + (3 + (L.getD i Blk.zero).pg.length) := by
  rw [List.take_succ_eq_append_getElem h, markN_append, List.getD_eq_getElem?_getD, List.getElem?_eq_getElem h]
  simp [markN]
theorem markLs_take {L : List Blk} {i : Nat} (k : Nat) (h : i < L.length) : markLs k (L.take (i + 1)) = markLs k (L.take i) ++ [markB (k + markN (L.take i)) (L.getD i Blk.zero)] := by
  rw [List.take_succ_eq_append_getElem h, markLs_append, List.getD_eq_getElem?_getD, List.getElem?_eq_getElem h]
  simp [markLs]
theorem markN_le {L : List Blk} (i : Nat) : markN (L.take i) ≤ markN L := by
  have := markN_append (L.take i) (L.drop i)
  rw [List.take_append_drop] at this
  omega
theorem markLs_at {L : List Blk} {i : Nat} (k : Nat) (h : i < L.length) : (markLs k L).getD i Blk.zero = markB (k + markN (L.take i)) (L.getD i Blk.zero) := by
  have e : markLs k L = markLs k (L.take (i + 1)) ++ markLs (k + markN (L.take (i + 1))) (L.drop (i + 1)) := by rw [← markLs_append, List.take_append_drop]
  rw [e, markLs_take k h, List.getD_eq_getElem?_getD, List.append_assoc, List.getElem?_append_right (by rw [markLs_length]; simp; omega), markLs_length, List.length_take, Nat.min_eq_left (by omega), Nat.sub_self]
  rfl
end Go.Proofs.Ytainlanblpccjaa
