/- The proof's own lemmas, part 23: Vl OwnR HtI HtS HtX HtC CxO. -/
import Derived.Test.YtgamoiagpglcmaaProg
import Derived.Test.YtgamoiagpglcmaaMg13
import Derived.BigQuiet
import Derived.Test.YtgamoiagpglcmaaMg21
import Derived.Laws.MakeOwn
import Derived.Deep.RegionHeld3
import Derived.Deep.Cut
import Derived.Lib.LazyBuf
import Derived.Deep.DeepCutAuto
import Derived.Deep.RegionLaw
import Derived.Deep.Upon
import Derived.StillTailTactics
/- How many logical pages there may be, in the program: the contract. -/
namespace Go.Proofs.Ytgamoiagpglcmaa
open Go.RowKit
set_option linter.unusedVariables false
end Go.Proofs.Ytgamoiagpglcmaa
/- A region that draws its order, walked once in the order of the text, at a class of worlds of one's own choice (say: these cells are as they were, and the elder blocks too): its calls may make memory, if what they hand back is the same in every world of the class. A law over any program. -/
namespace Go.Proofs.Ytgamoiagpglcmaa
set_option linter.unusedVariables false
theorem wp_region_own {P : Program} {C : World → Prop} {id : Nat} {Q : Exit → Act → World → Prop} {a : Act} {w : World} {l : List Oper} (hm : P.follows .mixedOrders = true) (hB : Region.lexB .any l.toArray = true) (hC : C w.drew)
    (h : wpQuiet P l.toArray C (fun a' => ∀ w', C w' → Q .normal a' w') l a) : (Code.region id l.toArray true).wp P Q a w :=
  wp_region_quiet hm hB hC (by simpa using h)
end Go.Proofs.Ytgamoiagpglcmaa
/- Which write counters are valid, in the program: the contracts. -/
namespace Go.Proofs.Ytgamoiagpglcmaa
open Go.RowKit
set_option linter.unusedVariables false
set_option linter.unusedSimpArgs false
end Go.Proofs.Ytgamoiagpglcmaa
/- Which write counters are valid, in the model: the contracts. -/
namespace Go.Proofs.Ytgamoiagpglcmaa
open Go.RowKit
set_option linter.unusedVariables false
set_option linter.unusedSimpArgs false
end Go.Proofs.Ytgamoiagpglcmaa
/- NewHeat, in the program and in the model: the contracts. -/
namespace Go.Proofs.Ytgamoiagpglcmaa
open Go.RowKit
set_option linter.unusedVariables false
set_option linter.unusedSimpArgs false
def HtPost (M : Ht) (c : Int) (w : World) (e : Ending) (w' : World) : Prop := ∃ u, e = .returned (.tuple #[u, .int .i64 c]) ∧ HtOwn w' w.heap.size w'.heap.size u M ∧ Below w.heap.size w w'
def HtPost1 (M : Ht) (w : World) (e : Ending) (w' : World) : Prop := ∃ u, e = .returned u ∧ HtOwn w' w.heap.size w'.heap.size u M ∧ Below w.heap.size w w'
end Go.Proofs.Ytgamoiagpglcmaa
/- A list of integers copied (slices.Clone, the model's l00Own); write counters copied: the contracts. -/
namespace Go.Proofs.Ytgamoiagpglcmaa
open Go.RowKit
set_option linter.unusedVariables false
set_option linter.unusedSimpArgs false
theorem wpList_append_ints {Q : Exit → Act → World → Prop} {ops : Array Oper} {rest : List Oper} {o : Oper} {a : Act} {w0 wr : World} {B : Nat} (hgd : o.guard = none) (s x : Operand)
    (ho : o.op = .call { callee := .builtin .append, args := #[s, x], argTypes := #[22, 22] })
    (v : Value) (l : List Int) (hs : a.eval s = v) (hown : IntsOwn wr B v l) (hb : Below B w0 wr) (hB : B ≤ wr.heap.size)
    (pb po m c : Nat) (L : List Int) (hx : a.eval x = .slice (some ⟨pb, po, none⟩) m c) (hL : L.length = m) (hc : ∀ i, i < m → wr.cell? ⟨pb, po + i, none⟩ = some (.int .i64 (L.getD i 0))) (hl : l.length + m ≤ 2097152)
    (h : ∀ v' w', IntsOwn w' B v' (l ++ L) → Below B w0 w' → wr.grownBy w' v.ownBlock → wpList Try.prog ops Q rest (a.put o.dst v') w') :
    wpList Try.prog ops Q (o :: rest) a wr := by
  obtain ⟨i0, hi, hz0, hz1, hz2⟩ := info_parts info64
  refine wpList_append_own _ hgd s x _ ho B 2 i0 (.int .i64 0) 1 8 Try.underlying22 hi hz0 hz1 hz2 rfl (by decide) v l.length (l.map (Value.int .i64)) hs hown ⟨pb, po, none⟩ m c (L.map (Value.int .i64)) hx (by simp [hL]) ?_ ?_ (by unfold maxLen; omega) (by omega) hB ?_
  · intro j u hj
    have hlt : j < L.length := by
      rcases Nat.lt_or_ge j L.length with h | h
      · exact h
      · rw [List.getElem?_eq_none (by simpa using h)] at hj; cases hj
    rw [Addr.add_lit, hc j (by omega)]
    simp [hlt] at hj ⊢
    exact hj
  · intro u hu; simp at hu; obtain ⟨z, _, rfl⟩ := hu; rfl
  · intro v' w' h1 h2 _
    refine h v' w' ?_ (hb.grown h2 hB fun k hk => (World.ownsRow.lt hown k hk).1) h2
    unfold IntsOwn; simpa [hL] using h1
def wpCopyFacts (w : World) (hi pb po n : Nat) (L : List Int) : Prop := pb < hi ∧ hi ≤ w.heap.size ∧ ∀ i, i < n → w.cell? ⟨pb, po + i, none⟩ = some (.int .i64 (L.getD i 0))
set_option maxRecDepth 100000 in
theorem cloneInts_any (v : Value) (L : List Int) (w : World) (hi : Nat) (hv : NI w hi v L) (hh : hi ≤ w.heap.size) (h0 : 0 < L.length) (hl : L.length ≤ 1048576) :
    Calls Try.prog 141 #[v] w (CopyPostI L w) := by
  obtain ⟨A, n, c, rfl, _, _, hn, hA⟩ := hv
  obtain ⟨pb, po, rfl, hp2, hpx⟩ := hA (by omega)
  have hi1 := IntsOwn.made w (B := w.heap.size) (Nat.le_refl _)
  have hb1 := (Below.refl w.heap.size w).alloc (Nat.le_refl _) (.cells #[] 2)
  have HC := Lib.hid (fun (i : Nat) (h : i < n) => (hb1.cell (p := ⟨pb, po + i, none⟩) (by show pb < _; omega)).trans (hpx i h))
  have hz : w.heap.size ≤ (w.alloc (.cells #[] 2)).heap.size := by simp
  have HI := Lib.hid hi1
  have HB := Lib.hid hb1
  have HN := Lib.hid hn
  have HL := Lib.hid (show n ≤ 1048576 by omega)
  clear hpx hA hi1 hb1 hn hl h0
  have hnil := fun (W : World) => run_eql_slice_nil (P := Try.prog) W 22 2 (some ⟨pb, po, none⟩) n c Try.underlying22
  simp only [Option.isNone_some] at hnil
  go_enter Try.func141, Try.ntmps141
  go_wp2_with (at_builtin; refine wpList_append_ints rfl _ _ rfl _ [] rfl HI.out HB.out hz pb po n c L rfl HN.out HC.out (by have := HL.out; simp; omega) ?_; intro v' w1 ho hb2 _; have HO := Lib.hid ho; have HB2 := Lib.hid hb2; clear ho hb2)
  go_ret
  exact ⟨_, rfl, by simpa using HO.out, HB2.out⟩
set_option maxRecDepth 100000 in
theorem ownInts_any (v : Value) (L : List Int) (w : World) (hi : Nat) (hv : NI w hi v L) (hh : hi ≤ w.heap.size) (h0 : 0 < L.length) (hl : L.length ≤ 1048576) :
    Calls Try.prog 140 #[v] w (CopyPostI L w) := by
  obtain ⟨A, n, c, rfl, _, _, hn, hA⟩ := hv
  obtain ⟨pb, po, rfl, hp2, hpx⟩ := hA (by omega)
  have hi1 := IntsOwn.made w (B := w.heap.size) (Nat.le_refl _)
  have hb1 := (Below.refl w.heap.size w).alloc (Nat.le_refl _) (.cells #[] 2)
  have HC := Lib.hid (fun (i : Nat) (h : i < n) => (hb1.cell (p := ⟨pb, po + i, none⟩) (by show pb < _; omega)).trans (hpx i h))
  have hz : w.heap.size ≤ (w.alloc (.cells #[] 2)).heap.size := by simp
  have HI := Lib.hid hi1
  have HB := Lib.hid hb1
  have HN := Lib.hid hn
  have HL := Lib.hid (show n ≤ 1048576 by omega)
  clear hpx hA hi1 hb1 hn hl h0
  go_enter Try.func140, Try.ntmps140
  go_wp2_with (at_builtin; refine wpList_append_ints rfl _ _ rfl _ [] rfl HI.out HB.out hz pb po n c L rfl HN.out HC.out (by have := HL.out; simp; omega) ?_; intro v' w1 ho hb2 _; have HO := Lib.hid ho; have HB2 := Lib.hid hb2; clear ho hb2)
  go_ret
  exact ⟨_, rfl, by simpa using HO.out, HB2.out⟩
end Go.Proofs.Ytgamoiagpglcmaa
/- append of nothing; a list copied whatever its length (the model's l00Own): the contracts. -/
namespace Go.Proofs.Ytgamoiagpglcmaa
open Go.RowKit
set_option linter.unusedVariables false
set_option linter.unusedSimpArgs false

theorem wpList_append_none {Q : Exit → Act → World → Prop} {ops : Array Oper} {rest : List Oper} {o : Oper} {a : Act} (w : World) (hgd : o.guard = none) (s x : Operand) (t e : TypeId) (i : TypeInfo)
    (ho : o.op = .call { callee := .builtin .append, args := #[s, x], argTypes := #[t, t] }) (ht : Try.prog.underlying t = some (.slice e)) (hi : Try.prog.info? e = some i)
    (B : Option Addr) (n cap : Nat) (hle : n ≤ cap) (hs : a.eval s = .slice B n cap) (A : Option Addr) (c : Nat) (hx : a.eval x = .slice A 0 c)
    (h : wpList Try.prog ops Q rest (a.put o.dst (.slice B n cap)) w) : wpList Try.prog ops Q (o :: rest) a w := by
  refine wpList_plain hgd fun K hK' => ?_
  have hrun : (Builtin.append_ #[t, t] o.type #[.slice B n cap, .slice A 0 c]).run Try.prog w = .ok (.slice B n cap) w := by
    refine run_append_nothing w t t o.type e i ht hi B n cap hle _ ?_
    cases A with
    | none => exact Src.ofNil _ ht c
    | some ad => exact Src.ofSlice _ ht ad 0 c [] (by simp) (fun j u hj => by simp at hj) (fun u hu => by simp at hu)
  unfold Oper.wp
  simp [execOp, ho, resolve, invoke, builtin, hs, hx, hrun, Result.andThen]
  exact hK' _ _ h
theorem own0_any (A : Option Addr) (c : Nat) (w : World) : Calls Try.prog 140 #[.slice A 0 c] w (CopyPostI [] w) := by
  obtain ⟨i0, hi, _⟩ := info_parts info64
  have hi1 := IntsOwn.made w (B := w.heap.size) (Nat.le_refl _)
  have hb1 := (Below.refl w.heap.size w).alloc (Nat.le_refl _) (.cells #[] 2)
  have HI := Lib.hid hi1
  have HB := Lib.hid hb1
  clear hi1 hb1
  go_enter Try.func140, Try.ntmps140
  go_wp2_with (at_builtin; refine wpList_append_none _ rfl _ _ _ _ i0 rfl Try.underlying22 hi _ 0 0 (Nat.le_refl _) rfl A c rfl ?_)
  go_ret
  exact ⟨_, rfl, HI.out, HB.out⟩
theorem ownAny_any (v : Value) (L : List Int) (w : World) (hi : Nat) (hv : NI w hi v L) (hh : hi ≤ w.heap.size) (hl : L.length ≤ 1048576) :
    Calls Try.prog 140 #[v] w (CopyPostI L w) := by
  rcases Nat.eq_zero_or_pos L.length with h0 | h0
  · obtain ⟨A, n, c, rfl, _, _, hn, _⟩ := hv
    obtain rfl : n = 0 := by omega
    obtain rfl : L = [] := List.eq_nil_of_length_eq_zero h0
    exact own0_any A c w
  · exact ownInts_any v L w hi hv hh h0 hl
end Go.Proofs.Ytgamoiagpglcmaa
