/- The proof's own lemmas, part 4 of 8: FlG FlF FlQ FlK FlR FlV FlW FlC FlD. -/
import Derived.Test.YtlmdpdidjldkpaaGreatDoorProg
import Derived.Test.YtlmdpdidjldkpaaGreatDoorMg2
import Derived.Test.YtlmdpdidjldkpaaGreatDoorMg0
import Derived.Deep.DeepMust
import Derived.Deep.RegionHeld3
import Derived.StillTailTactics
import Derived.Maps.AppendAt
import Derived.Deep.DeepAppendRoom
/- What a call that hands back an array leaves behind: plain helpers. -/
namespace Go.Proofs.YtlmdpdidjldkpaaGreatDoor
open Go.RowKit
set_option linter.unusedVariables false
def OwnPost (G : Fl) (w : World) (e : Ending) (w' : World) : Prop := ∃ u, e = .returned u ∧ FlOwn w' w.heap.size w'.heap.size u G ∧ Below w.heap.size w w'
/-- What PowerOn answers. -/
def OnEnds (F G : Fl) : Prop := (FlOk F ∧ G = F.on) ∨ (¬ FlOk F ∧ G = Fl.zero)
theorem onEnds (F : Fl) : ∃ G, OnEnds F G := by
  by_cases h : FlOk F
  · exact ⟨_, .inl ⟨h, rfl⟩⟩
  · exact ⟨_, .inr ⟨h, rfl⟩⟩
theorem zeroOwn (w : World) (lo hi : Nat) : FlOwn w lo hi (.agg #[.int .i64 0, .int .i64 0, .int .i64 0, .slice none 0 0, .int .i64 0, .int .i64 0, .bool false, .int .i64 0]) Fl.zero := FlOwn.zero w lo hi
/-- The eight cells of a result laid anew. -/
theorem Rw.put8 {w : World} {g : Nat} {t : TypeId} {c0 c1 c2 c3 c4 c5 c6 c7 : Value} (h : Rw w g t #[c0, c1, c2, c3, c4, c5, c6, c7]) (a b c d e f i j : Value) :
    Rw ((((((((w.setCell ⟨g, 0, none⟩ a).setCell ⟨g, 1, none⟩ b).setCell ⟨g, 2, none⟩ c).setCell ⟨g, 3, none⟩ d).setCell ⟨g, 4, none⟩ e).setCell ⟨g, 5, none⟩ f).setCell ⟨g, 6, none⟩ i).setCell ⟨g, 7, none⟩ j) g t #[a, b, c, d, e, f, i, j] := by
  have k := (((((((h.set_ 0 a).set_ 1 b).set_ 2 c).set_ 3 d).set_ 4 e).set_ 5 f).set_ 6 i).set_ 7 j
  simp only [List.setIfInBounds_toArray, List.set_cons_zero, List.set_cons_succ] at k
  exact k
theorem Rw.eightA {w : World} {g : Nat} {t : TypeId} {a b c d e f i j : Value} (h : Rw w g t #[a, b, c, d, e, f, i, j]) : (∀ o, (w.alloc o).cell? ⟨g, 0, none⟩ = some a) ∧ (∀ o, (w.alloc o).cell? ⟨g, 1, none⟩ = some b) ∧ (∀ o, (w.alloc o).cell? ⟨g, 2, none⟩ = some c) ∧ (∀ o, (w.alloc o).cell? ⟨g, 3, none⟩ = some d) ∧
    (∀ o, (w.alloc o).cell? ⟨g, 4, none⟩ = some e) ∧ (∀ o, (w.alloc o).cell? ⟨g, 5, none⟩ = some f) ∧ (∀ o, (w.alloc o).cell? ⟨g, 6, none⟩ = some i) ∧ (∀ o, (w.alloc o).cell? ⟨g, 7, none⟩ = some j) :=
  ⟨fun o => (h.alloc o).cell 0, fun o => (h.alloc o).cell 1, fun o => (h.alloc o).cell 2, fun o => (h.alloc o).cell 3, fun o => (h.alloc o).cell 4, fun o => (h.alloc o).cell 5, fun o => (h.alloc o).cell 6, fun o => (h.alloc o).cell 7⟩
theorem Rw.freesA {w : World} {g : Nat} {t : TypeId} {cs : Array Value} (h : Rw w g t cs) : (∀ o, (w.alloc o).frozen? ⟨g, 0, none⟩ = false) ∧ (∀ o, (w.alloc o).frozen? ⟨g, 1, none⟩ = false) ∧ (∀ o, (w.alloc o).frozen? ⟨g, 2, none⟩ = false) ∧ (∀ o, (w.alloc o).frozen? ⟨g, 3, none⟩ = false) ∧
    (∀ o, (w.alloc o).frozen? ⟨g, 4, none⟩ = false) ∧ (∀ o, (w.alloc o).frozen? ⟨g, 5, none⟩ = false) ∧ (∀ o, (w.alloc o).frozen? ⟨g, 6, none⟩ = false) ∧ (∀ o, (w.alloc o).frozen? ⟨g, 7, none⟩ = false) :=
  ⟨fun o => (h.alloc o).free 0, fun o => (h.alloc o).free 1, fun o => (h.alloc o).free 2, fun o => (h.alloc o).free 3, fun o => (h.alloc o).free 4, fun o => (h.alloc o).free 5, fun o => (h.alloc o).free 6, fun o => (h.alloc o).free 7⟩
theorem BksOwn.slice {w : World} {lo hi : Nat} {v : Value} {L : List Blk} (h : BksOwn w lo hi v L) : ∃ A n c, v = .slice A n c := by
  obtain ⟨A, n, c, e, _⟩ := h; exact ⟨A, n, c, e⟩
theorem BksIn.slice {w : World} {lo hi : Nat} {v : Value} {L : List Blk} (h : BksIn w lo hi v L) : ∃ A n c, v = .slice A n c := by
  obtain ⟨A, n, c, e, _⟩ := h; exact ⟨A, n, c, e⟩
def FlPost (G : Fl) (c : Int) (w : World) (e : Ending) (w' : World) : Prop := ∃ u, e = .returned (.tuple #[u, .int .i64 c]) ∧ FlOwn w' w.heap.size w'.heap.size u G ∧ Below w.heap.size w w'
theorem grown_refl (w : World) (row : Option Nat) : w.grownBy w row := ⟨rfl, rfl, rfl, Nat.le_refl _, fun _ _ _ => rfl⟩
theorem grown_set {w w' : World} {g k : Nat} (h : w.grownBy w' (some g)) (u : Value) : w.grownBy (w'.setCell ⟨g, k, none⟩ u) (some g) :=
  ⟨h.os, h.tape, h.output, by simpa using h.size, fun j hj hr => (Below.heap_setCell w' ⟨g, k, none⟩ u j (fun e => hr (by rw [e]))).trans (h.block j hj hr)⟩
theorem grown_keep {w w' : World} {g : Nat} (h : w.grownBy w' (some g)) {B : Nat} (hB : B ≤ g) (hw : B ≤ w.heap.size) : Below B w w' :=
  (Below.refl B w).grown h hw (fun k hk => by injection hk with hk; omega)
end Go.Proofs.YtlmdpdidjldkpaaGreatDoor
/- The operations keep an array valid. No program in it. -/
namespace Go.Proofs.YtlmdpdidjldkpaaGreatDoor
open Go.RowKit
set_option linter.unusedVariables false

theorem PageOk.more {a b : Int} {i : Nat} {s : ByteArray} (h : PageOk a i s) (hab : a ≤ b) : PageOk b i s := by
  rcases h with h | ⟨h, h2⟩
  · exact .inl h
  · exact .inr ⟨h, by omega⟩
theorem BlkOk.prog {p : Int} {x : Blk} (h : BlkOk p x) (hn : x.nx < p) {raw : ByteArray} (hr : raw.size = 91) : BlkOk p (x.prog raw) := by
  obtain ⟨h1, h2, h3, h4⟩ := h
  refine ⟨h1, ⟨by show 0 ≤ x.nx + 1; omega, by show x.nx + 1 ≤ p; omega⟩, by show ((x.pg.set _ _).length : Int) = p; rw [List.length_set]; exact h3, fun i hi => ?_⟩
  change i < (x.pg.set _ _).length at hi
  rw [List.length_set] at hi
  show PageOk (x.nx + 1) i ((x.pg.set x.nx.toNat raw).getD i ByteArray.empty)
  by_cases e : x.nx.toNat = i
  · subst e; rw [getD_set_eq _ _ _ _ hi]; exact .inr ⟨hr, by omega⟩
  · rw [getD_set_ne _ _ _ _ _ e]; exact (h4 i hi).more (by omega)
theorem BlkOk.torn {p : Int} {x : Blk} (h : BlkOk p x) (hn : x.nx < p) {raw : ByteArray} (hr : raw.size = 91) {ke : Int} (hk : 0 ≤ ke ∧ ke ≤ 91) : BlkOk p (x.torn raw ke) := by
  obtain ⟨h1, h2, h3, h4⟩ := h
  have ht := tornB_size (k := ke.toNat) hr (by omega)
  have key : ∀ L : List ByteArray, L.length = x.pg.length → (∀ i, i < L.length → PageOk (x.nx + 1) i (L.getD i ByteArray.empty)) → BlkOk p { x with pg := L.set x.nx.toNat (tornB raw ke.toNat), nx := x.nx + 1 } := by
    intro L hL hp
    refine ⟨h1, ⟨by show 0 ≤ x.nx + 1; omega, by show x.nx + 1 ≤ p; omega⟩, by show ((L.set _ _).length : Int) = p; rw [List.length_set, hL]; exact h3, fun i hi => ?_⟩
    change i < (L.set _ _).length at hi
    rw [List.length_set] at hi
    show PageOk (x.nx + 1) i ((L.set x.nx.toNat (tornB raw ke.toNat)).getD i ByteArray.empty)
    by_cases e : x.nx.toNat = i
    · subst e; rw [getD_set_eq _ _ _ _ hi]; exact .inr ⟨ht, by omega⟩
    · rw [getD_set_ne _ _ _ _ _ e]; exact hp i hi
  unfold Blk.torn
  by_cases hc : x.nx.toNat % 2 = 1 ∧ ke < 91
  · rw [if_pos hc]
    refine key _ (List.length_set) fun i hi => ?_
    rw [List.length_set] at hi
    by_cases e : x.nx.toNat - 1 = i
    · subst e; rw [getD_set_eq _ _ _ _ hi]; exact .inr ⟨destB_size, by omega⟩
    · rw [getD_set_ne _ _ _ _ _ e]; exact (h4 i hi).more (by omega)
  · rw [if_neg hc]
    exact key _ rfl fun i hi => (h4 i hi).more (by omega)
theorem emptied_at (l : List ByteArray) (m i : Nat) (hi : i < l.length) : (emptied l m).getD i ByteArray.empty = if i < m then ByteArray.empty else l.getD i ByteArray.empty := by
  unfold emptied
  rw [List.getD_eq_getElem?_getD]
  by_cases h : i < m
  · rw [if_pos h, List.getElem?_append_left (by simp; omega), List.getElem?_replicate]
    split <;> rfl
  · rw [if_neg h, List.getElem?_append_right (by simp; omega), List.length_replicate, Nat.min_eq_left (by omega), List.getElem?_drop, List.getD_eq_getElem?_getD]
    rw [show m + (i - m) = i by omega]
theorem BlkOk.erase {p : Int} {x : Blk} (h : BlkOk p x) (he : x.er ≠ 1000) (m : Nat) : BlkOk p (x.erase m) := by
  obtain ⟨h1, h2, h3, h4⟩ := h
  refine ⟨⟨by show 0 ≤ x.er + 1; omega, by show x.er + 1 ≤ 1000; omega⟩, ?_, by show ((emptied _ _).length : Int) = p; rw [emptied_length]; exact h3, fun i hi => ?_⟩
  · show 0 ≤ (if m < x.pg.length then (x.pg.length : Int) else 0) ∧ (if m < x.pg.length then (x.pg.length : Int) else 0) ≤ p
    split <;> omega
  · change i < (emptied _ _).length at hi
    rw [emptied_length] at hi
    show PageOk (if m < x.pg.length then (x.pg.length : Int) else 0) i ((emptied x.pg m).getD i ByteArray.empty)
    rw [emptied_at _ _ _ hi]
    by_cases h : i < m
    · rw [if_pos h]; exact .inl rfl
    · rw [if_neg h, if_pos (by omega)]; exact (h4 i hi).more (by omega)
theorem FlOk.upd {F : Fl} (h : FlOk F) (k : Nat) {x : Blk} (hx : BlkOk F.p x) : FlOk (F.upd k x) := by
  obtain ⟨a, b, c, d, e, f⟩ := h
  refine ⟨a, by show ((F.bs.set k x).length : Int) = _; rw [List.length_set]; exact b, fun i hi => ?_, d, e, f⟩
  change i < (F.bs.set k x).length at hi
  rw [List.length_set] at hi
  show BlkOk F.p ((F.bs.set k x).getD i Blk.zero)
  by_cases e : k = i
  · subst e; rw [getD_set_eq _ _ _ _ hi]; exact hx
  · rw [getD_set_ne _ _ _ _ _ e]; exact c i hi
theorem FlOk.tick {F : Fl} (h : FlOk F) (ho : F.op < 9223372036854775807) : FlOk F.tick := by
  obtain ⟨a, b, c, d, e, f⟩ := h
  refine ⟨a, b, c, ?_, e, ?_⟩
  · show -1 ≤ (if F.fu = 0 then -1 else if 0 < F.fu then F.fu - 1 else F.fu) ∧ (if F.fu = 0 then -1 else if 0 < F.fu then F.fu - 1 else F.fu) ≤ 1000000
    split
    · omega
    · split <;> omega
  · show 0 ≤ wrap64 (F.op + 1)
    rw [IntWalk.wrap64_in _ (by omega)]; omega
theorem FlOk.prog {F : Fl} (h : FlOk F) (ho : F.op < 9223372036854775807) {k : Nat} (hk : k < F.bs.length) (hn : (F.blk k).nx < F.p) {raw : ByteArray} (hr : raw.size = 91) : FlOk (F.prog k raw) := by
  have hb := h.2.2.1 k hk
  unfold Fl.prog
  split
  · split
    · exact h.tick ho
    · exact (h.tick ho).upd k (x := (F.blk k).torn raw F.ke) (hb.torn hn hr h.2.2.2.2.1)
  · exact (h.tick ho).upd k (x := (F.blk k).prog raw) (hb.prog hn hr)
theorem FlOk.erase {F : Fl} (h : FlOk F) (ho : F.op < 9223372036854775807) {k : Nat} (hk : k < F.bs.length) (he : (F.blk k).er ≠ 1000) : FlOk (F.erase k) :=
  (h.tick ho).upd k (x := (F.blk k).erase _) ((h.2.2.1 k hk).erase he _)
end Go.Proofs.YtlmdpdidjldkpaaGreatDoor
/- The start of an operation, in the model and in the program: the contracts. -/
namespace Go.Proofs.YtlmdpdidjldkpaaGreatDoor
open Go.RowKit
set_option linter.unusedVariables false

/-- How much of an operation takes effect. -/
def Fl.much (F : Fl) : Int := if F.fu = 0 then F.ke else 91
theorem tick_zero {F : Fl} (h : F.fu = 0) : F.tick = { F with op := wrap64 (F.op + 1), off := true, fu := -1 } := by
  unfold Fl.tick; simp [h]
theorem tick_pos {F : Fl} (h : 0 < F.fu) : F.tick = { F with op := wrap64 (F.op + 1), fu := F.fu - 1 } := by
  unfold Fl.tick; simp [show ¬ F.fu = 0 by omega, h]
theorem tick_neg {F : Fl} (h : F.fu < 0) : F.tick = { F with op := wrap64 (F.op + 1) } := by
  unfold Fl.tick; simp [show ¬ F.fu = 0 by omega, show ¬ 0 < F.fu by omega]
def StartPost (g : Nat) (F : Fl) (u : Value) (v : Value) (w : World) (e : Ending) (w' : World) : Prop := e = .returned v ∧ Rw w' g 28 (flc F.tick u) ∧ w.grownBy w' (some g)
set_option maxRecDepth 100000 in
theorem start_any (g : Nat) (F : Fl) (u : Value) (w : World) (h : Rw w g 28 (flc F u)) (hf : -1 ≤ F.fu ∧ F.fu ≤ 1000000) :
    Calls Tryz.prog 56 #[.pointer (some ⟨g, 0, none⟩)] w (StartPost g F u (.tuple #[.int .i64 F.much, .int .i64 F.code]) w) := by
  unfold StartPost Fl.much Fl.code
  rcases Int.lt_trichotomy F.fu 0 with h0 | h0 | h0
  · rw [tick_neg h0, if_neg (by omega), if_neg (by omega)]
    obtain ⟨d, b, p, bs, fu, ke, off, op⟩ := F
    unfold flc at *
    simp only at *
    obtain ⟨c0, c1, c2, c3, c4, c5, c6, c7⟩ := h.eight
    obtain ⟨f0, f1, f2, f3, f4, f5, f6, f7⟩ := h.frees
    have H := Lib.hid h
    clear h
    go_enter Tryz.func56, Tryz.ntmps56
    go_wp2
    go_ret2
    have k := H.out.set_ 7 (.int .i64 (wrap64 (op + 1)))
    simp only [List.setIfInBounds_toArray, List.set_cons_zero, List.set_cons_succ] at k
    exact ⟨rfl, k, grown_set (grown_refl _ _) _⟩
  · rw [tick_zero h0, if_pos h0, if_pos h0]
    obtain ⟨d, b, p, bs, fu, ke, off, op⟩ := F
    unfold flc at *
    simp only at *
    subst h0
    obtain ⟨c0, c1, c2, c3, c4, c5, c6, c7⟩ := h.eight
    obtain ⟨f0, f1, f2, f3, f4, f5, f6, f7⟩ := h.frees
    have H := Lib.hid h
    clear h
    go_enter Tryz.func56, Tryz.ntmps56
    go_wp2
    go_ret2
    have k := ((H.out.set_ 7 (.int .i64 (wrap64 (op + 1)))).set_ 6 (.bool true)).set_ 4 (.int .i64 (-1))
    simp only [List.setIfInBounds_toArray, List.set_cons_zero, List.set_cons_succ] at k
    exact ⟨rfl, k, grown_set (grown_set (grown_set (grown_refl _ _) _) _) _⟩
  · rw [tick_pos h0, if_neg (by omega), if_neg (by omega)]
    obtain ⟨d, b, p, bs, fu, ke, off, op⟩ := F
    unfold flc at *
    simp only at *
    obtain ⟨c0, c1, c2, c3, c4, c5, c6, c7⟩ := h.eight
    obtain ⟨f0, f1, f2, f3, f4, f5, f6, f7⟩ := h.frees
    have H := Lib.hid h
    have hz : ¬ fu = 0 := by omega
    clear h
    go_enter Tryz.func56, Tryz.ntmps56
    go_wp2
    go_ret2
    have k := (H.out.set_ 7 (.int .i64 (wrap64 (op + 1)))).set_ 4 (.int .i64 (fu - 1))
    simp only [List.setIfInBounds_toArray, List.set_cons_zero, List.set_cons_succ] at k
    exact ⟨rfl, k, grown_set (grown_set (grown_refl _ _) _) _⟩
set_option maxRecDepth 100000 in
theorem tick_any (g : Nat) (F : Fl) (u : Value) (w : World) (h : Rw w g 28 (flc F u)) (hf : -1 ≤ F.fu ∧ F.fu ≤ 1000000) :
    Calls Tryz.prog 112 #[.pointer (some ⟨g, 0, none⟩)] w (StartPost g F u (.bool (decide (F.fu = 0))) w) := by
  unfold StartPost
  rcases Int.lt_trichotomy F.fu 0 with h0 | h0 | h0
  · rw [tick_neg h0, decide_eq_false (by omega)]
    obtain ⟨d, b, p, bs, fu, ke, off, op⟩ := F
    unfold flc at *
    simp only at *
    obtain ⟨c0, c1, c2, c3, c4, c5, c6, c7⟩ := h.eight
    obtain ⟨f0, f1, f2, f3, f4, f5, f6, f7⟩ := h.frees
    have H := Lib.hid h
    clear h
    go_enter Tryz.func112, Tryz.ntmps112
    go_wp2
    go_ret
    have k := H.out.set_ 7 (.int .i64 (wrap64 (op + 1)))
    simp only [List.setIfInBounds_toArray, List.set_cons_zero, List.set_cons_succ] at k
    exact ⟨rfl, k, grown_set (grown_refl _ _) _⟩
  · rw [tick_zero h0, decide_eq_true h0]
    obtain ⟨d, b, p, bs, fu, ke, off, op⟩ := F
    unfold flc at *
    simp only at *
    subst h0
    obtain ⟨c0, c1, c2, c3, c4, c5, c6, c7⟩ := h.eight
    obtain ⟨f0, f1, f2, f3, f4, f5, f6, f7⟩ := h.frees
    have H := Lib.hid h
    clear h
    go_enter Tryz.func112, Tryz.ntmps112
    go_wp2
    go_ret
    have k := ((H.out.set_ 7 (.int .i64 (wrap64 (op + 1)))).set_ 6 (.bool true)).set_ 4 (.int .i64 (-1))
    simp only [List.setIfInBounds_toArray, List.set_cons_zero, List.set_cons_succ] at k
    exact ⟨rfl, k, grown_set (grown_set (grown_set (grown_refl _ _) _) _) _⟩
  · rw [tick_pos h0, decide_eq_false (by omega)]
    obtain ⟨d, b, p, bs, fu, ke, off, op⟩ := F
    unfold flc at *
    simp only at *
    obtain ⟨c0, c1, c2, c3, c4, c5, c6, c7⟩ := h.eight
    obtain ⟨f0, f1, f2, f3, f4, f5, f6, f7⟩ := h.frees
    have H := Lib.hid h
    have hz : ¬ fu = 0 := by omega
    clear h
    go_enter Tryz.func112, Tryz.ntmps112
    go_wp2
    go_ret
    have k := (H.out.set_ 7 (.int .i64 (wrap64 (op + 1)))).set_ 4 (.int .i64 (fu - 1))
    simp only [List.setIfInBounds_toArray, List.set_cons_zero, List.set_cons_succ] at k
    exact ⟨rfl, k, grown_set (grown_set (grown_refl _ _) _) _⟩
end Go.Proofs.YtlmdpdidjldkpaaGreatDoor
/- The laws' helpers markFlash and heldFlash: their contracts. -/
namespace Go.Proofs.YtlmdpdidjldkpaaGreatDoor
open Go.RowKit
set_option linter.unusedVariables false
theorem strOfNums_join (a b : List Int) : strOfNums a ++ strOfNums b = strOfNums (a ++ b) := by
  apply ByteArray.ext
  simp [strOfNums, ByteArray.data_append]
theorem wpList_one_byte {Q : Exit → Act → World → Prop} {ops : Array Oper} {rest : List Oper} {o : Oper} {a : Act} {w : World} (hgd : o.guard = none) (x : Operand)
    (ho : o.op = .convert 22 9 x) (n : Nat) (b : Int) (s : ByteArray) (hx : a.eval x = .slice (some ⟨w.heap.size, 0, none⟩) 1 n) (hs : s = strOfNums [b])
    (h : wpList Tryz.prog ops Q rest (a.put o.dst (.string s)) (w.alloc (.cells #[.int .u8 b] 5))) : wpList Tryz.prog ops Q (o :: rest) a (w.alloc (.cells #[.int .u8 b] 5)) := by
  refine wpList_plain hgd fun K hK' => ?_
  have hrun := arr_str (Arr.new w 5 .u8 [b]) 1 n (by simp)
  unfold Oper.wp
  simp only [List.map_cons, List.map_nil, List.take_succ_cons, List.take_zero] at hrun
  simp only [execOp, ho, hx, hrun, Sem.run_bind, Sem.run_pure, Result.andThen]
  rw [← hs]
  exact hK' _ _ h
/-- Outside the blocks from lo up to hi nothing turned (new blocks may lie behind). -/
def Keep (lo hi : Nat) (w w' : World) : Prop := Below lo w w' ∧ Same hi w.heap.size w w'
section
variable {w w' w'' : World} {lo hi : Nat}
theorem Keep.refl (lo hi : Nat) (w : World) : Keep lo hi w w := ⟨Below.refl _ _, Same.refl _ _ _⟩
theorem Keep.trans (h : Keep lo hi w w') (k : Keep lo hi w' w'') : Keep lo hi w w'' := ⟨h.1.trans k.1, h.2.trans (k.2.mono (Nat.le_refl _) h.1.size)⟩
theorem Keep.set_ (h : Keep lo hi w w') {g k : Nat} (h1 : lo ≤ g) (h2 : g < hi) (u : Value) : Keep lo hi w (w'.setCell ⟨g, k, none⟩ u) := ⟨bset h.1 h1 u, sset h.2 (.inl h2) u⟩
theorem Keep.call (h : Keep lo hi w w') (hb : Below w'.heap.size w' w'') (hl : lo ≤ w.heap.size) : Keep lo hi w w'' := ⟨h.1.trans (hb.mono (by have := h.1.size; omega)), h.2.trans (sm hb hi h.1.size)⟩
theorem Keep.size (h : Keep lo hi w w') : w.heap.size ≤ w'.heap.size := h.1.size
theorem Keep.high (h : Keep lo hi w w') {hi' : Nat} (a : hi' ≤ w.heap.size) : Same hi hi' w w' := h.2.mono (Nat.le_refl _) a
theorem Keep.low (h : Keep lo hi w w') (b : Nat) : Same b lo w w' := sm h.1 b (Nat.le_refl _)
end
theorem markT_size (k : Nat) (h : k ≤ 10000000) : (markT k).size ≤ 9223372036854775807 := by
  have hd : ∀ n k, k ≤ n → (digs k).length ≤ k := by
    intro n
    induction n with
    | zero => intro k hk; obtain rfl : k = 0 := by omega
              rw [digs_zero]; simp
    | succ n ih =>
      intro k hk
      rcases Nat.eq_zero_or_pos k with h0 | h0
      · subst h0; rw [digs_zero]; simp
      · rw [digs_pos h0, List.length_append]
        have := ih (k / 10) (by omega)
        simp only [List.length_cons, List.length_nil]
        omega
  unfold markT
  rw [strOfNums_size, List.length_cons]
  have := hd k k (Nat.le_refl _)
  omega
/-- Texts, the first of them marked. -/
def mks (m : Nat) (l : List ByteArray) (i : Nat) : List ByteArray := (List.range i).map (fun t => markT (m + t)) ++ l.drop i
theorem mks_length (m : Nat) (l : List ByteArray) (i : Nat) (h : i ≤ l.length) : (mks m l i).length = l.length := by simp [mks]; omega
theorem mks_set (m : Nat) (l : List ByteArray) (i : Nat) (h : i < l.length) : (mks m l i).set i (markT (m + i)) = mks m l (i + 1) := by
  unfold mks
  rw [List.set_append_right _ _ (by simp), List.length_map, List.length_range, Nat.sub_self, List.drop_eq_getElem_cons h, List.set_cons_zero, List.range_succ, List.map_append, List.append_assoc]; rfl
theorem mks_all (m : Nat) (l : List ByteArray) : mks m l l.length = (List.range l.length).map fun t => markT (m + t) := by simp [mks]
def Blk.pages (x : Blk) (l : List ByteArray) : Blk := { x with pg := l }
theorem set_set_pages (L : List Blk) (k : Nat) (l l' : List ByteArray) (hk : k < L.length) : (L.set k ((L.getD k Blk.zero).pages l)).set k (((L.set k ((L.getD k Blk.zero).pages l)).getD k Blk.zero).pages l') = L.set k ((L.getD k Blk.zero).pages l') := by
  rw [List.set_set, getD_set_eq _ _ _ _ hk]; rfl
def MkPost (B lo hi g : Nat) (pv : Nat → Value) (L : List Blk) (n : Nat) (w : World) (e : Ending) (w' : World) : Prop := e = .returned (.int .i64 n) ∧ BO w' lo hi g pv L ∧ Keep B hi w w'
section
variable {w : World} {lo hi g k c : Nat} {pv : Nat → Value} {L : List Blk} {a : Blk}
theorem BO.self (h : BO w lo hi g pv L) (hk : k < L.length) : BO w lo hi g pv (L.set k (L.getD k Blk.zero)) := by
  rw [List.getD_eq_getElem?_getD, List.getElem?_eq_getElem hk]
  simpa using h
theorem BO.storeS (h : BO w lo hi g pv (L.set k a)) (hk : k < L.length) (u : Value) (hc : (c = 0 ∧ ∃ n, u = .int .i64 n) ∨ (c = 1 ∧ ∃ n, u = .int .i64 n) ∨ (c = 2 ∧ ∃ b, u = .bool b)) :
    BO (w.setCell ⟨g, k * 4 + c, none⟩ u) lo hi g pv (L.set k (a.put c u)) := by
  have := h.store (k := k) (by simpa using hk) u hc
  rwa [List.set_set, getD_set_eq _ _ _ _ hk] at this
theorem BO.cells (h : BO w lo hi g pv (L.set k a)) (hk : k < L.length) : BkAt w g (k * 4) a (pv k) := by
  have := h.row k (by simpa using hk)
  rwa [getD_set_eq _ _ _ _ hk] at this
end
theorem marks_set (L : List Blk) (m i : Nat) (hi : i < L.length) : (markLs m (L.take i) ++ L.drop i).getD i Blk.zero = L.getD i Blk.zero ∧
    (markLs m (L.take i) ++ L.drop i).set i (markB (m + markN (L.take i)) (L.getD i Blk.zero)) = markLs m (L.take (i + 1)) ++ L.drop (i + 1) := by
  have hl : (markLs m (L.take i)).length = i := by rw [markLs_length]; simp; omega
  constructor
  · rw [List.getD_eq_getElem?_getD, List.getElem?_append_right (by omega), hl, Nat.sub_self, List.getElem?_drop, List.getD_eq_getElem?_getD, Nat.add_zero]
  · rw [List.set_append_right _ _ (by omega), hl, Nat.sub_self, List.drop_eq_getElem_cons hi, List.set_cons_zero, markLs_take m hi, List.append_assoc]; rfl
theorem beq3 (q : Nat) : ((1 + (q : Int) + 1 + 1) % 3 == 0) = decide ((1 + q + 2) % 3 = 0) := by
  rw [Bool.eq_iff_iff]; simp; omega
def MbPost (lo hi : Nat) (v : Value) (L : List Blk) (m : Nat) (w : World) (e : Ending) (w' : World) : Prop := e = .returned (.int .i64 (m + markN L : Nat)) ∧ BksOwn w' lo hi v (markLs m L) ∧ Keep lo hi w w'
end Go.Proofs.YtlmdpdidjldkpaaGreatDoor
/- A block programmed in place, by the program and by the model: the contracts. -/
namespace Go.Proofs.YtlmdpdidjldkpaaGreatDoor
open Go.RowKit
set_option linter.unusedVariables false
section
variable {w : World} {lo hi g k : Nat} {pv : Nat → Value} {L : List Blk} {a : Blk}
theorem BO.storePgS (h : BO w lo hi g pv (L.set k a)) (hk : k < L.length) {b off n cap t : Nat} (hv : pv k = .slice (some ⟨b, off, none⟩) n cap) (ht : t < n) (s : ByteArray) (hs : s.size ≤ 9223372036854775807) :
    BO (w.setCell ⟨b, off + t, none⟩ (.string s)) lo hi g pv (L.set k (a.pages (a.pg.set t s))) := by
  have := h.storePg (k := k) (n := t) (by simpa using hk) ht hv s hs
  rwa [List.set_set, getD_set_eq _ _ _ _ hk] at this
theorem BO.pageS (h : BO w lo hi g pv (L.set k a)) (hk : k < L.length) {b off n cap t : Nat} (hv : pv k = .slice (some ⟨b, off, none⟩) n cap) (ht : t < n) :
    w.cell? ⟨b, off + t, none⟩ = some (.string (a.pg.getD t ByteArray.empty)) ∧ w.frozen? ⟨b, off + t, none⟩ = false ∧ lo ≤ b ∧ b < hi ∧ b ≠ g := by
  have h1 := h.page (k := k) (by simpa using hk) hv ht
  rw [getD_set_eq _ _ _ _ hk] at h1
  refine ⟨h1.1, h1.2.1, h1.2.2.1, h1.2.2.2.1, ?_⟩
  obtain ⟨A, l', c', e, _, _, _, _, hx⟩ := h.pgs k (by simpa using hk)
  rw [hv] at e
  injection e with e1 e2 e3
  subst e2
  obtain ⟨b', o', e4, _, _, h6, _⟩ := hx (by omega)
  rw [e4] at e1
  injection e1 with e1
  injection e1 with e1
  omega
end
/-- What is written of a page. -/
def Blk.takes (x : Blk) (raw : ByteArray) (ke : Int) : Blk := if ke = 0 then x else x.torn raw ke
theorem Blk.torn_whole {x : Blk} {raw : ByteArray} (h : raw.size = 91) : x.torn raw 91 = x.prog raw := by
  unfold Blk.torn Blk.prog
  rw [if_neg (by omega)]
  show { x with pg := x.pg.set x.nx.toNat (tornB raw 91), nx := x.nx + 1 } = _
  rw [tornB_all h]
/-- The pages of a block: the slice is there. -/
theorem BO.somePg {w : World} {lo hi g k : Nat} {pv : Nat → Value} {L : List Blk} (h : BO w lo hi g pv L) (hk : k < L.length) (h0 : 0 < (L.getD k Blk.zero).pg.length) :
    ∃ b off cap, pv k = .slice (some ⟨b, off, none⟩) (L.getD k Blk.zero).pg.length cap ∧ (L.getD k Blk.zero).pg.length ≤ cap ∧ cap ≤ 9223372036854775807 := by
  obtain ⟨A, n, cap, e, h1, h2, h3, _, hx⟩ := h.pgs k hk
  obtain ⟨b, off, rfl, _⟩ := hx (by omega)
  exact ⟨b, off, cap, by rw [e, h3], by omega, h2⟩
def UnitPost (P : World → Prop) (e : Ending) (w' : World) : Prop := e = .returned (.tuple #[]) ∧ P w'
set_option maxRecDepth 100000 in
theorem blkProg_any (w : World) (lo hi g : Nat) (pv : Nat → Value) (L : List Blk) (k : Nat) (raw : ByteArray) (ke : Int) (h : BO w lo hi g pv L) (hk : k < L.length) (hh : hi ≤ w.heap.size)
    (h0 : 0 ≤ (L.getD k Blk.zero).nx) (h1 : (L.getD k Blk.zero).nx < ((L.getD k Blk.zero).pg.length : Int)) (h2 : (L.getD k Blk.zero).pg.length ≤ 16) (hr : raw.size = 91) (hke : 0 ≤ ke ∧ ke ≤ 91) :
    Calls Tryz.prog 57 #[.pointer (some ⟨g, k * 4, none⟩), .string raw, .int .i64 ke] w
      (UnitPost fun w' => BO w' lo hi g pv (L.set k ((L.getD k Blk.zero).takes raw ke)) ∧ Keep lo hi w w') := by
  have o0 := h.self hk
  obtain ⟨b, off, cap, hv, hv1, hv2⟩ := h.somePg hk (by omega)
  generalize L.getD k Blk.zero = y at *
  obtain ⟨q0, q1, q2, q3⟩ := o0.cells hk
  rw [hv] at q3
  have f1 := o0.free (k * 4 + 1)
  have O0 := Lib.hid o0
  have HK := Lib.hid hk
  obtain ⟨er, nx, bad, pg⟩ := y
  simp only at h0 h1 h2 q0 q1 q2 q3 hv hv1
  obtain ⟨n, hn⟩ : ∃ n, n = pg.length := ⟨_, rfl⟩
  obtain ⟨p, rfl⟩ := Int.eq_ofNat_of_zero_le h0
  have HN := Lib.hid hn
  rw [← hn] at h1 h2 q3 hv hv1
  have HV := Lib.hid hv
  have hlow := h.low
  have hhigh := h.high
  clear h o0 hn hk
  by_cases hz : ke = 0
  · subst hz
    go_enter Tryz.func57, Tryz.ntmps57
    go_wp2
    go_end0
    exact ⟨rfl, by unfold Blk.takes; rw [if_pos rfl]; exact O0.out, Keep.refl _ _ _⟩
  · have hz' : (ke == 0) = false := by simp [hz]
    have hT : ∀ W : World, Calls Tryz.prog 74 #[.string raw, .int .i64 ke] W (PairPost (tornB raw ke.toNat) 0 W) := fun W =>
      implTorn_any raw ke _ 0 W (by omega) (.done hr ke.toNat (by omega) (by omega))
    have HT := Lib.hid hT
    have HTS := Lib.hid (tornB_size (k := ke.toNat) hr (by omega))
    generalize htt : tornB raw ke.toNat = t at *
    have HTT := Lib.hid htt
    clear hT htt
    have hpn : p < n := by omega
    by_cases hodd : ke < 91 ∧ p % 2 = 1
    · obtain ⟨hk91, hp2⟩ := hodd
      obtain ⟨m, hm⟩ : ∃ m, m = p - 1 := ⟨_, rfl⟩
      obtain ⟨c1, d1, e1, e2, e3⟩ := O0.out.pageS HK.out HV.out (t := m) (by omega)
      have hd := Lib.hid (fun (W : World) => implDestroyed_any W)
      go_enter Tryz.func57, Tryz.ntmps57
      go_wp2
      have i2 : (m : Int) < (n : Int) := by omega
      have i4 : IntKind.i64.wrap ((p : Int) - 1) = (m : Int) := by rw [IntWalk.i64_in _ (by omega)]; omega
      have HM := Lib.hid hm
      clear hm
      go_region_held3 (fun W => W.cell? ⟨g, k * 4 + 3, none⟩ = some (.slice (some ⟨b, off, none⟩) n cap))
        (first
          | exact q3
          | exact (hb1.cell (p := ⟨g, k * 4 + 3, none⟩) (by show g < _; omega)).trans q3
          | exact (World.cell?_setCell_other _ _ _ _ (addr_ne fun e => absurd e e3)).trans ((hb1.cell (p := ⟨g, k * 4 + 3, none⟩) (by show g < _; omega)).trans q3))
        (first
          | (go_at_call 73
             refine (hd.out _).mono ?_
             rintro e w1 ⟨rfl, hb0⟩
             have hb1 : Below w.heap.size w w1 := (Below.refl w.heap.size w).drew.trans hb0
             have c1' := (hb1.cell (p := ⟨b, off + m, none⟩) (by show b < _; omega)).trans c1
             have d1' := (hb1.frozen (p := ⟨b, off + m, none⟩) (by show b < _; omega)).trans d1))
      have O1 := Lib.hid ((O0.out.same (sm hb1 lo hh)).storePgS HK.out HV.out (t := m) (by omega) (fillB 0 91) (by rw [fillB_size]; omega))
      have K1 := Lib.hid (((Keep.refl lo hi w).call hb1 (by omega)).set_ (g := b) (k := off + m) e1 e2 (.string (fillB 0 91)))
      generalize w1.setCell ⟨b, off + m, none⟩ (.string (fillB 0 91)) = wx at *
      clear q0 q1 q2 q3 f1 c1 d1 c1' d1' i2 i4
      obtain ⟨r0, r1, r2, r3⟩ := O1.out.cells HK.out
      rw [HV.out] at r3
      simp only [Blk.pages] at r1
      have g1 := O1.out.free (k * 4 + 1)
      obtain ⟨c2, d2, a1, a2, a3⟩ := O1.out.pageS HK.out HV.out (t := p) hpn
      have hsx := K1.out.size
      go_wp2
      go_region_held3 (fun W => W.cell? ⟨g, k * 4 + 3, none⟩ = some (.slice (some ⟨b, off, none⟩) n cap))
        (first
          | exact r3
          | exact (hb2.cell (p := ⟨g, k * 4 + 3, none⟩) (by show g < _; omega)).trans r3
          | exact (World.cell?_setCell_other _ _ _ _ (addr_ne fun e => absurd e a3)).trans ((hb2.cell (p := ⟨g, k * 4 + 3, none⟩) (by show g < _; omega)).trans r3))
        (first
          | (go_at_call 74
             refine (HT.out _).mono ?_
             rintro e w2 ⟨rfl, hb0⟩
             have hb2 : Below wx.heap.size wx w2 := (Below.refl wx.heap.size wx).drew.trans hb0
             have c2' := (hb2.cell (p := ⟨b, off + p, none⟩) (by show b < _; omega)).trans c2
             have d2' := (hb2.frozen (p := ⟨b, off + p, none⟩) (by show b < _; omega)).trans d2))
      have O2 := Lib.hid ((O1.out.same (sm hb2 lo (by omega))).storePgS HK.out HV.out (t := p) hpn t (by have := HTS.out; omega))
      have K2 := Lib.hid ((K1.out.call hb2 (by omega)).set_ (g := b) (k := off + p) a1 a2 (.string t))
      generalize w2.setCell ⟨b, off + p, none⟩ (.string t) = wy at *
      obtain ⟨u0, u1, u2, u3⟩ := O2.out.cells HK.out
      simp only [Blk.pages] at u1
      have v1 := O2.out.free (k * 4 + 1)
      clear r0 r1 r2 r3 g1 c2 d2 c2' d2' u0 u2 u3
      go_wp2
      go_end0
      have O3 := O2.out.storeS (c := 1) HK.out (.int .i64 ((p : Int) + 1)) (.inr (.inl ⟨rfl, _, rfl⟩))
      refine ⟨rfl, ?_, K2.out.set_ (g := g) (k := k * 4 + 1) hlow hhigh (.int .i64 ((p : Int) + 1))⟩
      have e9 : Blk.takes ⟨er, (p : Int), bad, pg⟩ raw ke = (((Blk.mk er (p : Int) bad pg).pages (pg.set m (fillB 0 91))).pages ((pg.set m (fillB 0 91)).set p t)).put 1 (.int .i64 ((p : Int) + 1)) := by
        unfold Blk.takes Blk.torn
        rw [if_neg hz]
        rw [if_pos ⟨by simp only [Int.toNat_natCast]; exact hp2, hk91⟩]
        simp only [Int.toNat_natCast]
        rw [HTT.out, ← HM.out]; rfl
      rw [e9]
      exact O3
    · have hc2 : decide (ke < 91) = false ∨ ((p : Int) % 2 == 1) = false := by
        by_cases a : ke < 91
        · right
          have : ¬ p % 2 = 1 := fun b => hodd ⟨a, b⟩
          simp; omega
        · left; simp; omega
      have O1 := Lib.hid O0.out
      have K1 := Lib.hid (Keep.refl lo hi w)
      clear O0 q0 q1 q2 q3 f1
      by_cases hq : ke < 91
      · have hq2 : ((p : Int) % 2 == 1) = false := by
          rcases hc2 with hc2 | hc2
          · simp at hc2; omega
          · exact hc2
        go_enter Tryz.func57, Tryz.ntmps57
        obtain ⟨r0, r1, r2, r3⟩ := O1.out.cells HK.out
        rw [HV.out] at r3
        have g1 := O1.out.free (k * 4 + 1)
        obtain ⟨c2, d2, a1, a2, a3⟩ := O1.out.pageS HK.out HV.out (t := p) hpn
        have hsx := K1.out.size
        go_wp2
        go_region_held3 (fun W => W.cell? ⟨g, k * 4 + 3, none⟩ = some (.slice (some ⟨b, off, none⟩) n cap))
          (first
            | exact r3
            | exact (hb2.cell (p := ⟨g, k * 4 + 3, none⟩) (by show g < _; omega)).trans r3
            | exact (World.cell?_setCell_other _ _ _ _ (addr_ne fun e => absurd e a3)).trans ((hb2.cell (p := ⟨g, k * 4 + 3, none⟩) (by show g < _; omega)).trans r3))
          (first
            | (go_at_call 74
               refine (HT.out _).mono ?_
               rintro e w2 ⟨rfl, hb0⟩
               have hb2 : Below w.heap.size w w2 := (Below.refl w.heap.size w).drew.trans hb0
               have c2' := (hb2.cell (p := ⟨b, off + p, none⟩) (by show b < _; omega)).trans c2
               have d2' := (hb2.frozen (p := ⟨b, off + p, none⟩) (by show b < _; omega)).trans d2))
        have O2 := Lib.hid ((O1.out.same (sm hb2 lo (by omega))).storePgS HK.out HV.out (t := p) hpn t (by have := HTS.out; omega))
        have K2 := Lib.hid ((K1.out.call hb2 (by omega)).set_ (g := b) (k := off + p) a1 a2 (.string t))
        generalize w2.setCell ⟨b, off + p, none⟩ (.string t) = wy at *
        obtain ⟨u0, u1, u2, u3⟩ := O2.out.cells HK.out
        simp only [Blk.pages] at u1
        have v1 := O2.out.free (k * 4 + 1)
        clear r0 r1 r2 r3 g1 c2 d2 c2' d2' u0 u2 u3
        go_wp2
        go_end0
        have O3 := O2.out.storeS (c := 1) HK.out (.int .i64 ((p : Int) + 1)) (.inr (.inl ⟨rfl, _, rfl⟩))
        refine ⟨rfl, ?_, K2.out.set_ (g := g) (k := k * 4 + 1) hlow hhigh (.int .i64 ((p : Int) + 1))⟩
        have e9 : Blk.takes ⟨er, (p : Int), bad, pg⟩ raw ke = ((Blk.mk er (p : Int) bad pg).pages (pg.set p t)).put 1 (.int .i64 ((p : Int) + 1)) := by
          unfold Blk.takes Blk.torn
          rw [if_neg hz]
          rw [if_neg (fun hc => hodd ⟨hc.2, by have := hc.1; simp only [Int.toNat_natCast] at this; exact this⟩)]
          simp only [Int.toNat_natCast]
          rw [HTT.out]; rfl
        rw [e9]
        exact O3
      · go_enter Tryz.func57, Tryz.ntmps57
        obtain ⟨r0, r1, r2, r3⟩ := O1.out.cells HK.out
        rw [HV.out] at r3
        have g1 := O1.out.free (k * 4 + 1)
        obtain ⟨c2, d2, a1, a2, a3⟩ := O1.out.pageS HK.out HV.out (t := p) hpn
        have hsx := K1.out.size
        go_wp2
        go_region_held3 (fun W => W.cell? ⟨g, k * 4 + 3, none⟩ = some (.slice (some ⟨b, off, none⟩) n cap))
          (first
            | exact r3
            | exact (hb2.cell (p := ⟨g, k * 4 + 3, none⟩) (by show g < _; omega)).trans r3
            | exact (World.cell?_setCell_other _ _ _ _ (addr_ne fun e => absurd e a3)).trans ((hb2.cell (p := ⟨g, k * 4 + 3, none⟩) (by show g < _; omega)).trans r3))
          (first
            | (go_at_call 74
               refine (HT.out _).mono ?_
               rintro e w2 ⟨rfl, hb0⟩
               have hb2 : Below w.heap.size w w2 := (Below.refl w.heap.size w).drew.trans hb0
               have c2' := (hb2.cell (p := ⟨b, off + p, none⟩) (by show b < _; omega)).trans c2
               have d2' := (hb2.frozen (p := ⟨b, off + p, none⟩) (by show b < _; omega)).trans d2))
        have O2 := Lib.hid ((O1.out.same (sm hb2 lo (by omega))).storePgS HK.out HV.out (t := p) hpn t (by have := HTS.out; omega))
        have K2 := Lib.hid ((K1.out.call hb2 (by omega)).set_ (g := b) (k := off + p) a1 a2 (.string t))
        generalize w2.setCell ⟨b, off + p, none⟩ (.string t) = wy at *
        obtain ⟨u0, u1, u2, u3⟩ := O2.out.cells HK.out
        simp only [Blk.pages] at u1
        have v1 := O2.out.free (k * 4 + 1)
        clear r0 r1 r2 r3 g1 c2 d2 c2' d2' u0 u2 u3
        go_wp2
        go_end0
        have O3 := O2.out.storeS (c := 1) HK.out (.int .i64 ((p : Int) + 1)) (.inr (.inl ⟨rfl, _, rfl⟩))
        refine ⟨rfl, ?_, K2.out.set_ (g := g) (k := k * 4 + 1) hlow hhigh (.int .i64 ((p : Int) + 1))⟩
        have e9 : Blk.takes ⟨er, (p : Int), bad, pg⟩ raw ke = ((Blk.mk er (p : Int) bad pg).pages (pg.set p t)).put 1 (.int .i64 ((p : Int) + 1)) := by
          unfold Blk.takes Blk.torn
          rw [if_neg hz]
          rw [if_neg (fun hc => hodd ⟨hc.2, by have := hc.1; simp only [Int.toNat_natCast] at this; exact this⟩)]
          simp only [Int.toNat_natCast]
          rw [HTT.out]; rfl
        rw [e9]
        exact O3
end Go.Proofs.YtlmdpdidjldkpaaGreatDoor
/- Which geometries and arrays are valid, in the model and in the program: the contracts. -/
namespace Go.Proofs.YtlmdpdidjldkpaaGreatDoor
open Go.RowKit
set_option linter.unusedVariables false

theorem bool_of {P : Prop} (b : Bool) (h : b = true ↔ P) : (P → b = true) ∧ (¬ P → b = false) := by
  refine ⟨h.2, fun n => ?_⟩
  cases b with
  | true => exact absurd (h.1 rfl) n
  | false => rfl
theorem prop_dec' (P : Prop) : ∃ b : Bool, b = true ↔ P := by
  by_cases h : P
  · exact ⟨true, by simp [h]⟩
  · exact ⟨false, by simp [h]⟩
theorem geo_not {d b p : Int} (h : ¬ GeoOk d b p) : ¬ (2 ≤ d ∧ d ≤ 3) ∨ ((2 ≤ d ∧ d ≤ 3) ∧ ¬ (4 ≤ b ∧ b ≤ 12)) ∨ ((2 ≤ d ∧ d ≤ 3) ∧ (4 ≤ b ∧ b ≤ 12) ∧ p ≠ 8 ∧ p ≠ 16) := by
  unfold GeoOk at h
  by_cases h1 : 2 ≤ d ∧ d ≤ 3
  · by_cases h2 : 4 ≤ b ∧ b ≤ 12
    · by_cases h3 : p = 8
      · exact absurd ⟨h1, h2, .inl h3⟩ h
      · by_cases h4 : p = 16
        · exact absurd ⟨h1, h2, .inr h4⟩ h
        · exact .inr (.inr ⟨h1, h2, h3, h4⟩)
    · exact .inr (.inl ⟨h1, h2⟩)
  · exact .inl h1
theorem specGeo_any (d b p : Int) (r : Bool) (w : World) (h : r = true ↔ GeoOk d b p) :
    Calls Tryz.prog 31 #[.agg #[.int .i64 d, .int .i64 b, .int .i64 p]] w fun e w' => e = .returned (.bool r) ∧ Below w.heap.size w w' := by
  have hb0 := (Below.refl w.heap.size w).alloc (Nat.le_refl _) (.cells #[.int .i64 d, .int .i64 b, .int .i64 p] 25)
  obtain ⟨hy, hn⟩ := bool_of r h
  by_cases hg : GeoOk d b p
  · obtain rfl := hy hg
    obtain ⟨h1, h2, h3⟩ := hg
    clear h hy hn
    rcases h3 with rfl | rfl
    all_goals
      go_enter Tryz.func31, Tryz.ntmps31
      go_wp2_with fail
      refine (inr_yes d 2 3 _ h1.1 h1.2).mono ?_
      rintro e w1 ⟨rfl, rfl⟩
      go_wp2_with fail
      refine (inr_yes b 4 12 _ h2.1 h2.2).mono ?_
      rintro e w1 ⟨rfl, rfl⟩
      go_wp2
      go_ret
      exact ⟨rfl, hb0⟩
  · obtain rfl := hn hg
    clear h hy hn
    rcases geo_not hg with h1 | ⟨h1, h2⟩ | ⟨h1, h2, h3, h4⟩
    · go_enter Tryz.func31, Tryz.ntmps31
      go_wp2_with fail
      refine (inr_no d 2 3 _ h1).mono ?_
      rintro e w1 ⟨rfl, rfl⟩
      go_wp2
      go_ret
      exact ⟨rfl, hb0⟩
    · go_enter Tryz.func31, Tryz.ntmps31
      go_wp2_with fail
      refine (inr_yes d 2 3 _ h1.1 h1.2).mono ?_
      rintro e w1 ⟨rfl, rfl⟩
      go_wp2_with fail
      refine (inr_no b 4 12 _ h2).mono ?_
      rintro e w1 ⟨rfl, rfl⟩
      go_wp2
      go_ret
      exact ⟨rfl, hb0⟩
    · have q1 : (p == 8) = false := by simp [h3]
      have q2 : (p == 16) = false := by simp [h4]
      go_enter Tryz.func31, Tryz.ntmps31
      go_wp2_with fail
      refine (inr_yes d 2 3 _ h1.1 h1.2).mono ?_
      rintro e w1 ⟨rfl, rfl⟩
      go_wp2_with fail
      refine (inr_yes b 4 12 _ h2.1 h2.2).mono ?_
      rintro e w1 ⟨rfl, rfl⟩
      go_wp2
      go_ret
      exact ⟨rfl, hb0⟩
theorem implGeo_any (d b p : Int) (r : Bool) (w : World) (h : r = true ↔ GeoOk d b p) :
    Calls Tryz.prog 49 #[.agg #[.int .i64 d, .int .i64 b, .int .i64 p]] w fun e w' => e = .returned (.bool r) ∧ Below w.heap.size w w' := by
  have hb0 := (Below.refl w.heap.size w).alloc (Nat.le_refl _) (.cells #[.int .i64 d, .int .i64 b, .int .i64 p] 25)
  obtain ⟨hy, hn⟩ := bool_of r h
  have hd1 : ∀ a c : Int, (2 : Int) ≤ d → decide (d ≥ 2) = true := fun _ _ h => by simp; omega
  have key : r = (decide (d ≥ 2) && decide (d ≤ 3) && decide (b ≥ 4) && decide (b ≤ 12) && (p == 8 || p == 16)) := by
    rw [Bool.eq_iff_iff, h]
    unfold GeoOk
    simp
    omega
  clear h hy hn hd1
  have HKey := Lib.hid key
  clear key
  have E : ∀ x : Bool, ((decide (d ≥ 2) && decide (d ≤ 3) && decide (b ≥ 4) && decide (b ≤ 12) && (p == 8 || p == 16)) = x) → x = r := fun x hx => by rw [HKey.out, hx]
  have HE := Lib.hid E
  clear E
  by_cases h1 : 2 ≤ d
  · by_cases h2 : d ≤ 3
    · by_cases h3 : 4 ≤ b
      · by_cases h4 : b ≤ 12
        · by_cases h5 : p = 8
          · subst h5
            go_enter Tryz.func49, Tryz.ntmps49
            go_wp2
            go_ret
            exact ⟨ret_bool (HE.out _ (by simp [h1, h2, h3, h4])), hb0⟩
          · have h6 : (p == 8) = false := by simp [h5]
            go_enter Tryz.func49, Tryz.ntmps49
            go_wp2
            go_ret
            exact ⟨ret_bool (HE.out _ (by simp [h1, h2, h3, h4, h6])), hb0⟩
        · go_enter Tryz.func49, Tryz.ntmps49
          go_wp2
          go_ret
          exact ⟨ret_bool (HE.out _ (by simp; omega)), hb0⟩
      · go_enter Tryz.func49, Tryz.ntmps49
        go_wp2
        go_ret
        exact ⟨ret_bool (HE.out _ (by simp; omega)), hb0⟩
    · go_enter Tryz.func49, Tryz.ntmps49
      go_wp2
      go_ret
      exact ⟨ret_bool (HE.out _ (by simp; omega)), hb0⟩
  · go_enter Tryz.func49, Tryz.ntmps49
    go_wp2
    go_ret
    exact ⟨ret_bool (HE.out _ (by simp; omega)), hb0⟩
/-! One block. -/
theorem blk_not {p : Int} {x : Blk} (h : ¬ BlkOk p x) : ¬ (0 ≤ x.er ∧ x.er ≤ 1000) ∨ ((0 ≤ x.er ∧ x.er ≤ 1000) ∧ ¬ (0 ≤ x.nx ∧ x.nx ≤ p)) ∨ ((0 ≤ x.er ∧ x.er ≤ 1000) ∧ (0 ≤ x.nx ∧ x.nx ≤ p) ∧ (x.pg.length : Int) ≠ p) ∨
    ((0 ≤ x.er ∧ x.er ≤ 1000) ∧ (0 ≤ x.nx ∧ x.nx ≤ p) ∧ (x.pg.length : Int) = p ∧ ¬ ∀ i, i < x.pg.length → PageOk x.nx i (x.at i)) := by
  unfold BlkOk at h
  by_cases h1 : 0 ≤ x.er ∧ x.er ≤ 1000
  · by_cases h2 : 0 ≤ x.nx ∧ x.nx ≤ p
    · by_cases h3 : (x.pg.length : Int) = p
      · exact .inr (.inr (.inr ⟨h1, h2, h3, fun h4 => h ⟨h1, h2, h3, h4⟩⟩))
      · exact .inr (.inr (.inl ⟨h1, h2, h3⟩))
    · exact .inr (.inl ⟨h1, h2⟩)
  · exact .inl h1
def BoolPost (r : Bool) (w : World) (e : Ending) (w' : World) : Prop := e = .returned (.bool r) ∧ Below w.heap.size w w'
/-- The loop over a block's pages comes to r. -/
theorem specBlk_any (x : Blk) (pv : Value) (p : Int) (r : Bool) (w : World) (lo hi : Nat) (hp : PgIn w lo hi pv x.pg) (hh : hi ≤ w.heap.size) (h : r = true ↔ BlkOk p x) (hl : x.pg.length ≤ 1048576) :
    Calls Tryz.prog 33 #[.agg #[.int .i64 x.er, .int .i64 x.nx, .bool x.bad, pv], .int .i64 p] w (BoolPost r w) := by
  have hb0 := (Below.refl w.heap.size w).alloc (Nat.le_refl _) (.cells #[.int .i64 x.er, .int .i64 x.nx, .bool x.bad, pv] 51)
  obtain ⟨hy, hn⟩ := bool_of r h
  obtain ⟨A, n, cap, rfl, hlc, hcm, hlen, hsz, hA⟩ := hp
  have hnm : (n : Int) ≤ 1048576 := by omega
  have shortcut : ¬ (BlkOk p x) → r = false := hn
  obtain ⟨er, nx, bad, pg⟩ := x
  simp only at *
  by_cases hbad : ¬ (0 ≤ er ∧ er ≤ 1000) ∨ ((0 ≤ er ∧ er ≤ 1000) ∧ ¬ (0 ≤ nx ∧ nx ≤ p)) ∨ ((0 ≤ er ∧ er ≤ 1000) ∧ (0 ≤ nx ∧ nx ≤ p) ∧ (n : Int) ≠ p)
  · obtain rfl : r = false := hn (fun k => by obtain ⟨k1, k2, k3, _⟩ := k; simp only at k1 k2 k3; rw [hlen] at k3; rcases hbad with a | ⟨_, a⟩ | ⟨_, _, a⟩ <;> contradiction)
    clear hy hn h shortcut hA hsz hlen
    rcases hbad with h1 | ⟨h1, h2⟩ | ⟨h1, h2, h3⟩
    · go_enter Tryz.func33, Tryz.ntmps33
      go_wp2_with fail
      refine (inr_no er 0 1000 _ h1).mono ?_
      rintro e w1 ⟨rfl, rfl⟩
      go_wp2
      go_ret
      exact ⟨rfl, hb0⟩
    · go_enter Tryz.func33, Tryz.ntmps33
      go_wp2_with fail
      refine (inr_yes er 0 1000 _ h1.1 h1.2).mono ?_
      rintro e w1 ⟨rfl, rfl⟩
      go_wp2_with fail
      refine (inr_no nx 0 p _ h2).mono ?_
      rintro e w1 ⟨rfl, rfl⟩
      go_wp2
      go_ret
      exact ⟨rfl, hb0⟩
    · have q1 : ((n : Int) != p) = true := by simp; exact h3
      go_enter Tryz.func33, Tryz.ntmps33
      go_wp2_with fail
      refine (inr_yes er 0 1000 _ h1.1 h1.2).mono ?_
      rintro e w1 ⟨rfl, rfl⟩
      go_wp2_with fail
      refine (inr_yes nx 0 p _ h2.1 h2.2).mono ?_
      rintro e w1 ⟨rfl, rfl⟩
      go_wp2
      go_ret
      exact ⟨rfl, hb0⟩
  · have h1 : 0 ≤ er ∧ er ≤ 1000 := by
      by_cases k : 0 ≤ er ∧ er ≤ 1000
      · exact k
      · exact absurd (.inl k) hbad
    have h2 : 0 ≤ nx ∧ nx ≤ p := by
      by_cases k : 0 ≤ nx ∧ nx ≤ p
      · exact k
      · exact absurd (.inr (.inl ⟨h1, k⟩)) hbad
    have h3 : (n : Int) = p := by
      by_cases k : (n : Int) = p
      · exact k
      · exact absurd (.inr (.inr ⟨h1, h2, k⟩)) hbad
    subst h3
    have q1 : ((n : Int) != (n : Int)) = false := by simp
    have HR := Lib.hid (show r = true ↔ ∀ i, i < n → PageOk nx i (pg.getD i ByteArray.empty) from by
      rw [h]; unfold BlkOk; simp only [hlen]
      exact ⟨fun k i hi => k.2.2.2 i hi, fun k => ⟨h1, h2, trivial, fun i hi => k i hi⟩⟩)
    have HSZ := Lib.hid hsz
    clear hbad hy hn h shortcut hsz hlen
    go_enter Tryz.func33, Tryz.ntmps33
    go_wp2_with fail
    refine (inr_yes er 0 1000 _ h1.1 h1.2).mono ?_
    rintro e w1 ⟨rfl, rfl⟩
    go_wp2_with fail
    refine (inr_yes nx 0 (n : Int) _ h2.1 h2.2).mono ?_
    rintro e w1 ⟨rfl, rfl⟩
    go_wp2_with fail
    go_loop [5] (fun i => ∃ k : Nat, k ≤ n ∧ i = .int .i64 k ∧ Hid (∀ j, j < k → PageOk nx j (pg.getD j ByteArray.empty))) (fun i => n - (intOf i).toNat)
    case atStart => exact ⟨0, by omega, rfl, Lib.hid (fun j hj => by omega)⟩
    case round =>
      obtain ⟨k, hk, rfl, HA⟩ := hrel
      by_cases hlt : k < n
      · have hki : (k : Int) < (n : Int) := by omega
        obtain ⟨b, off, rfl, hb1, hb2, hx⟩ := hA (by omega)
        have hc : ∀ o, (w.alloc o).cell? ⟨b, off + k, none⟩ = some (.string (pg.getD k ByteArray.empty)) := fun o => (World.cell?_alloc_lt w _ _ (by show b < _; omega)).trans (hx k hlt)
        have hsz := HSZ.out k hlt
        have HY := Lib.hid (show ∀ y, y = pg.getD k ByteArray.empty → PageOk nx k y → ∀ j, j < k + 1 → PageOk nx j (pg.getD j ByteArray.empty) from fun y hy ho j hj => by
          by_cases e : j = k
          · rw [e, ← hy]; exact ho
          · exact HA.out j (by omega))
        have HZ := Lib.hid (show ∀ y, y = pg.getD k ByteArray.empty → ¬ PageOk nx k y → r = false from fun y hy ho => by
          cases r with
          | false => rfl
          | true => exact absurd (HR.out.1 rfl k hlt) (by rw [← hy]; exact ho))
        generalize hgy : pg.getD k ByteArray.empty = y at *
        have HGY := Lib.hid hgy
        clear hgy hx hA
        by_cases y0 : y.size = 0
        · have g1 : ((y.size : Int) != 0) = false := by rw [y0]; rfl
          clear HZ
          go_wp2
          go_round
          case rel => exact ⟨k + 1, by omega, by go_num, Lib.hid (HY.out y rfl (.inl y0))⟩
          case measure => simp [intOf]; omega
        · have g1 : ((y.size : Int) != 0) = true := bne_iff_ne.2 (by omega)
          by_cases y1 : y.size = 91
          · have g2 : ((y.size : Int) != 91) = false := by rw [y1]; rfl
            by_cases y2 : (k : Int) < nx
            · have g3 : decide ((k : Int) ≥ nx) = false := by simp; omega
              have g4 : decide (nx ≤ (k : Int)) = false := by simp; omega
              clear HZ
              go_wp2
              go_round
              case rel => exact ⟨k + 1, by omega, by go_num, Lib.hid (HY.out y rfl (.inr ⟨y1, y2⟩))⟩
              case measure => simp [intOf]; omega
            · have g3 : decide ((k : Int) ≥ nx) = true := by simp; omega
              have g4 : decide (nx ≤ (k : Int)) = true := by simp; omega
              have HF := Lib.hid (HZ.out y rfl (fun o => by rcases o with o | ⟨_, o⟩; exact y0 o; exact y2 o))
              go_wp2
              go_ret
              exact ⟨by rw [HF.out]; rfl, hb0⟩
          · have g2 : ((y.size : Int) != 91) = true := bne_iff_ne.2 (by omega)
            have HF := Lib.hid (HZ.out y rfl (fun o => by rcases o with o | ⟨o, _⟩; exact y0 o; exact y1 o))
            go_wp2
            go_ret
            exact ⟨by rw [HF.out]; rfl, hb0⟩
      · obtain rfl : k = n := by omega
        have HT := Lib.hid (HR.out.2 HA.out)
        go_wp2
        go_ret
        exact ⟨by rw [HT.out]; rfl, hb0⟩
theorem bytes_ne {y : ByteArray} (h : y.size ≠ 0) : ¬ y.toList = [] ∧ y.toList.isEmpty = false := by
  have e : y.toList ≠ [] := by
    rw [ByteArray.toList_eq]
    intro e
    apply h
    show y.data.size = 0
    rw [← Array.length_toList, e]; rfl
  exact ⟨e, by cases hq : y.toList with
    | nil => exact absurd hq e
    | cons a l => rfl⟩
theorem implBlk_any (x : Blk) (pv : Value) (g o : Nat) (p : Int) (r : Bool) (w : World) (lo hi : Nat) (hat : BkAt w g o x pv) (hp : PgIn w lo hi pv x.pg) (hh : hi ≤ w.heap.size) (h : r = true ↔ BlkOk p x) (hl : x.pg.length ≤ 1048576) :
    Calls Tryz.prog 50 #[.pointer (some ⟨g, o, none⟩), .int .i64 p] w (BoolPost r w) := by
  have hb0 := Below.refl w.heap.size w
  obtain ⟨hy, hn⟩ := bool_of r h
  obtain ⟨A, n, cap, rfl, hlc, hcm, hlen, hsz, hA⟩ := hp
  obtain ⟨c0, c1, c2, c3⟩ := hat
  have hnm : (n : Int) ≤ 1048576 := by omega
  obtain ⟨er, nx, bad, pg⟩ := x
  simp only at *
  by_cases hbad : ¬ (0 ≤ er ∧ er ≤ 1000) ∨ ((0 ≤ er ∧ er ≤ 1000) ∧ ¬ (0 ≤ nx ∧ nx ≤ p)) ∨ ((0 ≤ er ∧ er ≤ 1000) ∧ (0 ≤ nx ∧ nx ≤ p) ∧ (n : Int) ≠ p)
  · obtain rfl : r = false := hn (fun k => by obtain ⟨k1, k2, k3, _⟩ := k; simp only at k1 k2 k3; rw [hlen] at k3; rcases hbad with a | ⟨_, a⟩ | ⟨_, _, a⟩ <;> contradiction)
    clear hy hn h hA hsz hlen
    by_cases a1 : er < 0
    · go_enter Tryz.func50, Tryz.ntmps50
      go_wp2
      go_ret
      exact ⟨rfl, hb0⟩
    · by_cases a2 : er > 1000
      · go_enter Tryz.func50, Tryz.ntmps50
        go_wp2
        go_ret
        exact ⟨rfl, hb0⟩
      · by_cases a3 : nx < 0
        · go_enter Tryz.func50, Tryz.ntmps50
          go_wp2
          go_ret
          exact ⟨rfl, hb0⟩
        · by_cases a4 : nx > p
          · go_enter Tryz.func50, Tryz.ntmps50
            go_wp2
            go_ret
            exact ⟨rfl, hb0⟩
          · have q1 : ((n : Int) != p) = true := bne_iff_ne.2 (by
              intro e
              rcases hbad with a | ⟨_, a⟩ | ⟨_, _, a⟩
              · exact a ⟨by omega, by omega⟩
              · exact a ⟨by omega, by omega⟩
              · exact a e)
            clear hbad
            go_enter Tryz.func50, Tryz.ntmps50
            go_wp2
            go_ret
            exact ⟨rfl, hb0⟩
  · have h1 : 0 ≤ er ∧ er ≤ 1000 := by
      by_cases k : 0 ≤ er ∧ er ≤ 1000
      · exact k
      · exact absurd (.inl k) hbad
    have h2 : 0 ≤ nx ∧ nx ≤ p := by
      by_cases k : 0 ≤ nx ∧ nx ≤ p
      · exact k
      · exact absurd (.inr (.inl ⟨h1, k⟩)) hbad
    have h3 : (n : Int) = p := by
      by_cases k : (n : Int) = p
      · exact k
      · exact absurd (.inr (.inr ⟨h1, h2, k⟩)) hbad
    subst h3
    have q1 : ((n : Int) != (n : Int)) = false := by simp
    have HR := Lib.hid (show r = true ↔ ∀ i, i < n → PageOk nx i (pg.getD i ByteArray.empty) from by
      rw [h]; unfold BlkOk; simp only [hlen]
      exact ⟨fun k i hi => k.2.2.2 i hi, fun k => ⟨h1, h2, trivial, fun i hi => k i hi⟩⟩)
    have HSZ := Lib.hid hsz
    obtain ⟨h1, h1'⟩ := h1
    obtain ⟨h2, h2'⟩ := h2
    have a1 : ¬ er < 0 := by omega
    have a2 : ¬ er > 1000 := by omega
    have a3 : ¬ nx < 0 := by omega
    have a4 : ¬ nx > (n : Int) := by omega
    clear hbad hy hn h hsz hlen
    go_enter Tryz.func50, Tryz.ntmps50
    go_wp2_with fail
    go_loop [48] (fun i => ∃ k : Nat, k ≤ n ∧ i = .int .i64 k ∧ Hid (∀ j, j < k → PageOk nx j (pg.getD j ByteArray.empty))) (fun i => n - (intOf i).toNat)
    case atStart => exact ⟨0, by omega, rfl, Lib.hid (fun j hj => by omega)⟩
    case round =>
      obtain ⟨k, hk, rfl, HA⟩ := hrel
      by_cases hlt : k < n
      · have hki : (k : Int) < (n : Int) := by omega
        obtain ⟨b, off, rfl, hb1, hb2, hx⟩ := hA (by omega)
        have hc := hx k hlt
        have hsz := HSZ.out k hlt
        have HY := Lib.hid (show ∀ y, y = pg.getD k ByteArray.empty → PageOk nx k y → ∀ j, j < k + 1 → PageOk nx j (pg.getD j ByteArray.empty) from fun y hy ho j hj => by
          by_cases e : j = k
          · rw [e, ← hy]; exact ho
          · exact HA.out j (by omega))
        have HZ := Lib.hid (show ∀ y, y = pg.getD k ByteArray.empty → ¬ PageOk nx k y → r = false from fun y hy ho => by
          cases r with
          | false => rfl
          | true => exact absurd (HR.out.1 rfl k hlt) (by rw [← hy]; exact ho))
        generalize hgy : pg.getD k ByteArray.empty = y at *
        have HGY := Lib.hid hgy
        clear hgy hx hA
        by_cases y0 : y.size = 0
        · have hy0 : y = ⟨#[]⟩ := ByteArray.ext (Array.eq_empty_of_size_eq_zero y0)
          clear HZ
          have HP := Lib.hid (HY.out y rfl (.inl y0))
          subst hy0
          go_wp2
          go_round
          case rel => exact ⟨k + 1, by omega, by go_num, HP⟩
          case measure => simp [intOf]; omega
        · have g1 : ((y.size : Int) != 0) = true := bne_iff_ne.2 (by omega)
          obtain ⟨hne, hie⟩ := bytes_ne y0
          by_cases y1 : y.size = 91
          · have g2 : ((y.size : Int) != 91) = false := by rw [y1]; rfl
            by_cases y2 : (k : Int) < nx
            · have g3 : decide ((k : Int) ≥ nx) = false := by simp; omega
              have g4 : decide (nx ≤ (k : Int)) = false := by simp; omega
              clear HZ
              go_wp2
              go_round
              case rel => exact ⟨k + 1, by omega, by go_num, Lib.hid (HY.out y rfl (.inr ⟨y1, y2⟩))⟩
              case measure => simp [intOf]; omega
            · have g3 : decide ((k : Int) ≥ nx) = true := by simp; omega
              have g4 : decide (nx ≤ (k : Int)) = true := by simp; omega
              have HF := Lib.hid (HZ.out y rfl (fun o => by rcases o with o | ⟨_, o⟩; exact y0 o; exact y2 o))
              go_wp2
              go_ret
              exact ⟨by rw [HF.out]; rfl, hb0⟩
          · have g2 : ((y.size : Int) != 91) = true := bne_iff_ne.2 (by omega)
            have HF := Lib.hid (HZ.out y rfl (fun o => by rcases o with o | ⟨o, _⟩; exact y0 o; exact y1 o))
            go_wp2
            go_ret
            exact ⟨by rw [HF.out]; rfl, hb0⟩
      · obtain rfl : k = n := by omega
        have HT := Lib.hid (HR.out.2 HA.out)
        go_wp2
        go_ret
        exact ⟨by rw [HT.out]; rfl, hb0⟩
end Go.Proofs.YtlmdpdidjldkpaaGreatDoor
/- Valid arrays, in the model and in the program: the contracts. -/
namespace Go.Proofs.YtlmdpdidjldkpaaGreatDoor
open Go.RowKit
set_option linter.unusedVariables false

/-- Not too many blocks and pages. -/
def FlLen (F : Fl) : Prop := F.bs.length ≤ 1048576 ∧ ∀ i, i < F.bs.length → (F.blk i).pg.length ≤ 1048576
theorem FlOk.lens {F : Fl} (h : FlOk F) : FlLen F := ⟨by have := h.len; omega, fun i hi => by have := h.plen hi; omega⟩
def GateOk (F : Fl) : Prop := GeoOk F.d F.b F.p ∧ (F.bs.length : Int) = F.d * F.b ∧ (-1 ≤ F.fu ∧ F.fu ≤ 1000000) ∧ (0 ≤ F.ke ∧ F.ke ≤ 91) ∧ 0 ≤ F.op
theorem flOk_iff (F : Fl) : FlOk F ↔ GateOk F ∧ ∀ i, i < F.bs.length → BlkOk F.p (F.blk i) := by
  unfold FlOk GateOk
  constructor
  · rintro ⟨a, b, c, d, e, f⟩; exact ⟨⟨a, b, d, e, f⟩, c⟩
  · rintro ⟨⟨a, b, d, e, f⟩, c⟩; exact ⟨a, b, c, d, e, f⟩
theorem prop_dec (P : Prop) : ∃ b : Bool, b = true ↔ P := by
  by_cases h : P
  · exact ⟨true, by simp [h]⟩
  · exact ⟨false, by simp [h]⟩
set_option maxRecDepth 100000 in
theorem specValid_any (v : Value) (F : Fl) (r : Bool) (w : World) (lo hi : Nat) (h : FlIn w lo hi v F) (hh : hi ≤ w.heap.size) (hr : r = true ↔ FlOk F) (hl : FlLen F) :
    Calls Tryz.prog 11 #[v] w (BoolPost r w) := by
  obtain ⟨u, rfl, h⟩ := h
  rw [flOk_iff] at hr
  obtain ⟨d, b, p, bs, fu, ke, off, op⟩ := F
  obtain ⟨A, n, cap, rfl, hlc, hcm, hlen, hA⟩ := h
  obtain ⟨hl1, hl2⟩ := hl
  unfold flc
  simp only at hl1 hl2 hlen hA
  rw [hlen] at hl1
  have hnm : (n : Int) ≤ 1048576 := by omega
  have r0 := Rw.new w 28 #[.int .i64 d, .int .i64 b, .int .i64 p, .slice A n cap, .int .i64 fu, .int .i64 ke, .bool off, .int .i64 op]
  have hb0 := (Below.refl w.heap.size w).alloc (Nat.le_refl _) (.cells #[.int .i64 d, .int .i64 b, .int .i64 p, .slice A n cap, .int .i64 fu, .int .i64 ke, .bool off, .int .i64 op] 28)
  have HB0 := Lib.hid hb0
  obtain ⟨hy, hn⟩ := bool_of r hr
  obtain ⟨rg, hrg⟩ := prop_dec (GeoOk d b p)
  have HG := Lib.hid (fun (W : World) => specGeo_any d b p rg W hrg)
  have hsz0 : (w.alloc (.cells #[.int .i64 d, .int .i64 b, .int .i64 p, .slice A n cap, .int .i64 fu, .int .i64 ke, .bool off, .int .i64 op] 28)).heap.size = w.heap.size + 1 := by simp
  have R0 := Lib.hid r0
  by_cases hg : GeoOk d b p
  case neg =>
    obtain rfl : rg = false := (bool_of rg hrg).2 hg
    obtain rfl : r = false := hn (fun k => hg k.1.1)
    clear hr hy hn hrg hA hl2 hb0 r0
    go_enter Tryz.func11, Tryz.ntmps11
    go_wp2_with fail
    refine (HG.out _).mono ?_
    rintro e w1 ⟨rfl, b1⟩
    have HB1 := Lib.hid (HB0.out.trans (b1.mono (by simp)))
    obtain ⟨c0, c1, c2, c3, c4, c5, c6, c7⟩ := (R0.out.below b1 (by simp)).eight
    clear b1
    go_wp2
    go_ret
    exact ⟨rfl, HB1.out⟩
  obtain rfl : rg = true := (bool_of rg hrg).1 hg
  obtain ⟨m1, m2⟩ := hg.mul
  have HGE := Lib.hid hg
  generalize hq : d * b = q at *
  by_cases gate : (n : Int) = q ∧ (-1 ≤ fu ∧ fu ≤ 1000000) ∧ (0 ≤ ke ∧ ke ≤ 91) ∧ 0 ≤ op
  case neg =>
    obtain rfl : r = false := hn (fun k => gate ⟨by have := k.1.2.1; simp only at this; rw [hlen, hq] at this; exact this, k.1.2.2⟩)
    clear hr hy hn hrg hA hl2 hb0 r0
    go_enter Tryz.func11, Tryz.ntmps11
    go_wp2_with fail
    refine (HG.out _).mono ?_
    rintro e w1 ⟨rfl, b1⟩
    have HB1 := Lib.hid (HB0.out.trans (b1.mono (by simp)))
    obtain ⟨c0, c1, c2, c3, c4, c5, c6, c7⟩ := (R0.out.below b1 (by simp)).eight
    clear b1
    by_cases g1 : (n : Int) = q
    · have e1 : ((n : Int) != q) = false := by simp [g1]
      by_cases g2 : -1 ≤ fu ∧ fu ≤ 1000000
      · have k2 := Lib.hid (fun (W : World) => inr_yes fu (-1) 1000000 W g2.1 g2.2)
        by_cases g3 : 0 ≤ ke ∧ ke ≤ 91
        · have k3 := Lib.hid (fun (W : World) => inr_yes ke 0 91 W g3.1 g3.2)
          have g4 : op < 0 := by
            by_cases k : op < 0
            · exact k
            · exact absurd ⟨g1, g2, g3, by omega⟩ gate
          clear gate g2 g3
          go_wp2_with fail
          refine (k2.out _).mono ?_
          rintro e w2 ⟨rfl, rfl⟩
          go_wp2_with fail
          refine (k3.out _).mono ?_
          rintro e w2 ⟨rfl, rfl⟩
          go_wp2
          go_ret
          exact ⟨rfl, HB1.out⟩
        · have k3 := Lib.hid (fun (W : World) => inr_no ke 0 91 W g3)
          clear gate g2 g3
          go_wp2_with fail
          refine (k2.out _).mono ?_
          rintro e w2 ⟨rfl, rfl⟩
          go_wp2_with fail
          refine (k3.out _).mono ?_
          rintro e w2 ⟨rfl, rfl⟩
          go_wp2
          go_ret
          exact ⟨rfl, HB1.out⟩
      · have k2 := Lib.hid (fun (W : World) => inr_no fu (-1) 1000000 W g2)
        clear gate g2
        go_wp2_with fail
        refine (k2.out _).mono ?_
        rintro e w2 ⟨rfl, rfl⟩
        go_wp2
        go_ret
        exact ⟨rfl, HB1.out⟩
    · have e1 : ((n : Int) != q) = true := bne_iff_ne.2 g1
      clear gate
      go_wp2
      go_ret
      exact ⟨rfl, HB1.out⟩
  obtain ⟨g1, g2, g3, g4⟩ := gate
  have HR := Lib.hid (show r = true ↔ ∀ i, i < n → BlkOk p (bs.getD i Blk.zero) from by
    rw [hr]
    constructor
    · rintro ⟨_, k⟩ i hi
      exact k i (by show i < bs.length; omega)
    · intro k
      exact ⟨⟨HGE.out, by show (bs.length : Int) = d * b; rw [hlen, hq]; exact g1, g2, g3, g4⟩, fun i hi => k i (by have : i < bs.length := hi; omega)⟩)
  have k2 := Lib.hid (fun (W : World) => inr_yes fu (-1) 1000000 W g2.1 g2.2)
  have k3 := Lib.hid (fun (W : World) => inr_yes ke 0 91 W g3.1 g3.2)
  have e1 : ((n : Int) != q) = false := by simp [g1]
  have hn0 : 0 < n := by omega
  obtain ⟨g, o, rfl, hg1, hg2, hx⟩ := hA hn0
  have HX := Lib.hid hx
  have HL2 := Lib.hid (show ∀ i, i < n → (bs.getD i Blk.zero).pg.length ≤ 1048576 from fun i hi => hl2 i (by show i < bs.length; omega))
  have g5 : ¬ op < 0 := by omega
  clear hr hy hn hrg hA hl2 hb0 r0 hx g2 g3 hg
  go_enter Tryz.func11, Tryz.ntmps11
  go_wp2_with fail
  refine (HG.out _).mono ?_
  rintro e w1 ⟨rfl, b1⟩
  have HB1 := Lib.hid (HB0.out.trans (b1.mono (by simp)))
  have R1 := Lib.hid (R0.out.below b1 (by simp))
  obtain ⟨c0, c1, c2, c3, c4, c5, c6, c7⟩ := R1.out.eight
  clear b1
  go_wp2_with fail
  refine (k2.out _).mono ?_
  rintro e w2 ⟨rfl, rfl⟩
  go_wp2_with fail
  refine (k3.out _).mono ?_
  rintro e w2 ⟨rfl, rfl⟩
  go_wp2_with fail
  go_loopw [3] (fun i wr => ∃ k : Nat, k ≤ n ∧ i = .int .i64 k ∧ Hid (∀ j, j < k → BlkOk p (bs.getD j Blk.zero)) ∧ Below w.heap.size w wr ∧ Hid (Rw wr w.heap.size 28 #[.int .i64 d, .int .i64 b, .int .i64 p, .slice (some ⟨g, o, none⟩) n cap, .int .i64 fu, .int .i64 ke, .bool off, .int .i64 op])) (fun i _ => n - (intOf i).toNat)
  case atStart => exact ⟨0, by omega, rfl, Lib.hid (fun j hj => by omega), HB1.out, R1⟩
  case round =>
    clear c0 c1 c2 c3 c4 c5 c6 c7
    obtain ⟨k, hk, rfl, HA, hb, RR⟩ := hrel
    obtain ⟨c0, c1, c2, c3, c4, c5, c6, c7⟩ := RR.out.eight
    by_cases hlt : k < n
    · have hki : (k : Int) < (n : Int) := by omega
      obtain ⟨pu, ⟨d0, d1, d2, d3⟩, hpu⟩ := HX.out k hlt
      have q0 := (hb.cell (p := ⟨g, o + k * 4, none⟩) (by simp; omega)).trans d0
      have q1 := (hb.cell (p := ⟨g, o + k * 4 + 1, none⟩) (by simp; omega)).trans d1
      have q2 := (hb.cell (p := ⟨g, o + k * 4 + 2, none⟩) (by simp; omega)).trans d2
      have q3 := (hb.cell (p := ⟨g, o + k * 4 + 3, none⟩) (by simp; omega)).trans d3
      have HU := Lib.hid (hpu.same (sm hb lo hh))
      have hsz := hb.size
      have HQ := HL2.out k hlt
      have HB := Lib.hid hb
      have HY := Lib.hid (show ∀ y, y = bs.getD k Blk.zero → BlkOk p y → ∀ j, j < k + 1 → BlkOk p (bs.getD j Blk.zero) from fun y hy ho j hj => by
        by_cases e : j = k
        · rw [e, ← hy]; exact ho
        · exact HA.out j (by omega))
      have HZ := Lib.hid (show ∀ y, y = bs.getD k Blk.zero → ¬ BlkOk p y → r = false from fun y hy ho => by
        cases r with
        | false => rfl
        | true => exact absurd (HR.out.1 rfl k hlt) (by rw [← hy]; exact ho))
      generalize bs.getD k Blk.zero = y at *
      obtain ⟨rb, hrb⟩ := prop_dec (BlkOk p y)
      have HC := Lib.hid (fun (W : World) (a : PgIn W lo hi pu y.pg) (c : hi ≤ W.heap.size) => specBlk_any y pu p rb W lo hi a c hrb HQ)
      by_cases hbk : BlkOk p y
      · obtain rfl : rb = true := hrb.2 hbk
        have HD := Lib.hid (HY.out y rfl hbk)
        clear d0 d1 d2 d3 hpu hb hrb hbk HZ HY
        go_wp2_with fail
        go_still_tail 8, (by kernel_rfl)
        change wpList _ _ _ _ _ wr.drew
        go_wp2_with fail
        refine (HC.out _ (show PgIn wr.drew lo hi pu y.pg from HU.out) (by simp; omega)).mono ?_
        rintro e w2 ⟨rfl, b2⟩
        have HB2 := Lib.hid (HB.out.drew.trans (b2.mono (by simpa using hsz)))
        have R2 := Lib.hid (Rw.below (show Rw wr.drew _ _ _ from RR.out) b2 RR.out.lt)
        clear b2 HB RR c0 c1 c2 c3 c4 c5 c6 c7 q0 q1 q2 q3
        go_wp2
        go_roundw
        case rel => exact ⟨k + 1, by omega, by go_num, HD, HB2.out, R2⟩
        case measure => simp [intOf]; omega
      · obtain rfl : rb = false := (bool_of rb hrb).2 hbk
        have HF := Lib.hid (HZ.out y rfl hbk)
        clear d0 d1 d2 d3 hpu hb hrb hbk HZ HY
        go_wp2_with fail
        go_still_tail 8, (by kernel_rfl)
        change wpList _ _ _ _ _ wr.drew
        go_wp2_with fail
        refine (HC.out _ (show PgIn wr.drew lo hi pu y.pg from HU.out) (by simp; omega)).mono ?_
        rintro e w2 ⟨rfl, b2⟩
        have HB2 := Lib.hid (HB.out.drew.trans (b2.mono (by simpa using hsz)))
        clear b2 HB RR c0 c1 c2 c3 c4 c5 c6 c7 q0 q1 q2 q3
        go_wp2
        go_ret
        exact ⟨by rw [HF.out]; rfl, HB2.out⟩
    · obtain rfl : k = n := by omega
      have HT := Lib.hid (HR.out.2 HA.out)
      go_wp2
      go_ret
      exact ⟨by rw [HT.out]; rfl, hb⟩
theorem validFuse_any (k : Int) (b : Bool) (w : World) (hb : b = true ↔ (-1 ≤ k ∧ k ≤ 1000000)) : Calls Tryz.prog 23 #[.int .i64 k] w fun e w' => e = .returned (.bool b) ∧ w = w' := by
  by_cases h1 : -1 ≤ k
  · have d1 : decide (-1 ≤ k) = true := by simp; omega
    have d2 : decide (k ≥ -1) = true := by simp; omega
    go_enter Tryz.func23, Tryz.ntmps23
    go_wp2
    go_ret
    exact ⟨ret_bool (by rw [Bool.eq_iff_iff, hb]; simp; omega), rfl⟩
  · have d1 : decide (-1 ≤ k) = false := by simp; omega
    have d2 : decide (k ≥ -1) = false := by simp; omega
    go_enter Tryz.func23, Tryz.ntmps23
    go_wp2
    go_ret
    exact ⟨ret_bool (by rw [Bool.eq_iff_iff, hb]; simp; omega), rfl⟩
set_option maxRecDepth 100000 in
theorem implValid_any (v : Value) (F : Fl) (r : Bool) (w : World) (lo hi : Nat) (h : FlIn w lo hi v F) (hh : hi ≤ w.heap.size) (hr : r = true ↔ FlOk F) (hl : FlLen F) :
    Calls Tryz.prog 22 #[v] w (BoolPost r w) := by
  obtain ⟨u, rfl, h⟩ := h
  rw [flOk_iff] at hr
  obtain ⟨d, b, p, bs, fu, ke, off, op⟩ := F
  obtain ⟨A, n, cap, rfl, hlc, hcm, hlen, hA⟩ := h
  obtain ⟨hl1, hl2⟩ := hl
  unfold flc
  simp only at hl1 hl2 hlen hA
  rw [hlen] at hl1
  have hnm : (n : Int) ≤ 1048576 := by omega
  have r0 := Rw.new w 28 #[.int .i64 d, .int .i64 b, .int .i64 p, .slice A n cap, .int .i64 fu, .int .i64 ke, .bool off, .int .i64 op]
  have hb0 := (Below.refl w.heap.size w).alloc (Nat.le_refl _) (.cells #[.int .i64 d, .int .i64 b, .int .i64 p, .slice A n cap, .int .i64 fu, .int .i64 ke, .bool off, .int .i64 op] 28)
  have HB0 := Lib.hid hb0
  obtain ⟨hy, hn⟩ := bool_of r hr
  obtain ⟨rg, hrg⟩ := prop_dec (GeoOk d b p)
  have HG := Lib.hid (fun (W : World) => implGeo_any d b p rg W hrg)
  have R0 := Lib.hid r0
  by_cases hg : GeoOk d b p
  case neg =>
    obtain rfl : rg = false := (bool_of rg hrg).2 hg
    obtain rfl : r = false := hn (fun k => hg k.1.1)
    clear hr hy hn hrg hA hl2 hb0 r0
    go_enter Tryz.func22, Tryz.ntmps22
    go_wp2_with fail
    refine (HG.out _).mono ?_
    rintro e w1 ⟨rfl, b1⟩
    have HB1 := Lib.hid (HB0.out.trans (b1.mono (by simp)))
    obtain ⟨c0, c1, c2, c3, c4, c5, c6, c7⟩ := (R0.out.below b1 (by simp)).eight
    clear b1
    go_wp2
    go_ret
    exact ⟨rfl, HB1.out⟩
  obtain rfl : rg = true := (bool_of rg hrg).1 hg
  obtain ⟨m1, m2⟩ := hg.mul
  have HGE := Lib.hid hg
  generalize hq : d * b = q at *
  by_cases g1 : (n : Int) = q
  case neg =>
    obtain rfl : r = false := hn (fun k => g1 (by have := k.1.2.1; simp only at this; rw [hlen, hq] at this; exact this))
    have e1 : ((n : Int) != q) = true := bne_iff_ne.2 g1
    clear hr hy hn hrg hA hl2 hb0 r0
    go_enter Tryz.func22, Tryz.ntmps22
    go_wp2_with fail
    refine (HG.out _).mono ?_
    rintro e w1 ⟨rfl, b1⟩
    have HB1 := Lib.hid (HB0.out.trans (b1.mono (by simp)))
    obtain ⟨c0, c1, c2, c3, c4, c5, c6, c7⟩ := (R0.out.below b1 (by simp)).eight
    clear b1
    go_wp2
    go_ret
    exact ⟨rfl, HB1.out⟩
  have HR := Lib.hid (show r = true ↔ ((-1 ≤ fu ∧ fu ≤ 1000000) ∧ (0 ≤ ke ∧ ke ≤ 91) ∧ 0 ≤ op) ∧ ∀ i, i < n → BlkOk p (bs.getD i Blk.zero) from by
    rw [hr]
    constructor
    · rintro ⟨k1, k⟩
      exact ⟨k1.2.2, fun i hi => k i (by show i < bs.length; omega)⟩
    · rintro ⟨k1, k⟩
      exact ⟨⟨HGE.out, by show (bs.length : Int) = d * b; rw [hlen, hq]; exact g1, k1⟩, fun i hi => k i (by have : i < bs.length := hi; omega)⟩)
  subst g1
  have e1 : ((n : Int) != (n : Int)) = false := by simp
  have hn0 : 0 < n := by omega
  obtain ⟨g, o, rfl, hg1, hg2, hx⟩ := hA hn0
  have HX := Lib.hid hx
  have HL2 := Lib.hid (show ∀ i, i < n → (bs.getD i Blk.zero).pg.length ≤ 1048576 from fun i hi => hl2 i (by show i < bs.length; omega))
  clear hr hy hn hrg hA hl2 hb0 r0 hx hg
  go_enter Tryz.func22, Tryz.ntmps22
  go_wp2_with fail
  refine (HG.out _).mono ?_
  rintro e w1 ⟨rfl, b1⟩
  have HB1 := Lib.hid (HB0.out.trans (b1.mono (by simp)))
  have R1 := Lib.hid (R0.out.below b1 (by simp))
  obtain ⟨c0, c1, c2, c3, c4, c5, c6, c7⟩ := R1.out.eight
  clear b1
  go_wp2_with fail
  go_loopw [24] (fun i wr => ∃ k : Nat, k ≤ n ∧ i = .int .i64 k ∧ Hid (∀ j, j < k → BlkOk p (bs.getD j Blk.zero)) ∧ Below w.heap.size w wr ∧ Hid (Rw wr w.heap.size 28 #[.int .i64 d, .int .i64 b, .int .i64 p, .slice (some ⟨g, o, none⟩) n cap, .int .i64 fu, .int .i64 ke, .bool off, .int .i64 op])) (fun i _ => n - (intOf i).toNat)
  case atStart => exact ⟨0, by omega, rfl, Lib.hid (fun j hj => by omega), HB1.out, R1⟩
  case round =>
    clear c0 c1 c2 c3 c4 c5 c6 c7
    obtain ⟨k, hk, rfl, HA, hb, RR⟩ := hrel
    obtain ⟨c0, c1, c2, c3, c4, c5, c6, c7⟩ := RR.out.eight
    by_cases hlt : k < n
    · have hki : (k : Int) < (n : Int) := by omega
      obtain ⟨pu, hat, hpu⟩ := HX.out k hlt
      have hat2 := Lib.hid (hat.same (sm hb lo hh) hg1 hg2)
      have HU := Lib.hid (hpu.same (sm hb lo hh))
      have hsz := hb.size
      have HQ := HL2.out k hlt
      have HB := Lib.hid hb
      have HY := Lib.hid (show ∀ y, y = bs.getD k Blk.zero → BlkOk p y → ∀ j, j < k + 1 → BlkOk p (bs.getD j Blk.zero) from fun y hy ho j hj => by
        by_cases e : j = k
        · rw [e, ← hy]; exact ho
        · exact HA.out j (by omega))
      have HZ := Lib.hid (show ∀ y, y = bs.getD k Blk.zero → ¬ BlkOk p y → r = false from fun y hy ho => by
        cases r with
        | false => rfl
        | true => exact absurd ((HR.out.1 rfl).2 k hlt) (by rw [← hy]; exact ho))
      generalize bs.getD k Blk.zero = y at *
      obtain ⟨rb, hrb⟩ := prop_dec (BlkOk p y)
      have HC := Lib.hid (fun (W : World) (a : BkAt W g (o + k * 4) y pu) (a2 : PgIn W lo hi pu y.pg) (c : hi ≤ W.heap.size) => implBlk_any y pu g (o + k * 4) p rb W lo hi a a2 c hrb HQ)
      by_cases hbk : BlkOk p y
      · obtain rfl : rb = true := hrb.2 hbk
        have HD := Lib.hid (HY.out y rfl hbk)
        clear hat hpu hb hrb hbk HZ HY
        go_wp2_with fail
        go_still_tail 7, (by kernel_rfl)
        change wpList _ _ _ _ _ wr.drew
        go_wp2_with fail
        refine (HC.out _ (show BkAt wr.drew _ _ _ _ from hat2.out) (show PgIn wr.drew lo hi pu y.pg from HU.out) (by simp; omega)).mono ?_
        rintro e w2 ⟨rfl, b2⟩
        have HB2 := Lib.hid (HB.out.drew.trans (b2.mono (by simpa using hsz)))
        have R2 := Lib.hid (Rw.below (show Rw wr.drew _ _ _ from RR.out) b2 RR.out.lt)
        clear b2 HB RR c0 c1 c2 c3 c4 c5 c6 c7
        go_wp2
        go_roundw
        case rel => exact ⟨k + 1, by omega, by go_num, HD, HB2.out, R2⟩
        case measure => simp [intOf]; omega
      · obtain rfl : rb = false := (bool_of rb hrb).2 hbk
        have HF := Lib.hid (HZ.out y rfl hbk)
        clear hat hpu hb hrb hbk HZ HY
        go_wp2_with fail
        go_still_tail 7, (by kernel_rfl)
        change wpList _ _ _ _ _ wr.drew
        go_wp2_with fail
        refine (HC.out _ (show BkAt wr.drew _ _ _ _ from hat2.out) (show PgIn wr.drew lo hi pu y.pg from HU.out) (by simp; omega)).mono ?_
        rintro e w2 ⟨rfl, b2⟩
        have HB2 := Lib.hid (HB.out.drew.trans (b2.mono (by simpa using hsz)))
        clear b2 HB RR c0 c1 c2 c3 c4 c5 c6 c7
        go_wp2
        go_ret
        exact ⟨by rw [HF.out]; rfl, HB2.out⟩
    · obtain rfl : k = n := by omega
      have HB := Lib.hid hb
      clear hb
      by_cases f1 : -1 ≤ fu ∧ fu ≤ 1000000
      · have F1 := Lib.hid (fun (W : World) => validFuse_any fu true W (by simp; omega))
        by_cases f2 : 0 ≤ ke ∧ ke ≤ 91
        · have F2 := Lib.hid (fun (W : World) => validKeep_any ke true W (by simp; omega))
          by_cases f3 : 0 ≤ op
          · have HT := Lib.hid (HR.out.2 ⟨⟨f1, f2, f3⟩, HA.out⟩)
            clear f1 f2
            go_wp2_with fail
            refine (F1.out _).mono ?_
            rintro e w2 ⟨rfl, rfl⟩
            go_wp2_with fail
            refine (F2.out _).mono ?_
            rintro e w2 ⟨rfl, rfl⟩
            go_wp2
            go_ret
            exact ⟨by rw [HT.out]; rfl, HB.out⟩
          · have HT := Lib.hid (show r = false by
              cases r with
              | false => rfl
              | true => exact absurd (HR.out.1 rfl).1.2.2 f3)
            have f4 : decide (0 ≤ op) = false := by simp; omega
            have f5 : decide (op ≥ 0) = false := by simp; omega
            clear f1 f2
            go_wp2_with fail
            refine (F1.out _).mono ?_
            rintro e w2 ⟨rfl, rfl⟩
            go_wp2_with fail
            refine (F2.out _).mono ?_
            rintro e w2 ⟨rfl, rfl⟩
            go_wp2
            go_ret
            exact ⟨by rw [HT.out]; rfl, HB.out⟩
        · have F2 := Lib.hid (fun (W : World) => validKeep_any ke false W (by simp; omega))
          have HT := Lib.hid (show r = false by
            cases r with
            | false => rfl
            | true => exact absurd (HR.out.1 rfl).1.2.1 f2)
          clear f1 f2
          go_wp2_with fail
          refine (F1.out _).mono ?_
          rintro e w2 ⟨rfl, rfl⟩
          go_wp2_with fail
          refine (F2.out _).mono ?_
          rintro e w2 ⟨rfl, rfl⟩
          go_wp2
          go_ret
          exact ⟨by rw [HT.out]; rfl, HB.out⟩
      · have F1 := Lib.hid (fun (W : World) => validFuse_any fu false W (by simp; omega))
        have HT := Lib.hid (show r = false by
          cases r with
          | false => rfl
          | true => exact absurd (HR.out.1 rfl).1.1 f1)
        clear f1
        go_wp2_with fail
        refine (F1.out _).mono ?_
        rintro e w2 ⟨rfl, rfl⟩
        go_wp2
        go_ret
        exact ⟨by rw [HT.out]; rfl, HB.out⟩
end Go.Proofs.YtlmdpdidjldkpaaGreatDoor
/- Copies of arrays with memory of their own, in the model and in the program: the contracts. -/
namespace Go.Proofs.YtlmdpdidjldkpaaGreatDoor
open Go.RowKit
set_option linter.unusedVariables false
/-- The cells of a row of blocks. -/
def bkCells (x : Blk) (u : Value) : List Value := [.int .i64 x.er, .int .i64 x.nx, .bool x.bad, u]
def rowC (L : List Blk) (pv : Nat → Value) : List Value := (List.range L.length).flatMap fun i => bkCells (L.getD i Blk.zero) (pv i)
theorem rowC_at (L : List Blk) (pv : Nat → Value) {i c : Nat} (hi : i < L.length) (hc : c < 4) : (rowC L pv)[i * 4 + c]? = (bkCells (L.getD i Blk.zero) (pv i))[c]? := by
  have key : ∀ n, n ≤ L.length → i < n → ((List.range n).flatMap fun i => bkCells (L.getD i Blk.zero) (pv i))[i * 4 + c]? = (bkCells (L.getD i Blk.zero) (pv i))[c]? := by
    intro n hn hin
    induction n with
    | zero => omega
    | succ n ih =>
      have hl : ∀ m, ((List.range m).flatMap fun i => bkCells (L.getD i Blk.zero) (pv i)).length = m * 4 := by
        intro m
        induction m with
        | zero => rfl
        | succ m ihm => rw [List.range_succ, List.flatMap_append, List.length_append, ihm]; simp [bkCells]; omega
      rw [List.range_succ, List.flatMap_append]
      by_cases e : i < n
      · rw [List.getElem?_append_left (by rw [hl]; omega)]
        exact ih (by omega) e
      · obtain rfl : i = n := by omega
        rw [List.getElem?_append_right (by rw [hl]; omega), hl]
        simp
  exact key _ (Nat.le_refl _) hi
theorem rowC_length (L : List Blk) (pv : Nat → Value) : (rowC L pv).length = L.length * 4 := by
  unfold rowC
  generalize L.length = m
  induction m with
  | zero => rfl
  | succ m ihm => rw [List.range_succ, List.flatMap_append, List.length_append, ihm]; simp [bkCells]; omega
theorem rowC_push (L : List Blk) (pv : Nat → Value) (x : Blk) (u : Value) : rowC (L ++ [x]) (fun i => if i = L.length then u else pv i) = rowC L pv ++ bkCells x u := by
  unfold rowC
  rw [List.length_append, List.length_singleton, List.range_succ, List.flatMap_append]
  congr 1
  · rw [List.flatMap_def, List.flatMap_def]
    congr 1
    apply List.map_congr_left
    intro i hi
    have hi' := List.mem_range.1 hi
    show bkCells ((L ++ [x]).getD i Blk.zero) (if i = L.length then u else pv i) = _
    rw [if_neg (show ¬ i = L.length by omega)]
    congr 1
    rw [List.getD_eq_getElem?_getD, List.getD_eq_getElem?_getD, List.getElem?_append_left hi']
  · simp [bkCells]
/-- What a copy under way holds: the blocks L in an own row, their pages beside it. -/
structure Grow (w : World) (B : Nat) (v : Value) (L : List Blk) (pv : Nat → Value) : Prop where
  own : w.ownsRow B 51 4 v L.length (rowC L pv)
  pgs : ∀ i, i < L.length → PgOwn w B w.heap.size w.heap.size (pv i) (L.getD i Blk.zero).pg
  far : ∀ i, i < L.length → ∀ k, v.ownBlock = some k → ∀ a n c, pv i = .slice (some a) n c → 0 < n → a.block ≠ k
  apart : ∀ i j, i < L.length → j < L.length → i ≠ j → Apart (pv i) (pv j)
theorem PgOwn.keep {w w' : World} {lo hi g : Nat} {v : Value} {L : List ByteArray} (h : PgOwn w lo hi g v L) (hs : ∀ a n c, v = .slice (some a) n c → 0 < n → w'.heap[a.block]? = w.heap[a.block]?) : PgOwn w' lo hi g v L := by
  obtain ⟨A, len, cap, e, h1, h2, h3, h4, hc⟩ := h
  refine ⟨A, len, cap, e, h1, h2, h3, h4, fun h0 => ?_⟩
  obtain ⟨b, off, rfl, h1, h2, h3, hf, hx⟩ := hc h0
  have hb := hs _ _ _ e h0
  exact ⟨b, off, rfl, h1, h2, h3, fun k => (World.frozen?_of_block (w := w) (a := ⟨b, k, none⟩) hb).trans (hf k), fun i hi => (World.cell?_of_block (w := w) (a := ⟨b, off + i, none⟩) hb).trans (hx i hi)⟩
theorem PgOwn.blk {w : World} {lo hi g : Nat} {v : Value} {L : List ByteArray} (h : PgOwn w lo hi g v L) {a : Addr} {n c : Nat} (e : v = .slice (some a) n c) (h0 : 0 < n) : lo ≤ a.block ∧ a.block < hi ∧ a.block ≠ g := by
  obtain ⟨A, len, cap, e', h1, h2, h3, h4, hc⟩ := h
  rw [e] at e'
  injection e' with e1 e2 e3
  subst e1 e2
  obtain ⟨b, off, e4, h5, h6, h7, _⟩ := hc h0
  injection e4 with e4
  subst e4
  exact ⟨h5, h6, h7⟩
theorem PgOwn.beside {w : World} {lo hi g g' : Nat} {v : Value} {L : List ByteArray} (h : PgOwn w lo hi g v L) (hne : ∀ a n c, v = .slice (some a) n c → 0 < n → a.block ≠ g') : PgOwn w lo hi g' v L := by
  obtain ⟨A, len, cap, e, h1, h2, h3, h4, hc⟩ := h
  refine ⟨A, len, cap, e, h1, h2, h3, h4, fun h0 => ?_⟩
  obtain ⟨b, off, rfl, h1, h2, h3, hf, hx⟩ := hc h0
  exact ⟨b, off, rfl, h1, h2, hne _ _ _ e h0, hf, hx⟩
section
variable {w w1 w2 : World} {B : Nat} {v v' : Value} {L : List Blk} {pv : Nat → Value}
theorem Grow.start (w : World) {B : Nat} (h : B ≤ w.heap.size) (pv : Nat → Value) : Grow (w.alloc (.cells #[] 51)) B (.slice (some ⟨w.heap.size, 0, none⟩) 0 0) [] pv :=
  ⟨World.ownsRow_made w #[] 0 h (by unfold maxLen; omega) rfl, fun i hi => by simp at hi, fun i hi => by simp at hi, fun i j hi => by simp at hi⟩
theorem Grow.nil (w : World) (B : Nat) (pv : Nat → Value) : Grow w B (.slice none 0 0) [] pv :=
  ⟨World.ownsRow_nil w B _ 4, fun i hi => by simp at hi, fun i hi => by simp at hi, fun i j hi => by simp at hi⟩
theorem Grow.rowLt (h : Grow w B v L pv) {k : Nat} (e : v.ownBlock = some k) : B ≤ k ∧ k < w.heap.size := World.ownsRow.lt h.own k e
theorem Grow.later (h : Grow w B v L pv) (hb : Below w.heap.size w w1) : Grow w1 B v L pv := by
  refine ⟨?_, fun i hi => ?_, h.far, h.apart⟩
  · refine ⟨h.own.1, ?_⟩
    rcases h.own.2 with h2 | ⟨g, cap, cur, e1, e2, e3, e4⟩
    · exact .inl h2
    · have hg := (h.rowLt (k := g) (by rw [e1]; rfl)).2
      exact .inr ⟨g, cap, cur, e1, e2, (hb.block g hg).trans e3, e4⟩
  · have := h.pgs i hi
    exact ((this.same (sm hb B (Nat.le_refl _))).wide (Nat.le_refl _) hb.size).beside fun a n c e h0 => by have := this.blk e h0; have := hb.size; omega
theorem Grow.push (h : Grow w B v L pv) (hb : Below w.heap.size w w1) {x : Blk} {u : Value} (hu : PgOwn w1 w.heap.size w1.heap.size w1.heap.size u x.pg)
    (own : w2.ownsRow B 51 4 v' (L.length + 1) (rowC L pv ++ bkCells x u)) (gr : w1.grownBy w2 v.ownBlock) (hat : v'.ownBlock = v.ownBlock ∨ v'.ownBlock = some w1.heap.size) (hB : B ≤ w.heap.size) :
    Grow w2 B v' (L ++ [x]) (fun i => if i = L.length then u else pv i) := by
  have h1 := h.later hb
  have hrow : ∀ k, v.ownBlock = some k → k < w.heap.size := fun k e => (h.rowLt e).2
  have hsz := hb.size
  have hsz2 := gr.size
  have gl : ∀ i, i < L.length → (L ++ [x]).getD i Blk.zero = L.getD i Blk.zero := fun i hi => by rw [List.getD_eq_getElem?_getD, List.getD_eq_getElem?_getD, List.getElem?_append_left hi]
  have gx : (L ++ [x]).getD L.length Blk.zero = x := by simp [List.getD_eq_getElem?_getD]
  have old : ∀ i, i < L.length → PgOwn w2 B w2.heap.size w2.heap.size (pv i) (L.getD i Blk.zero).pg := fun i hi => by
    have p := h1.pgs i hi
    refine ((p.keep fun a n c e h0 => ?_).wide (Nat.le_refl _) hsz2).beside fun a n c e h0 => by have := p.blk e h0; omega
    have q := p.blk e h0
    refine gr.block _ q.2.1 fun e2 => ?_
    exact h1.far i hi a.block e2.symm a n c e h0 rfl
  have new : PgOwn w2 B w2.heap.size w2.heap.size u x.pg := by
    refine ((hu.keep fun a n c e h0 => ?_).wide hB hsz2).beside fun a n c e h0 => by have := hu.blk e h0; omega
    have q := hu.blk e h0
    refine gr.block _ q.2.1 fun e2 => ?_
    have := hrow a.block e2.symm
    omega
  refine ⟨?_, fun i hi => ?_, fun i hi k ek a n c e h0 => ?_, fun i j hi hj hne => ?_⟩
  · rw [List.length_append, List.length_singleton, rowC_push]; exact own
  · rw [List.length_append, List.length_singleton] at hi
    by_cases e : i = L.length
    · subst e; rw [gx]; simp only [if_true]; exact new
    · rw [gl i (by omega)]; simp only [if_neg e]; exact old i (by omega)
  · rw [List.length_append, List.length_singleton] at hi
    by_cases e' : i = L.length
    · rw [if_pos e'] at e
      have q := hu.blk e h0
      rcases hat with e2 | e2
      · rw [e2] at ek; have := hrow k ek; omega
      · rw [e2] at ek; injection ek with ek; omega
    · rw [if_neg e'] at e
      have q := (h1.pgs i (by omega)).blk e h0
      rcases hat with e2 | e2
      · rw [e2] at ek; exact h1.far i (by omega) k ek a n c e h0
      · rw [e2] at ek; injection ek with ek; omega
  · rw [List.length_append, List.length_singleton] at hi hj
    have ap : ∀ i, i < L.length → Apart (pv i) u := fun i hi => by
      have p : PgOwn w1 B w.heap.size w.heap.size (pv i) (L.getD i Blk.zero).pg := (h.pgs i hi).same (sm hb B (Nat.le_refl _))
      exact p.apart hu
    by_cases e : i = L.length
    · by_cases e2 : j = L.length
      · omega
      · simp only [if_pos e, if_neg e2]; exact (ap j (by omega)).symm
    · by_cases e2 : j = L.length
      · simp only [if_neg e, if_pos e2]; exact ap i (by omega)
      · simp only [if_neg e, if_neg e2]; exact h.apart i j (by omega) (by omega) hne
theorem Grow.owns (h : Grow w B v L pv) : BksOwn w B w.heap.size v L := by
  rcases h.own.2 with ⟨e, hn⟩ | ⟨g, cap, cur, e, hg, hc, h1, h2, _⟩
  · have : L = [] := List.eq_nil_of_length_eq_zero hn
    subst this
    exact ⟨_, _, _, e, Nat.le_refl _, by omega, rfl, fun h => by simp at h⟩
  · subst e
    have hlt := h.rowLt (k := g) rfl
    refine ⟨_, _, _, rfl, h1, by unfold maxLen at h2; omega, rfl, fun _ => ⟨g, pv, rfl, hlt.1, hlt.2, World.ownsRow.frozenAt h.own, fun i hi => ?_, fun i hi => ?_, h.apart⟩⟩
    · have q : ∀ c, c < 4 → w.cell? ⟨g, i * 4 + c, none⟩ = (bkCells (L.getD i Blk.zero) (pv i))[c]? := fun c hc => by
        rw [World.ownsRow.cellAt h.own _ (by omega), rowC_at L pv hi hc]
      exact ⟨q 0 (by omega), q 1 (by omega), q 2 (by omega), q 3 (by omega)⟩
    · exact (h.pgs i hi).beside fun a n c e h0 => h.far i hi g rfl a n c e h0
theorem Grow.same (h : Grow w B v L pv) (hs : ∀ j, B ≤ j → j < w.heap.size → w1.heap[j]? = w.heap[j]?) (hsz : w.heap.size ≤ w1.heap.size) : Grow w1 B v L pv := by
  refine ⟨?_, fun i hi => ?_, h.far, h.apart⟩
  · refine ⟨h.own.1, ?_⟩
    rcases h.own.2 with h2 | ⟨g, cap, cur, e1, e2, e3, e4⟩
    · exact .inl h2
    · have hg := h.rowLt (k := g) (by rw [e1]; rfl)
      exact .inr ⟨g, cap, cur, e1, e2, (hs g hg.1 hg.2).trans e3, e4⟩
  · have := h.pgs i hi
    exact ((this.same (fun j a b => hs j a b)).wide (Nat.le_refl _) hsz).beside fun a n c e h0 => by have := this.blk e h0; omega
theorem owns_slice {e : TypeId} {s n : Nat} {xs : List Value} (h : w.ownsRow B e s v n xs) : ∃ A c, v = .slice A n c := by
  rcases h.2 with ⟨rfl, rfl⟩ | ⟨g, cap, cur, e1, _⟩
  · exact ⟨_, _, rfl⟩
  · exact ⟨_, _, e1⟩
theorem StrsOwn.fresh (w : World) {B : Nat} (h : B ≤ w.heap.size) : StrsOwn (w.alloc (.cells #[] 9)) B (.slice (some ⟨w.heap.size, 0, none⟩) 0 0) [] :=
  World.ownsRow_made w #[] 0 h (by unfold maxLen; omega) rfl
theorem StrsOwn.someOf {v : Value} {L : List ByteArray} {n : Nat} (h : StrsOwn w B v ([] ++ L)) (hn : L.length = n) (h0 : 0 < n) : ∃ g cap, v = .slice (some ⟨g, 0, none⟩) n cap ∧ n ≤ cap ∧ cap ≤ 9223372036854775807 ∧ B ≤ g ∧ g < w.heap.size ∧ StrsOwn w B (.slice (some ⟨g, 0, none⟩) n cap) L := by
  rw [List.nil_append] at h
  rcases h.shape with ⟨_, rfl⟩ | ⟨g, cap, rfl, h1, h2, h3, h4⟩
  · simp at hn; omega
  · subst hn
    exact ⟨g, cap, rfl, h1, h2, h3, h4, h⟩
theorem StrsOwn.pagesOf {L : List ByteArray} {g n cap k : Nat} (h : StrsOwn w B (.slice (some ⟨g, 0, none⟩) n cap) L) (hn : L.length = n) (h1 : n ≤ cap) (h2 : cap ≤ 9223372036854775807) (hg : B ≤ g) (hgl : g < w.heap.size) (hk : k < B) (hL : ∀ i, i < L.length → (L.getD i ByteArray.empty).size ≤ 9223372036854775807) : PgOwn w B w.heap.size k (.slice (some ⟨g, 0, none⟩) n cap) L :=
  ⟨_, _, _, rfl, h1, h2, hn, fun i hi => hL i (by omega), fun _ => ⟨g, 0, rfl, hg, hgl, by omega, h.free hn, fun i hi => by rw [Nat.zero_add]; exact h.cell hn hi⟩⟩
end
end Go.Proofs.YtlmdpdidjldkpaaGreatDoor
/- l06Own and cloneFlash: the contracts. -/
namespace Go.Proofs.YtlmdpdidjldkpaaGreatDoor
open Go.RowKit
set_option linter.unusedVariables false
theorem wpList_append_pages {Q : Exit → Act → World → Prop} {ops : Array Oper} {rest : List Oper} {o : Oper} {a : Act} {w0 wr : World} {B : Nat} (hgd : o.guard = none) (s x : Operand)
    (ho : o.op = .call { callee := .builtin .append, args := #[s, x], argTypes := #[49, 49] })
    (v : Value) (l : List ByteArray) (hs : a.eval s = v) (hown : StrsOwn wr B v l) (hb : Below B w0 wr) (hB : B ≤ wr.heap.size)
    (L : List ByteArray) (b off m c : Nat) (hm : L.length = m) (hx : a.eval x = .slice (some ⟨b, off, none⟩) m c) (hc : ∀ i, i < m → wr.cell? ⟨b, off + i, none⟩ = some (.string (L.getD i ByteArray.empty))) (hl : l.length + m ≤ 1000000)
    (h : ∀ v' w', StrsOwn w' B v' (l ++ L) → Below B w0 w' → wr.grownBy w' v.ownBlock → wpList Tryz.prog ops Q rest (a.put o.dst v') w') :
    wpList Tryz.prog ops Q (o :: rest) a wr := by
  obtain ⟨i0, hi, hz0, hz1, hz2⟩ := info_parts infoStr
  refine wpList_append_own _ hgd s x _ ho B 9 i0 (.string ByteArray.empty) 1 16 Tryz.underlying49 hi hz0 hz1 hz2 rfl (by decide) v l.length (l.map Value.string) hs hown ⟨b, off, none⟩ m c (L.map Value.string) hx (by simp [hm]) ?_ ?_ (by unfold maxLen; omega) (by omega) hB ?_
  · intro j u hj
    have hjl : j < L.length := by
      rcases Nat.lt_or_ge j L.length with hlt | hge
      · exact hlt
      · rw [List.getElem?_eq_none (by simpa using hge)] at hj; cases hj
    have := hc j (by omega)
    rw [List.getElem?_map, List.getElem?_eq_getElem hjl] at hj
    simp at hj
    subst hj
    rw [List.getD_eq_getElem?_getD, List.getElem?_eq_getElem hjl] at this
    have e : (⟨b, off, none⟩ : Addr).add j = ⟨b, off + j, none⟩ := by unfold Addr.add; split <;> simp_all
    rw [e]
    simpa using this
  · intro u hu
    simp at hu
    obtain ⟨s, _, rfl⟩ := hu
    rfl
  · intro v' w' h1 h2 _
    refine h v' w' ?_ (hb.grown h2 hB fun k hk => (World.ownsRow.lt hown k hk).1) h2
    unfold StrsOwn
    rw [List.length_append, hm, List.map_append]
    exact h1
theorem infoFl8 : (Tryz.prog.info? 28).map (·.size) = some 8 := by kernel_rfl
theorem infoBlkZ : (Tryz.prog.info? 51).map (fun i => (i.zero, i.size, i.bytes)) = some (some (.agg #[.int .i64 0, .int .i64 0, .bool false, .slice none 0 0]), 4, 48) := by kernel_rfl
theorem wpList_append_block {Q : Exit → Act → World → Prop} {ops : Array Oper} {rest : List Oper} {o : Oper} {a : Act} {wr : World} {B : Nat} (hgd : o.guard = none) (s x : Operand)
    (ho : o.op = .call { callee := .builtin .append, args := #[s, x], argTypes := #[26, 26] })
    (v : Value) (L : List Blk) (pv : Nat → Value) (hs : a.eval s = v) (hown : wr.ownsRow B 51 4 v L.length (rowC L pv)) (hB : B ≤ wr.heap.size)
    (y : Blk) (u : Value) (hu : u.oneCell' = true) (g m c : Nat) (hg : g = wr.heap.size) (hx : a.eval x = .slice (some ⟨g, 0, none⟩) 1 c) (hl : L.length + 1 ≤ 1000000)
    (h : ∀ v' w', w'.ownsRow B 51 4 v' (L.length + 1) (rowC L pv ++ bkCells y u) → (wr.alloc (.cells #[.int .i64 y.er, .int .i64 y.nx, .bool y.bad, u] 51)).grownBy w' v.ownBlock → (v'.ownBlock = v.ownBlock ∨ v'.ownBlock = some (wr.heap.size + 1)) → wpList Tryz.prog ops Q rest (a.put o.dst v') w') :
    wpList Tryz.prog ops Q (o :: rest) a (wr.alloc (.cells #[.int .i64 y.er, .int .i64 y.nx, .bool y.bad, u] 51)) := by
  obtain ⟨i0, hi, hz0, hz1, hz2⟩ := info_parts infoBlkZ
  subst hg
  refine wpList_append_own_at _ hgd s x _ ho B 51 i0 (.agg #[.int .i64 0, .int .i64 0, .bool false, .slice none 0 0]) 4 48 Tryz.underlying26 hi hz0 hz1 hz2 rfl (by decide) v L.length (rowC L pv) hs (World.ownsRow.alloc hown _) ⟨wr.heap.size, 0, none⟩ 1 c (bkCells y u) hx rfl ?_ ?_ (by unfold maxLen; omega) (by omega) (by simp; omega) ?_
  · intro j t hj
    rw [Addr.add_lit, Nat.zero_add, World.cell?_alloc_new]
    simpa [bkCells] using hj
  · intro t ht
    simp [bkCells] at ht
    rcases ht with rfl | rfl | rfl | rfl
    · rfl
    · rfl
    · rfl
    · exact hu
  · intro v' w' h1 h2 _ h4
    exact h v' w' h1 h2 (by simpa using h4)
set_option maxHeartbeats 4000000 in
theorem l06Own_any (v : Value) (F : Fl) (w : World) (lo hi : Nat) (h : FlIn w lo hi v F) (hh : hi ≤ w.heap.size) (hl : F.bs.length ≤ 1000) (hp : ∀ i, i < F.bs.length → 0 < (F.blk i).pg.length ∧ (F.blk i).pg.length ≤ 1000) :
    Calls Tryz.prog 100 #[v] w fun e w' => ∃ u, e = .returned u ∧ FlOwn w' w.heap.size w'.heap.size u F ∧ Below w.heap.size w w' := by
  obtain ⟨u, rfl, h⟩ := h
  obtain ⟨d, b, p, bs, fu, ke, off, op⟩ := F
  obtain ⟨A, n, cap, rfl, hlc, hcm, hlen, hA⟩ := h
  unfold flc
  simp only at hl hp hlen hA
  rw [hlen] at hl
  have hnm : (n : Int) ≤ 1000 := by omega
  go_enter Tryz.func100, Tryz.ntmps100
  have HA := Lib.hid hA
  have HP := Lib.hid hp
  have HN := Lib.hid hlen
  clear hA hp hlen
  go_wp2_with fail
  obtain ⟨r0, r1, r2, b0⟩ := Rw.three_new w 28 28 28 #[.int .i64 d, .int .i64 b, .int .i64 p, .slice A n cap, .int .i64 fu, .int .i64 ke, .bool off, .int .i64 op]
    #[.int .i64 0, .int .i64 0, .int .i64 0, .slice none 0 0, .int .i64 0, .int .i64 0, .bool false, .int .i64 0] #[.int .i64 d, .int .i64 b, .int .i64 p, .slice (some ⟨w.heap.size + 1 + 1 + 1, 0, none⟩) 0 0, .int .i64 fu, .int .i64 ke, .bool off, .int .i64 op]
  have R0 := Lib.hid (r0.alloc (.cells #[] 51))
  have R1 := Lib.hid (r1.alloc (.cells #[] 51))
  have R2 := Lib.hid (r2.alloc (.cells #[] 51))
  have HB0 := Lib.hid (b0.alloc (by simp; omega) (.cells #[] 51))
  have g0 := Grow.start (((w.alloc (.cells #[.int .i64 d, .int .i64 b, .int .i64 p, .slice A n cap, .int .i64 fu, .int .i64 ke, .bool off, .int .i64 op] 28)).alloc (.cells #[.int .i64 0, .int .i64 0, .int .i64 0, .slice none 0 0, .int .i64 0, .int .i64 0, .bool false, .int .i64 0] 28)).alloc (.cells #[.int .i64 d, .int .i64 b, .int .i64 p, .slice (some ⟨w.heap.size + 1 + 1 + 1, 0, none⟩) 0 0, .int .i64 fu, .int .i64 ke, .bool off, .int .i64 op] 28)) (B := w.heap.size + 3) (by simp) (fun _ => .slice none 0 0)
  simp only [World.size_alloc] at g0
  have G0 := Lib.hid g0
  have hz0 : w.heap.size + 4 ≤ ((((w.alloc (.cells #[.int .i64 d, .int .i64 b, .int .i64 p, .slice A n cap, .int .i64 fu, .int .i64 ke, .bool off, .int .i64 op] 28)).alloc (.cells #[.int .i64 0, .int .i64 0, .int .i64 0, .slice none 0 0, .int .i64 0, .int .i64 0, .bool false, .int .i64 0] 28)).alloc (.cells #[.int .i64 d, .int .i64 b, .int .i64 p, .slice (some ⟨w.heap.size + 1 + 1 + 1, 0, none⟩) 0 0, .int .i64 fu, .int .i64 ke, .bool off, .int .i64 op] 28)).alloc (.cells #[] 51)).heap.size := by simp
  clear r0 r1 r2 b0 g0
  go_loopw [4] (fun i wr => ∃ (k : Nat) (pv : Nat → Value) (vo : Value), k ≤ n ∧ i = .int .i64 k ∧ Hid (Grow wr (w.heap.size + 3) vo (bs.take k) pv) ∧ Hid (Rw wr w.heap.size 28 #[.int .i64 d, .int .i64 b, .int .i64 p, .slice A n cap, .int .i64 fu, .int .i64 ke, .bool off, .int .i64 op]) ∧
      Hid (Rw wr (w.heap.size + 1) 28 #[.int .i64 0, .int .i64 0, .int .i64 0, .slice none 0 0, .int .i64 0, .int .i64 0, .bool false, .int .i64 0]) ∧ Hid (Rw wr (w.heap.size + 1 + 1) 28 #[.int .i64 d, .int .i64 b, .int .i64 p, vo, .int .i64 fu, .int .i64 ke, .bool off, .int .i64 op]) ∧
      Hid (Below w.heap.size w wr) ∧ w.heap.size + 4 ≤ wr.heap.size) (fun i _ => n - (intOf i).toNat)
  case atStart => exact ⟨0, _, _, by omega, rfl, G0, R0, R1, R2, HB0, hz0⟩
  case round =>
    clear R0 R1 R2 HB0 G0 hz0
    obtain ⟨k, pv, vo, hk, rfl, GG, R0, R1, R2, HB, hz⟩ := hrel
    obtain ⟨Av, cv, hvo⟩ := owns_slice GG.out.own
    obtain ⟨a0, a1, a2, a3, a4, a5, a6, a7⟩ := R0.out.eight
    obtain ⟨z0, z1, z2, z3, z4, z5, z6, z7⟩ := R1.out.eight
    obtain ⟨o0, o1, o2, o3, o4, o5, o6, o7⟩ := R2.out.eight
    by_cases hlt : k < n
    · have hki : (k : Int) < (n : Int) := by omega
      have hkl : (bs.take k).length = k := by rw [List.length_take, HN.out]; omega
      rw [hkl] at hvo
      subst hvo
      obtain ⟨g, o, hAe, hg1, hg2, hx⟩ := HA.out (by omega)
      obtain ⟨pu, hat, hpu⟩ := hx k hlt
      have hp := HP.out k (by have := HN.out; omega)
      have hs1 := sm HB.out lo hh
      obtain ⟨q0, q1, q2, q3⟩ := hat.same hs1 hg1 hg2
      obtain ⟨Ap, m, cp, rfl, hm1, hm2, hm3, hm4, hpc⟩ := hpu.same hs1
      have hy : bs.take (k + 1) = bs.take k ++ [bs.getD k Blk.zero] := by
        rw [List.take_succ_eq_append_getElem (by have := HN.out; omega), List.getD_eq_getElem?_getD, List.getElem?_eq_getElem (by have := HN.out; omega)]; rfl
      have HY := Lib.hid hy
      have hpe : (Fl.blk { d := d, b := b, p := p, bs := bs, fu := fu, ke := ke, off := off, op := op } k) = bs.getD k Blk.zero := rfl
      rw [hpe] at hp
      generalize bs.getD k Blk.zero = y at *
      obtain ⟨er, nx, bad, pg⟩ := y
      simp only at q0 q1 q2 hm3 hm4 hp hpc
      obtain ⟨pb, po, rfl, hb1, hb2, hpx⟩ := hpc (by omega)
      subst hAe
      have HPX := Lib.hid hpx
      have HM3 := Lib.hid hm3
      have HM4 := Lib.hid hm4
      have hmm : m ≤ 1000 := by omega
      have hm0 : 0 < m := by omega
      have HKL := Lib.hid hkl
      clear hx hat hpu hpx hs1 hpc hpe hy hm3 hm4 hp hkl
      have hpw : pb < wr.heap.size := by omega
      have hq0 : w.heap.size ≠ wr.heap.size := by omega
      have hq1 : w.heap.size + 1 ≠ wr.heap.size := by omega
      have hq2 : w.heap.size + 1 + 1 ≠ wr.heap.size := by omega
      have hq3 : ¬ wr.heap.size = w.heap.size + 1 + 1 := by omega
      have hq4 : ¬ wr.heap.size = w.heap.size + 1 := by omega
      have hq5 : ¬ wr.heap.size = w.heap.size := by omega
      have own0 := StrsOwn.fresh (wr.alloc (.cells #[.int .i64 er, .int .i64 nx, .bool bad, .slice (some ⟨pb, po, none⟩) m cp] 51)) (B := wr.heap.size + 1) (by simp)
      simp only [World.size_alloc] at own0
      have OWN0 := Lib.hid own0
      have BL0 := Lib.hid ((Below.refl (wr.heap.size + 1) (wr.alloc (.cells #[.int .i64 er, .int .i64 nx, .bool bad, .slice (some ⟨pb, po, none⟩) m cp] 51))).alloc (by simp) (.cells #[] 9))
      have CL0 := Lib.hid (show ∀ i, i < m → ((wr.alloc (.cells #[.int .i64 er, .int .i64 nx, .bool bad, .slice (some ⟨pb, po, none⟩) m cp] 51)).alloc (.cells #[] 9)).cell? ⟨pb, po + i, none⟩ = some (.string (pg.getD i ByteArray.empty)) from
        fun i hi => (World.cell?_alloc_lt _ _ _ (by simp; omega)).trans ((World.cell?_alloc_lt _ _ _ hpw).trans (HPX.out i hi)))
      clear own0
      go_wp2_with (first
        | (with_reducible show wpList _ _ _ (⟨some 24, _, _, _, _, _⟩ :: _) _ _
           go_must (refine wpList_append_pages rfl _ _ rfl _ [] rfl OWN0.out BL0.out (by simp) pg pb po m cp HM3.out rfl CL0.out (by simp; omega) ?_)
           intro v1 w1 own1 hb1 gr1
           obtain ⟨g1, c1, rfl, u1, u2, u3, u4, own1'⟩ := own1.someOf HM3.out hm0
           have bb := ((Below.refl wr.heap.size wr).alloc (Nat.le_refl _) (.cells #[.int .i64 er, .int .i64 nx, .bool bad, .slice (some ⟨pb, po, none⟩) m cp] 51)).trans (hb1.mono (by omega))
           have rb := (Rw.new wr 51 #[.int .i64 er, .int .i64 nx, .bool bad, .slice (some ⟨pb, po, none⟩) m cp]).below hb1 (by omega)
           have s0 := R0.out.below bb (by omega)
           have s2 := R2.out.below bb (by omega)
           have PG := Lib.hid (own1'.pagesOf HM3.out u1 u2 u3 u4 (k := wr.heap.size) (by omega) (fun i hi => HM4.out i (by have := HM3.out; omega)))
           obtain ⟨x0, x1, x2, x3⟩ := rb.four
           obtain ⟨fx0, fx1, fx2, fx3, _⟩ := rb.frees
           obtain ⟨y0, y1, y2, y3, y4, y5, y6, y7⟩ := s2.eight
           obtain ⟨fy0, fy1, fy2, fy3, fy4, fy5, fy6, fy7⟩ := s2.frees
           have hsz1 := hb1.size
           simp only [World.size_alloc] at hsz1
           have BB := Lib.hid bb
           have S0 := Lib.hid s0
           have S1 := Lib.hid (R1.out.below bb (by omega))
           have S2 := Lib.hid s2
           have G1 := Lib.hid (GG.out.later (bb.setCell (p := ⟨wr.heap.size, 3, none⟩) (Nat.le_refl _) (.slice (some ⟨g1, 0, none⟩) m c1)))
           clear own1 own1' hb1 gr1 bb rb s0 s2)
        | (with_reducible show wpList _ _ _ (⟨some 30, _, _, _, _, _⟩ :: _) _ _
           go_must (refine wpList_append_block rfl _ _ rfl (.slice Av k cv) (bs.take k) pv rfl G1.out.own (by simp; omega) ⟨er, nx, bad, pg⟩ (.slice (some ⟨g1, 0, none⟩) m c1) rfl w1.heap.size 0 1 (by simp) rfl (by rw [HKL.out]; omega) ?_)
           intro v2 w2 own2 gr2 hat2
           obtain ⟨A2, c2, hv2⟩ := owns_slice own2
           rw [HKL.out] at hv2
           subst hv2
           go_must (have bb2 := (BB.out.setCell (p := ⟨wr.heap.size, 3, none⟩) (Nat.le_refl _) (.slice (some ⟨g1, 0, none⟩) m c1)).alloc (by simp; omega) (.cells #[.int .i64 er, .int .i64 nx, .bool bad, .slice (some ⟨g1, 0, none⟩) m c1] 51))
           have pg2 : PgOwn ((w1.setCell ⟨wr.heap.size, 3, none⟩ (.slice (some ⟨g1, 0, none⟩) m c1)).alloc (.cells #[.int .i64 er, .int .i64 nx, .bool bad, .slice (some ⟨g1, 0, none⟩) m c1] 51)) wr.heap.size ((w1.setCell ⟨wr.heap.size, 3, none⟩ (.slice (some ⟨g1, 0, none⟩) m c1)).alloc (.cells #[.int .i64 er, .int .i64 nx, .bool bad, .slice (some ⟨g1, 0, none⟩) m c1] 51)).heap.size ((w1.setCell ⟨wr.heap.size, 3, none⟩ (.slice (some ⟨g1, 0, none⟩) m c1)).alloc (.cells #[.int .i64 er, .int .i64 nx, .bool bad, .slice (some ⟨g1, 0, none⟩) m c1] 51)).heap.size (.slice (some ⟨g1, 0, none⟩) m c1) pg := by
             have p1 := (PG.out.far 3 (.slice (some ⟨g1, 0, none⟩) m c1)).same (sm ((Below.refl w1.heap.size (w1.setCell ⟨wr.heap.size, 3, none⟩ (.slice (some ⟨g1, 0, none⟩) m c1))).alloc (by simp) (.cells #[.int .i64 er, .int .i64 nx, .bool bad, .slice (some ⟨g1, 0, none⟩) m c1] 51)) (wr.heap.size + 1) (Nat.le_refl _))
             exact (p1.wide (by omega) (by simp)).beside fun a n c e h0 => by have := p1.blk e h0; simp; omega
           go_must (have G2 := Lib.hid (GG.out.push bb2 (x := ⟨er, nx, bad, pg⟩) pg2 own2 gr2 (by simpa using hat2) (by omega)))
           have low : ∀ j, j < w.heap.size + 3 → w2.heap[j]? = ((w1.setCell ⟨wr.heap.size, 3, none⟩ (.slice (some ⟨g1, 0, none⟩) m c1)).alloc (.cells #[.int .i64 er, .int .i64 nx, .bool bad, .slice (some ⟨g1, 0, none⟩) m c1] 51)).heap[j]? := fun j hj =>
             gr2.block j (by simp; omega) fun e => by have := (GG.out.rowLt (k := j) e.symm).1; omega
           go_must (have T0 := Lib.hid (show Rw w2 w.heap.size _ _ from (low _ (by omega)).trans ((S0.out.farA hq0 (k := 3) (.slice (some ⟨g1, 0, none⟩) m c1)).alloc _)))
           go_must (have T1 := Lib.hid (show Rw w2 (w.heap.size + 1) _ _ from (low _ (by omega)).trans ((S1.out.farA hq1 (k := 3) (.slice (some ⟨g1, 0, none⟩) m c1)).alloc _)))
           go_must (have T2 := Lib.hid (show Rw w2 (w.heap.size + 1 + 1) _ _ from (low _ (by omega)).trans ((S2.out.farA hq2 (k := 3) (.slice (some ⟨g1, 0, none⟩) m c1)).alloc _)))
           obtain ⟨n0, n1, n2, n3, n4, n5, n6, n7⟩ := T2.out.eight
           obtain ⟨fn0, fn1, fn2, fn3, fn4, fn5, fn6, fn7⟩ := T2.out.frees
           go_must (have B2 := Lib.hid (((HB.out.trans (bb2.mono (by omega))).grown gr2 (by simp; omega) fun j hj => by have := (GG.out.rowLt hj).1; omega)))
           have hsz2 := gr2.size
           simp only [World.size_alloc, World.size_setCell] at hsz2
           clear own2 gr2 hat2 bb2 pg2 low x0 x1 x2 x3 fx0 fx1 fx2 fx3 y0 y1 y2 y3 y4 y5 y6 y7))
      go_roundw
      case rel =>
        have g3 := G2.out.same (w1 := w2.setCell ⟨w.heap.size + 1 + 1, 3, none⟩ (.slice A2 (k + 1) c2)) (fun j a b => Below.heap_setCell w2 _ _ j (by show j ≠ w.heap.size + 1 + 1; omega)) (by simp)
        rw [← HY.out] at g3
        exact ⟨k + 1, _, _, by omega, by go_num, Lib.hid g3, Lib.hid (T0.out.farA (by omega) _), Lib.hid (T1.out.farA (by omega) _), Lib.hid (T2.out.set_ 3 _), Lib.hid (bset B2.out (by omega) _), by simp; omega⟩
      case measure => simp [intOf]; omega
    · obtain rfl : k = n := by omega
      have hkl : (bs.take k).length = k := by rw [List.length_take, HN.out]; omega
      rw [hkl] at hvo
      subst hvo
      obtain ⟨fo0, fo1, fo2, fo3, fo4, fo5, fo6, fo7⟩ := R1.out.frees
      have GO := Lib.hid GG.out.owns
      clear GG
      go_wp2
      refine bodyPost_ret (results_cell_row Tryz.results100 _ _ _ _ #[.int .i64 d, .int .i64 b, .int .i64 p, .slice Av k cv, .int .i64 fu, .int .i64 ke, .bool off, .int .i64 op] _ _ rfl
        ((((((((R1.out.set_ 0 _).set_ 1 _).set_ 2 _).set_ 3 _).set_ 4 _).set_ 5 _).set_ 6 _).set_ 7 _) Tryz.underlying28 rfl infoFl8) rfl ?_
      refine ⟨_, rfl, ⟨_, rfl, ?_⟩, ?_⟩
      · have := GO.out
        rw [List.take_of_length_le (by have := HN.out; omega)] at this
        refine (this.same ?_).wide (by omega) (by simp)
        repeat refine sset ?_ (.inl (by omega)) _
        exact Same.refl _ _ _
      · repeat refine bset ?_ (by omega) _
        exact HB.out
end Go.Proofs.YtlmdpdidjldkpaaGreatDoor
