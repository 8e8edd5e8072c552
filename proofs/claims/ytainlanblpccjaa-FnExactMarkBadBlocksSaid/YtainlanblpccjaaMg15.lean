/- The proof's own lemmas, part 16: CeM CxI CxS CxA CxE CxF Bits. -/
import Derived.Test.YtainlanblpccjaaProg
import Derived.Test.YtainlanblpccjaaMg14
import Derived.Test.YtainlanblpccjaaMg6
import Derived.Test.YtainlanblpccjaaMg8
import Derived.Test.YtainlanblpccjaaMg9
import Derived.RegionTactic
import Derived.Deep.RegionHeld3
import Derived.Test.YtainlanblpccjaaMg13
import Derived.Test.YtainlanblpccjaaMg3
import Derived.Deep.RegionLaw
import Derived.StillTailTactics
import Derived.Test.YtainlanblpccjaaMg11
import Derived.Test.YtainlanblpccjaaMg0
import Derived.WalkKit
/- Cells in memory; what the laws' helpers for it do. -/
namespace Go.Proofs.Ytainlanblpccjaa
open Go.RowKit
set_option linter.unusedVariables false
set_option linter.unusedSimpArgs false
def cec (M : Ce) (u0 : Value) : Array Value := #[u0]
def CeIn (w : World) (hi : Nat) (v : Value) (M : Ce) : Prop := ∃ a0, v = .agg (cec M a0) ∧ NI w hi a0 M.c
def CeOwn (w : World) (lo hi : Nat) (v : Value) (M : Ce) : Prop := ∃ a0, v = .agg (cec M a0) ∧ IO w lo hi a0 M.c
section
variable {w w' : World} {lo hi lo' hi' B : Nat} {v : Value} {M : Ce}
theorem CeIn.below (h : CeIn w hi v M) (hb : Below B w w') (hB : hi ≤ B) : CeIn w' hi v M := by
  obtain ⟨a0, e, h0⟩ := h; exact ⟨a0, e, h0.below hb hB⟩
theorem CeIn.same (h : CeIn w hi v M) (hs : Same 0 hi w w') : CeIn w' hi v M := by
  obtain ⟨a0, e, h0⟩ := h; exact ⟨a0, e, h0.same hs⟩
theorem CeIn.wide (h : CeIn w hi v M) (hh : hi ≤ hi') : CeIn w hi' v M := by
  obtain ⟨a0, e, h0⟩ := h; exact ⟨a0, e, h0.wide hh⟩
theorem CeOwn.reads (h : CeOwn w lo hi v M) : CeIn w hi v M := by
  obtain ⟨a0, e, h0⟩ := h; exact ⟨a0, e, h0.reads⟩
theorem CeOwn.same (h : CeOwn w lo hi v M) (hs : Same lo hi w w') : CeOwn w' lo hi v M := by
  obtain ⟨a0, e, h0⟩ := h; exact ⟨a0, e, h0.same hs⟩
theorem CeOwn.wide (h : CeOwn w lo hi v M) (hl : lo' ≤ lo) (hh : hi ≤ hi') : CeOwn w lo' hi' v M := by
  obtain ⟨a0, e, h0⟩ := h; exact ⟨a0, e, h0.wide hl hh⟩
theorem CeOwn.zero (w : World) (lo hi : Nat) : CeOwn w lo hi (.agg #[.slice none 0 0]) Ce.zero := ⟨_, rfl, IO.nil _ _ _⟩
theorem CeIn.agg_ (h : CeIn w hi v M) : ∃ (A0 : Option Addr) (n0 c0 : Nat), v = .agg #[.slice A0 n0 c0] := by
  obtain ⟨a0, e, h0⟩ := h
  obtain ⟨A0, n0, c0, rfl⟩ := h0.slice
  exact ⟨_, _, _, e⟩
theorem CeOwn.agg_ (h : CeOwn w lo hi v M) : ∃ (A0 : Option Addr) (n0 c0 : Nat), v = .agg #[.slice A0 n0 c0] := h.reads.agg_
end
end Go.Proofs.Ytainlanblpccjaa
/- Which cells are valid, in the program: the contracts. -/
namespace Go.Proofs.Ytainlanblpccjaa
open Go.RowKit
set_option linter.unusedVariables false
set_option linter.unusedSimpArgs false
end Go.Proofs.Ytainlanblpccjaa
/- Which cells are valid, in the model: the contracts. -/
namespace Go.Proofs.Ytainlanblpccjaa
open Go.RowKit
set_option linter.unusedVariables false
set_option linter.unusedSimpArgs false
end Go.Proofs.Ytainlanblpccjaa
/- One number, or several, appended to a list of the call's own inside a region that draws its order. -/
namespace Go.Proofs.Ytainlanblpccjaa
open Go.RowKit
set_option linter.unusedVariables false
set_option linter.unusedSimpArgs false

theorem step_append_intL {Q : Exit → Act → World → Prop} {K : Act → World → Prop} {E : Prop} {ops : Array Oper} {o : Oper} {a : Act} {w0 wr : World} {B : Nat} (hgd : o.guard = none) (s x : Operand)
    (ho : o.op = .call { callee := .builtin .append, args := #[s, x], argTypes := #[22, 22] })
    (v : Value) (l : List Int) (hs : a.eval s = v) (hown : IntsOwn wr B v l) (hb : Below B w0 wr) (hB : B ≤ wr.heap.size)
    (pb po m c : Nat) (L : List Int) (hx : a.eval x = .slice (some ⟨pb, po, none⟩) m c) (hL : L.length = m) (hc : ∀ i, i < m → wr.cell? ⟨pb, po + i, none⟩ = some (.int .i64 (L.getD i 0))) (hl : l.length + m ≤ 2097152)
    (h : ∀ v' w', IntsOwn w' B v' (l ++ L) → Below B w0 w' → wr.grownBy w' v.ownBlock → K (a.put o.dst v') w') :
    if Region.wanted o (yielded ops a.tmps) = true then Oper.wp Try.prog o a wr K Q else E := by
  have hw : Region.wanted o (yielded ops a.tmps) = true := by simp [Region.wanted, hgd]
  rw [if_pos hw]
  obtain ⟨i0, hi, hz0, hz1, hz2⟩ := info_parts info64
  refine wp_append_own wr s x _ ho B 2 i0 (.int .i64 0) 1 8 Try.underlying22 hi hz0 hz1 hz2 rfl (by decide) v l.length (l.map (Value.int .i64)) hs hown ⟨pb, po, none⟩ m c (L.map (Value.int .i64)) hx (by simp [hL]) ?_ ?_ (by unfold maxLen; omega) (by omega) hB ?_
  · intro j u hj
    have hlt : j < L.length := by
      rcases Nat.lt_or_ge j L.length with h | h
      · exact h
      · rw [List.getElem?_eq_none (by simpa using h)] at hj; cases hj
    rw [Addr.add_lit, hc j (by omega)]
    simp [hlt] at hj ⊢
    exact hj
  · intro u hu; simp at hu; obtain ⟨_, _, rfl⟩ := hu; rfl
  · intro v' w' h1 h2 _
    refine h v' w' ?_ (hb.grown h2 hB fun k hk => (World.ownsRow.lt hown k hk).1) h2
    unfold IntsOwn; simpa [hL] using h1
/-- A block of one number. -/
theorem oneCell (w : World) (x : Int) (t : TypeId) (i : Nat) (h : i < 1) : (w.alloc (.cells #[.int .i64 x] t)).cell? ⟨w.heap.size, 0 + i, none⟩ = some (.int .i64 ([x].getD i 0)) := by
  obtain rfl : i = 0 := by omega
  exact (Rw.new w t #[.int .i64 x]).cell 0
end Go.Proofs.Ytainlanblpccjaa
/- EraseCells, in the model: the contract. -/
namespace Go.Proofs.Ytainlanblpccjaa
open Go.RowKit
set_option linter.unusedVariables false
set_option linter.unusedSimpArgs false

def CePost1 (G : Ce) (w : World) (e : Ending) (w' : World) : Prop := ∃ u, e = .returned u ∧ CeOwn w' w.heap.size w'.heap.size u G ∧ Below w.heap.size w w'
theorem tdiv4 {y : Int} (h : 0 ≤ y) : y.tdiv 4 = y / 4 := Int.tdiv_eq_ediv_of_nonneg h
theorem take_map_succ {α β : Type} (f : α → β) (l : List α) (k : Nat) (h : k < l.length) (d : α) : (l.map f).take (k + 1) = (l.map f).take k ++ [f (l.getD k d)] := by
  rw [List.take_succ_eq_append_getElem (by simpa using h)]
  simp [List.getD_eq_getElem?_getD, h]
end Go.Proofs.Ytainlanblpccjaa
/- EraseCells, in the program: the contract. -/
namespace Go.Proofs.Ytainlanblpccjaa
open Go.RowKit
set_option linter.unusedVariables false
set_option linter.unusedSimpArgs false

/-- A list turned by its indices and numbers. -/
def mapI (φ : Nat → Int → Int) (cs : List Int) : List Int := (List.range cs.length).map fun i => φ i (cs.getD i 0)
theorem mapI_length (φ : Nat → Int → Int) (cs : List Int) : (mapI φ cs).length = cs.length := by simp [mapI]
theorem mapI_at (φ : Nat → Int → Int) (cs : List Int) (k : Nat) (h : k < cs.length) : (mapI φ cs).getD k 0 = φ k (cs.getD k 0) := by simp [mapI, List.getD_eq_getElem?_getD, h]
theorem mapI_map (f : Int → Int) (cs : List Int) : mapI (fun _ y => f y) cs = cs.map f := by
  apply List.ext_getElem (by simp [mapI])
  intro i h1 h2
  simp only [mapI, List.length_map, List.length_range] at h1
  simp [mapI, List.getD_eq_getElem?_getD, h1]
end Go.Proofs.Ytainlanblpccjaa
/- Plain facts on bits of integers: Go's and, or, exclusive or on int64 and uint16, as operations on natural numbers; one step of the register on natural numbers. -/
namespace Go.Proofs.Ytainlanblpccjaa
open Go.RowKit

theorem wrap_i64_nat (a : Nat) (h : a < 2 ^ 63) : IntKind.i64.wrap (a : Int) = a := IntWalk.i64_in _ (by omega)
theorem ofInt_i64 (a : Nat) (ha : a < 2 ^ 63) : (BitVec.ofInt 64 (a : Int)).toNat = a := by
  rw [BitVec.ofInt_natCast, BitVec.toNat_ofNat]; exact Nat.mod_eq_of_lt (by omega)
theorem i64_and_nat (a b : Nat) (ha : a < 2 ^ 63) (hb : b < 2 ^ 63) : bits .and .i64 (a : Int) (b : Int) = ((a &&& b : Nat) : Int) := by
  have hx : a &&& b < 2 ^ 63 := Nat.and_lt_two_pow _ (by omega)
  show IntKind.i64.wrap ((BitVec.ofInt 64 (a : Int) &&& BitVec.ofInt 64 (b : Int)).toNat : Int) = _
  rw [BitVec.toNat_and, ofInt_i64 a ha, ofInt_i64 b hb, wrap_i64_nat _ hx]
theorem i64_or_nat (a b : Nat) (ha : a < 2 ^ 63) (hb : b < 2 ^ 63) : bits .or .i64 (a : Int) (b : Int) = ((a ||| b : Nat) : Int) := by
  have hx : a ||| b < 2 ^ 63 := Nat.or_lt_two_pow (by omega) (by omega)
  show IntKind.i64.wrap ((BitVec.ofInt 64 (a : Int) ||| BitVec.ofInt 64 (b : Int)).toNat : Int) = _
  rw [BitVec.toNat_or, ofInt_i64 a ha, ofInt_i64 b hb, wrap_i64_nat _ hx]
theorem i64_xor_nat (a b : Nat) (ha : a < 2 ^ 63) (hb : b < 2 ^ 63) : bits .xor .i64 (a : Int) (b : Int) = ((a ^^^ b : Nat) : Int) := by
  have hx : a ^^^ b < 2 ^ 63 := Nat.xor_lt_two_pow (by omega) (by omega)
  show IntKind.i64.wrap ((BitVec.ofInt 64 (a : Int) ^^^ BitVec.ofInt 64 (b : Int)).toNat : Int) = _
  rw [BitVec.toNat_xor, ofInt_i64 a ha, ofInt_i64 b hb, wrap_i64_nat _ hx]

theorem and1_i64 (a : Nat) (ha : a < 2 ^ 63) : bits .and .i64 (a : Int) 1 = ((a % 2 : Nat) : Int) := by
  have := i64_and_nat a 1 ha (by omega); rw [Nat.and_one_is_mod] at this; exact this
theorem and1_u16 (a : Nat) (ha : a < 65536) : bits .and .u16 (a : Int) 1 = ((a % 2 : Nat) : Int) := by
  have := u16_and_nat a 1 ha (by omega); rw [Nat.and_one_is_mod] at this; exact this

/-- One step of the register. -/
def stepN (s : Nat) : Nat := if s % 2 = 1 then s / 2 ^^^ 46080 else s / 2
theorem stepN_lt (s : Nat) (h : s < 65536) : stepN s < 65536 := by
  unfold stepN; split
  · exact Nat.xor_lt_two_pow (n := 16) (by omega) (by omega)
  · omega
theorem stepN_odd {s : Nat} (h : s % 2 = 1) : stepN s = s / 2 ^^^ 46080 := by rw [stepN, if_pos h]
theorem stepN_even {s : Nat} (h : ¬ s % 2 = 1) : stepN s = s / 2 := by rw [stepN, if_neg h]
theorem xor_step_u16 (s : Nat) (h : s < 65536) : bits .xor .u16 ((s : Int) / 2) 46080 = ((s / 2 ^^^ 46080 : Nat) : Int) := by
  have := u16_xor_nat (s / 2) 46080 (by omega) (by omega); rw [← this]; simp
theorem xor_step_i64 (s : Nat) (h : s < 65536) : bits .xor .i64 ((s : Int) / 2) 46080 = ((s / 2 ^^^ 46080 : Nat) : Int) := by
  have := i64_xor_nat (s / 2) 46080 (by omega) (by omega); rw [← this]; simp

/-- The state before. -/
def backN (s : Nat) : Nat := if 32768 ≤ s then (s ^^^ 46080) * 2 ||| 1 else s * 2
theorem backN_hi {s : Nat} (h : 32768 ≤ s) : backN s = (s ^^^ 46080) * 2 ||| 1 := by rw [backN, if_pos h]
theorem backN_lo {s : Nat} (h : ¬ 32768 ≤ s) : backN s = s * 2 := by rw [backN, if_neg h]
theorem xor_back (s : Nat) (h : s < 65536) : s ^^^ 46080 < 65536 := Nat.xor_lt_two_pow (n := 16) (by omega) (by omega)
theorem back_val (s : Nat) (h : s < 65536) : bits .or .i64 (wrap64 (bits .xor .i64 (s : Int) 46080 * 2)) 1 = (((s ^^^ 46080) * 2 ||| 1 : Nat) : Int) := by
  have hx := i64_xor_nat s 46080 (by omega) (by omega)
  have hl := xor_back s h
  have e : bits .xor .i64 (s : Int) 46080 = ((s ^^^ 46080 : Nat) : Int) := hx
  rw [e, IntWalk.wrap64_in _ (by omega)]
  have := i64_or_nat ((s ^^^ 46080) * 2) 1 (by omega) (by omega)
  rw [← this]; simp
theorem and_top (s : Nat) (h : s < 65536) : bits .and .i64 (s : Int) 32768 = ((s / 32768 * 32768 : Nat) : Int) := by
  have := i64_and_nat s 32768 (by omega) (by omega)
  have e : s &&& 32768 = s / 32768 * 32768 := by
    apply Nat.eq_of_testBit_eq
    intro i
    rw [Nat.testBit_and, show (32768 : Nat) = 2 ^ 15 from rfl, Nat.testBit_two_pow]
    by_cases hc : 32768 ≤ s
    · rw [show s / 2 ^ 15 * 2 ^ 15 = 2 ^ 15 by omega, Nat.testBit_two_pow]
      by_cases hi : 15 = i
      · subst hi
        have : s.testBit 15 = true := by rw [Nat.testBit_eq_decide_div_mod_eq]; simp; omega
        simp [this]
      · simp [hi]
    · rw [show s / 2 ^ 15 * 2 ^ 15 = 0 by omega, Nat.zero_testBit]
      by_cases hi : 15 = i
      · subst hi
        rw [Nat.testBit_lt_two_pow (by omega)]; rfl
      · simp [hi]
  rw [← e, ← this]; rfl
end Go.Proofs.Ytainlanblpccjaa
