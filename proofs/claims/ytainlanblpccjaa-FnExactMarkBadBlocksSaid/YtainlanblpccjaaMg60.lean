/- The proof's own lemmas, part 61: Arg Src Pick SrcK. -/
import Derived.Test.YtainlanblpccjaaProg
import Derived.Test.YtainlanblpccjaaMg0
import Derived.WalkKit
import Derived.ProofKit
import Derived.Lib.Hide
import Derived.Test.YtainlanblpccjaaMg50
import Derived.Deep.QuietTactic
import Derived.BigQuiet
import Derived.Test.YtainlanblpccjaaMg1
import Derived.Test.YtainlanblpccjaaMg4
/- The arguments' bytes as they come in; the laws' helpers b10Long and b10At. -/
namespace Go.Proofs.Ytainlanblpccjaa
open Go.RowKit

/-- The bytes that a source reads lie below block B and are bytes. -/
def CodeIs (w : World) (B : Nat) (v : Value) : Prop := ∃ (A : Option Addr) (len cap : Nat), v = .slice A len cap ∧ len ≤ 1048576 ∧ (0 < len → ∃ b off, A = some ⟨b, off, none⟩ ∧ b < B ∧ ∀ i, i < len → ∃ x : Int, w.cell? ⟨b, off + i, none⟩ = some (.int .u8 x) ∧ 0 ≤ x ∧ x ≤ 255)
theorem CodeIs.keep {w w' : World} {B : Nat} {v : Value} (h : CodeIs w B v) (hk : ∀ b, b < B → w'.heap[b]? = w.heap[b]?) : CodeIs w' B v := by
  obtain ⟨A, len, cap, rfl, hl, hc⟩ := h
  refine ⟨A, len, cap, rfl, hl, fun h0 => ?_⟩
  obtain ⟨b, off, rfl, hb, hx⟩ := hc h0
  refine ⟨b, off, rfl, hb, fun i hi => ?_⟩
  obtain ⟨x, h1, h2⟩ := hx i hi
  exact ⟨x, (World.cell?_of_block (w := w) (hk b hb)).trans h1, h2⟩

/-- What is known of a slice of integers that came in: it is nil, or leads to a row of 'cap' cells with the numbers zs, each of its kind. -/
def IsRow (k : IntKind) (w : World) (a : Option Addr) (len cap : Nat) (zs : List Int) : Prop :=
  (a = none ∧ len = 0 ∧ cap = 0 ∧ zs = []) ∨
  ∃ x, a = some x ∧ len ≤ cap ∧ cap ≤ maxLen ∧ zs.length = cap ∧ (∀ i, i < zs.length → w.cell? (x.add i) = some (.int k (zs.getD i 0))) ∧ ∀ n ∈ zs, (Lit.int k n).wf = true
theorem bounds_u8 {n : Int} (h : (Lit.int .u8 n).wf = true) : 0 ≤ n ∧ n ≤ 255 := by
  simp [Lit.wf] at h
  have h1 : IntKind.u8.min = 0 := by decide
  have h2 : IntKind.u8.max = 255 := by decide
  omega
theorem IsRow.len {k : IntKind} {w : World} {a : Option Addr} {len cap : Nat} {zs : List Int} (h : IsRow k w a len cap zs) : len ≤ 9223372036854775807 := by
  rcases h with ⟨_, h, _⟩ | ⟨x, _, h1, h2, _⟩
  · omega
  · unfold maxLen at h2; omega
theorem IsRow.code {w : World} {a : Option Addr} {len cap : Nat} {zs : List Int} (h : IsRow .u8 w a len cap zs) (hl : len ≤ 1048576) : CodeIs w w.heap.size (.slice a len cap) := by
  refine ⟨a, len, cap, rfl, hl, fun h0 => ?_⟩
  rcases h with ⟨_, h, _⟩ | ⟨x, rfl, h1, h2, h3, hc, hw⟩
  · omega
  · obtain ⟨b, off, spot⟩ := x
    have h00 := hc 0 (by omega)
    have hspot : spot = none := by simpa [Addr.add] using World.cell?_spot h00
    subst hspot
    refine ⟨b, off, rfl, ?_, fun i hi => ?_⟩
    · exact World.block_lt_of_cell? w ⟨b, off, none⟩ (by simpa [Addr.add] using h00)
    · have hi2 : i < zs.length := by omega
      have := hc i hi2
      have e : (⟨b, off, none⟩ : Addr).add i = ⟨b, off + i, none⟩ := by unfold Addr.add; split <;> simp_all
      rw [e] at this
      refine ⟨_, this, ?_⟩
      rw [List.getD_eq_getElem?_getD, List.getElem?_eq_getElem hi2]
      exact bounds_u8 (hw _ (List.getElem_mem hi2))

end Go.Proofs.Ytainlanblpccjaa
/- The model's source of choices: reading a byte, picking a number, making a text. Only that each returns, within its bounds, is said. -/
namespace Go.Proofs.Ytainlanblpccjaa
open Go.RowKit

/-- Block g holds a source: its bytes' slice, how many were read, its seed. -/
def SrcAt (w : World) (g : Nat) (v : Value) (at_ : Nat) (seed : Int) : Prop := w.heap[g]? = some (.cells #[v, .int .i64 at_, .int .u64 seed] 188 (0, 0))
def NextPost (g : Nat) (v : Value) (at_ : Nat) (w : World) (e : Ending) (w' : World) : Prop :=
  ∃ (x : Int) (seed : Int), e = .returned (.int .i64 x) ∧ 0 ≤ x ∧ x ≤ 255 ∧ SrcAt w' g v (at_ + 1) seed ∧ w.grownBy w' (some g)

section
variable {w w' : World} {g at_ : Nat} {v : Value} {seed : Int}
theorem SrcAt.cell0 (h : SrcAt w g v at_ seed) : w.cell? ⟨g, 0, none⟩ = some v := by rw [cell_of_row w g 0 _ _ (0, 0) h]; rfl
theorem SrcAt.cell1 (h : SrcAt w g v at_ seed) : w.cell? ⟨g, 1, none⟩ = some (.int .i64 at_) := by rw [cell_of_row w g 1 _ _ (0, 0) h]; rfl
theorem SrcAt.cell2 (h : SrcAt w g v at_ seed) : w.cell? ⟨g, 2, none⟩ = some (.int .u64 seed) := by rw [cell_of_row w g 2 _ _ (0, 0) h]; rfl
theorem SrcAt.free (h : SrcAt w g v at_ seed) (j : Nat) : w.frozen? ⟨g, j, none⟩ = false := frozen_of_row w g j _ _ h
theorem SrcAt.step (h : SrcAt w g v at_ seed) (x : Int) (a' : Nat) : SrcAt ((w.setCell ⟨g, 1, none⟩ (.int .i64 (a' : Int))).setCell ⟨g, 2, none⟩ (.int .u64 x)) g v a' x := by
  unfold SrcAt at h ⊢
  have h1 := heap_setCell_same w g 1 _ _ (.int .i64 (a' : Int)) h
  have h2 := heap_setCell_same _ g 2 _ _ (.int .u64 x) h1
  rw [h2]; rfl
theorem grown_two (w : World) (g : Nat) (x y : Value) (i j : Nat) : w.grownBy ((w.setCell ⟨g, i, none⟩ x).setCell ⟨g, j, none⟩ y) (some g) :=
  ⟨rfl, rfl, rfl, by simp, fun k _ hk => by
    rw [heap_setCell_other _ _ k _ (fun e => hk (by simp [e])), heap_setCell_other _ _ k _ (fun e => hk (by simp [e]))]⟩
theorem grown_twoN (w : World) (g p q : Nat) (x y : Value) (i j : Nat) : w.grownBy ((((w.drewN p).setCell ⟨g, i, none⟩ x).setCell ⟨g, j, none⟩ y).drewN q) (some g) :=
  ⟨rfl, rfl, rfl, (grown_two w g x y i j).size, (grown_two w g x y i j).block⟩
theorem grown_drew {row : Option Nat} (h : w.grownBy w' row) : w.grownBy w'.drew row := ⟨h.os, h.tape, h.output, h.size, h.block⟩
theorem grown_trans {w'' : World} {row : Option Nat} (h : w.grownBy w' row) (h' : w'.grownBy w'' row) : w.grownBy w'' row :=
  ⟨h'.os.trans h.os, h'.tape.trans h.tape, h'.output.trans h.output, Nat.le_trans h.size h'.size, fun k hk hr => (h'.block k (Nat.lt_of_lt_of_le hk h.size) hr).trans (h.block k hk hr)⟩
end
theorem and255_u64 (x : Int) : 0 ≤ bits .and .u64 x 255 ∧ bits .and .u64 x 255 ≤ 255 := by
  have h : (BitVec.ofInt 64 x &&& BitVec.ofInt 64 255).toNat ≤ 255 := by
    rw [BitVec.toNat_and]
    exact Nat.le_trans Nat.and_le_right (by decide)
  have e : bits .and .u64 x 255 = IntKind.u64.wrap ((BitVec.ofInt 64 x &&& BitVec.ofInt 64 255).toNat : Int) := rfl
  rw [e]
  have : IntKind.u64.wrap ((BitVec.ofInt 64 x &&& BitVec.ofInt 64 255).toNat : Int) = ((BitVec.ofInt 64 x &&& BitVec.ofInt 64 255).toNat : Int) % 18446744073709551616 := rfl
  omega

theorem and255_wrap (x : Int) : 0 ≤ wrap64 (bits .and .u64 x 255) ∧ wrap64 (bits .and .u64 x 255) ≤ 255 := by
  have h := and255_u64 x
  rw [IntWalk.wrap64_in _ (by omega)]; exact h

set_option maxRecDepth 100000 in
theorem next_in (g b off len cap at_ : Nat) (seed x : Int) (w : World) (hS : SrcAt w g (.slice (some ⟨b, off, none⟩) len cap) at_ seed) (hlt : at_ < len) (hm : len ≤ 1048576)
    (hc : w.cell? ⟨b, off + at_, none⟩ = some (.int .u8 x)) (hx0 : 0 ≤ x) (hx1 : x ≤ 255) :
    Calls Try.prog 215 #[.pointer (some ⟨g, 0, none⟩)] w (NextPost g (.slice (some ⟨b, off, none⟩) len cap) at_ w) := by
  have h0 := hS.cell0
  have h1 := hS.cell1
  have h2 := hS.cell2
  have f1 := hS.free 1
  have f2 := hS.free 2
  have hI : (at_ : Int) < (len : Int) := by omega
  go_enter Try.func215, Try.ntmps215
  go_wp2
  go_quiet (fail)
  go_wp2
  go_quiet (fail)
  go_wp2
  go_quiet (fail)
  go_wp2
  go_ret
  exact ⟨x, _, rfl, hx0, hx1, hS.step _ (at_ + 1), grown_twoN w g _ _ _ _ 1 2⟩

set_option maxRecDepth 100000 in
theorem next_out (g len cap at_ : Nat) (A : Option Addr) (seed : Int) (w : World) (hS : SrcAt w g (.slice A len cap) at_ seed) (hlt : len ≤ at_) (hm : at_ ≤ 1000000000000) :
    Calls Try.prog 215 #[.pointer (some ⟨g, 0, none⟩)] w (NextPost g (.slice A len cap) at_ w) := by
  have h0 := hS.cell0
  have h1 := hS.cell1
  have h2 := hS.cell2
  have f1 := hS.free 1
  have f2 := hS.free 2
  have hI : ¬ (at_ : Int) < (len : Int) := by omega
  have hI2 : ¬ (at_ : Int) + 1 ≤ (len : Int) := by omega
  go_enter Try.func215, Try.ntmps215
  go_wp2
  go_quiet (fail)
  go_wp2
  go_quiet (fail)
  go_wp2
  go_ret
  exact ⟨_, _, rfl, (and255_wrap _).1, (and255_wrap _).2, hS.step _ (at_ + 1), grown_twoN w g _ _ _ _ 1 2⟩

/-- A source at block g, its bytes below block B. -/
def Src (w : World) (B g : Nat) (n : Nat) : Prop := ∃ v at_ seed, SrcAt w g v at_ seed ∧ at_ ≤ n ∧ CodeIs w B v ∧ B ≤ g
theorem Src.lt {w : World} {B g n : Nat} (h : Src w B g n) : g < w.heap.size := by
  obtain ⟨v, a, s, h1, _⟩ := h
  rcases Nat.lt_or_ge g w.heap.size with hlt | hge
  · exact hlt
  · unfold SrcAt at h1; rw [Array.getElem?_eq_none hge] at h1; cases h1
theorem Src.base {w : World} {B g n : Nat} (h : Src w B g n) : B ≤ g := h.elim fun _ h => h.elim fun _ h => h.elim fun _ h => h.2.2.2
theorem Src.keep {w w' : World} {B g n : Nat} (h : Src w B g n) (hb : Below w.heap.size w w') : Src w' B g n := by
  have hlt := h.lt
  obtain ⟨v, a, s, h1, h2, h3, h4⟩ := h
  exact ⟨v, a, s, (hb.block g hlt).trans h1, h2, h3.keep fun b hb' => hb.block b (by omega), h4⟩
/-- What every choice does to the world: block g alone may change. -/
def Chose (P : Value → Prop) (B g n : Nat) (w : World) (e : Ending) (w' : World) : Prop := ∃ v, e = .returned v ∧ P v ∧ Src w' B g n ∧ w.grownBy w' (some g)
def IntIn (lo hi : Int) (v : Value) : Prop := ∃ x : Int, v = .int .i64 x ∧ lo ≤ x ∧ x ≤ hi

theorem next_any (B g n : Nat) (w : World) (h : Src w B g n) (hn : n ≤ 1000000000000) :
    Calls Try.prog 215 #[.pointer (some ⟨g, 0, none⟩)] w (Chose (IntIn 0 255) B g (n + 1) w) := by
  have hlt := h.lt
  obtain ⟨v, a, s, h1, h2, h3, h4⟩ := h
  have fin : ∀ e w', NextPost g v a w e w' → Chose (IntIn 0 255) B g (n + 1) w e w' := by
    rintro e w' ⟨x, s', rfl, hx0, hx1, hS, hg⟩
    exact ⟨_, rfl, ⟨x, rfl, hx0, hx1⟩, ⟨v, a + 1, s', hS, by omega, h3.keep fun b hb => hg.block b (by omega) (fun e => by injection e; omega), h4⟩, hg⟩
  obtain ⟨A, len, cap, rfl, hl, hc⟩ := h3
  by_cases hlt2 : a < len
  · obtain ⟨b, off, rfl, hb, hx⟩ := hc (by omega)
    obtain ⟨x, hcell, hx0, hx1⟩ := hx a hlt2
    exact (next_in g b off len cap a s x w h1 hlt2 hl hcell hx0 hx1).mono fin
  · exact (next_out g len cap a A s w h1 (by omega) (by omega)).mono fin
end Go.Proofs.Ytainlanblpccjaa
/- The model's source of choices: picking among numbers, making a text. Only that each returns, within its bounds, is said. -/
namespace Go.Proofs.Ytainlanblpccjaa
open Go.RowKit

theorem Chose.mono {P Q : Value → Prop} {B g n n' : Nat} {w w' : World} {e : Ending} (hPQ : ∀ v, P v → Q v) (hn : n ≤ n') : Chose P B g n w e w' → Chose Q B g n' w e w' := by
  rintro ⟨v, he, hP, ⟨u, a, s, h1, h2, h3⟩, hg⟩
  exact ⟨v, he, hPQ v hP, ⟨u, a, s, h1, by omega, h3⟩, hg⟩

theorem l00From_any (w : World) (v : Value) (h : CodeIs w w.heap.size v) :
    Calls Try.prog 94 #[v] w fun e w' => e = .returned (.pointer (some ⟨w.heap.size, 0, none⟩)) ∧ Src w' w.heap.size w.heap.size 0 ∧ Below w.heap.size w w' := by
  have h' := h.keep (w' := w.alloc (.cells #[v, .int .i64 0, .int .u64 0] 188)) (fun b hb => Below.heap_alloc w _ b hb)
  obtain ⟨A, len, cap, rfl, _⟩ := h
  go_enter Try.func94, Try.ntmps94
  go_wp2
  go_ret
  exact ⟨rfl, ⟨_, 0, 0, heap_alloc_new w _, Nat.le_refl _, h', Nat.le_refl _⟩, (Below.refl _ _).alloc (Nat.le_refl _) _⟩

/-- The upper bound of a choice below n. -/
def pickMax (n : Int) : Int := if n ≤ 1 then 0 else n - 1
theorem pick_any (B g n : Nat) (m : Int) (w : World) (h : Src w B g n) (hn : n ≤ 900000000000) (hm : m ≤ 1000000000000) (hm0 : -1000000000000 ≤ m) :
    Calls Try.prog 167 #[.pointer (some ⟨g, 0, none⟩), .int .i64 m] w (Chose (IntIn 0 (pickMax m)) B g (n + 2) w) := by
  by_cases h1 : m ≤ 1
  · have HM : Hid (pickMax m = 0) := by show _ = _; rw [pickMax, if_pos h1]
    go_enter Try.func167, Try.ntmps167
    go_wp2
    go_ret
    rw [HM.out]
    obtain ⟨u, a, s, g1, g2, g3⟩ := h
    exact ⟨_, rfl, ⟨0, rfl, by omega, by omega⟩, ⟨u, a, s, g1, by omega, g3⟩, ⟨rfl, rfl, rfl, Nat.le_refl _, fun _ _ _ => rfl⟩⟩
  · have HM : Hid (pickMax m = m - 1) := by show _ = _; rw [pickMax, if_neg h1]
    have HF : ∀ x : Int, 0 ≤ x → IntIn 0 (pickMax m) (.int .i64 (x % m)) := fun x hx => ⟨_, rfl, Int.emod_nonneg x (by omega), by rw [HM.out]; have := Int.emod_lt_of_pos x (show 0 < m by omega); omega⟩
    by_cases h2 : 200 < m
    · go_enter Try.func167, Try.ntmps167
      go_wp2_with (first
        | (go_at_call 215; refine (next_any B g n _ h (by omega)).mono ?_; rintro e w1 ⟨v1, rfl, ⟨x, rfl, hx0, hx1⟩, hS1, hg1⟩; clear h)
        | (go_at_call 215; refine (next_any B g (n + 1) _ hS1 (by omega)).mono ?_; rintro e w2 ⟨v2, rfl, ⟨y, rfl, hy0, hy1⟩, hS2, hg2⟩; clear hS1))
      go_ret
      exact ⟨_, rfl, HF _ (by omega), hS2, grown_trans hg1 hg2⟩
    · go_enter Try.func167, Try.ntmps167
      go_wp2_with (go_at_call 215; refine (next_any B g n _ h (by omega)).mono ?_; rintro e w1 ⟨v1, rfl, ⟨x, rfl, hx0, hx1⟩, hS1, hg1⟩; clear h)
      go_ret
      obtain ⟨u, a, s, g1, g2, g3⟩ := hS1
      exact ⟨_, rfl, HF _ hx0, ⟨u, a, s, g1, by omega, g3⟩, hg1⟩

def BoolAny (v : Value) : Prop := ∃ b : Bool, v = .bool b
theorem one_any (B g n : Nat) (m : Int) (w : World) (h : Src w B g n) (hn : n ≤ 900000000000) (hm : m ≤ 1000000000000) (hm0 : -1000000000000 ≤ m) :
    Calls Try.prog 96 #[.pointer (some ⟨g, 0, none⟩), .int .i64 m] w (Chose BoolAny B g (n + 2) w) := by
  go_enter Try.func96, Try.ntmps96
  go_wp2_with (go_at_call 167; refine (pick_any B g n m _ h hn hm hm0).mono ?_; rintro e w1 ⟨v1, rfl, ⟨x, rfl, hx0, hx1⟩, hS1, hg1⟩)
  go_ret
  exact ⟨_, rfl, ⟨_, rfl⟩, hS1, hg1⟩

theorem among_any (Q : Int → Prop) (B g n b len cap : Nat) (w : World) (h : Src w B g n) (hn : n ≤ 900000000000) (hlen : 0 < len) (hl2 : len ≤ 1000000) (hbg : b ≠ g)
    (hc : ∀ i, i < len → ∃ x : Int, w.cell? ⟨b, i, none⟩ = some (.int .i64 x) ∧ Q x) :
    Calls Try.prog 168 #[.pointer (some ⟨g, 0, none⟩), .slice (some ⟨b, 0, none⟩) len cap] w (Chose (fun v => ∃ x : Int, v = .int .i64 x ∧ Q x) B g (n + 2) w) := by
  have HC := Lib.hid hc
  have HP : Hid (pickMax (len : Int) ≤ (len : Int) - 1) := by show _ ≤ _; unfold pickMax; split <;> omega
  clear hc
  go_enter Try.func168, Try.ntmps168
  go_wp2_with (
    go_at_call 167; refine (pick_any B g n (len : Int) _ h hn (by omega) (by omega)).mono ?_; rintro e w1 ⟨v1, rfl, ⟨x, rfl, hx0, hx1⟩, hS1, hg1⟩
    obtain ⟨i, rfl⟩ := Int.eq_ofNat_of_zero_le hx0
    have hil : (i : Int) < (len : Int) := by have := HP.out; omega
    obtain ⟨y, hy, hQ⟩ := HC.out i (by omega)
    have hcell := hg1.cell hy (by simp; omega)
    have HQ := Lib.hid hQ
    clear hy hQ h)
  go_ret
  exact ⟨_, rfl, ⟨y, rfl, HQ.out⟩, hS1, hg1⟩

theorem Src.keepB {w w' : World} {B B' g n : Nat} (h : Src w B g n) (hb : Below B' w w') (hg : g < B') : Src w' B g n := by
  obtain ⟨v, a, s, h1, h2, h3, h4⟩ := h
  exact ⟨v, a, s, (hb.block g hg).trans h1, h2, h3.keep fun b hb' => hb.block b (by omega), h4⟩
theorem grown_below {w wr w' : World} {row : Option Nat} (h : w.grownBy wr row) (hb : Below w.heap.size wr w') : w.grownBy w' row :=
  ⟨hb.os.trans h.os, hb.tape.trans h.tape, hb.output.trans h.output, Nat.le_trans h.size hb.size, fun k hk hr => (hb.block k hk).trans (h.block k hk hr)⟩
theorem BytesOwn.grown {w w' : World} {B g : Nat} {v : Value} {l : List Int} (h : BytesOwn w B v l) (hg : w.grownBy w' (some g)) (hgB : g < B) : BytesOwn w' B v l := by
  refine World.ownsRow.kept h hg ?_
  cases e : v.ownBlock with
  | none => exact .inl rfl
  | some k => exact .inr (fun e2 => by injection e2 with e2; have := (World.ownsRow.lt h k e).1; omega)
theorem Src.more {w : World} {B g n n' : Nat} (h : Src w B g n) (hn : n ≤ n') : Src w B g n' := by
  obtain ⟨u, a, s, g1, g2, g3⟩ := h
  exact ⟨u, a, s, g1, by omega, g3⟩

def StrLe (m : Int) (v : Value) : Prop := ∃ s : ByteArray, v = .string s ∧ (s.size : Int) ≤ m
end Go.Proofs.Ytainlanblpccjaa
/- The source of choices and rows of memory, kept through calls and stores. -/
namespace Go.Proofs.Ytainlanblpccjaa
open Go.RowKit
set_option linter.unusedVariables false
theorem grown_out {w w' : World} {g g' k : Nat} (h : w.grownBy w' (some g)) (hg : w.heap.size ≤ g') (u : Value) : w.grownBy (w'.setCell ⟨g', k, none⟩ u) (some g) :=
  ⟨h.os, h.tape, h.output, by simpa using h.size, fun j hj hr => (Below.heap_setCell w' ⟨g', k, none⟩ u j (by show j ≠ g'; omega)).trans (h.block j hj hr)⟩
theorem Src.keepS {w w' : World} {B g n : Nat} (h : Src w B g n) (hs : Same 0 (g + 1) w w') (hz : w.heap.size ≤ w'.heap.size) : Src w' B g n := by
  have hlt := h.lt
  obtain ⟨v, a, s, h1, h2, h3, h4⟩ := h
  exact ⟨v, a, s, (hs g (Nat.zero_le _) (Nat.lt_succ_self _)).trans h1, h2, h3.keep fun b hb' => hs b (Nat.zero_le _) (by omega), h4⟩
theorem Rw.grown {w w' : World} {g g' : Nat} {t : TypeId} {cs : Array Value} (h : Rw w g' t cs) (hg : w.grownBy w' (some g)) (hne : g' ≠ g) : Rw w' g' t cs :=
  (hg.block g' h.lt (fun e => hne (by injection e))).trans h
end Go.Proofs.Ytainlanblpccjaa
