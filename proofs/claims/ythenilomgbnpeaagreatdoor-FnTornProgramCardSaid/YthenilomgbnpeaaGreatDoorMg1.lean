/- The proof's own lemmas, part 2: Src Pick Draw2 Bits. -/
import Derived.Test.YthenilomgbnpeaaGreatDoorProg
import Derived.Test.YthenilomgbnpeaaGreatDoorMg0
import Derived.Deep.QuietTactic
import Derived.BigQuiet
import Derived.Deep.RegionHeld3
import Derived.WalkKit
/- The model's source of choices: reading a byte, picking a number, making a text. Only that each returns, within its bounds, is said. -/
namespace Go.Proofs.YthenilomgbnpeaaGreatDoor
open Go.RowKit

/-- Block g holds a source: its bytes' slice, how many were read, its seed. -/
def SrcAt (w : World) (g : Nat) (v : Value) (at_ : Nat) (seed : Int) : Prop := w.heap[g]? = some (.cells #[v, .int .i64 at_, .int .u64 seed] 69 (0, 0))
def NextPost (g : Nat) (v : Value) (at_ : Nat) (w : World) (e : Ending) (w' : World) : Prop :=
  ∃ (x : Int) (seed : Int), e = .returned (.int .i64 x) ∧ 0 ≤ x ∧ x ≤ 255 ∧ SrcAt w' g v (at_ + 1) seed ∧ w.grownBy w' (some g)

section
variable {w w' : World} {g at_ : Nat} {v : Value} {seed : Int}
theorem SrcAt.cell0 (h : SrcAt w g v at_ seed) : w.cell? ⟨g, 0, none⟩ = some v := by rw [cell_of_row w g 0 _ _ (0, 0) h]; rfl
theorem SrcAt.cell1 (h : SrcAt w g v at_ seed) : w.cell? ⟨g, 1, none⟩ = some (.int .i64 at_) := by rw [cell_of_row w g 1 _ _ (0, 0) h]; rfl
theorem SrcAt.cell2 (h : SrcAt w g v at_ seed) : w.cell? ⟨g, 2, none⟩ = some (.int .u64 seed) := by rw [cell_of_row w g 2 _ _ (0, 0) h]; rfl
theorem SrcAt.free (h : SrcAt w g v at_ seed) (j : Nat) : w.frozen? ⟨g, j, none⟩ = false := frozen_of_row w g j _ _ h
theorem SrcAt.step (h : SrcAt w g v at_ seed) (x : Int) (a' : Nat) : SrcAt ((w.setCell ⟨g, 1, none⟩ (.int .i64 (a' : Int))).setCell ⟨g, 2, none⟩ (.int .u64 x)) g v a' x := by
  unfold SrcAt at h ⊢
  have h1 := heap_setCell_same w g 1 _ _ (.int .i64 (a' : Int)) h
  have h2 := heap_setCell_same _ g 2 _ _ (.int .u64 x) h1
  rw [h2]; rfl
theorem grown_two (w : World) (g : Nat) (x y : Value) (i j : Nat) : w.grownBy ((w.setCell ⟨g, i, none⟩ x).setCell ⟨g, j, none⟩ y) (some g) :=
  ⟨rfl, rfl, rfl, by simp, fun k _ hk => by
    rw [heap_setCell_other _ _ k _ (fun e => hk (by simp [e])), heap_setCell_other _ _ k _ (fun e => hk (by simp [e]))]⟩
theorem grown_twoN (w : World) (g p q : Nat) (x y : Value) (i j : Nat) : w.grownBy ((((w.drewN p).setCell ⟨g, i, none⟩ x).setCell ⟨g, j, none⟩ y).drewN q) (some g) :=
  ⟨rfl, rfl, rfl, (grown_two w g x y i j).size, (grown_two w g x y i j).block⟩
theorem grown_drew {row : Option Nat} (h : w.grownBy w' row) : w.grownBy w'.drew row := ⟨h.os, h.tape, h.output, h.size, h.block⟩
theorem grown_trans {w'' : World} {row : Option Nat} (h : w.grownBy w' row) (h' : w'.grownBy w'' row) : w.grownBy w'' row :=
  ⟨h'.os.trans h.os, h'.tape.trans h.tape, h'.output.trans h.output, Nat.le_trans h.size h'.size, fun k hk hr => (h'.block k (Nat.lt_of_lt_of_le hk h.size) hr).trans (h.block k hk hr)⟩
end
theorem and255_u64 (x : Int) : 0 ≤ bits .and .u64 x 255 ∧ bits .and .u64 x 255 ≤ 255 := by
  have h : (BitVec.ofInt 64 x &&& BitVec.ofInt 64 255).toNat ≤ 255 := by
    rw [BitVec.toNat_and]
    exact Nat.le_trans Nat.and_le_right (by decide)
  have e : bits .and .u64 x 255 = IntKind.u64.wrap ((BitVec.ofInt 64 x &&& BitVec.ofInt 64 255).toNat : Int) := rfl
  rw [e]
  have : IntKind.u64.wrap ((BitVec.ofInt 64 x &&& BitVec.ofInt 64 255).toNat : Int) = ((BitVec.ofInt 64 x &&& BitVec.ofInt 64 255).toNat : Int) % 18446744073709551616 := rfl
  omega

theorem and255_wrap (x : Int) : 0 ≤ wrap64 (bits .and .u64 x 255) ∧ wrap64 (bits .and .u64 x 255) ≤ 255 := by
  have h := and255_u64 x
  rw [IntWalk.wrap64_in _ (by omega)]; exact h

set_option maxRecDepth 100000 in
theorem next_in (g b off len cap at_ : Nat) (seed x : Int) (w : World) (hS : SrcAt w g (.slice (some ⟨b, off, none⟩) len cap) at_ seed) (hlt : at_ < len) (hm : len ≤ 1048576)
    (hc : w.cell? ⟨b, off + at_, none⟩ = some (.int .u8 x)) (hx0 : 0 ≤ x) (hx1 : x ≤ 255) :
    Calls Tryz.prog 39 #[.pointer (some ⟨g, 0, none⟩)] w (NextPost g (.slice (some ⟨b, off, none⟩) len cap) at_ w) := by
  have h0 := hS.cell0
  have h1 := hS.cell1
  have h2 := hS.cell2
  have f1 := hS.free 1
  have f2 := hS.free 2
  have hI : (at_ : Int) < (len : Int) := by omega
  go_enter Tryz.func39, Tryz.ntmps39
  go_wp2
  go_quiet (fail)
  go_wp2
  go_quiet (fail)
  go_wp2
  go_quiet (fail)
  go_wp2
  go_ret
  exact ⟨x, _, rfl, hx0, hx1, hS.step _ (at_ + 1), grown_twoN w g _ _ _ _ 1 2⟩

set_option maxRecDepth 100000 in
theorem next_out (g len cap at_ : Nat) (A : Option Addr) (seed : Int) (w : World) (hS : SrcAt w g (.slice A len cap) at_ seed) (hlt : len ≤ at_) (hm : at_ ≤ 1000000000000) :
    Calls Tryz.prog 39 #[.pointer (some ⟨g, 0, none⟩)] w (NextPost g (.slice A len cap) at_ w) := by
  have h0 := hS.cell0
  have h1 := hS.cell1
  have h2 := hS.cell2
  have f1 := hS.free 1
  have f2 := hS.free 2
  have hI : ¬ (at_ : Int) < (len : Int) := by omega
  have hI2 : ¬ (at_ : Int) + 1 ≤ (len : Int) := by omega
  go_enter Tryz.func39, Tryz.ntmps39
  go_wp2
  go_quiet (fail)
  go_wp2
  go_quiet (fail)
  go_wp2
  go_ret
  exact ⟨_, _, rfl, (and255_wrap _).1, (and255_wrap _).2, hS.step _ (at_ + 1), grown_twoN w g _ _ _ _ 1 2⟩

/-- A source at block g, its bytes below block B. -/
def Src (w : World) (B g : Nat) (n : Nat) : Prop := ∃ v at_ seed, SrcAt w g v at_ seed ∧ at_ ≤ n ∧ CodeIs w B v ∧ B ≤ g
theorem Src.lt {w : World} {B g n : Nat} (h : Src w B g n) : g < w.heap.size := by
  obtain ⟨v, a, s, h1, _⟩ := h
  rcases Nat.lt_or_ge g w.heap.size with hlt | hge
  · exact hlt
  · unfold SrcAt at h1; rw [Array.getElem?_eq_none hge] at h1; cases h1
theorem Src.base {w : World} {B g n : Nat} (h : Src w B g n) : B ≤ g := h.elim fun _ h => h.elim fun _ h => h.elim fun _ h => h.2.2.2
theorem Src.keep {w w' : World} {B g n : Nat} (h : Src w B g n) (hb : Below w.heap.size w w') : Src w' B g n := by
  have hlt := h.lt
  obtain ⟨v, a, s, h1, h2, h3, h4⟩ := h
  exact ⟨v, a, s, (hb.block g hlt).trans h1, h2, h3.keep fun b hb' => hb.block b (by omega), h4⟩
/-- What every choice does to the world: block g alone may change. -/
def Chose (P : Value → Prop) (B g n : Nat) (w : World) (e : Ending) (w' : World) : Prop := ∃ v, e = .returned v ∧ P v ∧ Src w' B g n ∧ w.grownBy w' (some g)
def IntIn (lo hi : Int) (v : Value) : Prop := ∃ x : Int, v = .int .i64 x ∧ lo ≤ x ∧ x ≤ hi

theorem next_any (B g n : Nat) (w : World) (h : Src w B g n) (hn : n ≤ 1000000000000) :
    Calls Tryz.prog 39 #[.pointer (some ⟨g, 0, none⟩)] w (Chose (IntIn 0 255) B g (n + 1) w) := by
  have hlt := h.lt
  obtain ⟨v, a, s, h1, h2, h3, h4⟩ := h
  have fin : ∀ e w', NextPost g v a w e w' → Chose (IntIn 0 255) B g (n + 1) w e w' := by
    rintro e w' ⟨x, s', rfl, hx0, hx1, hS, hg⟩
    exact ⟨_, rfl, ⟨x, rfl, hx0, hx1⟩, ⟨v, a + 1, s', hS, by omega, h3.keep fun b hb => hg.block b (by omega) (fun e => by injection e; omega), h4⟩, hg⟩
  obtain ⟨A, len, cap, rfl, hl, hc⟩ := h3
  by_cases hlt2 : a < len
  · obtain ⟨b, off, rfl, hb, hx⟩ := hc (by omega)
    obtain ⟨x, hcell, hx0, hx1⟩ := hx a hlt2
    exact (next_in g b off len cap a s x w h1 hlt2 hl hcell hx0 hx1).mono fin
  · exact (next_out g len cap a A s w h1 (by omega) (by omega)).mono fin
end Go.Proofs.YthenilomgbnpeaaGreatDoor
/- The model's source of choices: picking among numbers, making a text. Only that each returns, within its bounds, is said. -/
namespace Go.Proofs.YthenilomgbnpeaaGreatDoor
open Go.RowKit

theorem Chose.mono {P Q : Value → Prop} {B g n n' : Nat} {w w' : World} {e : Ending} (hPQ : ∀ v, P v → Q v) (hn : n ≤ n') : Chose P B g n w e w' → Chose Q B g n' w e w' := by
  rintro ⟨v, he, hP, ⟨u, a, s, h1, h2, h3⟩, hg⟩
  exact ⟨v, he, hPQ v hP, ⟨u, a, s, h1, by omega, h3⟩, hg⟩

theorem l00From_any (w : World) (v : Value) (h : CodeIs w w.heap.size v) :
    Calls Tryz.prog 16 #[v] w fun e w' => e = .returned (.pointer (some ⟨w.heap.size, 0, none⟩)) ∧ Src w' w.heap.size w.heap.size 0 ∧ Below w.heap.size w w' := by
  have h' := h.keep (w' := w.alloc (.cells #[v, .int .i64 0, .int .u64 0] 69)) (fun b hb => Below.heap_alloc w _ b hb)
  obtain ⟨A, len, cap, rfl, _⟩ := h
  go_enter Tryz.func16, Tryz.ntmps16
  go_wp2
  go_ret
  exact ⟨rfl, ⟨_, 0, 0, heap_alloc_new w _, Nat.le_refl _, h', Nat.le_refl _⟩, (Below.refl _ _).alloc (Nat.le_refl _) _⟩

/-- The upper bound of a choice below n. -/
def pickMax (n : Int) : Int := if n ≤ 1 then 0 else n - 1
theorem pick_any (B g n : Nat) (m : Int) (w : World) (h : Src w B g n) (hn : n ≤ 900000000000) (hm : m ≤ 1000000000000) (hm0 : -1000000000000 ≤ m) :
    Calls Tryz.prog 18 #[.pointer (some ⟨g, 0, none⟩), .int .i64 m] w (Chose (IntIn 0 (pickMax m)) B g (n + 2) w) := by
  by_cases h1 : m ≤ 1
  · have HM : Hid (pickMax m = 0) := by show _ = _; rw [pickMax, if_pos h1]
    go_enter Tryz.func18, Tryz.ntmps18
    go_wp2
    go_ret
    rw [HM.out]
    obtain ⟨u, a, s, g1, g2, g3⟩ := h
    exact ⟨_, rfl, ⟨0, rfl, by omega, by omega⟩, ⟨u, a, s, g1, by omega, g3⟩, ⟨rfl, rfl, rfl, Nat.le_refl _, fun _ _ _ => rfl⟩⟩
  · have HM : Hid (pickMax m = m - 1) := by show _ = _; rw [pickMax, if_neg h1]
    have HF : ∀ x : Int, 0 ≤ x → IntIn 0 (pickMax m) (.int .i64 (x % m)) := fun x hx => ⟨_, rfl, Int.emod_nonneg x (by omega), by rw [HM.out]; have := Int.emod_lt_of_pos x (show 0 < m by omega); omega⟩
    by_cases h2 : 200 < m
    · go_enter Tryz.func18, Tryz.ntmps18
      go_wp2_with (first
        | (go_at_call 39; refine (next_any B g n _ h (by omega)).mono ?_; rintro e w1 ⟨v1, rfl, ⟨x, rfl, hx0, hx1⟩, hS1, hg1⟩; clear h)
        | (go_at_call 39; refine (next_any B g (n + 1) _ hS1 (by omega)).mono ?_; rintro e w2 ⟨v2, rfl, ⟨y, rfl, hy0, hy1⟩, hS2, hg2⟩; clear hS1))
      go_ret
      exact ⟨_, rfl, HF _ (by omega), hS2, grown_trans hg1 hg2⟩
    · go_enter Tryz.func18, Tryz.ntmps18
      go_wp2_with (go_at_call 39; refine (next_any B g n _ h (by omega)).mono ?_; rintro e w1 ⟨v1, rfl, ⟨x, rfl, hx0, hx1⟩, hS1, hg1⟩; clear h)
      go_ret
      obtain ⟨u, a, s, g1, g2, g3⟩ := hS1
      exact ⟨_, rfl, HF _ hx0, ⟨u, a, s, g1, by omega, g3⟩, hg1⟩

def BoolAny (v : Value) : Prop := ∃ b : Bool, v = .bool b
theorem one_any (B g n : Nat) (m : Int) (w : World) (h : Src w B g n) (hn : n ≤ 900000000000) (hm : m ≤ 1000000000000) (hm0 : -1000000000000 ≤ m) :
    Calls Tryz.prog 19 #[.pointer (some ⟨g, 0, none⟩), .int .i64 m] w (Chose BoolAny B g (n + 2) w) := by
  go_enter Tryz.func19, Tryz.ntmps19
  go_wp2_with (go_at_call 18; refine (pick_any B g n m _ h hn hm hm0).mono ?_; rintro e w1 ⟨v1, rfl, ⟨x, rfl, hx0, hx1⟩, hS1, hg1⟩)
  go_ret
  exact ⟨_, rfl, ⟨_, rfl⟩, hS1, hg1⟩

theorem among_any (Q : Int → Prop) (B g n b len cap : Nat) (w : World) (h : Src w B g n) (hn : n ≤ 900000000000) (hlen : 0 < len) (hl2 : len ≤ 1000000) (hbg : b ≠ g)
    (hc : ∀ i, i < len → ∃ x : Int, w.cell? ⟨b, i, none⟩ = some (.int .i64 x) ∧ Q x) :
    Calls Tryz.prog 20 #[.pointer (some ⟨g, 0, none⟩), .slice (some ⟨b, 0, none⟩) len cap] w (Chose (fun v => ∃ x : Int, v = .int .i64 x ∧ Q x) B g (n + 2) w) := by
  have HC := Lib.hid hc
  have HP : Hid (pickMax (len : Int) ≤ (len : Int) - 1) := by show _ ≤ _; unfold pickMax; split <;> omega
  clear hc
  go_enter Tryz.func20, Tryz.ntmps20
  go_wp2_with (
    go_at_call 18; refine (pick_any B g n (len : Int) _ h hn (by omega) (by omega)).mono ?_; rintro e w1 ⟨v1, rfl, ⟨x, rfl, hx0, hx1⟩, hS1, hg1⟩
    obtain ⟨i, rfl⟩ := Int.eq_ofNat_of_zero_le hx0
    have hil : (i : Int) < (len : Int) := by have := HP.out; omega
    obtain ⟨y, hy, hQ⟩ := HC.out i (by omega)
    have hcell := hg1.cell hy (by simp; omega)
    have HQ := Lib.hid hQ
    clear hy hQ h)
  go_ret
  exact ⟨_, rfl, ⟨y, rfl, HQ.out⟩, hS1, hg1⟩

theorem Src.keepB {w w' : World} {B B' g n : Nat} (h : Src w B g n) (hb : Below B' w w') (hg : g < B') : Src w' B g n := by
  obtain ⟨v, a, s, h1, h2, h3, h4⟩ := h
  exact ⟨v, a, s, (hb.block g hg).trans h1, h2, h3.keep fun b hb' => hb.block b (by omega), h4⟩
theorem grown_below {w wr w' : World} {row : Option Nat} (h : w.grownBy wr row) (hb : Below w.heap.size wr w') : w.grownBy w' row :=
  ⟨hb.os.trans h.os, hb.tape.trans h.tape, hb.output.trans h.output, Nat.le_trans h.size hb.size, fun k hk hr => (hb.block k hk).trans (h.block k hk hr)⟩
theorem BytesOwn.grown {w w' : World} {B g : Nat} {v : Value} {l : List Int} (h : BytesOwn w B v l) (hg : w.grownBy w' (some g)) (hgB : g < B) : BytesOwn w' B v l := by
  refine World.ownsRow.kept h hg ?_
  cases e : v.ownBlock with
  | none => exact .inl rfl
  | some k => exact .inr (fun e2 => by injection e2 with e2; have := (World.ownsRow.lt h k e).1; omega)
theorem Src.more {w : World} {B g n n' : Nat} (h : Src w B g n) (hn : n ≤ n') : Src w B g n' := by
  obtain ⟨u, a, s, g1, g2, g3⟩ := h
  exact ⟨u, a, s, g1, by omega, g3⟩

def StrLe (m : Int) (v : Value) : Prop := ∃ s : ByteArray, v = .string s ∧ (s.size : Int) ≤ m
set_option maxRecDepth 100000 in
theorem word_any (B g n : Nat) (m : Int) (w : World) (h : Src w B g n) (hn : n ≤ 800000000000) (hm : m ≤ 1000) (hm0 : 0 ≤ m) :
    Calls Tryz.prog 68 #[.pointer (some ⟨g, 0, none⟩), .int .i64 m] w (Chose (StrLe (pickMax m)) B g (n + 2000) w) := by
  have hlt := h.lt
  have HP : Hid (pickMax m ≤ 1000) := by show _ ≤ _; unfold pickMax; split <;> omega
  have h0 := h.keep ((Below.refl w.heap.size w).alloc (Nat.le_refl _) (.cells #[] 5))
  have hg0 : w.grownBy (w.alloc (.cells #[] 5)) (some g) := World.grownBy_alloc w _ _
  have hown0 := BytesOwn.made w (Nat.le_refl w.heap.size)
  clear h
  go_enter Tryz.func68, Tryz.ntmps68
  go_wp2_with (go_at_call 18; refine (pick_any B g n m _ h0 (by omega) (by omega) (by omega)).mono ?_; rintro e w1 ⟨v1, rfl, ⟨x, rfl, hx0, hx1⟩, hS1, hg1⟩)
  have hown1 := hown0.grown hg1 hlt
  have hgr1 := grown_trans hg0 hg1
  have hxm : x ≤ 1000 := by have := HP.out; omega
  have HX := Lib.hid hx1
  obtain ⟨K, rfl⟩ := Int.eq_ofNat_of_zero_le hx0
  clear h0 hg0 hown0 hg1 hx1
  go_loopw [5, 6] (fun v i wr => ∃ (k : Nat) (l : List Int), i = .int .i64 k ∧ k + l.length = K ∧ BytesOwn wr w.heap.size v l ∧ Src wr B g (n + 2 + l.length) ∧ w.grownBy wr (some g)) (fun _ i _ => (intOf i).toNat)
  case atStart => exact ⟨K, [], rfl, by simp, hown1, hS1, hgr1⟩
  case round =>
    clear hown1 hS1 hgr1
    obtain ⟨k, l, rfl, hk, hown, hS, hgr⟩ := hrel
    have hz := hgr.size
    by_cases hk0 : 0 < k
    · have hki : (0 : Int) < (k : Int) := by omega
      have hkl : (k : Int) ≤ 1000 := by omega
      go_wp2_with (first
        | (
           go_at_call 39; refine (next_any B g (n + 2 + l.length) _ hS (by omega)).mono ?_; rintro e w2 ⟨v2, rfl, ⟨y, rfl, hy0, hy1⟩, hS2, hg2⟩
           have hown2 := hown.grown hg2 hlt
           have hgr2 := grown_trans hgr hg2
           have hz2 := hgr2.size
           clear hown hS hgr hg2)
        | (
           at_builtin; refine wpList_append_byte rfl _ _ rfl _ l rfl hown2 (Below.refl _ _) hz2 _ _ rfl (by omega) ?_
           intro v' w3 hown3 hb3
           have hS3 := hS2.keepB hb3 hlt
           have hgr3 := grown_below hgr2 hb3
           clear hown2 hS2 hgr2 hb3))
      go_roundw
      case rel => exact ⟨k - 1, _, by go_num, by simp; omega, hown3, by simpa [Nat.add_assoc] using hS3, hgr3⟩
      case measure => simp [intOf]; omega
    · obtain rfl : k = 0 := by omega
      have hcv := bytes_str hown
      have hls : (strOfNums l).size = l.length := strOfNums_size l
      have HL := Lib.hid hls
      clear hls
      go_wp2
      go_ret
      exact ⟨_, rfl, ⟨_, rfl, by have := HL.out; have := HX.out; omega⟩, hS.more (by omega), hgr⟩
end Go.Proofs.YthenilomgbnpeaaGreatDoor
/- Chapter 2's generators: a state, a page and a text. Only that each returns, within its bounds, is said. -/
namespace Go.Proofs.YthenilomgbnpeaaGreatDoor
open Go.RowKit

theorem newCells (w : World) (t : TypeId) (l : List Value) (n : Nat) (hn : l.length = n) {Q : Int → Prop} (h : ∀ v ∈ l, ∃ x : Int, v = .int .i64 x ∧ Q x) :
    ∀ i, i < n → ∃ x : Int, (w.alloc (.cells l.toArray t)).cell? ⟨w.heap.size, i, none⟩ = some (.int .i64 x) ∧ Q x := by
  intro i hi
  obtain ⟨x, hx, hq⟩ := h l[i] (List.getElem_mem (by omega))
  refine ⟨x, ?_, hq⟩
  rw [World.cell?_alloc_at _ _ _ _ rfl, ← hx]
  simp [hn, hi]
/-- What a generator does: it answers, and what was there before is as it was. -/
def Drawn (P : Value → Prop) (w : World) (e : Ending) (w' : World) : Prop := ∃ v, e = .returned v ∧ P v ∧ Below w.heap.size w w'
end Go.Proofs.YthenilomgbnpeaaGreatDoor
/- Plain facts on bits of integers: Go's and, or, exclusive or on int64 and uint16, as operations on natural numbers; one step of the register on natural numbers. -/
namespace Go.Proofs.YthenilomgbnpeaaGreatDoor
open Go.RowKit

theorem wrap_i64_nat (a : Nat) (h : a < 2 ^ 63) : IntKind.i64.wrap (a : Int) = a := IntWalk.i64_in _ (by omega)
theorem ofInt_i64 (a : Nat) (ha : a < 2 ^ 63) : (BitVec.ofInt 64 (a : Int)).toNat = a := by
  rw [BitVec.ofInt_natCast, BitVec.toNat_ofNat]; exact Nat.mod_eq_of_lt (by omega)
theorem i64_and_nat (a b : Nat) (ha : a < 2 ^ 63) (hb : b < 2 ^ 63) : bits .and .i64 (a : Int) (b : Int) = ((a &&& b : Nat) : Int) := by
  have hx : a &&& b < 2 ^ 63 := Nat.and_lt_two_pow _ (by omega)
  show IntKind.i64.wrap ((BitVec.ofInt 64 (a : Int) &&& BitVec.ofInt 64 (b : Int)).toNat : Int) = _
  rw [BitVec.toNat_and, ofInt_i64 a ha, ofInt_i64 b hb, wrap_i64_nat _ hx]
theorem i64_or_nat (a b : Nat) (ha : a < 2 ^ 63) (hb : b < 2 ^ 63) : bits .or .i64 (a : Int) (b : Int) = ((a ||| b : Nat) : Int) := by
  have hx : a ||| b < 2 ^ 63 := Nat.or_lt_two_pow (by omega) (by omega)
  show IntKind.i64.wrap ((BitVec.ofInt 64 (a : Int) ||| BitVec.ofInt 64 (b : Int)).toNat : Int) = _
  rw [BitVec.toNat_or, ofInt_i64 a ha, ofInt_i64 b hb, wrap_i64_nat _ hx]
theorem i64_xor_nat (a b : Nat) (ha : a < 2 ^ 63) (hb : b < 2 ^ 63) : bits .xor .i64 (a : Int) (b : Int) = ((a ^^^ b : Nat) : Int) := by
  have hx : a ^^^ b < 2 ^ 63 := Nat.xor_lt_two_pow (by omega) (by omega)
  show IntKind.i64.wrap ((BitVec.ofInt 64 (a : Int) ^^^ BitVec.ofInt 64 (b : Int)).toNat : Int) = _
  rw [BitVec.toNat_xor, ofInt_i64 a ha, ofInt_i64 b hb, wrap_i64_nat _ hx]

theorem and1_i64 (a : Nat) (ha : a < 2 ^ 63) : bits .and .i64 (a : Int) 1 = ((a % 2 : Nat) : Int) := by
  have := i64_and_nat a 1 ha (by omega); rw [Nat.and_one_is_mod] at this; exact this
theorem and1_u16 (a : Nat) (ha : a < 65536) : bits .and .u16 (a : Int) 1 = ((a % 2 : Nat) : Int) := by
  have := u16_and_nat a 1 ha (by omega); rw [Nat.and_one_is_mod] at this; exact this

/-- One step of the register. -/
def stepN (s : Nat) : Nat := if s % 2 = 1 then s / 2 ^^^ 46080 else s / 2
theorem stepN_lt (s : Nat) (h : s < 65536) : stepN s < 65536 := by
  unfold stepN; split
  · exact Nat.xor_lt_two_pow (n := 16) (by omega) (by omega)
  · omega
theorem stepN_odd {s : Nat} (h : s % 2 = 1) : stepN s = s / 2 ^^^ 46080 := by rw [stepN, if_pos h]
theorem stepN_even {s : Nat} (h : ¬ s % 2 = 1) : stepN s = s / 2 := by rw [stepN, if_neg h]
theorem xor_step_u16 (s : Nat) (h : s < 65536) : bits .xor .u16 ((s : Int) / 2) 46080 = ((s / 2 ^^^ 46080 : Nat) : Int) := by
  have := u16_xor_nat (s / 2) 46080 (by omega) (by omega); rw [← this]; simp
theorem xor_step_i64 (s : Nat) (h : s < 65536) : bits .xor .i64 ((s : Int) / 2) 46080 = ((s / 2 ^^^ 46080 : Nat) : Int) := by
  have := i64_xor_nat (s / 2) 46080 (by omega) (by omega); rw [← this]; simp

/-- The state before. -/
def backN (s : Nat) : Nat := if 32768 ≤ s then (s ^^^ 46080) * 2 ||| 1 else s * 2
theorem backN_hi {s : Nat} (h : 32768 ≤ s) : backN s = (s ^^^ 46080) * 2 ||| 1 := by rw [backN, if_pos h]
theorem backN_lo {s : Nat} (h : ¬ 32768 ≤ s) : backN s = s * 2 := by rw [backN, if_neg h]
theorem xor_back (s : Nat) (h : s < 65536) : s ^^^ 46080 < 65536 := Nat.xor_lt_two_pow (n := 16) (by omega) (by omega)
theorem back_val (s : Nat) (h : s < 65536) : bits .or .i64 (wrap64 (bits .xor .i64 (s : Int) 46080 * 2)) 1 = (((s ^^^ 46080) * 2 ||| 1 : Nat) : Int) := by
  have hx := i64_xor_nat s 46080 (by omega) (by omega)
  have hl := xor_back s h
  have e : bits .xor .i64 (s : Int) 46080 = ((s ^^^ 46080 : Nat) : Int) := hx
  rw [e, IntWalk.wrap64_in _ (by omega)]
  have := i64_or_nat ((s ^^^ 46080) * 2) 1 (by omega) (by omega)
  rw [← this]; simp
theorem and_top (s : Nat) (h : s < 65536) : bits .and .i64 (s : Int) 32768 = ((s / 32768 * 32768 : Nat) : Int) := by
  have := i64_and_nat s 32768 (by omega) (by omega)
  have e : s &&& 32768 = s / 32768 * 32768 := by
    apply Nat.eq_of_testBit_eq
    intro i
    rw [Nat.testBit_and, show (32768 : Nat) = 2 ^ 15 from rfl, Nat.testBit_two_pow]
    by_cases hc : 32768 ≤ s
    · rw [show s / 2 ^ 15 * 2 ^ 15 = 2 ^ 15 by omega, Nat.testBit_two_pow]
      by_cases hi : 15 = i
      · subst hi
        have : s.testBit 15 = true := by rw [Nat.testBit_eq_decide_div_mod_eq]; simp; omega
        simp [this]
      · simp [hi]
    · rw [show s / 2 ^ 15 * 2 ^ 15 = 0 by omega, Nat.zero_testBit]
      by_cases hi : 15 = i
      · subst hi
        rw [Nat.testBit_lt_two_pow (by omega)]; rfl
      · simp [hi]
  rw [← e, ← this]; rfl
end Go.Proofs.YthenilomgbnpeaaGreatDoor
