/- The model's source of choices: picking among numbers, making a text. Only that each returns, within its bounds, is said. -/
import Derived.Test.YtgkanacaijlljabProg
import Derived.Test.YtgkanacaijlljabSrc
namespace Go.Proofs.Ytgkanacaijlljab
open Go.RowKit

theorem Chose.mono {P Q : Value → Prop} {B g n n' : Nat} {w w' : World} {e : Ending} (hPQ : ∀ v, P v → Q v) (hn : n ≤ n') : Chose P B g n w e w' → Chose Q B g n' w e w' := by
  rintro ⟨v, he, hP, ⟨u, a, s, h1, h2, h3⟩, hg⟩
  exact ⟨v, he, hPQ v hP, ⟨u, a, s, h1, by omega, h3⟩, hg⟩

theorem l00From_any (w : World) (v : Value) (h : CodeIs w w.heap.size v) :
    Calls Try.prog 91 #[v] w fun e w' => e = .returned (.pointer (some ⟨w.heap.size, 0, none⟩)) ∧ Src w' w.heap.size w.heap.size 0 ∧ Below w.heap.size w w' := by
  have h' := h.keep (w' := w.alloc (.cells #[v, .int .i64 0, .int .u64 0] 172)) (fun b hb => Below.heap_alloc w _ b hb)
  obtain ⟨A, len, cap, rfl, _⟩ := h
  go_enter Try.func91, Try.ntmps91
  go_wp2
  go_ret
  exact ⟨rfl, ⟨_, 0, 0, heap_alloc_new w _, Nat.le_refl _, h', Nat.le_refl _⟩, (Below.refl _ _).alloc (Nat.le_refl _) _⟩

/-- The upper bound of a choice below n. -/
def pickMax (n : Int) : Int := if n ≤ 1 then 0 else n - 1
theorem pick_any (B g n : Nat) (m : Int) (w : World) (h : Src w B g n) (hn : n ≤ 900000000000) (hm : m ≤ 1000000000000) (hm0 : -1000000000000 ≤ m) :
    Calls Try.prog 94 #[.pointer (some ⟨g, 0, none⟩), .int .i64 m] w (Chose (IntIn 0 (pickMax m)) B g (n + 2) w) := by
  by_cases h1 : m ≤ 1
  · have HM : Hid (pickMax m = 0) := by show _ = _; rw [pickMax, if_pos h1]
    go_enter Try.func94, Try.ntmps94
    go_wp2
    go_ret
    rw [HM.out]
    obtain ⟨u, a, s, g1, g2, g3⟩ := h
    exact ⟨_, rfl, ⟨0, rfl, by omega, by omega⟩, ⟨u, a, s, g1, by omega, g3⟩, ⟨rfl, rfl, rfl, Nat.le_refl _, fun _ _ _ => rfl⟩⟩
  · have HM : Hid (pickMax m = m - 1) := by show _ = _; rw [pickMax, if_neg h1]
    have HF : ∀ x : Int, 0 ≤ x → IntIn 0 (pickMax m) (.int .i64 (x % m)) := fun x hx => ⟨_, rfl, Int.emod_nonneg x (by omega), by rw [HM.out]; have := Int.emod_lt_of_pos x (show 0 < m by omega); omega⟩
    by_cases h2 : 200 < m
    · go_enter Try.func94, Try.ntmps94
      go_wp2_with (first
        | (go_at_call 147; refine (next_any B g n _ h (by omega)).mono ?_; rintro e w1 ⟨v1, rfl, ⟨x, rfl, hx0, hx1⟩, hS1, hg1⟩; clear h)
        | (go_at_call 147; refine (next_any B g (n + 1) _ hS1 (by omega)).mono ?_; rintro e w2 ⟨v2, rfl, ⟨y, rfl, hy0, hy1⟩, hS2, hg2⟩; clear hS1))
      go_ret
      exact ⟨_, rfl, HF _ (by omega), hS2, grown_trans hg1 hg2⟩
    · go_enter Try.func94, Try.ntmps94
      go_wp2_with (go_at_call 147; refine (next_any B g n _ h (by omega)).mono ?_; rintro e w1 ⟨v1, rfl, ⟨x, rfl, hx0, hx1⟩, hS1, hg1⟩; clear h)
      go_ret
      obtain ⟨u, a, s, g1, g2, g3⟩ := hS1
      exact ⟨_, rfl, HF _ hx0, ⟨u, a, s, g1, by omega, g3⟩, hg1⟩

def BoolAny (v : Value) : Prop := ∃ b : Bool, v = .bool b
theorem one_any (B g n : Nat) (m : Int) (w : World) (h : Src w B g n) (hn : n ≤ 900000000000) (hm : m ≤ 1000000000000) (hm0 : -1000000000000 ≤ m) :
    Calls Try.prog 95 #[.pointer (some ⟨g, 0, none⟩), .int .i64 m] w (Chose BoolAny B g (n + 2) w) := by
  go_enter Try.func95, Try.ntmps95
  go_wp2_with (go_at_call 94; refine (pick_any B g n m _ h hn hm hm0).mono ?_; rintro e w1 ⟨v1, rfl, ⟨x, rfl, hx0, hx1⟩, hS1, hg1⟩)
  go_ret
  exact ⟨_, rfl, ⟨_, rfl⟩, hS1, hg1⟩

theorem among_any (Q : Int → Prop) (B g n b len cap : Nat) (w : World) (h : Src w B g n) (hn : n ≤ 900000000000) (hlen : 0 < len) (hl2 : len ≤ 1000000) (hbg : b ≠ g)
    (hc : ∀ i, i < len → ∃ x : Int, w.cell? ⟨b, i, none⟩ = some (.int .i64 x) ∧ Q x) :
    Calls Try.prog 125 #[.pointer (some ⟨g, 0, none⟩), .slice (some ⟨b, 0, none⟩) len cap] w (Chose (fun v => ∃ x : Int, v = .int .i64 x ∧ Q x) B g (n + 2) w) := by
  have HC := Lib.hid hc
  have HP : Hid (pickMax (len : Int) ≤ (len : Int) - 1) := by show _ ≤ _; unfold pickMax; split <;> omega
  clear hc
  go_enter Try.func125, Try.ntmps125
  go_wp2_with (
    go_at_call 94; refine (pick_any B g n (len : Int) _ h hn (by omega) (by omega)).mono ?_; rintro e w1 ⟨v1, rfl, ⟨x, rfl, hx0, hx1⟩, hS1, hg1⟩
    obtain ⟨i, rfl⟩ := Int.eq_ofNat_of_zero_le hx0
    have hil : (i : Int) < (len : Int) := by have := HP.out; omega
    obtain ⟨y, hy, hQ⟩ := HC.out i (by omega)
    have hcell := hg1.cell hy (by simp; omega)
    have HQ := Lib.hid hQ
    clear hy hQ h)
  go_ret
  exact ⟨_, rfl, ⟨y, rfl, HQ.out⟩, hS1, hg1⟩

theorem Src.keepB {w w' : World} {B B' g n : Nat} (h : Src w B g n) (hb : Below B' w w') (hg : g < B') : Src w' B g n := by
  obtain ⟨v, a, s, h1, h2, h3, h4⟩ := h
  exact ⟨v, a, s, (hb.block g hg).trans h1, h2, h3.keep fun b hb' => hb.block b (by omega), h4⟩
theorem grown_below {w wr w' : World} {row : Option Nat} (h : w.grownBy wr row) (hb : Below w.heap.size wr w') : w.grownBy w' row :=
  ⟨hb.os.trans h.os, hb.tape.trans h.tape, hb.output.trans h.output, Nat.le_trans h.size hb.size, fun k hk hr => (hb.block k hk).trans (h.block k hk hr)⟩
theorem BytesOwn.grown {w w' : World} {B g : Nat} {v : Value} {l : List Int} (h : BytesOwn w B v l) (hg : w.grownBy w' (some g)) (hgB : g < B) : BytesOwn w' B v l := by
  refine World.ownsRow.kept h hg ?_
  cases e : v.ownBlock with
  | none => exact .inl rfl
  | some k => exact .inr (fun e2 => by injection e2 with e2; have := (World.ownsRow.lt h k e).1; omega)
theorem Src.more {w : World} {B g n n' : Nat} (h : Src w B g n) (hn : n ≤ n') : Src w B g n' := by
  obtain ⟨u, a, s, g1, g2, g3⟩ := h
  exact ⟨u, a, s, g1, by omega, g3⟩

def StrLe (m : Int) (v : Value) : Prop := ∃ s : ByteArray, v = .string s ∧ (s.size : Int) ≤ m
end Go.Proofs.Ytgkanacaijlljab
