/- The model's source of choices: picking among numbers, making a text. Only that each returns, within its bounds, is said. -/
import Derived.Test.YtegjppihopncoaaDoorProg
import Derived.Test.YtegjppihopncoaaDoorSrc
namespace Go.Proofs.YtegjppihopncoaaDoor
open Go.RowKit

theorem Chose.mono {P Q : Value → Prop} {B g n n' : Nat} {w w' : World} {e : Ending} (hPQ : ∀ v, P v → Q v) (hn : n ≤ n') : Chose P B g n w e w' → Chose Q B g n' w e w' := by
  rintro ⟨v, he, hP, ⟨u, a, s, h1, h2, h3⟩, hg⟩
  exact ⟨v, he, hPQ v hP, ⟨u, a, s, h1, by omega, h3⟩, hg⟩

theorem l00From_any (w : World) (v : Value) (h : CodeIs w w.heap.size v) :
    Calls Tryd.prog 21 #[v] w fun e w' => e = .returned (.pointer (some ⟨w.heap.size, 0, none⟩)) ∧ Src w' w.heap.size w.heap.size 0 ∧ Below w.heap.size w w' := by
  have h' := h.keep (w' := w.alloc (.cells #[v, .int .i64 0, .int .u64 0] 61)) (fun b hb => Below.heap_alloc w _ b hb)
  obtain ⟨A, len, cap, rfl, _⟩ := h
  go_enter Tryd.func21, Tryd.ntmps21
  go_wp2
  go_ret
  exact ⟨rfl, ⟨_, 0, 0, heap_alloc_new w _, Nat.le_refl _, h', Nat.le_refl _⟩, (Below.refl _ _).alloc (Nat.le_refl _) _⟩

/-- The upper bound of a choice below n. -/
def pickMax (n : Int) : Int := if n ≤ 1 then 0 else n - 1
theorem pick_any (B g n : Nat) (m : Int) (w : World) (h : Src w B g n) (hn : n ≤ 900000000000) (hm : m ≤ 1000000000000) (hm0 : -1000000000000 ≤ m) :
    Calls Tryd.prog 32 #[.pointer (some ⟨g, 0, none⟩), .int .i64 m] w (Chose (IntIn 0 (pickMax m)) B g (n + 2) w) := by
  by_cases h1 : m ≤ 1
  · have HM : Hid (pickMax m = 0) := by show _ = _; rw [pickMax, if_pos h1]
    go_enter Tryd.func32, Tryd.ntmps32
    go_wp2
    go_ret
    rw [HM.out]
    obtain ⟨u, a, s, g1, g2, g3⟩ := h
    exact ⟨_, rfl, ⟨0, rfl, by omega, by omega⟩, ⟨u, a, s, g1, by omega, g3⟩, ⟨rfl, rfl, rfl, Nat.le_refl _, fun _ _ _ => rfl⟩⟩
  · have HM : Hid (pickMax m = m - 1) := by show _ = _; rw [pickMax, if_neg h1]
    have HF : ∀ x : Int, 0 ≤ x → IntIn 0 (pickMax m) (.int .i64 (x % m)) := fun x hx => ⟨_, rfl, Int.emod_nonneg x (by omega), by rw [HM.out]; have := Int.emod_lt_of_pos x (show 0 < m by omega); omega⟩
    by_cases h2 : 200 < m
    · go_enter Tryd.func32, Tryd.ntmps32
      go_wp2_with (first
        | (go_at_call 33; refine (next_any B g n _ h (by omega)).mono ?_; rintro e w1 ⟨v1, rfl, ⟨x, rfl, hx0, hx1⟩, hS1, hg1⟩; clear h)
        | (go_at_call 33; refine (next_any B g (n + 1) _ hS1 (by omega)).mono ?_; rintro e w2 ⟨v2, rfl, ⟨y, rfl, hy0, hy1⟩, hS2, hg2⟩; clear hS1))
      go_ret
      exact ⟨_, rfl, HF _ (by omega), hS2, grown_trans hg1 hg2⟩
    · go_enter Tryd.func32, Tryd.ntmps32
      go_wp2_with (go_at_call 33; refine (next_any B g n _ h (by omega)).mono ?_; rintro e w1 ⟨v1, rfl, ⟨x, rfl, hx0, hx1⟩, hS1, hg1⟩; clear h)
      go_ret
      obtain ⟨u, a, s, g1, g2, g3⟩ := hS1
      exact ⟨_, rfl, HF _ hx0, ⟨u, a, s, g1, by omega, g3⟩, hg1⟩

def BoolAny (v : Value) : Prop := ∃ b : Bool, v = .bool b
theorem Src.keepB {w w' : World} {B B' g n : Nat} (h : Src w B g n) (hb : Below B' w w') (hg : g < B') : Src w' B g n := by
  obtain ⟨v, a, s, h1, h2, h3, h4⟩ := h
  exact ⟨v, a, s, (hb.block g hg).trans h1, h2, h3.keep fun b hb' => hb.block b (by omega), h4⟩
theorem grown_below {w wr w' : World} {row : Option Nat} (h : w.grownBy wr row) (hb : Below w.heap.size wr w') : w.grownBy w' row :=
  ⟨hb.os.trans h.os, hb.tape.trans h.tape, hb.output.trans h.output, Nat.le_trans h.size hb.size, fun k hk hr => (hb.block k hk).trans (h.block k hk hr)⟩
theorem BytesOwn.grown {w w' : World} {B g : Nat} {v : Value} {l : List Int} (h : BytesOwn w B v l) (hg : w.grownBy w' (some g)) (hgB : g < B) : BytesOwn w' B v l := by
  refine World.ownsRow.kept h hg ?_
  cases e : v.ownBlock with
  | none => exact .inl rfl
  | some k => exact .inr (fun e2 => by injection e2 with e2; have := (World.ownsRow.lt h k e).1; omega)
theorem Src.more {w : World} {B g n n' : Nat} (h : Src w B g n) (hn : n ≤ n') : Src w B g n' := by
  obtain ⟨u, a, s, g1, g2, g3⟩ := h
  exact ⟨u, a, s, g1, by omega, g3⟩

def StrLe (m : Int) (v : Value) : Prop := ∃ s : ByteArray, v = .string s ∧ (s.size : Int) ≤ m
set_option maxRecDepth 100000 in
theorem word_any (B g n : Nat) (m : Int) (w : World) (h : Src w B g n) (hn : n ≤ 800000000000) (hm : m ≤ 1000) (hm0 : 0 ≤ m) :
    Calls Tryd.prog 22 #[.pointer (some ⟨g, 0, none⟩), .int .i64 m] w (Chose (StrLe (pickMax m)) B g (n + 2000) w) := by
  have hlt := h.lt
  have HP : Hid (pickMax m ≤ 1000) := by show _ ≤ _; unfold pickMax; split <;> omega
  have h0 := h.keep ((Below.refl w.heap.size w).alloc (Nat.le_refl _) (.cells #[] 5))
  have hg0 : w.grownBy (w.alloc (.cells #[] 5)) (some g) := World.grownBy_alloc w _ _
  have hown0 := BytesOwn.made w (Nat.le_refl w.heap.size)
  clear h
  go_enter Tryd.func22, Tryd.ntmps22
  go_wp2_with (go_at_call 32; refine (pick_any B g n m _ h0 (by omega) (by omega) (by omega)).mono ?_; rintro e w1 ⟨v1, rfl, ⟨x, rfl, hx0, hx1⟩, hS1, hg1⟩)
  have hown1 := hown0.grown hg1 hlt
  have hgr1 := grown_trans hg0 hg1
  have hxm : x ≤ 1000 := by have := HP.out; omega
  have HX := Lib.hid hx1
  obtain ⟨K, rfl⟩ := Int.eq_ofNat_of_zero_le hx0
  clear h0 hg0 hown0 hg1 hx1
  go_loopw [5, 6] (fun v i wr => ∃ (k : Nat) (l : List Int), i = .int .i64 k ∧ k + l.length = K ∧ BytesOwn wr w.heap.size v l ∧ Src wr B g (n + 2 + l.length) ∧ w.grownBy wr (some g)) (fun _ i _ => (intOf i).toNat)
  case atStart => exact ⟨K, [], rfl, by simp, hown1, hS1, hgr1⟩
  case round =>
    clear hown1 hS1 hgr1
    obtain ⟨k, l, rfl, hk, hown, hS, hgr⟩ := hrel
    have hz := hgr.size
    by_cases hk0 : 0 < k
    · have hki : (0 : Int) < (k : Int) := by omega
      have hkl : (k : Int) ≤ 1000 := by omega
      go_wp2_with (first
        | (
           go_at_call 33; refine (next_any B g (n + 2 + l.length) _ hS (by omega)).mono ?_; rintro e w2 ⟨v2, rfl, ⟨y, rfl, hy0, hy1⟩, hS2, hg2⟩
           have hown2 := hown.grown hg2 hlt
           have hgr2 := grown_trans hgr hg2
           have hz2 := hgr2.size
           clear hown hS hgr hg2)
        | (
           at_builtin; refine wpList_append_byte rfl _ _ rfl _ l rfl hown2 (Below.refl _ _) hz2 _ _ rfl (by omega) ?_
           intro v' w3 hown3 hb3
           have hS3 := hS2.keepB hb3 hlt
           have hgr3 := grown_below hgr2 hb3
           clear hown2 hS2 hgr2 hb3))
      go_roundw
      case rel => exact ⟨k - 1, _, by go_num, by simp; omega, hown3, by simpa [Nat.add_assoc] using hS3, hgr3⟩
      case measure => simp [intOf]; omega
    · obtain rfl : k = 0 := by omega
      have hcv := bytes_str hown
      have hls : (strOfNums l).size = l.length := strOfNums_size l
      have HL := Lib.hid hls
      clear hls
      go_wp2
      go_ret
      exact ⟨_, rfl, ⟨_, rfl, by have := HL.out; have := HX.out; omega⟩, hS.more (by omega), hgr⟩
end Go.Proofs.YtegjppihopncoaaDoor
