/- The comparison of two arrays of nine bytes, and checkGroups: its contract. -/
import Derived.Test.YtopehpnelfbboaaProg
import Derived.Test.YtopehpnelfbboaaUv
import Derived.Stop.BytesEq
namespace Go.Proofs.Ytopehpnelfbboaa
open Go.RowKit
open Extern.Stop (cell)

def toU8 (x : Int) : UInt8 := UInt8.ofNat x.toNat
theorem toU8_nat {x : Int} (h : 0 ≤ x ∧ x < 256) : ((toU8 x).toNat : Int) = x := by
  unfold toU8
  rw [UInt8.toNat_ofNat']
  omega
theorem map_cell : ∀ {l : List Int}, (∀ x ∈ l, 0 ≤ x ∧ x < 256) → l.map (Value.int .u8) = (l.map toU8).map cell
  | [], _ => rfl
  | x :: l, h => by
    rw [List.map_cons, List.map_cons, List.map_cons, map_cell (fun y hy => h y (by simp [hy]))]
    congr 1
    show Value.int .u8 x = .int .u8 ((toU8 x).toNat : Int)
    rw [toU8_nat (h x (by simp))]
theorem toU8_inj : ∀ {l l' : List Int}, (∀ x ∈ l, 0 ≤ x ∧ x < 256) → (∀ x ∈ l', 0 ≤ x ∧ x < 256) → (l.map toU8 = l'.map toU8 ↔ l = l')
  | [], [], _, _ => by simp
  | [], _ :: _, _, _ => by simp
  | _ :: _, [], _, _ => by simp
  | x :: l, y :: l', h, h' => by
    have ih := toU8_inj (l := l) (l' := l') (fun z hz => h z (by simp [hz])) (fun z hz => h' z (by simp [hz]))
    simp only [List.map_cons, List.cons.injEq, ih]
    constructor
    · rintro ⟨h1, h2⟩
      refine ⟨?_, h2⟩
      rw [← toU8_nat (h x (by simp)), ← toU8_nat (h' y (by simp)), h1]
    · rintro ⟨rfl, h2⟩; exact ⟨rfl, h2⟩
theorem under9a : Try.prog.underlying 46 = some (.array 9 5) := by kernel_rfl
theorem neq9 (w : World) {l l' : List Int} (hl : l.length = 9) (hl' : l'.length = 9) (h : ∀ x ∈ l, 0 ≤ x ∧ x < 256) (h' : ∀ x ∈ l', 0 ≤ x ∧ x < 256) :
    (binOp .neq 46 (.agg (l.map (Value.int .u8)).toArray) (.agg (l'.map (Value.int .u8)).toArray)).run Try.prog w = .ok (.bool (!decide (l = l'))) w := by
  rw [map_cell h, map_cell h', run_neq_struct, run_equalIn_bytes w 9998 _ _ 9 under9a Try.underlying5 size8 _ _ (by simpa using hl) (by simpa using hl')]
  show Result.ok _ _ = _
  congr 2
  rw [Bool.eq_iff_iff]
  simp [toU8_inj h h']
theorem uv_bytes' {n : Nat} (h : n < 2 ^ 63) : ∀ x ∈ uv n, 0 ≤ x ∧ x < 256 :=
  uv_bytes 9 n (by rw [show (128 : Nat) ^ 9 = 2 ^ 63 by decide]; exact h)

def ChkPost (n : Nat) (l : List Int) (W : World) (e : Ending) (w' : World) : Prop :=
  e = .returned (.tuple #[.int .i64 (if pad9 (uv n) = l then (n : Int) else 0), .int .i64 (if pad9 (uv n) = l then ((uv n).length : Int) else 0), .bool (decide (pad9 (uv n) = l))]) ∧ Below W.heap.size W w'

set_option maxRecDepth 100000 in
theorem checkGroups_any (n : Nat) (l : List Int) (w : World) (h : n < 2 ^ 63) (hl : l.length = 9) (hb : ∀ x ∈ l, 0 ≤ x ∧ x < 256) :
    Calls Try.prog 34 #[.int .i64 n, .agg (l.map (Value.int .u8)).toArray] w (ChkPost n l w) := by
  have hlen := uv_len h
  have hbn := pad9_bytes (uv_bytes' h)
  have hn9 := pad9_length hlen
  have hin : (Try.prog.info? 46).map (·.size) = some (l.map (Value.int .u8)).toArray.size := by rw [info9]; simp [hl]
  have hq := fun (W : World) => neq9 W hl hn9 hb hbn
  by_cases he : pad9 (uv n) = l
  · subst he
    simp only [decide_true, Bool.not_true] at hq
    go_enter Try.func34, Try.ntmps34
    go_wp2_with (first
      | (go_at_call 33; refine (groupsOf_any n _ h).mono ?_; rintro e w1 ⟨rfl, hb1⟩
         have hz1 := hb1.size
         simp at hz1
         have hL := ((((Arr.new w 46 .u8 (pad9 (uv n))).below hb1 (by simp)).alloc (.cells ((pad9 []).map (Value.int .u8)).toArray 46)).farRow (g' := w1.heap.size) (by omega) ((pad9 (uv n)).map (Value.int .u8)).toArray)
         have hR := (Arr.new w1 46 .u8 (pad9 [])).row (pad9 (uv n)))
      | (refine wpList_store_row rfl 46 _ _ rfl _ _ rfl rfl _ _ (Arr.new w1 46 .u8 (pad9 [])) (info9' hlen) (size9 (by simp) hlen) (one9 _) ?_)
      | (refine wpList_load_row rfl 46 _ rfl _ rfl _ _ _ _ hL Try.underlying46 rfl hin ?_)
      | (refine wpList_load_row rfl 46 _ rfl _ rfl _ _ _ _ hR Try.underlying46 rfl (info9' hlen) ?_))
    go_ret3
    exact ⟨by simp, below_setRow (((((Below.refl _ _).alloc (Nat.le_refl _) _).trans (hb1.mono (by simp))).alloc (by omega) _)) (by omega) _⟩
  · have he' : l = pad9 (uv n) ↔ pad9 (uv n) = l := ⟨fun h => h.symm, fun h => h.symm⟩
    simp only [he', he, decide_false, Bool.not_false] at hq
    have HE := Lib.hid he
    clear he he'
    go_enter Try.func34, Try.ntmps34
    go_wp2_with (first
      | (go_at_call 33; refine (groupsOf_any n _ h).mono ?_; rintro e w1 ⟨rfl, hb1⟩
         have hz1 := hb1.size
         simp at hz1
         have hL := ((((Arr.new w 46 .u8 l).below hb1 (by simp)).alloc (.cells ((pad9 []).map (Value.int .u8)).toArray 46)).farRow (g' := w1.heap.size) (by omega) ((pad9 (uv n)).map (Value.int .u8)).toArray)
         have hR := (Arr.new w1 46 .u8 (pad9 [])).row (pad9 (uv n)))
      | (refine wpList_store_row rfl 46 _ _ rfl _ _ rfl rfl _ _ (Arr.new w1 46 .u8 (pad9 [])) (info9' hlen) (size9 (by simp) hlen) (one9 _) ?_)
      | (refine wpList_load_row rfl 46 _ rfl _ rfl _ _ _ _ hL Try.underlying46 rfl hin ?_)
      | (refine wpList_load_row rfl 46 _ rfl _ rfl _ _ _ _ hR Try.underlying46 rfl (info9' hlen) ?_))
    go_ret3
    exact ⟨by simp [HE.out], below_setRow (((((Below.refl _ _).alloc (Nat.le_refl _) _).trans (hb1.mono (by simp))).alloc (by omega) _)) (by omega) _⟩
theorem checkGroups_yes (n : Nat) (l : List Int) (w : World) (h : n < 2 ^ 63) (hl : l.length = 9) (hb : ∀ x ∈ l, 0 ≤ x ∧ x < 256) (he : pad9 (uv n) = l) :
    Calls Try.prog 34 #[.int .i64 n, .agg (l.map (Value.int .u8)).toArray] w fun e w' => e = .returned (.tuple #[.int .i64 n, .int .i64 ((uv n).length : Nat), .bool true]) ∧ Below w.heap.size w w' :=
  (checkGroups_any n l w h hl hb).mono fun _ _ ⟨h1, h2⟩ => ⟨by rw [h1, if_pos he, if_pos he, decide_eq_true he], h2⟩
theorem checkGroups_no (n : Nat) (l : List Int) (w : World) (h : n < 2 ^ 63) (hl : l.length = 9) (hb : ∀ x ∈ l, 0 ≤ x ∧ x < 256) (he : ¬ pad9 (uv n) = l) :
    Calls Try.prog 34 #[.int .i64 n, .agg (l.map (Value.int .u8)).toArray] w fun e w' => e = .returned (.tuple #[.int .i64 0, .int .i64 0, .bool false]) ∧ Below w.heap.size w w' :=
  (checkGroups_any n l w h hl hb).mono fun _ _ ⟨h1, h2⟩ => ⟨by rw [h1, if_neg he, if_neg he, decide_eq_false he], h2⟩
end Go.Proofs.Ytopehpnelfbboaa
