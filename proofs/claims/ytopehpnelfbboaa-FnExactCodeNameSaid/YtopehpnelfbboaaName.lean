/- The names of the codes, in the model and in the program: the contracts. -/
import Derived.Test.YtopehpnelfbboaaProg
import Derived.Test.YtopehpnelfbboaaLfsr
namespace Go.Proofs.Ytopehpnelfbboaa
open Go.RowKit

/-- Where word n of a text begins and ends, from byte pos on. -/
def wordF (s : ByteArray) : Nat → Nat → Nat → Nat → Nat × Nat
  | 0, _, start, _ => (start, s.size)
  | f + 1, pos, start, n => if byteAt s pos = 32 then (if n = 0 then (start, pos) else wordF s f (pos + 1) (pos + 1) (n - 1)) else wordF s f (pos + 1) start n

set_option maxRecDepth 1000000 in
theorem wordAt_any (s : ByteArray) (n : Nat) (w : World) (hs : s.size ≤ 1000) (ha : ∀ k, k < s.size → byteAt s k < 128) (hn : n ≤ 1000) :
    Calls Try.prog 48 #[.string s, .int .i64 n] w fun e w' => e = .returned (.string (s.extract (wordF s s.size 0 0 n).1 (wordF s s.size 0 0 n).2)) ∧ Below w.heap.size w w' := by
  have hA := Lib.hid ha
  clear ha
  obtain ⟨R, hR⟩ : ∃ R, R = wordF s s.size 0 0 n := ⟨_, rfl⟩
  rw [← hR]
  have HR := Lib.hid hR
  clear hR
  go_enter Try.func48, Try.ntmps48
  go_wp2
  go_loopw [1, 5] (fun u v w' => ∃ (pos m st : Nat), pos ≤ s.size ∧ m ≤ 1000 ∧ st ≤ pos ∧ w' = w.iter s pos ∧ u = .int .i64 m ∧ v = .int .i64 st ∧ Hid (R = wordF s (s.size - pos) pos st m)) (fun _ _ w' => s.size - w'.iterPos w.heap.size)
  case atStart => exact ⟨0, n, 0, by omega, hn, by omega, rfl, rfl, rfl, HR⟩
  case round =>
    obtain ⟨pos, m, st, hpos, hm, hst, rfl, rfl, rfl, hr⟩ := hrel
    by_cases hp : pos < s.size
    · have hb := byteAt_eq hp
      have h128 := hA.out pos hp
      have hasc : (s[pos]'hp).toNat < 128 := by omega
      obtain ⟨f, hf⟩ : ∃ f, s.size - pos = f + 1 := ⟨s.size - pos - 1, by omega⟩
      have hf2 : s.size - (pos + 1) = f := by omega
      have hu := hr.out
      rw [hf, wordF] at hu
      have hnx : ∀ ty, (Instr.next (.pointer (some ⟨w.heap.size, 0, none⟩)) true ty).run Try.prog (w.iter s pos) = _ := fun ty => run_next_ascii w s pos ty hp hasc
      by_cases h32 : byteAt s pos = 32
      · have ht : ((s[pos].toNat : Int) == 32) = true := by rw [hb, h32]; rfl
        have ht2 : (s[pos].toNat : Int) = 32 := by omega
        rw [if_pos h32] at hu
        by_cases h0 : m = 0
        · subst h0
          rw [if_pos rfl] at hu
          have HU := Lib.hid hu
          clear hu hb h128 h32 hf hf2 ht2
          go_wp2
          go_ret
          exact ⟨ret_str (by rw [HU.out]), (Below.refl _ _).alloc (Nat.le_refl _) _⟩
        · rw [if_neg h0, ← hf2] at hu
          have HU := Lib.hid hu
          clear hu hb h128 h32 hf hf2 ht2
          go_wp2
          go_roundw
          case rel => exact ⟨pos + 1, m - 1, pos + 1, by omega, by omega, by omega, rfl, by go_num, by go_num, HU⟩
          case measure => simp; omega
      · have ht : ((s[pos].toNat : Int) == 32) = false := by rw [hb]; simp; omega
        rw [if_neg h32, ← hf2] at hu
        have HU := Lib.hid hu
        clear hu hb h128 h32 hf hf2
        go_wp2
        go_roundw
        case rel => exact ⟨pos + 1, m, st, by omega, hm, by omega, rfl, rfl, rfl, HU⟩
        case measure => simp; omega
    · have hnx : ∀ ty, (Instr.next (.pointer (some ⟨w.heap.size, 0, none⟩)) true ty).run Try.prog (w.iter s pos) = _ := fun ty => run_next_end w s pos ty hp
      go_wp2
      go_ret
      exact ⟨ret_str (by have := hr.out; rw [show s.size - pos = 0 by omega, wordF] at this; rw [this]), (Below.refl _ _).alloc (Nat.le_refl _) _⟩
/-- The names, with a blank between two. -/
def namesText : ByteArray := ⟨#[111, 107, 32, 105, 110, 118, 97, 108, 105, 100, 32, 114, 97, 110, 103, 101, 32, 110, 111, 116, 45, 102, 111, 117, 110, 100, 32, 102, 117, 108, 108, 32, 115, 116, 97, 116, 101, 32, 99, 111, 114, 114, 117, 112, 116, 32, 98, 97, 100, 32, 112, 111, 119, 101, 114, 32, 115, 116, 97, 108, 101, 32, 112, 97, 114, 115, 101]⟩
/-- The name of a code. -/
def nameOf (n : Nat) : ByteArray := namesText.extract (wordF namesText namesText.size 0 0 n).1 (wordF namesText namesText.size 0 0 n).2
theorem namesText_ascii : ∀ k, k < namesText.size → byteAt namesText k < 128 := by
  have h : ∀ k : Fin 67, byteAt namesText k.val < 128 := by decide +kernel
  intro k hk
  exact h ⟨k, hk⟩
theorem namesText_size : namesText.size ≤ 1000 := by decide +kernel

set_option maxRecDepth 1000000 in
theorem implName_yes (n : Nat) (w : World) (hn : n ≤ 10) :
    Calls Try.prog 29 #[.int .i64 n] w fun e w' => e = .returned (.string (nameOf n)) ∧ Below w.heap.size w w' := by
  have hd : decide (10 < (n : Int)) = false := by simp; omega
  go_enter Try.func29, Try.ntmps29
  go_wp2_with (go_at_call 48; refine (wordAt_any namesText n _ namesText_size namesText_ascii (by omega)).mono ?_; rintro e w' ⟨rfl, hb⟩)
  go_ret
  exact ⟨rfl, hb⟩
theorem implName_no (n : Int) (w : World) (hn : n < 0 ∨ 10 < n) :
    Calls Try.prog 29 #[.int .i64 n] w fun e w' => e = .returned (.string ⟨#[]⟩) ∧ Below w.heap.size w w' := by
  by_cases h1 : n < 0
  all_goals
    go_enter Try.func29, Try.ntmps29
    go_wp2
    go_ret
    exact ⟨rfl, Below.refl _ _⟩
theorem specName_no (n : Int) (w : World) (hn : n < 0 ∨ 10 < n) :
    Calls Try.prog 28 #[.int .i64 n] w fun e w' => e = .returned (.string ⟨#[]⟩) ∧ Below w.heap.size w w' := by
  go_enter Try.func28, Try.ntmps28
  go_wp2_with (go_at_call 40; refine (l00In_no _ _ _ _ hn).mono ?_; rintro e w' ⟨rfl, rfl⟩)
  go_ret
  exact ⟨rfl, Below.refl _ _⟩
/-- The names, each a text of its own. -/
def nameRow : Array Value := #[.string ⟨#[111, 107]⟩, .string ⟨#[105, 110, 118, 97, 108, 105, 100]⟩, .string ⟨#[114, 97, 110, 103, 101]⟩, .string ⟨#[110, 111, 116, 45, 102, 111, 117, 110, 100]⟩, .string ⟨#[102, 117, 108, 108]⟩, .string ⟨#[115, 116, 97, 116, 101]⟩, .string ⟨#[99, 111, 114, 114, 117, 112, 116]⟩, .string ⟨#[98, 97, 100]⟩, .string ⟨#[112, 111, 119, 101, 114]⟩, .string ⟨#[115, 116, 97, 108, 101]⟩, .string ⟨#[112, 97, 114, 115, 101]⟩]
theorem nameRow_at : ∀ n, n ≤ 10 → nameRow[n]? = some (.string (nameOf n))
  | 0, _ => by kernel_rfl
  | 1, _ => by kernel_rfl
  | 2, _ => by kernel_rfl
  | 3, _ => by kernel_rfl
  | 4, _ => by kernel_rfl
  | 5, _ => by kernel_rfl
  | 6, _ => by kernel_rfl
  | 7, _ => by kernel_rfl
  | 8, _ => by kernel_rfl
  | 9, _ => by kernel_rfl
  | 10, _ => by kernel_rfl
  | n + 11, h => by omega
theorem specNames_any (w : World) :
    Calls Try.prog 47 #[] w fun e w' => e = .returned (.slice (some ⟨w.heap.size, 0, none⟩) 11 11) ∧ w' = w.alloc (.cells nameRow 9) := by
  go_enter Try.func47, Try.ntmps47
  go_wp2
  go_ret
  exact ⟨rfl, rfl⟩
theorem specName_yes (n : Nat) (w : World) (hn : n ≤ 10) :
    Calls Try.prog 28 #[.int .i64 n] w fun e w' => e = .returned (.string (nameOf n)) ∧ Below w.heap.size w w' := by
  have hc : (w.alloc (.cells nameRow 9)).cell? ⟨w.heap.size, n, none⟩ = some (.string (nameOf n)) := by
    rw [World.cell?_alloc_at _ _ _ _ rfl]; exact nameRow_at n hn
  have hi : (n : Int) ≤ 10 := by omega
  have hb := (Below.refl w.heap.size w).alloc (Nat.le_refl _) (.cells nameRow 9)
  go_enter Try.func28, Try.ntmps28
  go_wp2_with (first
    | (go_at_call 40; refine (l00In_yes _ _ _ _ (by omega) hi).mono ?_; rintro e w' ⟨rfl, rfl⟩)
    | (go_at_call 47; refine (specNames_any _).mono ?_; rintro e w' ⟨rfl, rfl⟩))
  go_ret
  exact ⟨rfl, hb⟩
end Go.Proofs.Ytopehpnelfbboaa
