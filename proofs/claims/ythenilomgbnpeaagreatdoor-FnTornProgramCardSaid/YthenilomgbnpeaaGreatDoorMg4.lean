/- The proof's own lemmas, part 5: Pg Lfsr KeyN Key Xor. -/
import Derived.Test.YthenilomgbnpeaaGreatDoorProg
import Derived.Test.YthenilomgbnpeaaGreatDoorMg3
import Derived.Test.YthenilomgbnpeaaGreatDoorMg0
import Derived.Test.YthenilomgbnpeaaGreatDoorShelfR
import Derived.Deep.DeepMust
import Derived.Deep.RegionHeld3
import Derived.Test.YthenilomgbnpeaaGreatDoorMg1
import Derived.WalkKit
import Derived.Lib.Hide
import Derived.ProofKit
/- Pages without error correction, in the model and in the program: erased, torn, destroyed, a bit inverted: the contracts. -/
namespace Go.Proofs.YthenilomgbnpeaaGreatDoor
open Go.RowKit
set_option linter.unusedVariables false

/-- n bytes c, as a list of numbers. -/
theorem fillB_nums (c n : Nat) : strOfNums (List.replicate n (c : Int)) = fillB c n := by
  unfold strOfNums fillB
  rw [List.map_replicate]
  rfl
def FillPost (c n : Nat) (w : World) (e : Ending) (w' : World) : Prop := e = .returned (.string (fillB c n)) ∧ Below w.heap.size w w'
set_option maxRecDepth 100000 in
theorem fill_any (c n : Nat) (w : World) (hc : c < 256) (hn : n ≤ 1048576) :
    Calls Tryz.prog 65 #[.int .u8 c, .int .i64 n] w (FillPost c n w) := by
  have hni : (n : Int) ≤ 1048576 := by omega
  have hci : (c : Int) < 256 := by omega
  go_enter Tryz.func65, Tryz.ntmps65
  go_wp2
  go_loopw [5, 6] (fun u i wr => ∃ k : Nat, k ≤ n ∧ i = .int .i64 k ∧ BytesOwn wr w.heap.size u (List.replicate k (c : Int)) ∧ Below w.heap.size w wr) (fun _ i _ => n - (intOf i).toNat)
  case atStart => exact ⟨0, by omega, rfl, BytesOwn.made w (Nat.le_refl _), (Below.refl _ _).alloc (Nat.le_refl _) _⟩
  case round =>
    obtain ⟨k, hk, rfl, hown, hb⟩ := hrel
    have hz := hb.size
    by_cases hlt : k < n
    · have hki : (k : Int) < (n : Int) := by omega
      go_wp2_with (at_builtin; refine wpList_append_byte rfl _ _ rfl _ _ rfl hown hb hz _ _ rfl (by simp; omega) ?_; intro v' w1 hown' hb'; clear hown hb)
      go_roundw
      case rel => exact ⟨k + 1, by omega, by go_num, by rw [List.replicate_succ']; exact hown', hb'⟩
      case measure => simp [intOf]; omega
    · obtain rfl : k = n := by omega
      have hcv := bytes_str hown
      rw [fillB_nums] at hcv
      clear hown
      go_wp2
      go_ret
      exact ⟨rfl, hb⟩
theorem repeatExtra : Go.Proofs.Builder.Extra Tryz.prog Tryz.laysRepeat_ren := {
  sizeBuilder := by kernel_rfl
  liesBuilder := by kernel_rfl
  t5 := Tryz.laysRepeat.t5
  a5 := Tryz.laysRepeat.a5
  z5 := Tryz.laysRepeat.z5
  v5 := Tryz.laysRepeat.v5
  infoByte := by kernel_rfl
  cellsByte := by kernel_rfl
  sizeByte := by kernel_rfl
  neB5 := by decide }
theorem repeat_any (c n : Nat) (w : World) (hn : n ≤ 1048576) :
    Calls Tryz.prog 76 #[.string (strOfNums [(c : Int)]), .int .i64 n] w (FillPost c n w) := by
  have h := Go.Proofs.Any.strings_Repeat Tryz.laysRepeat repeatExtra (strOfNums [(c : Int)]) n w (by omega) (by rw [strOfNums_size]; simp; omega)
  refine Calls.mono (show Calls Tryz.prog 76 _ _ _ from h) ?_
  rintro e w' ⟨rfl, hb⟩
  refine ⟨ret_str ?_, hb⟩
  unfold fillB strOfNums
  simp only [List.map_cons, List.map_nil]
  apply ByteArray.ext
  show (Lib.repeatL [UInt8.ofNat (c : Int).toNat] n).toArray = (List.replicate n (UInt8.ofNat c)).toArray
  rw [Int.toNat_natCast]
  congr 1
  clear h hb hn
  induction n with
  | zero => rfl
  | succ n ih => simp only [Lib.repeatL, ih, List.replicate_succ]; rfl
theorem specErased_any (w : World) : Calls Tryz.prog 48 #[] w (FillPost 255 91 w) := by
  go_enter Tryz.func48, Tryz.ntmps48
  go_wp2_with fail
  refine (fill_any 255 91 w (by omega) (by omega)).mono ?_
  rintro e w1 ⟨rfl, hb⟩
  go_wp2
  go_ret
  exact ⟨rfl, hb⟩
theorem specDestroyed_any (w : World) : Calls Tryz.prog 113 #[] w (FillPost 0 91 w) := by
  go_enter Tryz.func113, Tryz.ntmps113
  go_wp2_with fail
  refine (fill_any 0 91 w (by omega) (by omega)).mono ?_
  rintro e w1 ⟨rfl, hb⟩
  go_wp2
  go_ret
  exact ⟨rfl, hb⟩
theorem implErased_any (w : World) : Calls Tryz.prog 60 #[] w (FillPost 255 91 w) := by
  go_enter Tryz.func60, Tryz.ntmps60
  go_wp2_with fail
  refine (repeat_any 255 91 w (by omega)).mono ?_
  rintro e w1 ⟨rfl, hb⟩
  go_wp2
  go_ret
  exact ⟨rfl, hb⟩
theorem implDestroyed_any (w : World) : Calls Tryz.prog 74 #[] w (FillPost 0 91 w) := by
  go_enter Tryz.func74, Tryz.ntmps74
  go_wp2_with fail
  refine (repeat_any 0 91 w (by omega)).mono ?_
  rintro e w1 ⟨rfl, hb⟩
  go_wp2
  go_ret
  exact ⟨rfl, hb⟩
set_option maxRecDepth 100000 in
theorem torn_any (raw : ByteArray) (k : Nat) (w : World) (hr : raw.size = 91) (hk : k ≤ 91) :
    Calls Tryz.prog 46 #[.string raw, .int .i64 k] w fun e w' => e = .returned (.string (tornB raw k)) ∧ Below w.heap.size w w' := by
  have HS := Lib.hid (tornB_size hr hk)
  have hki : (k : Int) ≤ 91 := by omega
  have hkr : (k : Int) ≤ (raw.size : Int) := by omega
  have e : IntKind.i64.wrap ((91 : Int) - (k : Int)) = ((91 - k : Nat) : Int) := by rw [IntKind.wrap_i64]; omega
  have HF := Lib.hid (fun (W : World) => (show Calls Tryz.prog 65 #[.int .u8 255, .int .i64 (IntKind.i64.wrap (91 - (k : Int)))] W (FillPost 255 (91 - k) W) by rw [e]; exact fill_any 255 (91 - k) W (by omega) (by omega)))
  have h1 := fillB_size 255 (91 - k)
  clear e
  go_enter Tryz.func46, Tryz.ntmps46
  go_wp2_with fail
  go_region_held3 (fun w' => Below w.heap.size w w')
    (first
      | exact (Below.refl _ _).drew
      | exact (Below.refl w.heap.size w).drew.trans hb1)
    (first
      | (go_at_call 65
         refine (HF.out _).mono ?_
         rintro e w1 ⟨rfl, hb1⟩))
  rename_i hS1
  go_wp2
  go_ret
  exact ⟨rfl, hS1⟩
theorem fillB_extract (c n k : Nat) : (fillB c n).extract k n = fillB c (n - k) := by
  apply ByteArray.ext
  unfold fillB
  simp
/-- What TornPage answers. -/
inductive TornEnds (raw : ByteArray) (k : Int) : ByteArray → Int → Prop
  | invalid (h : raw.size ≠ 91) : TornEnds raw k ⟨#[]⟩ 1
  | range (h : raw.size = 91) (h1 : ¬ (0 ≤ k ∧ k ≤ 91)) : TornEnds raw k ⟨#[]⟩ 2
  | done (h : raw.size = 91) (n : Nat) (hn : k = n) (h1 : n ≤ 91) : TornEnds raw k (tornB raw n) 0
theorem tornEnds (raw : ByteArray) (k : Int) : ∃ s c, TornEnds raw k s c := by
  by_cases h : raw.size = 91
  case neg => exact ⟨_, _, .invalid h⟩
  by_cases h1 : 0 ≤ k ∧ k ≤ 91
  case neg => exact ⟨_, _, .range h h1⟩
  exact ⟨_, _, .done h k.toNat (by omega) (by omega)⟩
def PairPost (s : ByteArray) (c : Int) (w : World) (e : Ending) (w' : World) : Prop := e = .returned (.tuple #[.string s, .int .i64 c]) ∧ Below w.heap.size w w'
theorem validKeep_any (k : Int) (b : Bool) (w : World) (hb : b = true ↔ (0 ≤ k ∧ k ≤ 91)) : Calls Tryz.prog 24 #[.int .i64 k] w fun e w' => e = .returned (.bool b) ∧ w = w' := by
  by_cases h1 : 0 ≤ k
  · have d1 : decide (0 ≤ k) = true := by simp; omega
    have d2 : decide (k ≥ 0) = true := by simp; omega
    go_enter Tryz.func24, Tryz.ntmps24
    go_wp2
    go_ret
    exact ⟨ret_bool (by rw [Bool.eq_iff_iff, hb]; simp [h1]), rfl⟩
  · have d1 : decide (0 ≤ k) = false := by simp; omega
    have d2 : decide (k ≥ 0) = false := by simp; omega
    go_enter Tryz.func24, Tryz.ntmps24
    go_wp2
    go_ret
    exact ⟨ret_bool (by rw [Bool.eq_iff_iff, hb]; simp; omega), rfl⟩
set_option maxRecDepth 100000 in
theorem implTorn_any (raw : ByteArray) (k : Int) (s : ByteArray) (c : Int) (w : World) (hs : raw.size ≤ 9223372036854775807) (h : TornEnds raw k s c) :
    Calls Tryz.prog 75 #[.string raw, .int .i64 k] w (PairPost s c w) := by
  rcases h with h | ⟨h, h1⟩ | ⟨h, n, rfl, h1⟩
  · have hd : ((raw.size : Int) != 91) = true := by simp; omega
    go_enter Tryz.func75, Tryz.ntmps75
    go_wp2
    go_ret2
    exact ⟨rfl, Below.refl _ _⟩
  · have hd : ((raw.size : Int) != 91) = false := by rw [h]; rfl
    go_enter Tryz.func75, Tryz.ntmps75
    go_wp2_with fail
    refine (validKeep_any k false w (by simp; omega)).mono ?_
    rintro e w' ⟨rfl, rfl⟩
    go_wp2
    go_ret2
    exact ⟨rfl, Below.refl _ _⟩
  · have hd : ((raw.size : Int) != 91) = false := by rw [h]; rfl
    have HI := Lib.hid (fun (W : World) => validKeep_any (n : Int) true W (by simp; omega))
    have HT := Lib.hid (show raw.extract 0 n ++ (fillB 255 91).extract n 91 = tornB raw n by
      unfold tornB
      rw [fillB_extract])
    have HS := Lib.hid (tornB_size h h1)
    generalize tornB raw n = t at *
    have hni : (n : Int) ≤ 91 := by omega
    have hr : (n : Int) ≤ (raw.size : Int) := by omega
    have h9 := fillB_size 255 91
    generalize hq : fillB 255 91 = q at *
    have HQ0 := Lib.hid hq
    clear hq
    go_enter Tryz.func75, Tryz.ntmps75
    go_wp2_with fail
    refine (HI.out _).mono ?_
    rintro e w' ⟨rfl, rfl⟩
    go_wp2_with fail
    have HE := Lib.hid (fun (W : World) => implErased_any W)
    have HQ := Lib.hid (show fillB 255 91 = q from HQ0.out)
    go_region_held3 (fun w' => Below w.heap.size w w')
      (first
        | exact (Below.refl _ _).drew
        | exact (Below.refl w.heap.size w).drew.trans hb1)
      (first
        | (go_at_call 60
           refine (HE.out _).mono ?_
           rintro e w1 ⟨rfl, hb1⟩
           rw [HQ.out]))
    rename_i hS1
    go_wp2
    go_ret2
    exact ⟨by rw [HT.out]; rfl, hS1⟩
end Go.Proofs.YthenilomgbnpeaaGreatDoor
/- The register's functions, in the model and in the program: their contracts. -/
namespace Go.Proofs.YthenilomgbnpeaaGreatDoor
open Go.RowKit


theorem l00In_any (n lo hi : Int) (w : World) :
    Calls Tryz.prog 32 #[.int .i64 n, .int .i64 lo, .int .i64 hi] w fun e w' => e = .returned (.bool (decide (lo ≤ n ∧ n ≤ hi))) ∧ w = w' := by
  by_cases h1 : lo ≤ n
  all_goals by_cases h2 : n ≤ hi
  all_goals
    go_enter Tryz.func32, Tryz.ntmps32
    go_wp2
    go_ret
    exact ⟨ret_bool (by simp [h1, h2]), rfl⟩

theorem nextState_any (s : Nat) (w : World) (h : s < 65536) :
    Calls Tryz.prog 70 #[.int .u16 s] w fun e w' => e = .returned (.int .u16 (stepN s)) ∧ w = w' := by
  have h1 : (s : Int) ≤ 65535 := by omega
  have ha := and1_u16 s h
  have hx := xor_step_u16 s h
  by_cases ho : s % 2 = 1
  · have hb : (bits .and .u16 (s : Int) 1 == 1) = true := by rw [ha, ho]; rfl
    have hX := Lib.hid hx; clear hx ha
    go_enter Tryz.func70, Tryz.ntmps70
    go_wp2
    go_ret
    exact ⟨ret_int (by rw [hX.out, stepN_odd ho]), rfl⟩
  · have hb : (bits .and .u16 (s : Int) 1 == 1) = false := by rw [ha]; simp; omega
    clear hx ha
    go_enter Tryz.func70, Tryz.ntmps70
    go_wp2
    go_ret
    exact ⟨ret_int (by rw [stepN_even ho]; simp), rfl⟩
theorem l02Step_any (s : Nat) (w : World) (h : s < 65536) :
    Calls Tryz.prog 102 #[.int .i64 s] w fun e w' => e = .returned (.int .i64 (stepN s)) ∧ w = w' := by
  have h1 : (s : Int) ≤ 65535 := by omega
  have ha := and1_i64 s (by omega)
  have hx := xor_step_i64 s h
  by_cases ho : s % 2 = 1
  · have hb : (bits .and .i64 (s : Int) 1 == 1) = true := by rw [ha, ho]; rfl
    have hX := Lib.hid hx; clear hx ha
    go_enter Tryz.func102, Tryz.ntmps102
    go_wp2
    go_ret
    exact ⟨ret_int (by rw [hX.out, stepN_odd ho]), rfl⟩
  · have hb : (bits .and .i64 (s : Int) 1 == 1) = false := by rw [ha]; simp; omega
    clear hx ha
    go_enter Tryz.func102, Tryz.ntmps102
    go_wp2
    go_ret
    exact ⟨ret_int (by rw [stepN_even ho]; simp), rfl⟩

theorem l00In_yes (n lo hi : Int) (w : World) (h1 : lo ≤ n) (h2 : n ≤ hi) :
    Calls Tryz.prog 32 #[.int .i64 n, .int .i64 lo, .int .i64 hi] w fun e w' => e = .returned (.bool true) ∧ w = w' :=
  (l00In_any n lo hi w).mono fun _ _ ⟨he, hw⟩ => ⟨by rw [he]; exact ret_bool (by simp [h1, h2]), hw⟩
theorem l00In_no (n lo hi : Int) (w : World) (h : n < lo ∨ hi < n) :
    Calls Tryz.prog 32 #[.int .i64 n, .int .i64 lo, .int .i64 hi] w fun e w' => e = .returned (.bool false) ∧ w = w' :=
  (l00In_any n lo hi w).mono fun _ _ ⟨he, hw⟩ => ⟨by rw [he]; exact ret_bool (by simp; omega), hw⟩
theorem implValid_yes (n : Int) (w : World) (h1 : 1 ≤ n) (h2 : n ≤ 65535) :
    Calls Tryz.prog 69 #[.int .i64 n] w fun e w' => e = .returned (.bool true) ∧ w = w' := by
  go_enter Tryz.func69, Tryz.ntmps69
  go_wp2
  go_ret
  exact ⟨ret_bool (by first | rfl | (simp; done) | (simp; omega)), rfl⟩
theorem implValid_no (n : Int) (w : World) (h : n < 1 ∨ 65535 < n) :
    Calls Tryz.prog 69 #[.int .i64 n] w fun e w' => e = .returned (.bool false) ∧ w = w' := by
  by_cases h1 : 1 ≤ n
  all_goals
    go_enter Tryz.func69, Tryz.ntmps69
    go_wp2
    go_ret
    exact ⟨ret_bool (by first | rfl | (simp; omega)), rfl⟩
theorem implSeed_yes (n : Int) (w : World) (h0 : 0 ≤ n) (h : n ≤ 65534) :
    Calls Tryz.prog 53 #[.int .i64 n] w fun e w' => e = .returned (.int .i64 (n + 1)) ∧ w = w' := by
  go_enter Tryz.func53, Tryz.ntmps53
  go_wp2
  go_ret
  exact ⟨rfl, rfl⟩
theorem implSeed_no (n : Int) (w : World) (h : n < 0 ∨ 65534 < n) :
    Calls Tryz.prog 53 #[.int .i64 n] w fun e w' => e = .returned (.int .i64 0) ∧ w = w' := by
  by_cases h1 : n < 0
  all_goals
    go_enter Tryz.func53, Tryz.ntmps53
    go_wp2
    go_ret
    exact ⟨rfl, rfl⟩
end Go.Proofs.YthenilomgbnpeaaGreatDoor
/- Plain facts on the keystream: the states of the register one after the other, eight bits a byte. -/
namespace Go.Proofs.YthenilomgbnpeaaGreatDoor
open Go.RowKit

/-- The state k steps on. -/
def stepI (s : Nat) : Nat → Nat
  | 0 => s
  | k + 1 => stepN (stepI s k)
theorem stepI_lt (s : Nat) (h : s < 65536) : ∀ k, stepI s k < 65536
  | 0 => h
  | k + 1 => stepN_lt _ (stepI_lt s h k)
theorem stepI_add (s j : Nat) : ∀ k, stepI s (j + k) = stepI (stepI s j) k
  | 0 => rfl
  | k + 1 => by rw [← Nat.add_assoc]; show stepN _ = stepN _; rw [stepI_add s j k]
/-- The number of the first k bits from a state on. -/
def keyP (s : Nat) : Nat → Nat
  | 0 => 0
  | k + 1 => keyP s k + stepI s k % 2 * 2 ^ k
theorem keyP_lt (s : Nat) : ∀ k, keyP s k < 2 ^ k
  | 0 => by simp [keyP]
  | k + 1 => by
    have h := keyP_lt s k
    have h2 : stepI s k % 2 * 2 ^ k ≤ 1 * 2 ^ k := Nat.mul_le_mul_right _ (by omega)
    rw [keyP, Nat.pow_succ]
    omega
theorem keyP_or (s k : Nat) : keyP s k ||| stepI s k % 2 * 2 ^ k = keyP s (k + 1) := by
  have := Nat.two_pow_add_eq_or_of_lt (keyP_lt s k) (stepI s k % 2)
  rw [Nat.or_comm, Nat.mul_comm (stepI s k % 2), ← this, keyP, Nat.add_comm, Nat.mul_comm]
theorem bit_lt (x : Nat) {k : Nat} (h : k < 8) : x % 2 * 2 ^ k < 256 := by
  have h1 : x % 2 * 2 ^ k ≤ 1 * 2 ^ k := Nat.mul_le_mul_right _ (by omega)
  have h2 : (2 : Nat) ^ k ≤ 2 ^ 7 := Nat.pow_le_pow_right (by decide) (by omega)
  omega
theorem keyP_256 (s : Nat) {k : Nat} (h : k ≤ 8) : keyP s k < 256 := by
  have h1 := keyP_lt s k
  have h2 : (2 : Nat) ^ k ≤ 2 ^ 8 := Nat.pow_le_pow_right (by decide) h
  omega
theorem cast_bit (x k : Nat) : ((x % 2 : Nat) : Int) * 2 ^ k = ((x % 2 * 2 ^ k : Nat) : Int) := by
  rw [Int.natCast_mul, Int.natCast_pow]; rfl
/-- One round of the model's inner loop. -/
theorem key_spec (s k : Nat) (hk : k < 8) (h : stepI s k < 65536) :
    bits .or .i64 ((keyP s k : Nat) : Int) (wrap64 (bits .and .i64 ((stepI s k : Nat) : Int) 1 * 2 ^ k)) = ((keyP s (k + 1) : Nat) : Int) := by
  have h1 := bit_lt (stepI s k) hk
  have h2 := keyP_256 s (k := k) (by omega)
  rw [and1_i64 _ (by omega), cast_bit, IntWalk.wrap64_in _ (by omega), i64_or_nat _ _ (by omega) (by omega), keyP_or]
/-- One round of the program's inner loop. -/
theorem key_impl (s k : Nat) (hk : k < 8) (h : stepI s k < 65536) :
    bits .or .u8 ((keyP s k : Nat) : Int) (bits .and .u16 ((stepI s k : Nat) : Int) 1 % 256 * 2 ^ k % 256) = ((keyP s (k + 1) : Nat) : Int) := by
  have h1 := bit_lt (stepI s k) hk
  have h2 := keyP_256 s (k := k) (by omega)
  rw [and1_u16 _ h, show (((stepI s k % 2 : Nat) : Int)) % 256 = ((stepI s k % 2 : Nat) : Int) by omega, cast_bit, show (((stepI s k % 2 * 2 ^ k : Nat) : Int)) % 256 = ((stepI s k % 2 * 2 ^ k : Nat) : Int) by omega,
    u8_or_nat _ _ h2 h1, keyP_or]
theorem set_mid (l r : List Int) (x y : Int) (k : Nat) (h : l.length = k) : (l ++ x :: r).set k y = l ++ y :: r := by
  rw [List.set_append_right _ _ (by omega), h, Nat.sub_self, List.set_cons_zero]
/-- The bytes of the stream. -/
def streamL (s : Nat) : Nat → List Int
  | 0 => []
  | n + 1 => streamL s n ++ [((keyP (stepI s (8 * n)) 8 : Nat) : Int)]
theorem streamL_length (s : Nat) : ∀ n, (streamL s n).length = n
  | 0 => rfl
  | n + 1 => by simp [streamL, streamL_length s n]
end Go.Proofs.YthenilomgbnpeaaGreatDoor
/- The keystream, in the model and in the program: the contracts. -/
namespace Go.Proofs.YthenilomgbnpeaaGreatDoor
open Go.RowKit

theorem specStream_any (s m : Nat) (w : World) (h : s < 65536) (hm : m ≤ 1048576) :
    Calls Tryz.prog 82 #[.int .i64 s, .int .i64 m] w fun e w' => e = .returned (.string (strOfNums (streamL s m))) ∧ Below w.heap.size w w' := by
  go_enter Tryz.func82, Tryz.ntmps82
  go_wp2
  go_loopw [0, 5, 6] (fun u v i wr => ∃ k : Nat, k ≤ m ∧ i = .int .i64 k ∧ u = .int .i64 (stepI s (8 * k) : Nat) ∧ BytesOwn wr w.heap.size v (streamL s k) ∧ Below w.heap.size w wr) (fun _ _ i _ => m - (intOf i).toNat)
  case atStart => exact ⟨0, Nat.zero_le _, rfl, rfl, BytesOwn.made _ (Nat.le_refl _), (Below.refl _ _).alloc (Nat.le_refl _) _⟩
  case round =>
    obtain ⟨k, hk, rfl, rfl, hown, hb⟩ := hrel
    have hz := hb.size
    have hlen := streamL_length s k
    obtain ⟨t, ht⟩ : ∃ t, t = stepI s (8 * k) := ⟨_, rfl⟩
    have htl : t < 65536 := by rw [ht]; exact stepI_lt s h _
    rw [← ht]
    have HT := Lib.hid ht
    clear ht
    by_cases hlt : k < m
    · go_wp2
      obtain ⟨wo, hwo⟩ : ∃ wo : World, wo = wr := ⟨_, rfl⟩
      subst hwo
      go_loop [0, 7, 8] (fun u b j => ∃ i : Nat, i ≤ 8 ∧ j = .int .i64 i ∧ u = .int .i64 (stepI t i : Nat) ∧ b = .int .i64 (keyP t i : Nat)) (fun _ _ j => 8 - (intOf j).toNat)
      case atStart => exact ⟨0, by omega, rfl, rfl, rfl⟩
      case round =>
        obtain ⟨i, hi, rfl, rfl, rfl⟩ := hrel
        have hsl := stepI_lt t htl i
        by_cases hi8 : i < 8
        · have hks := key_spec t i hi8 hsl
          go_wp2_with (go_at_call 102; refine (l02Step_any _ _ hsl).mono ?_; rintro e w' ⟨rfl, rfl⟩)
          go_round
          case rel => exact ⟨i + 1, by omega, by go_num, rfl, rfl⟩
          case measure => simp [intOf]; omega
        · obtain rfl : i = 8 := by omega
          have hkb := keyP_256 t (k := 8) (by omega)
          go_wp2_with (at_builtin; refine wpList_append_byte rfl _ _ rfl _ _ rfl hown hb hz _ _ rfl (by omega) ?_; intro v' w1 hown' hb'; clear hown hb)
          rw [HT.out] at hown'
          go_roundw
          case rel => exact ⟨k + 1, by omega, by go_num, by rw [HT.out, ← stepI_add]; rfl, hown', hb'⟩
          case measure => simp [intOf]; omega
    · have hcv := bytes_str hown
      go_wp2
      go_ret
      exact ⟨ret_str (by rw [show m = k by omega]), hb⟩
set_option maxRecDepth 100000 in
theorem implKey_yes (s m : Nat) (w : World) (h1 : 1 ≤ s) (h : s < 65536) (hm : m ≤ 256) :
    Calls Tryz.prog 52 #[.int .i64 s, .int .i64 m] w fun e w' => e = .returned (.tuple #[.string (strOfNums (streamL s m)), .int .i64 0]) ∧ Below w.heap.size w w' := by
  have hs1 : (s : Int) ≤ 65535 := by omega
  have hd : decide (256 < (m : Int)) = false := by simp; omega
  go_enter Tryz.func52, Tryz.ntmps52
  go_wp2_with (first
    | (go_at_call 69; refine (implValid_yes _ _ (by omega) (by omega)).mono ?_; rintro e w' ⟨rfl, rfl⟩)
    | (refine wpList_make_bytes rfl _ _ rfl _ _ _ _ m rfl rfl rfl rfl (by omega) (Below.refl _ _) (Nat.le_refl _) ?_; intro w1 hown hb))
  go_loopw [7, 27] (fun u i wr => ∃ k : Nat, k ≤ m ∧ i = .int .i64 k ∧ u = .int .u16 (stepI s (8 * k) : Nat) ∧ BytesOwn wr w.heap.size (.slice (some ⟨w.heap.size, 0, none⟩) m m) (streamL s k ++ List.replicate (m - k) 0) ∧ Below w.heap.size w wr) (fun _ i _ => m - (intOf i).toNat)
  case atStart => exact ⟨0, Nat.zero_le _, rfl, rfl, by simpa [streamL] using hown, hb⟩
  case round =>
    obtain ⟨k, hk, rfl, rfl, hown, hb⟩ := hrel
    have hlen := streamL_length s k
    obtain ⟨t, ht⟩ : ∃ t, t = stepI s (8 * k) := ⟨_, rfl⟩
    have htl : t < 65536 := by rw [ht]; exact stepI_lt s h _
    rw [← ht]
    have HT := Lib.hid ht
    clear ht
    by_cases hlt : k < m
    · have e0 : streamL s k ++ List.replicate (m - k) 0 = streamL s k ++ ((keyP t 0 : Nat) : Int) :: List.replicate (m - (k + 1)) 0 := by
        rw [show m - k = (m - (k + 1)) + 1 by omega, List.replicate_succ]; rfl
      rw [e0] at hown
      clear e0
      go_wp2
      obtain ⟨wo, hwo⟩ : ∃ wo : World, wo = wr := ⟨_, rfl⟩
      subst hwo
      go_loopw [7, 30] (fun u j wi => ∃ i : Nat, i ≤ 8 ∧ j = .int .i64 i ∧ u = .int .u16 (stepI t i : Nat) ∧ BytesOwn wi w.heap.size (.slice (some ⟨w.heap.size, 0, none⟩) m m) (streamL s k ++ ((keyP t i : Nat) : Int) :: List.replicate (m - (k + 1)) 0) ∧ Below w.heap.size w wi) (fun _ j _ => 8 - (intOf j).toNat)
      case atStart => exact ⟨0, by omega, rfl, rfl, hown, hb⟩
      case round =>
        clear hown hb
        obtain ⟨i, hi, rfl, rfl, hown, hb⟩ := hrel
        have hsl := stepI_lt t htl i
        have hlm : (streamL s k ++ ((keyP t i : Nat) : Int) :: List.replicate (m - (k + 1)) 0).length = m := by simp [hlen]; omega
        have hcell := hown.cell (j := k) hlm hlt
        rw [List.getD_eq_getElem?_getD, List.getElem?_append_right (by omega), hlen, Nat.sub_self] at hcell
        have hfree := hown.free hlm k
        by_cases hi8 : i < 8
        · simp only [List.getElem?_cons_zero, Option.getD_some] at hcell
          have HE := Lib.hid (key_impl t i hi8 hsl)
          have hnext := hown.stored hlm k (bits .or .u8 ((keyP t i : Nat) : Int) (bits .and .u16 ((stepI t i : Nat) : Int) 1 % 256 * 2 ^ i % 256))
          rw [set_mid _ _ _ _ _ hlen] at hnext
          have hbn := hb.setCell (p := ⟨w.heap.size, k, none⟩) (Nat.le_refl _) (.int .u8 (bits .or .u8 ((keyP t i : Nat) : Int) (bits .and .u16 ((stepI t i : Nat) : Int) 1 % 256 * 2 ^ i % 256)))
          clear hown hb hlm
          go_wp2
          go_region
          go_wp2_with (go_at_call 70; refine (nextState_any _ _ hsl).mono ?_; rintro e w' ⟨rfl, rfl⟩)
          go_roundw
          case rel => exact ⟨i + 1, by omega, by go_num, rfl, by rw [← HE.out]; exact hnext.drew, hbn.drew⟩
          case measure => simp [intOf]; omega
        · obtain rfl : i = 8 := by omega
          clear hcell hfree hlm
          go_wp2
          go_roundw
          case rel => exact ⟨k + 1, by omega, by go_num, by rw [HT.out, ← stepI_add]; rfl, by rw [HT.out] at hown; simpa [streamL] using hown, hb⟩
          case measure => simp [intOf]; omega
    · have hcv := bytes_str hown
      go_wp2
      go_ret2
      exact ⟨by rw [show m = k by omega]; simp, hb⟩
theorem implKey_no (s m : Int) (w : World) (h : (s < 1 ∨ 65535 < s) ∨ m < 0 ∨ 256 < m) :
    Calls Tryz.prog 52 #[.int .i64 s, .int .i64 m] w fun e w' => e = .returned (.tuple #[.string ⟨#[]⟩, .int .i64 2]) ∧ Below w.heap.size w w' := by
  by_cases hs : s < 1 ∨ 65535 < s
  · clear h
    go_enter Tryz.func52, Tryz.ntmps52
    go_wp2_with (go_at_call 69; refine (implValid_no _ _ hs).mono ?_; rintro e w' ⟨rfl, rfl⟩)
    go_ret2
    exact ⟨rfl, Below.refl _ _⟩
  · have hs1 : 1 ≤ s := by omega
    have hs2 : s ≤ 65535 := by omega
    by_cases hm : m < 0
    · have hm' : decide (m < 0) = true := by simpa using hm
      clear h hs
      go_enter Tryz.func52, Tryz.ntmps52
      go_wp2_with (go_at_call 69; refine (implValid_yes _ _ hs1 hs2).mono ?_; rintro e w' ⟨rfl, rfl⟩)
      go_ret2
      exact ⟨rfl, Below.refl _ _⟩
    · have hm1 : 256 < m := by omega
      have hm' : decide (m < 0) = false := by simpa using hm
      have hm'' : decide (256 < m) = true := by simpa using hm1
      clear h hs
      go_enter Tryz.func52, Tryz.ntmps52
      go_wp2_with (go_at_call 69; refine (implValid_yes _ _ hs1 hs2).mono ?_; rintro e w' ⟨rfl, rfl⟩)
      go_ret2
      exact ⟨rfl, Below.refl _ _⟩
end Go.Proofs.YthenilomgbnpeaaGreatDoor
/- The exclusive or of two texts, in the model. -/
namespace Go.Proofs.YthenilomgbnpeaaGreatDoor
open Go.RowKit

/-- The first k bytes of the exclusive or. -/
def xorL (a b : ByteArray) : Nat → List Int
  | 0 => []
  | k + 1 => xorL a b k ++ [((byteAt a k ^^^ byteAt b k : Nat) : Int)]
theorem xorL_length (a b : ByteArray) : ∀ k, (xorL a b k).length = k
  | 0 => rfl
  | k + 1 => by simp [xorL, xorL_length a b k]

set_option maxRecDepth 100000 in
theorem specXor_any (a b : ByteArray) (w : World) (hab : a.size = b.size) (ha : a.size ≤ 1048576) :
    Calls Tryz.prog 81 #[.string a, .string b] w fun e w' => e = .returned (.string (strOfNums (xorL a b a.size))) ∧ Below w.heap.size w w' := by
  go_enter Tryz.func81, Tryz.ntmps81
  go_wp2
  go_loopw [5, 6] (fun v i wr => ∃ k : Nat, k ≤ a.size ∧ i = .int .i64 k ∧ BytesOwn wr w.heap.size v (xorL a b k) ∧ Below w.heap.size w wr) (fun _ i _ => a.size - (intOf i).toNat)
  case atStart => exact ⟨0, Nat.zero_le _, rfl, BytesOwn.made _ (Nat.le_refl _), (Below.refl _ _).alloc (Nat.le_refl _) _⟩
  case round =>
    obtain ⟨k, hk, rfl, hown, hb⟩ := hrel
    have hz := hb.size
    have hlen := xorL_length a b k
    by_cases hlt : k < a.size
    · have hlt2 : k < b.size := by omega
      have hi1 : (k : Int) < (a.size : Int) := by omega
      have hi2 : (k : Int) < (b.size : Int) := by omega
      have HX : Hid (bits .xor .u8 (a[k].toNat : Int) (b[k].toNat : Int) = ((byteAt a k ^^^ byteAt b k : Nat) : Int)) := by
        have h1 := byteAt_le a k
        have h2 := byteAt_le b k
        rw [byteAt_eq hlt, byteAt_eq hlt2]; exact u8_xor_nat _ _ (by omega) (by omega)
      go_wp2
      have hcell : ∀ (W : World) (x : Value), (W.alloc (.cells #[x] 5)).cell? ⟨W.heap.size, 0, none⟩ = some x := fun W x => by rw [World.cell?_alloc_at _ _ _ _ rfl]; rfl
      have HC := Lib.hid hcell
      clear hcell
      go_region_law (refine step_append_byte rfl (.tmp 14) (.tmp 22) rfl u5 _ (by simp [Act.eval]) ((hown.alloc _).drew) ((hb.alloc hz _).drew) (by simp; omega) wr.heap.size 1 (bits .xor .u8 (a[k].toNat : Int) (b[k].toNat : Int)) (by simp [Act.eval]) (HC.out _ _) (by omega) ?_; intro v' w1 hown' hb')
      all_goals
        rw [HX.out] at hown'
        go_wp2
        go_roundw
        case rel => exact ⟨k + 1, by omega, by go_num, hown', hb'⟩
        case measure => simp [intOf]; omega
    · have hcv := bytes_str hown
      go_wp2
      go_ret
      exact ⟨ret_str (by rw [show a.size = k by omega]), hb⟩
end Go.Proofs.YthenilomgbnpeaaGreatDoor
