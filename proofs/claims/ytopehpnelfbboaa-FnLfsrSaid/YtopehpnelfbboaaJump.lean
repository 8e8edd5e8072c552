/- Jumps of the register, in the model and in the program: the contracts. -/
import Derived.Test.YtopehpnelfbboaaProg
import Derived.Test.YtopehpnelfbboaaLfsr
import Derived.Test.YtopehpnelfbboaaMat
namespace Go.Proofs.Ytopehpnelfbboaa
open Go.RowKit

set_option maxRecDepth 100000 in
theorem implJump_yes (s n : Nat) (w : World) (h1 : 1 ≤ s) (h : s < 65536) (hn : n ≤ 9223372036854775807) :
    Calls Try.prog 23 #[.int .i64 s, .int .i64 n] w fun e w' => e = .returned (.int .i64 (stepI s (n % 65535) : Nat)) ∧ Below w.heap.size w w' := by
  have hmf : ∀ (fn : Fn) (first cap : Array Value) (w : World), (Instr.makeFunc fn first cap).run Try.prog w = .ok (.func fn first cap) w := fun _ _ _ _ => rfl
  obtain ⟨r, hr⟩ : ∃ r, r = n % 65535 := ⟨_, rfl⟩
  have hrl : r < 65535 := by omega
  have he : (n : Int) % 65535 = (r : Int) := by omega
  have hs1 : (s : Int) ≤ 65535 := by omega
  rw [← hr]
  clear hr
  go_enter Try.func23, Try.ntmps23
  go_wp2_with (first
    | (go_at_call 41; refine (implValid_yes _ _ (by omega) (by omega)).mono ?_; rintro e w' ⟨rfl, rfl⟩)
    | (go_at_call 43; refine (matOf_next _).mono ?_; rintro e w1 ⟨rfl, hb1⟩)
    | (refine wpList_store_row rfl 58 _ _ rfl _ _ rfl rfl _ _ (Arr.new w1 58 .u16 (List.replicate 16 0)) (info16' (cols_length 1)) (by simp [cols_length]) (one16 _) ?_))
  have hb0 := below_setRow (hb1.alloc hb1.size (.cells ((List.replicate 16 (0 : Int)).map (Value.int .u16)).toArray 58)) (g := w1.heap.size) hb1.size ((cols 1).map (Value.int .u16)).toArray
  have hA0 := (Arr.new w1 58 .u16 (List.replicate 16 0)).row (cols 1)
  have hz1 := hb1.size
  go_loopw [6, 21] (fun u i wr => ∃ b : Nat, b ≤ 16 ∧ i = .int .i64 b ∧ u = .int .u16 (stepI s (r % 2 ^ b) : Nat) ∧ Arr wr w1.heap.size 58 .u16 (cols (2 ^ b)) ∧ Below w.heap.size w wr) (fun _ i _ => 16 - (intOf i).toNat)
  case atStart => exact ⟨0, by omega, rfl, by rw [Nat.pow_zero, Nat.mod_one]; rfl, hA0, hb0⟩
  case round =>
    clear hA0 hb0 he
    obtain ⟨b, hb16, rfl, rfl, hA, hb⟩ := hrel
    obtain ⟨t, ht⟩ : ∃ t, t = stepI s (r % 2 ^ b) := ⟨_, rfl⟩
    have htl : t < 65536 := by rw [ht]; exact stepI_lt s h _
    rw [← ht]
    have HT := Lib.hid ht
    clear ht
    by_cases hlt : b < 16
    · have hbit := bit_i64 r b (by omega)
      obtain ⟨M, hM⟩ : ∃ M, M = 2 ^ b := ⟨_, rfl⟩
      rw [← hM] at hA
      have hmod : r % 2 ^ (b + 1) = r % 2 ^ b + M * (r / 2 ^ b % 2) := by rw [Nat.mod_pow_succ, hM]
      have hM2 : Hid (cols (M + M) = cols (2 ^ (b + 1))) := by show _ = _; rw [hM, Nat.pow_succ]; congr 1; omega
      have HM := Lib.hid hmod
      have hzA := hA.lt
      have hzb := hb.size
      clear hM hmod
      by_cases ho : r / 2 ^ b % 2 = 1
      · have hbt : (bits .and .i64 ((r : Int) / 2 ^ b) 1 == 1) = true := by rw [hbit, ho]; rfl
        have HO := Lib.hid ho
        clear hbit ho
        go_wp2_with (first
        | (refine wpList_load_row rfl 58 _ rfl _ rfl _ _ _ _ hA Try.underlying58 rfl (info16' (cols_length M)) ?_)
        | (
           go_at_call 44; refine (apply_any M t _ htl).mono ?_; rintro e w2 ⟨rfl, hb2⟩
           have hA2 := hA.below hb2 hzA
           have hz2 := hb2.size
           have hbb2 := hb.trans (hb2.mono hzb)
           clear hA)
        | (refine wpList_load_row rfl 58 _ rfl _ rfl _ _ _ _ hA2 Try.underlying58 rfl (info16' (cols_length M)) ?_)
        |
          (
           go_at_call 43; refine (matOf_twice M _).mono ?_; rintro e w3 ⟨rfl, hb3⟩
           have hA3 := hA2.below hb3 (by omega)
           have hbb3 := hbb2.trans (hb3.mono (by omega)))
        | (refine wpList_store_row rfl 58 _ _ rfl _ _ rfl rfl _ _ hA3 (info16' (cols_length (M + M))) (by simp [cols_length]) (one16 _) ?_))
        have hA4 := hA3.row (cols (M + M))
        have hb4 := below_setRow hbb3 (g := w1.heap.size) hz1 ((cols (M + M)).map (Value.int .u16)).toArray
        go_roundw
        case rel => exact ⟨b + 1, by omega, by go_num, by rw [HM.out, HO.out, Nat.mul_one, stepI_add, HT.out], by rw [← hM2.out]; exact hA4, hb4⟩
        case measure => simp [intOf]; omega
      · have hbt : (bits .and .i64 ((r : Int) / 2 ^ b) 1 == 1) = false := by rw [hbit, beq_eq_false_iff_ne]; exact fun e => ho (Int.ofNat.inj e)
        have HO : Hid (r / 2 ^ b % 2 = 0) := by show _ = _; omega
        clear hbit ho
        go_wp2_with (first
        | (refine wpList_load_row rfl 58 _ rfl _ rfl _ _ _ _ hA Try.underlying58 rfl (info16' (cols_length M)) ?_)
        |
          (
           go_at_call 43; refine (matOf_twice M _).mono ?_; rintro e w3 ⟨rfl, hb3⟩
           have hA3 := hA.below hb3 (by omega)
           have hbb3 := hb.trans (hb3.mono (by omega)))
        | (refine wpList_store_row rfl 58 _ _ rfl _ _ rfl rfl _ _ hA3 (info16' (cols_length (M + M))) (by simp [cols_length]) (one16 _) ?_))
        have hA4 := hA3.row (cols (M + M))
        have hb4 := below_setRow hbb3 (g := w1.heap.size) hz1 ((cols (M + M)).map (Value.int .u16)).toArray
        go_roundw
        case rel => exact ⟨b + 1, by omega, by go_num, by rw [HM.out, HO.out, Nat.mul_zero, Nat.add_zero, HT.out], by rw [← hM2.out]; exact hA4, hb4⟩
        case measure => simp [intOf]; omega
    · obtain rfl : b = 16 := by omega
      have HE : Hid (r % 2 ^ 16 = r) := by show _ = _; exact Nat.mod_eq_of_lt (by omega)
      have ht1 : (t : Int) ≤ 65535 := by omega
      go_wp2
      go_ret
      exact ⟨ret_int (by rw [HT.out, HE.out]), hb⟩
theorem implJump_no (s n : Int) (w : World) (h : (s < 1 ∨ 65535 < s) ∨ n < 0) :
    Calls Try.prog 23 #[.int .i64 s, .int .i64 n] w fun e w' => e = .returned (.int .i64 0) ∧ w = w' := by
  by_cases hs : s < 1 ∨ 65535 < s
  · clear h
    go_enter Try.func23, Try.ntmps23
    go_wp2_with (go_at_call 41; refine (implValid_no _ _ hs).mono ?_; rintro e w' ⟨rfl, rfl⟩)
    go_ret
    exact ⟨rfl, rfl⟩
  · have hs1 : 1 ≤ s := by omega
    have hs2 : s ≤ 65535 := by omega
    have hn : n < 0 := by omega
    have hd : decide (n < 0) = true := by simpa using hn
    clear h hs
    go_enter Try.func23, Try.ntmps23
    go_wp2_with (go_at_call 41; refine (implValid_yes _ _ hs1 hs2).mono ?_; rintro e w' ⟨rfl, rfl⟩)
    go_ret
    exact ⟨rfl, rfl⟩
end Go.Proofs.Ytopehpnelfbboaa
