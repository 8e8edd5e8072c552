/- The law FnCodec: for every argument ([]byte, []byte) the call returns true, and each argument reads afterwards as it read before. No further condition. -/
import Derived.Test.YtopehpnelfbboaaRows
import Derived.Test.YtopehpnelfbboaaByte
import Derived.Test.YtopehpnelfbboaaDraw1
import Derived.Test.YtopehpnelfbboaaFixN
import Derived.Test.YtopehpnelfbboaaDec
import Derived.Test.YtopehpnelfbboaaStr
import Derived.Test.YtopehpnelfbboaaEncF
import Derived.WalkKit
import Derived.ProofKit
import Derived.OpenShut
import Derived.ShutString
import Derived.ChangeOld
import Derived.Below
namespace Go.Proofs.Ytopehpnelfbboaa.fnCodec
open Go.ChangeShapes Go.WideShapes Go.ChangeAt Go.RowKit
open Go.ChangeMaps (open_string shut_string)
set_option linter.unusedVariables false

theorem enc_calls (m : Nat) (h : m < 2 ^ 63) : ∃ S : ByteArray, S.size ≤ 9 ∧
    (∀ W : World, Calls Try.prog 10 #[.int .i64 m] W fun e w' => e = .returned (.string S) ∧ Below W.heap.size W w') ∧
    (∀ (r : ByteArray) (W : World), r.size ≤ 2 → Calls Try.prog 11 #[.string (S ++ r)] W fun e w' => e = .returned (.tuple #[.int .i64 m, .int .i64 (S.size : Nat), .bool true]) ∧ Below W.heap.size W w') := by
  have hl := uv_len h
  have hp := uv_pos m
  refine ⟨strOfNums (uv m), by rw [strOfNums_size]; exact hl, fun W => implEncUv_yes m W h, fun r W hr => ?_⟩
  obtain ⟨h1, h2⟩ := dec_enc m r h
  refine (implDecUv_any _ W (by rw [size_app, strOfNums_size]; omega)).mono ?_
  rintro e w' ⟨rfl, hb⟩
  rw [h1, h2, strOfNums_size, decide_eq_true (show 0 < (uv m).length by omega)]
  exact ⟨rfl, hb⟩
theorem str_calls (s : ByteArray) (h : s.size ≤ 199) : ∃ S : ByteArray, S.size ≤ 300 ∧
    (∀ W : World, Calls Try.prog 14 #[.string s] W fun e w' => e = .returned (.string S) ∧ Below W.heap.size W w') ∧
    (∀ (r : ByteArray) (W : World), r.size ≤ 2 → Calls Try.prog 15 #[.string (S ++ r)] W fun e w' => e = .returned (.tuple #[.string s, .int .i64 (S.size : Nat), .bool true]) ∧ Below W.heap.size W w') := by
  have h63 : s.size < 2 ^ 63 := by omega
  have hl := uv_len h63
  have hp := uv_pos s.size
  have hsz : (strOfNums (uv s.size) ++ s).size = (uv s.size).length + s.size := by rw [size_app, strOfNums_size]
  refine ⟨strOfNums (uv s.size) ++ s, by omega, fun W => implEncStr_any s W (by omega), fun r W hr => ?_⟩
  obtain ⟨h1, h2⟩ := dec_enc s.size (s ++ r) h63
  rw [← ByteArray.append_assoc] at h1 h2
  refine (implDecStr_yes _ W (by rw [size_app, hsz]; omega) ⟨by rw [h1]; omega, by rw [h1, h2, size_app, hsz]; omega⟩).mono ?_
  rintro e w' ⟨rfl, hb⟩
  rw [h1, h2, str_back s r h63, hsz]
  exact ⟨rfl, hb⟩
theorem fix_calls (n : Int) (h1 : -9223372036854775808 ≤ n) (h2 : n ≤ 9223372036854775807) : ∃ S : ByteArray, S.size = 8 ∧
    (∀ W : World, Calls Try.prog 17 #[.int .i64 n, .int .i64 8] W fun e w' => e = .returned (.string S) ∧ Below W.heap.size W w') ∧
    (∀ W : World, Calls Try.prog 16 #[.string S] W fun e w' => e = .returned (.int .i64 n) ∧ Below W.heap.size W w') := by
  have hs : (strOfNums (encF n 8)).size = 8 := by rw [strOfNums_size, encF_length]
  refine ⟨strOfNums (encF n 8), hs, fun W => implEncFixed_yes n 8 W (by omega), fun W => ?_⟩
  refine (implDecFixed_short _ W (by omega)).mono ?_
  rintro e w' hh
  rw [hs, fix_back n h1 h2] at hh
  exact ⟨hh.1, hh.2 ▸ Below.refl _ _⟩
theorem CodeIs.wide {w : World} {B B' : Nat} {v : Value} (h : CodeIs w B v) (hB : B ≤ B') : CodeIs w B' v := by
  obtain ⟨A, len, cap, rfl, hl, hh⟩ := h
  refine ⟨A, len, cap, rfl, hl, fun hp => ?_⟩
  obtain ⟨b, off, hA, hb, hc⟩ := hh hp
  exact ⟨b, off, hA, by omega, hc⟩
theorem CodeIs.next {w w' : World} {B : Nat} {v : Value} (h : CodeIs w B v) (hb : Below B w w') (hz : B ≤ w'.heap.size) : CodeIs w' w'.heap.size v :=
  CodeIs.wide (CodeIs.keep h hb.block) hz
/-- What the decoder answers at any text, and the text's head encoded anew. -/
theorem dec_calls (t : ByteArray) (h : t.size ≤ 400) :
    (∀ W : World, Calls Try.prog 11 #[.string t] W fun e w' => e = .returned (.tuple #[.int .i64 0, .int .i64 0, .bool false]) ∧ Below W.heap.size W w') ∨
    ∃ x c : Nat, 1 ≤ c ∧ c ≤ t.size ∧ x < 2 ^ 63 ∧ (∀ W : World, Calls Try.prog 11 #[.string t] W fun e w' => e = .returned (.tuple #[.int .i64 x, .int .i64 c, .bool true]) ∧ Below W.heap.size W w') ∧
      (∀ W : World, Calls Try.prog 10 #[.int .i64 x] W fun e w' => e = .returned (.string (t.extract 0 c)) ∧ Below W.heap.size W w') := by
  have hl := decUv_le t
  by_cases h0 : 0 < decUv t
  · have h63 := acc_lt63 t (k := decUv t) hl.2
    have hok := dec_ok t 10 0 h0
    refine .inr ⟨acc t (decUv t), decUv t, h0, hl.1, h63, fun W => ?_, fun W => ?_⟩
    · refine (implDecUv_any _ W (by omega)).mono ?_
      rintro e w' ⟨rfl, hb⟩
      rw [decide_eq_true h0]
      exact ⟨rfl, hb⟩
    · refine (implEncUv_yes _ W h63).mono ?_
      rintro e w' ⟨rfl, hb⟩
      rw [← takeB_str]
      refine ⟨?_, hb⟩
      have : uv (acc t (decUv t)) = takeB t (decUv t) := hok
      rw [this]
  · refine .inl fun W => ?_
    refine (implDecUv_any _ W (by omega)).mono ?_
    rintro e w' ⟨rfl, hb⟩
    have e0 : decUv t = 0 := by omega
    rw [e0]
    exact ⟨rfl, hb⟩
set_option maxHeartbeats 4000000 in
set_option maxRecDepth 100000 in
theorem walk (a0 : Option Addr) (len0 cap0 : Nat) (z0 : List Int) (a1 : Option Addr) (len1 cap1 : Nat) (z1 : List Int) (w : World) (w0 : IsRow .u8 w a0 len0 cap0 z0) (w1 : IsRow .u8 w a1 len1 cap1 z1) :
    Calls Try.prog 3 #[.slice a0 len0 cap0, .slice a1 len1 cap1] w fun e w' => e = .returned (.bool true) ∧ Below w.heap.size w w' := by
  have b0 := w0.len
  have b1 := w1.len
  by_cases hl : len0 ≤ 1048576 ∧ len1 ≤ 1048576
  · obtain ⟨hl0, hl1⟩ := hl
    have hc0 := w0.code hl0
    have hc1 := w1.code hl1
    clear w0 w1
    go_enter Try.func3, Try.ntmps3
    go_wp2_with fail
    refine (long_no _ _ _ _ _ _ _ hl0 hl1).mono ?_
    rintro e w' ⟨rfl, rfl⟩
    go_wp2_with fail
    refine (drawInt_any _ _ hc0).mono ?_
    rintro e w1 ⟨v, rfl, ⟨n, rfl, hn0, hn1⟩, hb⟩
    have hc1' := hc1.keep (w' := w1) hb.block
    clear hc0 hc1
    have hz := hb.size
    obtain ⟨F, hF, F1, F2⟩ := fix_calls n hn0 hn1
    have G1 := Lib.hid F1
    have G2 := Lib.hid F2
    clear F1 F2
    by_cases hv : 0 ≤ n
    · obtain ⟨m, rfl⟩ := Int.eq_ofNat_of_zero_le hv
      obtain ⟨S, hS, E1, E2⟩ := enc_calls m (by omega)
      have H1 := Lib.hid E1
      have H2 := Lib.hid E2
      clear E1 E2 hv hn0
      go_wp2_with fail
      refine (H1.out _).mono ?_
      rintro e w2 ⟨rfl, hb2⟩
      go_wp2_with fail
      refine (H2.out _ _ (by decide)).mono ?_
      rintro e w3 ⟨rfl, hb3⟩
      have hT := hb.trans (hb2.mono hz)
      have hT2 := hT.trans (hb3.mono hT.size)
      have hc := CodeIs.next hc1' ((hb2.trans (hb3.mono hb2.size)).mono hz) hT2.size
      clear hb hb2 hb3 hc1' hT
      go_wp2_with fail
      refine (drawUv_any _ _ hc).mono ?_
      rintro e w4 ⟨v, rfl, ⟨t, rfl, ht⟩, hb4⟩
      have hU := hT2.trans (hb4.mono hT2.size)
      have hcw := CodeIs.next hc hb4 hb4.size
      clear hc hb4 hT2
      rcases dec_calls t ht with D1 | ⟨x, c, c1, c2, hx, D1, D2⟩
      · have K1 := Lib.hid D1
        clear D1
        go_wp2_with fail
        refine (K1.out _).mono ?_
        rintro e w5 ⟨rfl, hb5⟩
        have hV := hU.trans (hb5.mono hU.size)
        have hcx := CodeIs.next hcw hb5 hb5.size
        clear hU hcw hb5
        go_wp2_with fail
        go_quiet (fail)
        go_wp2_with fail
        have HC : CodeIs (w5.drewN nq) (w5.drewN nq).heap.size (.slice a1 len1 cap1) := hcx
        have HB : Below w.heap.size w (w5.drewN nq) := ⟨hV.os, hV.tape, hV.output, hV.size, hV.block⟩
        clear hcx hV
        refine (drawWord_any _ _ HC).mono ?_
        rintro e w7 ⟨v, rfl, ⟨y, rfl, hy⟩, hb7⟩
        have hW := HB.trans (hb7.mono HB.size)
        obtain ⟨Y, hY, Y1, Y2⟩ := str_calls y hy
        have L1 := Lib.hid Y1
        have L2 := Lib.hid Y2
        have hyq := str_same (rfl : y = y)
        clear Y1 Y2 HB HC hb7
        go_wp2_with fail
        refine (L1.out _).mono ?_
        rintro e w8 ⟨rfl, hb8⟩
        have hX := hW.trans (hb8.mono hW.size)
        clear hW hb8
        go_wp2_with fail
        refine (L2.out _ _ (by decide)).mono ?_
        rintro e w9 ⟨rfl, hb9⟩
        have hY9 := hX.trans (hb9.mono hX.size)
        clear hX hb9
        go_wp2_with fail
        refine (G1.out _).mono ?_
        rintro e w10 ⟨rfl, hb10⟩
        have hZ := hY9.trans (hb10.mono hY9.size)
        clear hY9 hb10
        go_wp2_with fail
        refine (G2.out _).mono ?_
        rintro e w11 ⟨rfl, hb11⟩
        have hE := hZ.trans (hb11.mono hZ.size)
        clear hZ hb11
        go_wp2
        go_ret
        exact ⟨rfl, hE⟩
      · have K1 := Lib.hid D1
        have K2 := Lib.hid D2
        clear D1 D2
        go_wp2_with fail
        refine (K1.out _).mono ?_
        rintro e w5 ⟨rfl, hb5⟩
        have hV := hU.trans (hb5.mono hU.size)
        have hcx := CodeIs.next hcw hb5 hb5.size
        clear hU hcw hb5
        have hq := str_same (rfl : t.extract 0 c = t.extract 0 c)
        have s2 : (0 : Int) ≤ (c : Int) := by omega
        have s3 : ((c : Int)).toNat = c := by omega
        have s4 : (c : Int) ≤ (t.size : Int) := by omega
        have s5 : decide ((c : Int) < 1) = false := decide_eq_false (by omega)
        have s6 : decide ((t.size : Int) < (c : Int)) = false := decide_eq_false (by omega)
        go_wp2_with fail
        refine wp_region_held_drew (S := fun _ => True) (by kernel_rfl) trivial (fun hHeld => ?_)
        refine wpAnyH_take (i := 0) (oi := _) (v := .bool true) rfl (by kernel_rfl) (by kernel_rfl) (by kernel_rfl) (fun _ _ _ h => h) (Or.inl ⟨by kernel_rfl, fun w hSw => by go_simp⟩) hHeld ?_
        refine wpAnyH_take (i := 1) (oi := _) (v := .bool true) rfl (by kernel_rfl) (by kernel_rfl) (by kernel_rfl) (fun _ _ _ h => h) (Or.inl ⟨by kernel_rfl, fun w hSw => by go_simp⟩) hHeld ?_
        refine wpAnyH_take (i := 2) (oi := _) (v := .int .i64 (c : Int)) rfl (by kernel_rfl) (by kernel_rfl) (by kernel_rfl) (fun _ _ _ h => h) (Or.inl ⟨by kernel_rfl, fun w hSw => by go_simp⟩) hHeld ?_
        refine wpAnyH_take (i := 3) (oi := _) (v := .bool false) rfl (by kernel_rfl) (by kernel_rfl) (by kernel_rfl) (fun _ _ _ h => h) (Or.inl ⟨by kernel_rfl, fun w hSw => by go_simp⟩) hHeld ?_
        refine wpAnyH_take (i := 4) (oi := _) (v := .bool false) rfl (by kernel_rfl) (by kernel_rfl) (by kernel_rfl) (fun _ _ _ h => h) (Or.inl ⟨by kernel_rfl, fun w hSw => by go_simp⟩) hHeld ?_
        refine wpAnyH_take (i := 5) (oi := _) (v := .int .i64 (c : Int)) rfl (by kernel_rfl) (by kernel_rfl) (by kernel_rfl) (fun _ _ _ h => h) (Or.inl ⟨by kernel_rfl, fun w hSw => by go_simp⟩) hHeld ?_
        refine wpAnyH_take (i := 6) (oi := _) (v := .string t) rfl (by kernel_rfl) (by kernel_rfl) (by kernel_rfl) (fun _ _ _ h => h) (Or.inl ⟨by kernel_rfl, fun w hSw => by go_simp⟩) hHeld ?_
        refine wpAnyH_take (i := 7) (oi := _) (v := .int .i64 (t.size : Int)) rfl (by kernel_rfl) (by kernel_rfl) (by kernel_rfl) (fun _ _ _ h => h) (Or.inl ⟨by kernel_rfl, fun w hSw => by go_simp⟩) hHeld ?_
        refine wpAnyH_take (i := 8) (oi := _) (v := .bool false) rfl (by kernel_rfl) (by kernel_rfl) (by kernel_rfl) (fun _ _ _ h => h) (Or.inl ⟨by kernel_rfl, fun w hSw => by go_simp⟩) hHeld ?_
        refine wpAnyH_take (i := 9) (oi := _) (v := .bool false) rfl (by kernel_rfl) (by kernel_rfl) (by kernel_rfl) (fun _ _ _ h => h) (Or.inl ⟨by kernel_rfl, fun w hSw => by go_simp⟩) hHeld ?_
        refine wpAnyH_take (i := 10) (oi := _) (v := .bool false) rfl (by kernel_rfl) (by kernel_rfl) (by kernel_rfl) (fun _ _ _ h => h) (Or.inl ⟨by kernel_rfl, fun w hSw => by go_simp⟩) hHeld ?_
        refine wpAnyH_take (i := 11) (oi := _) (v := .int .i64 (x : Int)) rfl (by kernel_rfl) (by kernel_rfl) (by kernel_rfl) (fun _ _ _ h => h) (Or.inl ⟨by kernel_rfl, fun w hSw => by go_simp⟩) hHeld ?_
        refine wpAnyH_take (i := 13) (oi := _) (v := .string t) rfl (by kernel_rfl) (by kernel_rfl) (by kernel_rfl) (fun _ _ _ h => h) (Or.inl ⟨by kernel_rfl, fun w hSw => by go_simp⟩) hHeld ?_
        refine wpAnyH_take (i := 14) (oi := _) (v := .int .i64 (c : Int)) rfl (by kernel_rfl) (by kernel_rfl) (by kernel_rfl) (fun _ _ _ h => h) (Or.inl ⟨by kernel_rfl, fun w hSw => by go_simp⟩) hHeld ?_
        refine wpAnyH_take (i := 15) (oi := _) (v := .string (t.extract 0 c)) rfl (by kernel_rfl) (by kernel_rfl) (by kernel_rfl) (fun _ _ _ h => h) (Or.inl ⟨by kernel_rfl, fun w hSw => by go_simp⟩) hHeld ?_
        refine wpAnyH_ready (rs := [12]) (by kernel_rfl) (by simp) ?_
        refine AllReadyH.cons (o := _) rfl (fun K hK => ?_) AllReadyH.nil
        go_simp
        go_at_call 10
        refine (K2.out _).mono ?_
        rintro e w6 ⟨rfl, hb6⟩
        refine hK.out _ _ trivial (fun hHeld => ?_)
        clear hK K
        refine wpAnyH_take (i := 16) (oi := _) (v := .bool false) rfl (by kernel_rfl) (by kernel_rfl) (by kernel_rfl) (fun _ _ _ h => h) (Or.inl ⟨by kernel_rfl, fun w hSw => by go_simp⟩) hHeld ?_
        refine wpAnyH_take (i := 17) (oi := _) (v := .bool false) rfl (by kernel_rfl) (by kernel_rfl) (by kernel_rfl) (fun _ _ _ h => h) (Or.inl ⟨by kernel_rfl, fun w hSw => by go_simp⟩) hHeld ?_
        refine wpAnyH_take (i := 18) (oi := _) (v := .bool false) rfl (by kernel_rfl) (by kernel_rfl) (by kernel_rfl) (fun _ _ _ h => h) (Or.inl ⟨by kernel_rfl, fun w hSw => by go_simp⟩) hHeld ?_
        refine wpAnyH_done (by kernel_rfl) ?_ _
        go_wp2_with fail
        have HC := CodeIs.next (show CodeIs w5.drew w5.drew.heap.size (.slice a1 len1 cap1) from hcx) hb6 hb6.size
        have HB := hV.drew.trans (hb6.mono hV.drew.size)
        clear hcx hV hb6 hq s2 s3 s4 s5 s6
        refine (drawWord_any _ _ HC).mono ?_
        rintro e w7 ⟨v, rfl, ⟨y, rfl, hy⟩, hb7⟩
        have hW := HB.trans (hb7.mono HB.size)
        obtain ⟨Y, hY, Y1, Y2⟩ := str_calls y hy
        have L1 := Lib.hid Y1
        have L2 := Lib.hid Y2
        have hyq := str_same (rfl : y = y)
        clear Y1 Y2 HB HC hb7
        go_wp2_with fail
        refine (L1.out _).mono ?_
        rintro e w8 ⟨rfl, hb8⟩
        have hX := hW.trans (hb8.mono hW.size)
        clear hW hb8
        go_wp2_with fail
        refine (L2.out _ _ (by decide)).mono ?_
        rintro e w9 ⟨rfl, hb9⟩
        have hY9 := hX.trans (hb9.mono hX.size)
        clear hX hb9
        go_wp2_with fail
        refine (G1.out _).mono ?_
        rintro e w10 ⟨rfl, hb10⟩
        have hZ := hY9.trans (hb10.mono hY9.size)
        clear hY9 hb10
        go_wp2_with fail
        refine (G2.out _).mono ?_
        rintro e w11 ⟨rfl, hb11⟩
        have hE := hZ.trans (hb11.mono hZ.size)
        clear hZ hb11
        go_wp2
        go_ret
        exact ⟨rfl, hE⟩
    · have hlt : n < 0 := by omega
      clear hv
      go_wp2_with fail
      refine (implEncUv_no n _ hlt).mono ?_
      rintro e w2 ⟨rfl, hb2⟩
      have hT2 := hb.trans (hb2.mono hz)
      have hc := CodeIs.next hc1' (hb2.mono hz) hT2.size
      clear hb hb2 hc1'
      go_wp2_with fail
      refine (drawUv_any _ _ hc).mono ?_
      rintro e w4 ⟨v, rfl, ⟨t, rfl, ht⟩, hb4⟩
      have hU := hT2.trans (hb4.mono hT2.size)
      have hcw := CodeIs.next hc hb4 hb4.size
      clear hc hb4 hT2
      rcases dec_calls t ht with D1 | ⟨x, c, c1, c2, hx, D1, D2⟩
      · have K1 := Lib.hid D1
        clear D1
        go_wp2_with fail
        refine (K1.out _).mono ?_
        rintro e w5 ⟨rfl, hb5⟩
        have hV := hU.trans (hb5.mono hU.size)
        have hcx := CodeIs.next hcw hb5 hb5.size
        clear hU hcw hb5
        go_wp2_with fail
        go_quiet (fail)
        go_wp2_with fail
        have HC : CodeIs (w5.drewN nq) (w5.drewN nq).heap.size (.slice a1 len1 cap1) := hcx
        have HB : Below w.heap.size w (w5.drewN nq) := ⟨hV.os, hV.tape, hV.output, hV.size, hV.block⟩
        clear hcx hV
        refine (drawWord_any _ _ HC).mono ?_
        rintro e w7 ⟨v, rfl, ⟨y, rfl, hy⟩, hb7⟩
        have hW := HB.trans (hb7.mono HB.size)
        obtain ⟨Y, hY, Y1, Y2⟩ := str_calls y hy
        have L1 := Lib.hid Y1
        have L2 := Lib.hid Y2
        have hyq := str_same (rfl : y = y)
        clear Y1 Y2 HB HC hb7
        go_wp2_with fail
        refine (L1.out _).mono ?_
        rintro e w8 ⟨rfl, hb8⟩
        have hX := hW.trans (hb8.mono hW.size)
        clear hW hb8
        go_wp2_with fail
        refine (L2.out _ _ (by decide)).mono ?_
        rintro e w9 ⟨rfl, hb9⟩
        have hY9 := hX.trans (hb9.mono hX.size)
        clear hX hb9
        go_wp2_with fail
        refine (G1.out _).mono ?_
        rintro e w10 ⟨rfl, hb10⟩
        have hZ := hY9.trans (hb10.mono hY9.size)
        clear hY9 hb10
        go_wp2_with fail
        refine (G2.out _).mono ?_
        rintro e w11 ⟨rfl, hb11⟩
        have hE := hZ.trans (hb11.mono hZ.size)
        clear hZ hb11
        go_wp2
        go_ret
        exact ⟨rfl, hE⟩
      · have K1 := Lib.hid D1
        have K2 := Lib.hid D2
        clear D1 D2
        go_wp2_with fail
        refine (K1.out _).mono ?_
        rintro e w5 ⟨rfl, hb5⟩
        have hV := hU.trans (hb5.mono hU.size)
        have hcx := CodeIs.next hcw hb5 hb5.size
        clear hU hcw hb5
        have hq := str_same (rfl : t.extract 0 c = t.extract 0 c)
        have s2 : (0 : Int) ≤ (c : Int) := by omega
        have s3 : ((c : Int)).toNat = c := by omega
        have s4 : (c : Int) ≤ (t.size : Int) := by omega
        have s5 : decide ((c : Int) < 1) = false := decide_eq_false (by omega)
        have s6 : decide ((t.size : Int) < (c : Int)) = false := decide_eq_false (by omega)
        go_wp2_with fail
        refine wp_region_held_drew (S := fun _ => True) (by kernel_rfl) trivial (fun hHeld => ?_)
        refine wpAnyH_take (i := 0) (oi := _) (v := .bool true) rfl (by kernel_rfl) (by kernel_rfl) (by kernel_rfl) (fun _ _ _ h => h) (Or.inl ⟨by kernel_rfl, fun w hSw => by go_simp⟩) hHeld ?_
        refine wpAnyH_take (i := 1) (oi := _) (v := .bool true) rfl (by kernel_rfl) (by kernel_rfl) (by kernel_rfl) (fun _ _ _ h => h) (Or.inl ⟨by kernel_rfl, fun w hSw => by go_simp⟩) hHeld ?_
        refine wpAnyH_take (i := 2) (oi := _) (v := .int .i64 (c : Int)) rfl (by kernel_rfl) (by kernel_rfl) (by kernel_rfl) (fun _ _ _ h => h) (Or.inl ⟨by kernel_rfl, fun w hSw => by go_simp⟩) hHeld ?_
        refine wpAnyH_take (i := 3) (oi := _) (v := .bool false) rfl (by kernel_rfl) (by kernel_rfl) (by kernel_rfl) (fun _ _ _ h => h) (Or.inl ⟨by kernel_rfl, fun w hSw => by go_simp⟩) hHeld ?_
        refine wpAnyH_take (i := 4) (oi := _) (v := .bool false) rfl (by kernel_rfl) (by kernel_rfl) (by kernel_rfl) (fun _ _ _ h => h) (Or.inl ⟨by kernel_rfl, fun w hSw => by go_simp⟩) hHeld ?_
        refine wpAnyH_take (i := 5) (oi := _) (v := .int .i64 (c : Int)) rfl (by kernel_rfl) (by kernel_rfl) (by kernel_rfl) (fun _ _ _ h => h) (Or.inl ⟨by kernel_rfl, fun w hSw => by go_simp⟩) hHeld ?_
        refine wpAnyH_take (i := 6) (oi := _) (v := .string t) rfl (by kernel_rfl) (by kernel_rfl) (by kernel_rfl) (fun _ _ _ h => h) (Or.inl ⟨by kernel_rfl, fun w hSw => by go_simp⟩) hHeld ?_
        refine wpAnyH_take (i := 7) (oi := _) (v := .int .i64 (t.size : Int)) rfl (by kernel_rfl) (by kernel_rfl) (by kernel_rfl) (fun _ _ _ h => h) (Or.inl ⟨by kernel_rfl, fun w hSw => by go_simp⟩) hHeld ?_
        refine wpAnyH_take (i := 8) (oi := _) (v := .bool false) rfl (by kernel_rfl) (by kernel_rfl) (by kernel_rfl) (fun _ _ _ h => h) (Or.inl ⟨by kernel_rfl, fun w hSw => by go_simp⟩) hHeld ?_
        refine wpAnyH_take (i := 9) (oi := _) (v := .bool false) rfl (by kernel_rfl) (by kernel_rfl) (by kernel_rfl) (fun _ _ _ h => h) (Or.inl ⟨by kernel_rfl, fun w hSw => by go_simp⟩) hHeld ?_
        refine wpAnyH_take (i := 10) (oi := _) (v := .bool false) rfl (by kernel_rfl) (by kernel_rfl) (by kernel_rfl) (fun _ _ _ h => h) (Or.inl ⟨by kernel_rfl, fun w hSw => by go_simp⟩) hHeld ?_
        refine wpAnyH_take (i := 11) (oi := _) (v := .int .i64 (x : Int)) rfl (by kernel_rfl) (by kernel_rfl) (by kernel_rfl) (fun _ _ _ h => h) (Or.inl ⟨by kernel_rfl, fun w hSw => by go_simp⟩) hHeld ?_
        refine wpAnyH_take (i := 13) (oi := _) (v := .string t) rfl (by kernel_rfl) (by kernel_rfl) (by kernel_rfl) (fun _ _ _ h => h) (Or.inl ⟨by kernel_rfl, fun w hSw => by go_simp⟩) hHeld ?_
        refine wpAnyH_take (i := 14) (oi := _) (v := .int .i64 (c : Int)) rfl (by kernel_rfl) (by kernel_rfl) (by kernel_rfl) (fun _ _ _ h => h) (Or.inl ⟨by kernel_rfl, fun w hSw => by go_simp⟩) hHeld ?_
        refine wpAnyH_take (i := 15) (oi := _) (v := .string (t.extract 0 c)) rfl (by kernel_rfl) (by kernel_rfl) (by kernel_rfl) (fun _ _ _ h => h) (Or.inl ⟨by kernel_rfl, fun w hSw => by go_simp⟩) hHeld ?_
        refine wpAnyH_ready (rs := [12]) (by kernel_rfl) (by simp) ?_
        refine AllReadyH.cons (o := _) rfl (fun K hK => ?_) AllReadyH.nil
        go_simp
        go_at_call 10
        refine (K2.out _).mono ?_
        rintro e w6 ⟨rfl, hb6⟩
        refine hK.out _ _ trivial (fun hHeld => ?_)
        clear hK K
        refine wpAnyH_take (i := 16) (oi := _) (v := .bool false) rfl (by kernel_rfl) (by kernel_rfl) (by kernel_rfl) (fun _ _ _ h => h) (Or.inl ⟨by kernel_rfl, fun w hSw => by go_simp⟩) hHeld ?_
        refine wpAnyH_take (i := 17) (oi := _) (v := .bool false) rfl (by kernel_rfl) (by kernel_rfl) (by kernel_rfl) (fun _ _ _ h => h) (Or.inl ⟨by kernel_rfl, fun w hSw => by go_simp⟩) hHeld ?_
        refine wpAnyH_take (i := 18) (oi := _) (v := .bool false) rfl (by kernel_rfl) (by kernel_rfl) (by kernel_rfl) (fun _ _ _ h => h) (Or.inl ⟨by kernel_rfl, fun w hSw => by go_simp⟩) hHeld ?_
        refine wpAnyH_done (by kernel_rfl) ?_ _
        go_wp2_with fail
        have HC := CodeIs.next (show CodeIs w5.drew w5.drew.heap.size (.slice a1 len1 cap1) from hcx) hb6 hb6.size
        have HB := hV.drew.trans (hb6.mono hV.drew.size)
        clear hcx hV hb6 hq s2 s3 s4 s5 s6
        refine (drawWord_any _ _ HC).mono ?_
        rintro e w7 ⟨v, rfl, ⟨y, rfl, hy⟩, hb7⟩
        have hW := HB.trans (hb7.mono HB.size)
        obtain ⟨Y, hY, Y1, Y2⟩ := str_calls y hy
        have L1 := Lib.hid Y1
        have L2 := Lib.hid Y2
        have hyq := str_same (rfl : y = y)
        clear Y1 Y2 HB HC hb7
        go_wp2_with fail
        refine (L1.out _).mono ?_
        rintro e w8 ⟨rfl, hb8⟩
        have hX := hW.trans (hb8.mono hW.size)
        clear hW hb8
        go_wp2_with fail
        refine (L2.out _ _ (by decide)).mono ?_
        rintro e w9 ⟨rfl, hb9⟩
        have hY9 := hX.trans (hb9.mono hX.size)
        clear hX hb9
        go_wp2_with fail
        refine (G1.out _).mono ?_
        rintro e w10 ⟨rfl, hb10⟩
        have hZ := hY9.trans (hb10.mono hY9.size)
        clear hY9 hb10
        go_wp2_with fail
        refine (G2.out _).mono ?_
        rintro e w11 ⟨rfl, hb11⟩
        have hE := hZ.trans (hb11.mono hZ.size)
        clear hZ hb11
        go_wp2
        go_ret
        exact ⟨rfl, hE⟩
  · go_enter Try.func3, Try.ntmps3
    go_wp2_with (go_at_call 8; refine (long_yes _ _ _ _ _ _ _ b0 b1 hl).mono ?_; rintro e w' ⟨rfl, rfl⟩)
    go_ret
    exact ⟨rfl, Below.refl _ _⟩

theorem own : ownKnob Try.prog.godebug = none := by kernel_rfl
theorem laidOut : laidOutB Try.prog = true := by kernel_rfl
set_option maxRecDepth 100000 in
theorem lifted (os : Os) (started : os.Started) (H : Type) (enc : TypeId × Value → H) :
    ReturnsInHanded {} Try.checked os 3 .any (Rows.fnCodecSpec.pre6 enc Try.prog Try.f3 Rows.fnCodecRow.domain false) (Rows.fnCodecSpec.post enc Try.prog Try.f3 false true false false) := by
  refine returnsInHanded_of_change (C := Try.checked) own started (by kernel_rfl) Try.func3
    (ChangeSpec.witness6 (enc := enc) (C := Try.checked) false ⟨#[], #[.slice none 0 0, .slice none 0 0], []⟩ 8 (by kernel_rfl) (by kernel_rfl) (by kernel_rfl) (by kernel_rfl)) ?_
  intro W base args ds gs before hval0 hW hcnd _
  have hval : ∀ (j : Nat) t v, Try.f3.params[j]? = some t → args[j]? = some v → Value.okWide Try.prog W .any base t v := hval0
  have hW' := hW
  obtain ⟨p, q, hA0, hV, rfl, hfz, hnd⟩ := hW
  have hA : DataW.TrodAll enc Try.prog W 0 (fun _ => true) true Try.f3.params.toList args.toList ds p := hA0
  rw [Try.params3] at hA hval
  obtain ⟨v0, vs0, d0, ds0, p0, q0, hargs, rfl, rfl, h0, r0⟩ := trodAll_cons hA
  obtain ⟨v1, vs1, d1, ds1, p1, q1, rfl, rfl, rfl, h1, r1⟩ := trodAll_cons r0
  obtain ⟨rfl, rfl, rfl⟩ := trodAll_nil r1
  obtain rfl : args = #[v0, v1] := by cases args; simp_all
  obtain ⟨rfl, rfl⟩ := trodVars_none hV
  obtain ⟨a0, len0, cap0, rfl⟩ := okWide_slice Try.underlying22 (hval 0 22 v0 rfl rfl)
  have k0 := h0
  have lt0 : ∀ x ∈ p0, x.block < W.heap.size := by obtain ⟨m, hm⟩ := k0; exact DataW.trod_lt m _ _ _ hm
  obtain ⟨z0, w0⟩ : ∃ zs, IsRow .u8 W a0 len0 cap0 zs := by
    obtain ⟨fuel, hf⟩ := h0
    rcases open_ints Try.underlying22 Try.underlying5 (by kernel_rfl) hf with ⟨hcs, _⟩ | ⟨x, l, c, zs, hcs, _, hl, hm, hz, _, hcell, hwz⟩
    · simp [Value.cells] at hcs
      obtain ⟨rfl, rfl, rfl⟩ := hcs
      exact ⟨[], .inl ⟨rfl, rfl, rfl, rfl⟩⟩
    · simp [Value.cells] at hcs
      obtain ⟨rfl, rfl, rfl⟩ := hcs
      exact ⟨zs, .inr ⟨_, rfl, hl, hm, by simpa using hz, hcell, hwz⟩⟩
  obtain ⟨a1, len1, cap1, rfl⟩ := okWide_slice Try.underlying22 (hval 1 22 v1 rfl rfl)
  have k1 := h1
  have lt1 : ∀ x ∈ p1, x.block < W.heap.size := by obtain ⟨m, hm⟩ := k1; exact DataW.trod_lt m _ _ _ hm
  obtain ⟨z1, w1⟩ : ∃ zs, IsRow .u8 W a1 len1 cap1 zs := by
    obtain ⟨fuel, hf⟩ := h1
    rcases open_ints Try.underlying22 Try.underlying5 (by kernel_rfl) hf with ⟨hcs, _⟩ | ⟨x, l, c, zs, hcs, _, hl, hm, hz, _, hcell, hwz⟩
    · simp [Value.cells] at hcs
      obtain ⟨rfl, rfl, rfl⟩ := hcs
      exact ⟨[], .inl ⟨rfl, rfl, rfl, rfl⟩⟩
    · simp [Value.cells] at hcs
      obtain ⟨rfl, rfl, rfl⟩ := hcs
      exact ⟨zs, .inr ⟨_, rfl, hl, hm, by simpa using hz, hcell, hwz⟩⟩
  clear hA0 hval0
  refine (walk a0 len0 cap0 z0 a1 len1 cap1 z1 W w0 w1).mono fun e W' ⟨he, bel⟩ => ?_
  subst he
  exact ⟨_, rfl, _, _, _, [], _, [], hW', trodAll_mk1 (shut_bool Try.underlying4 _), (trodAll_cons_mk (Below.trod laidOut (by kernel_rfl) (of_decide_eq_true (by kernel_rfl)) k0 bel lt0) (trodAll_cons_mk (Below.trod laidOut (by kernel_rfl) (of_decide_eq_true (by kernel_rfl)) k1 bel lt1) trodAll_mk0)), rfl, bel.frame _, fun h => by cases h⟩
theorem over : Rows.fnCodecRow.holds Try.pinned (OpenSpec.ofChange Rows.fnCodecSpec) :=
  OpenClaim.holds_of_wide 3 Try.f3 rfl rfl rfl rfl rfl rfl rfl ⟨rfl, rfl, rfl, rfl, rfl⟩ rfl rfl rfl rfl rfl (by kernel_rfl) Try.func3 (by kernel_rfl)
    (of_decide_eq_true (by kernel_rfl)) (by unfold Func.isWrapper; first | (rw [if_pos (by decide +kernel)]; kernel_rfl) | (rw [if_neg (by decide +kernel)]; exact ⟨rfl, rfl⟩))
    (fun os started H enc _ => lifted os started H enc)
theorem proved : Rows.FnCodecSaid := over
#print axioms proved
end Go.Proofs.Ytopehpnelfbboaa.fnCodec
