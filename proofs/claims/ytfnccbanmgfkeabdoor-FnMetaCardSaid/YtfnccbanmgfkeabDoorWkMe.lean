/- The law FnMeta, walked: every call by its contract. -/
import Derived.Test.YtfnccbanmgfkeabDoorProg
import Derived.Test.YtfnccbanmgfkeabDoorC2
import Derived.Test.YtfnccbanmgfkeabDoorMtC
import Derived.Test.YtfnccbanmgfkeabDoorDrVm
import Derived.Deep.RegionWith
namespace Go.Proofs.YtfnccbanmgfkeabDoor
open Go.RowKit
set_option linter.unusedVariables false
theorem bytes_getD (x : ByteArray) (i : Nat) (h : i < x.size) : (x.data.toList.map fun b => (b.toNat : Int)).getD i 0 = (byteAt x i : Int) := by
  have h' : i < x.data.toList.length := by simpa using h
  unfold byteAt
  rw [List.getD_eq_getElem?_getD, List.getElem?_map, List.getD_eq_getElem?_getD, List.getElem?_eq_getElem h']
  rfl
theorem flip_no {x : ByteArray} (h : MdOk x) {kk b : Nat} (hk : kk < 16) (hb : b < 256) (hb0 : b ≠ 0) :
    ¬ MdOk (strOfNums ((x.data.toList.map fun b => (b.toNat : Int)).set kk ((byteAt x kk ^^^ b : Nat) : Int))) := by
  have hx := h.1
  have hxl : byteAt x kk ^^^ b < 256 := Nat.xor_lt_two_pow (n := 8) (by have := byteAt_le x kk; omega) hb
  have hlen : ((x.data.toList.map fun b => (b.toNat : Int)).set kk ((byteAt x kk ^^^ b : Nat) : Int)).length = 16 := by simp; exact hx
  have hok : ∀ v ∈ (x.data.toList.map fun b => (b.toNat : Int)).set kk ((byteAt x kk ^^^ b : Nat) : Int), 0 ≤ v ∧ v < 256 := by
    intro v hv
    rcases List.mem_or_eq_of_mem_set hv with hv | rfl
    · simp only [List.mem_map] at hv
      obtain ⟨c, _, rfl⟩ := hv
      have := c.toNat_lt
      omega
    · omega
  refine changed_no h hk hb hb0 (by rw [strOfNums_size, hlen]) ?_ ?_
  · have e := nums_at' _ kk (by omega) hok
    rw [List.getD_eq_getElem?_getD, List.getElem?_set_self (by rw [List.length_set] at hlen; omega)] at e
    exact Int.ofNat_inj.1 e
  · intro i hi
    by_cases h16 : i < 16
    · have e := nums_at' _ i (by omega) hok
      rw [List.getD_eq_getElem?_getD, List.getElem?_set_ne (fun q => hi q.symm), ← List.getD_eq_getElem?_getD, bytes_getD x i (by omega)] at e
      exact Int.ofNat_inj.1 e
    · rw [mf_past _ _ (by rw [strOfNums_size, hlen]; omega), mf_past _ _ (by omega)]
set_option maxHeartbeats 8000000 in
set_option maxRecDepth 100000 in
theorem wkMe (a0 : Option Addr) (len0 cap0 : Nat) (z0 : List Int) (a1 : Option Addr) (len1 cap1 : Nat) (z1 : List Int) (w : World) (w0 : IsRow .u8 w a0 len0 cap0 z0) (w1 : IsRow .u8 w a1 len1 cap1 z1) (hT : CrcTab w) :
    Calls Tryd.prog 7 #[.slice a0 len0 cap0, .slice a1 len1 cap1] w fun e w' => e = .returned (.bool true) ∧ Below w.heap.size w w' := by
  have b0 := w0.len
  have b1 := w1.len
  by_cases hl : len0 ≤ 1048576 ∧ len1 ≤ 1048576
  case neg =>
    have HL := Lib.hid (big_yes a0 a1 len0 cap0 len1 cap1 w b0 b1 hl)
    clear w0 w1 hT b0 b1 hl
    go_enter Tryd.func7, Tryd.ntmps7
    go_wp2_with fail
    refine HL.out.mono ?_
    rintro e w' ⟨rfl, rfl⟩
    go_wp2
    go_ret
    exact ⟨rfl, Below.refl _ _⟩
  obtain ⟨hl0, hl1⟩ := hl
  have hc0 := w0.code hl0
  have hc1 := w1.code hl1
  have HL := Lib.hid (big_no a0 a1 len0 cap0 len1 cap1 w hl0 hl1)
  have HD := Lib.hid (drawEm_any _ w hc0)
  have HC := Lib.hid hT
  have HA := Lib.hid (fun (W : World) (hb : Below w.heap.size w W) => c2At_any w.heap.size (.slice a1 len1 cap1) 0 16 W (hc1.keep hb.block) (by omega) (by omega) (by omega))
  have HB := Lib.hid (fun (W : World) (hb : Below w.heap.size w W) => c2At_any w.heap.size (.slice a1 len1 cap1) 1 255 W (hc1.keep hb.block) (by omega) (by omega) (by omega))
  clear w0 w1 hc0 hc1 hl0 hl1 b0 b1 hT
  go_enter Tryd.func7, Tryd.ntmps7
  go_wp2_with fail
  refine HL.out.mono ?_
  rintro e w' ⟨rfl, rfl⟩
  go_wp2_with fail
  refine HD.out.mono ?_
  rintro e w2 ⟨k, l, s, f, c, rfl, b2⟩
  obtain ⟨r, hr⟩ := prop_dec' (MetaOk k l s f c)
  have B2 := Lib.hid (b2.alloc b2.size (.cells #[.int .i64 k, .int .i64 l, .int .i64 s, .int .i64 f, .int .i64 c] 25))
  have R2 := Lib.hid (Rw.new w2 25 #[.int .i64 k, .int .i64 l, .int .i64 s, .int .i64 f, .int .i64 c])
  have HE := Lib.hid (fun (W : World) (h : CrcTab W) => implEncMeta_any k l s f c r W hr h)
  have HV := Lib.hid (fun (W : World) => specMeta_any k l s f c r W hr)
  clear b2 HL HD
  go_wp2_with fail
  refine (HE.out _ (HC.out.below B2.out (Nat.le_refl _))).mono ?_
  rintro e w3 ⟨rfl, b3⟩
  have B3 := Lib.hid (B2.out.trans (b3.mono B2.out.size))
  have R3 := Lib.hid (R2.out.below b3 R2.out.lt)
  clear b3 B2 R2 HE
  cases r with
  | false =>
    have HM := Lib.hid (fun (W : World) (h : CrcTab W) => show Calls Tryd.prog 13 #[.string .empty] W fun x w' => x = .returned (.tuple #[.agg #[.int .i64 0, .int .i64 0, .int .i64 0, .int .i64 0, .int .i64 0], .bool false]) ∧ Below W.heap.size W w' from implDecMeta_any .empty false W (by decide) ⟨fun e => (by cases e), fun e => absurd e mdOk_empty⟩ h)
    clear hr
    go_wp2_with fail
    refine (HM.out _ (HC.out.below B3.out (Nat.le_refl _))).mono ?_
    rintro e w4 ⟨rfl, b4⟩
    have B4 := Lib.hid ((B3.out.trans (b4.mono B3.out.size)).alloc (B3.out.trans (b4.mono B3.out.size)).size (.cells #[.int .i64 0, .int .i64 0, .int .i64 0, .int .i64 0, .int .i64 0] 25))
    have R4 := Lib.hid ((R3.out.below b4 R3.out.lt).alloc (.cells #[.int .i64 0, .int .i64 0, .int .i64 0, .int .i64 0, .int .i64 0] 25))
    obtain ⟨c0, c1, c2, c3, c4⟩ := R4.out.five
    clear b4 B3 R3 HM HA HB HC
    go_wp2_with fail
    refine (HV.out _).mono ?_
    rintro e w5 ⟨rfl, b5⟩
    have B5 := Lib.hid (B4.out.trans (b5.mono B4.out.size))
    clear b5 c0 c1 c2 c3 c4 B4 R4 HV
    go_wp2
    go_ret
    exact ⟨rfl, B5.out⟩
  | true =>
    have hM := hr.1 rfl
    obtain ⟨hok, hmv⟩ := mdOk_seal hM
    have hX16 := sealM_size k l s f c
    obtain ⟨X, hX⟩ : ∃ X, X = sealM (metaL k l s f c) := ⟨_, rfl⟩
    rw [← hX] at hok hmv hX16
    have HM := Lib.hid (fun (W : World) (h : CrcTab W) => show Calls Tryd.prog 13 #[.string X] W fun x w' => x = .returned (.tuple #[.agg #[.int .i64 k, .int .i64 l, .int .i64 s, .int .i64 f, .int .i64 c], .bool true]) ∧ Below W.heap.size W w' by rw [← hmv]; exact implDecMeta_any X true W (by omega) ⟨fun _ => hok, fun _ => rfl⟩ h)
    have HOK := Lib.hid hok
    have H16 := Lib.hid hX16
    have hxi : ((X.size : Int) != 16) = false := by simp; omega
    have HXX := Lib.hid hX
    clear hr hM hok hmv hX16 hX
    go_wp2_with fail
    rw [show sealM (metaL k l s f c) = X from HXX.out.symm]
    refine (HM.out _ (HC.out.below B3.out (Nat.le_refl _))).mono ?_
    rintro e w4 ⟨rfl, b4⟩
    have B4 := Lib.hid ((B3.out.trans (b4.mono B3.out.size)).alloc (B3.out.trans (b4.mono B3.out.size)).size (.cells #[.int .i64 k, .int .i64 l, .int .i64 s, .int .i64 f, .int .i64 c] 25))
    have R4 := Lib.hid ((R3.out.below b4 R3.out.lt).alloc (.cells #[.int .i64 k, .int .i64 l, .int .i64 s, .int .i64 f, .int .i64 c] 25))
    have Q4 := Lib.hid (Rw.new w4 25 #[.int .i64 k, .int .i64 l, .int .i64 s, .int .i64 f, .int .i64 c])
    obtain ⟨c0, c1, c2, c3, c4⟩ := R4.out.five
    clear b4 B3 R3 HM
    go_wp2_with fail
    refine (HV.out _).mono ?_
    rintro e w5 ⟨rfl, b5⟩
    have B5 := Lib.hid (B4.out.trans (b5.mono B4.out.size))
    have R5 := Lib.hid (R4.out.below b5 R4.out.lt)
    have Q5 := Lib.hid (Q4.out.below b5 Q4.out.lt)
    clear b5 c0 c1 c2 c3 c4 B4 R4 Q4 HV
    obtain ⟨c0, c1, c2, c3, c4⟩ := R5.out.five
    obtain ⟨d0, d1, d2, d3, d4⟩ := Q5.out.five
    have nk : (k != k) = false := by simp
    have nl : (l != l) = false := by simp
    have ns : (s != s) = false := by simp
    have nf : (f != f) = false := by simp
    have nc : (c != c) = false := by simp
    go_wp2_with (refine wpList_str_bytes rfl _ rfl _ rfl B5.out B5.out.size ?_; intro cap w6 hat hlt6 hb6)
    clear c0 c1 c2 c3 c4 d0 d1 d2 d3 d4 R5 Q5
    refine (HA.out _ hb6).mono ?_
    rintro e w7 ⟨kk, rfl, hk0, hk1, rfl⟩
    obtain ⟨K, rfl⟩ : ∃ K : Nat, kk = K := ⟨kk.toNat, by omega⟩
    have hK : K < 16 := by omega
    have hX := H16.out
    have hki : (K : Int) < (X.size : Int) := by omega
    obtain ⟨q1, q2⟩ := hat K (by simp; omega)
    rw [bytes_getD X K (by omega)] at q1
    obtain ⟨Y, hY⟩ : ∃ Y, Y = byteAt X K := ⟨_, rfl⟩
    rw [← hY] at q1
    have HY := Lib.hid hY
    have HAT := Lib.hid hat
    have HB6 := Lib.hid hb6
    have HLT := Lib.hid hlt6
    have HGW := Lib.hid B5.out.size
    have HK := Lib.hid hK
    have hc1 : w6.drew.cell? ⟨w5.heap.size, K, none⟩ = some (.int .u8 (Y : Int)) := q1
    have hc2 : w6.drew.frozen? ⟨w5.heap.size, K, none⟩ = false := q2
    clear hY hat hb6 hlt6 q1 q2 hX
    go_wp2_with fail
    go_region_with (first
      | (go_at_call 27
         refine (HB.out _ HB6.out.drew).mono ?_
         rintro e w8 ⟨y, rfl, hy0, hy1, rfl⟩))
    all_goals
      obtain ⟨yn, rfl⟩ : ∃ yn : Nat, y = yn := ⟨y.toNat, by omega⟩
      have hyn : yn ≤ 254 := by omega
      have hv8 : bits .xor .u8 (Y : Int) (IntKind.u8.wrap (IntKind.i64.wrap (1 + (yn : Int)))) = ((byteAt X K ^^^ (1 + yn) : Nat) : Int) := by
        rw [show IntKind.i64.wrap (1 + (yn : Int)) = 1 + (yn : Int) from IntWalk.i64_in _ (by omega), IntKind.wrap_u8', show (1 + (yn : Int)) % 256 = ((1 + yn : Nat) : Int) by omega, HY.out]
        exact u8_xor_nat _ _ (by have := byteAt_le X K; omega) (by omega)
      rw [hv8]
      have hno := flip_no HOK.out HK.out (b := 1 + yn) (by omega) (by omega)
      have hat2 := HAT.out.set_ (k := K) (by simp; have := H16.out; have := HK.out; omega) ((byteAt X K ^^^ (1 + yn) : Nat) : Int)
      have hb8 := bset HB6.out (k := K) (show w.heap.size ≤ w5.heap.size from HGW.out) (.int .u8 ((byteAt X K ^^^ (1 + yn) : Nat) : Int))
      obtain ⟨V, hV⟩ : ∃ V, V = (X.data.toList.map fun b => (b.toNat : Int)).set K ((byteAt X K ^^^ (1 + yn) : Nat) : Int) := ⟨_, rfl⟩
      obtain ⟨W9, hW9⟩ : ∃ W9, W9 = w6.setCell ⟨w5.heap.size, K, none⟩ (.int .u8 ((byteAt X K ^^^ (1 + yn) : Nat) : Int)) := ⟨_, rfl⟩
      have hVl : V.length = X.size := by rw [hV]; simp
      rw [← hV] at hno hat2
      rw [← hW9] at hat2 hb8 ⊢
      have hcv : (Go.convert 49 9 (.slice (some ⟨w5.heap.size, 0, none⟩) X.size cap)).run Tryd.prog W9.drew = .ok (.string (strOfNums V)) W9.drew := by rw [← hVl]; exact (hat2.drew).str
      have hsz : (strOfNums V).size ≤ 1048576 := by rw [strOfNums_size, hVl, H16.out]; omega
      have HM2 := Lib.hid (fun (W : World) (h : CrcTab W) => show Calls Tryd.prog 13 #[.string (strOfNums V)] W fun x w' => x = .returned (.tuple #[.agg #[.int .i64 0, .int .i64 0, .int .i64 0, .int .i64 0, .int .i64 0], .bool false]) ∧ Below W.heap.size W w' from implDecMeta_any (strOfNums V) false W hsz ⟨fun e => (by cases e), fun e => absurd e hno⟩ h)
      have HB8 := Lib.hid hb8.drew
      have HCV := Lib.hid hcv
      clear hv8 hno hat2 hb8 hV hW9 hVl hcv hsz hc1 hc2 hy0 hy1 hyn
      have hcv := HCV.out
      go_wp2_with fail
      refine (HM2.out _ (HC.out.below HB8.out (Nat.le_refl _))).mono ?_
      rintro e w10 ⟨rfl, b10⟩
      have B10 := Lib.hid (HB8.out.trans (b10.mono HB8.out.size))
      clear b10 HB8 hcv
      have B11 := Lib.hid (B10.out.alloc B10.out.size (.cells #[.int .i64 0, .int .i64 0, .int .i64 0, .int .i64 0, .int .i64 0] 25))
      go_wp2
      go_ret
      exact ⟨rfl, B11.out⟩
end Go.Proofs.YtfnccbanmgfkeabDoor
